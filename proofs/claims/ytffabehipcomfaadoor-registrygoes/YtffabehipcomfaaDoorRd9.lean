/- Registry: the law RegistryPlays; an argument of the type []Act opened. -/
import Derived.Test.YtffabehipcomfaaDoorRd8
import Derived.Test.YtffabehipcomfaaDoorOy2
import Derived.SizedLaws
namespace Go.Proofs.YtffabehipcomfaaDoor
open Go.ChangeShapes Go.WideShapes Go.ChangeAt Go.RowKit

set_option maxHeartbeats 4000000 in
theorem plays_any (v : Value) (l : List Ac) (s : ByteArray) (num : Int) (w : World) (h : AR w v l) (hv : NV w) (hs : s.size ≤ maxLen) (hl : l.length ≤ 10000000000000) :
    Calls Tryd.prog 3 #[v, .string s, .int .i64 num] w fun e w' => e = .returned (.bool true) ∧ Below w.heap.size w w' := by
  have PL := hidr (play_any v l s num w h hv hs hl)
  obtain ⟨p, c, rfl⟩ := h.gs.form
  clear h hv
  go_enter Tryd.func3, Tryd.ntmps3
  go_wp2_with fail
  refine PL.out.mono ?_
  rintro e w1 ⟨R, m, fz, vy, M, B, rfl, hb, hx, b1⟩
  have BW := hidr (fun ob => blr b1 (balr w1 ob))
  obtain ⟨py, cy, rfl, _⟩ := hx.ho.form
  clear hx hb b1
  go_wp2_with fail
  go_ret
  exact ⟨rfl, BW.out _⟩
theorem cellsInt17 : Tryd.prog.cellsOf 3 = 1 := by kernel_rfl
theorem cellsAct17 : Tryd.prog.cellsOf 59 = 10 := by kernel_rfl
set_option maxRecDepth 100000 in
theorem open_act17 {H : Type} {enc : TypeId × Value → H} {W : World} {held : Bool} {n : Nat} {cs : List Value} {x : DataW H × List MemPlace} (h : DataW.trod enc Tryd.prog W 0 (fun _ => true) held n 59 cs = some x) :
    ∃ (k : Int) (p : Pvx), cs = acL ⟨k, p⟩ ∧ (OS W p.v p.p.ops ∧ (∀ c ∈ p.p.ops, c.text.size ≤ maxLen) ∧ p.p.name.size ≤ maxLen) ∧ (p.p.ops = [] ∨ ∃ dk d0 es spare r r2, x.1 = .agg (dk :: .agg (d0 :: .slice es spare :: r) :: r2) ∧ es.length = p.p.ops.length) := by
  obtain ⟨xs, k, _, hx, hcl, hxl, hf⟩ := DataW.trod_struct Tryd.underlying59 h
  rw [cellsAct17] at hcl
  match xs, hxl, cs, hcl with
  | [y0, y1], _, [c0, c1, c2, c3, c4, c5, c6, c7, c8, c9], _ =>
    have g0 := hf 0 _ rfl
    have g1 := hf 1 _ rfl
    simp [cellsInt17, cellsPrv] at g0 g1
    obtain ⟨m0, i0, _⟩ := DataW.trod_int Tryd.underlying3 g0
    obtain ⟨p, u, e1, e2, e3, e4, e5, e6⟩ := open_prv g1
    obtain ⟨q, c, e7⟩ := e2.form
    subst e7
    simp only [List.cons.injEq, and_true] at i0
    subst i0
    refine ⟨m0, ⟨p, q, c⟩, by rw [e1]; rfl, ⟨e2, e3, e4⟩, ?_⟩
    rcases e6 with e | ⟨d0, es, spare, r, e, e8⟩
    · exact Or.inl e
    · refine Or.inr ⟨y0.1, d0, es, spare, r, [], ?_, e8⟩
      rw [hx]
      simp [e]
set_option maxRecDepth 100000 in
theorem open_acts17 {H : Type} {enc : TypeId × Value → H} {W : World} {r : Reach} {b0 : Nat} {v : Value} {d : DataW H} {ps : List MemPlace} (hval : Value.okWide Tryd.prog W r b0 22 v) (h : DataW.Trod enc Tryd.prog W 0 (fun _ => true) true 22 v d ps) :
    ∃ L : List Ac, GS KA W v L ∧ (∀ x ∈ L, OS W x.x.v x.x.p.ops ∧ (∀ c ∈ x.x.p.ops, c.text.size ≤ maxLen) ∧ x.x.p.name.size ≤ maxLen) ∧ (L = [] ∨ ∃ es spare, d = .slice es spare ∧ es.length = L.length ∧ ∀ x ∈ L, x.x.p.ops = [] ∨ ∃ e ∈ es, ∃ dk d0 es' sp' r' r2, e = .agg (dk :: .agg (d0 :: .slice es' sp' :: r') :: r2) ∧ es'.length = x.x.p.ops.length) := by
  obtain ⟨fuel, h⟩ := h
  obtain ⟨a0, l0, c0, rfl⟩ := okWide_slice Tryd.underlying22 hval
  rcases Deep.open_slice Tryd.underlying22 h with ⟨h1, h2⟩ | ⟨a, len, cap, m, n, D, Pl, hcs, _, hlc, hcm, hm, hx, hel⟩
  · simp [Value.cells] at h1
    obtain ⟨rfl, rfl, rfl⟩ := h1
    exact ⟨[], Or.inl ⟨Or.inl rfl, rfl⟩, by simp, Or.inl rfl⟩
  · simp [Value.cells] at hcs
    obtain ⟨rfl, rfl, rfl⟩ := hcs
    have hlm : l0 ≤ m := by rw [hm]; simp; exact hlc
    by_cases h0 : l0 = 0
    · subst h0
      exact ⟨[], Or.inl ⟨Or.inr ⟨a, c0, rfl⟩, rfl⟩, by simp, Or.inl rfl⟩
    rw [cellsAct17] at hel
    obtain ⟨T, hT⟩ := @Deep.choose_lt Ac ⟨⟨0, ⟨⟨ByteArray.empty, [], false, ⟨0, 0, 0, 0⟩, 0, ByteArray.empty⟩, none, 0⟩⟩⟩ l0 (fun i t => W.cells? 0 (a.add (i * 10)) 10 = some (acL t) ∧ (OS W t.x.v t.x.p.ops ∧ (∀ c ∈ t.x.p.ops, c.text.size ≤ maxLen) ∧ t.x.p.name.size ≤ maxLen) ∧ (t.x.p.ops = [] ∨ ∃ dk d0 es spare r r2, D i = .agg (dk :: .agg (d0 :: .slice es spare :: r) :: r2) ∧ es.length = t.x.p.ops.length)) (fun i hi => by
      obtain ⟨cs', g1, g2⟩ := hel i (by omega)
      obtain ⟨kk, x, e1, e2, e3⟩ := open_act17 g2
      exact ⟨⟨kk, x⟩, by rw [g1, e1], e2, e3⟩)
    have hll : ((List.range l0).map T).length = l0 := by simp
    have hcell : ∀ i, i < l0 → ∀ j, j < 10 → W.cell? ((a.add (i * 10)).add j) = (acL (T i))[j]? := fun i hi => (World.cells?_some (hT i hi).1).2.2
    have hq : W.cell? a = some (.int .i64 (T 0).k) := by
      have := hcell 0 (by omega) 0 (by omega)
      simpa [Addr.add, acL] using this
    have ha : a = ⟨a.block, a.off, none⟩ := spot_none hq
    have hlt : a.block < W.heap.size := block_lt_of_cell hq
    simp only [Prod.mk.injEq] at hx
    refine ⟨(List.range l0).map T, ?_, ?_, Or.inr ⟨_, _, hx.1, by simp, ?_⟩⟩
    · refine Or.inr ⟨a.block, a.off, c0, by rw [hll, ← ha], hlt, by rw [hll]; exact hlc, fun k hk j u hu => ?_⟩
      have hk' : k < l0 := by rw [hll] at hk; exact hk
      have ek : ((List.range l0).map T)[k] = T k := by simp
      rw [ek] at hu
      have hj : j < 10 := by
        by_cases hlt : j < 10
        · exact hlt
        · have : (KA.f (T k))[j]? = none := List.getElem?_eq_none (by simp [KA, acL, pvxC]; omega)
          rw [this] at hu; cases hu
      have hadd : (a.add (k * 10)).add j = ⟨a.block, a.off + k * 10 + j, none⟩ := by
        rw [Deep.add_add]
        unfold Addr.add
        split
        · rename_i hz
          rw [show a.off + k * 10 + j = a.off by omega]; exact ha
        · simp
      have q0 := hcell k hk' j hj
      rw [hadd] at q0
      exact q0.trans hu
    · intro t ht
      obtain ⟨i, hi, rfl⟩ := List.mem_map.1 ht
      exact (hT i (List.mem_range.1 hi)).2.1
    · intro x hx'
      obtain ⟨i, hi, rfl⟩ := List.mem_map.1 hx'
      rcases (hT i (List.mem_range.1 hi)).2.2 with e | ⟨dk, d0, es, sp, r, r2, e1, e2⟩
      · exact Or.inl e
      · exact Or.inr ⟨D i, List.mem_map.2 ⟨i, hi, rfl⟩, dk, d0, es, sp, r, r2, e1, e2⟩
/-- The bytes of a slice in the second field of the second field of a slice's member. -/
theorem sized_inFF {H : Type} {P : Program} {ts : List TypeId} {ds : List (DataW H)} (h : (DataW.weightsEach P ts ds).all (· ≤ reachBytes) = true) {j : Nat} {t q t1 t2 e : TypeId} {fs fs1 : Array Field} {elems spare : List (DataW H)} {dk d0 : DataW H} {es sp r r2 : List (DataW H)} (ht : ts[j]? = some t) (hd : ds[j]? = some (.slice elems spare)) (hu : P.underlying t = some (.slice q)) (hs : P.underlying q = some (.struct fs)) (h1 : (fs.toList.map (·.type))[1]? = some t1) (hs1 : P.underlying t1 = some (.struct fs1)) (h2 : (fs1.toList.map (·.type))[1]? = some t2) (hq : P.underlying t2 = some (.slice e)) (hm : DataW.agg (dk :: .agg (d0 :: .slice es sp :: r) :: r2) ∈ elems) :
    (es.length + sp.length) * P.bytesOf e ≤ reachBytes := by
  have hw : (es.length + sp.length) * P.bytesOf e ∈ (DataW.slice es sp).weights P t2 := by simp [DataW.weights, hq]
  have h5 : (es.length + sp.length) * P.bytesOf e ∈ (DataW.agg (d0 :: .slice es sp :: r)).weights P t1 := by
    simp only [DataW.weights, hs1]
    exact DataW.weights_mem_each (j := 1) h2 rfl _ hw
  have h6 : (es.length + sp.length) * P.bytesOf e ∈ (DataW.agg (dk :: .agg (d0 :: .slice es sp :: r) :: r2)).weights P q := by
    simp only [DataW.weights, hs]
    exact DataW.weights_mem_each (j := 1) h1 rfl _ h5
  have h3 : (es.length + sp.length) * P.bytesOf e ∈ (DataW.slice elems spare).weights P t := by
    simp only [DataW.weights, hu, List.mem_cons, List.mem_append]
    exact Or.inr (Or.inl (weightsAll_in hm _ h6))
  have := List.all_eq_true.1 h _ (DataW.weights_mem_each ht hd _ h3)
  simpa using this
theorem bytesAct17 : Tryd.prog.bytesOf 59 = 112 := by kernel_rfl
end Go.Proofs.YtffabehipcomfaaDoor
