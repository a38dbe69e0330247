/- An argument of the type []api.Provider, opened: the providers that it reads as. -/
import Derived.Test.YthmppnmmlblbhaaDoorOy1
import Derived.Test.YthmppnmmlblbhaaDoorQa2
import Derived.SizedLaws
namespace Go.Proofs.YthmppnmmlblbhaaDoor
open Go.ChangeShapes Go.WideShapes Go.ChangeAt Go.RowKit

set_option maxRecDepth 100000 in
theorem open_prvs {H : Type} {enc : TypeId × Value → H} {W : World} {r : Reach} {b0 : Nat} {v : Value} {d : DataW H} {ps : List MemPlace} (hval : Value.okWide Tryd.prog W r b0 22 v) (h : DataW.Trod enc Tryd.prog W 0 (fun _ => true) true 22 v d ps) :
    ∃ L : List Pvx, GS KP W v L ∧ (∀ x ∈ L, OS W x.v x.p.ops ∧ (∀ c ∈ x.p.ops, c.text.size ≤ maxLen) ∧ x.p.name.size ≤ maxLen) ∧ (L = [] ∨ ∃ es spare, d = .slice es spare ∧ es.length = L.length ∧ ∀ x ∈ L, x.p.ops = [] ∨ ∃ e ∈ es, ∃ d0 es' sp' r', e = .agg (d0 :: .slice es' sp' :: r') ∧ es'.length = x.p.ops.length) := by
  obtain ⟨fuel, h⟩ := h
  obtain ⟨a0, l0, c0, rfl⟩ := okWide_slice Tryd.underlying22 hval
  rcases Deep.open_slice Tryd.underlying22 h with ⟨h1, h2⟩ | ⟨a, len, cap, m, n, D, Pl, hcs, _, hlc, hcm, hm, hx, hel⟩
  · simp [Value.cells] at h1
    obtain ⟨rfl, rfl, rfl⟩ := h1
    exact ⟨[], Or.inl ⟨Or.inl rfl, rfl⟩, by simp, Or.inl rfl⟩
  · simp [Value.cells] at hcs
    obtain ⟨rfl, rfl, rfl⟩ := hcs
    have hlm : l0 ≤ m := by rw [hm]; simp; exact hlc
    by_cases h0 : l0 = 0
    · subst h0
      exact ⟨[], Or.inl ⟨Or.inr ⟨a, c0, rfl⟩, rfl⟩, by simp, Or.inl rfl⟩
    rw [cellsPrv] at hel
    obtain ⟨T, hT⟩ := @Deep.choose_lt Pvx ⟨⟨⟨ByteArray.empty, [], false, ⟨0, 0, 0, 0⟩, 0, ByteArray.empty⟩, none, 0⟩⟩ l0 (fun i t => W.cells? 0 (a.add (i * 9)) 9 = some (pvxC t) ∧ (OS W t.v t.p.ops ∧ (∀ c ∈ t.p.ops, c.text.size ≤ maxLen) ∧ t.p.name.size ≤ maxLen) ∧ (t.p.ops = [] ∨ ∃ d0 es spare r, D i = .agg (d0 :: .slice es spare :: r) ∧ es.length = t.p.ops.length)) (fun i hi => by
      obtain ⟨cs', g1, g2⟩ := hel i (by omega)
      obtain ⟨p, u, e1, e2, e3, e4, e5, e6⟩ := open_prv g2
      obtain ⟨q, c, e7⟩ := e2.form
      subst e7
      exact ⟨⟨p, q, c⟩, by rw [g1, e1]; rfl, ⟨e2, e3, e4⟩, e6⟩)
    have hll : ((List.range l0).map T).length = l0 := by simp
    have hcell : ∀ i, i < l0 → ∀ j, j < 9 → W.cell? ((a.add (i * 9)).add j) = (pvxC (T i))[j]? := fun i hi => (World.cells?_some (hT i hi).1).2.2
    have hq : W.cell? a = some (.string (T 0).p.name) := by
      have := hcell 0 (by omega) 0 (by omega)
      simpa [Addr.add, pvxC] using this
    have ha : a = ⟨a.block, a.off, none⟩ := spot_none hq
    have hlt : a.block < W.heap.size := block_lt_of_cell hq
    simp only [Prod.mk.injEq] at hx
    refine ⟨(List.range l0).map T, ?_, ?_, Or.inr ⟨_, _, hx.1, by simp, ?_⟩⟩
    · refine Or.inr ⟨a.block, a.off, c0, by rw [hll, ← ha], hlt, by rw [hll]; exact hlc, fun k hk j u hu => ?_⟩
      have hk' : k < l0 := by rw [hll] at hk; exact hk
      have ek : ((List.range l0).map T)[k] = T k := by simp
      rw [ek] at hu
      have hj : j < 9 := by
        by_cases hlt : j < 9
        · exact hlt
        · have : (KP.f (T k))[j]? = none := List.getElem?_eq_none (by simp [KP, pvxC]; omega)
          rw [this] at hu; cases hu
      have hadd : (a.add (k * 9)).add j = ⟨a.block, a.off + k * 9 + j, none⟩ := by
        rw [Deep.add_add]
        unfold Addr.add
        split
        · rename_i hz
          rw [show a.off + k * 9 + j = a.off by omega]; exact ha
        · simp
      have q0 := hcell k hk' j hj
      rw [hadd] at q0
      exact q0.trans hu
    · intro t ht
      obtain ⟨i, hi, rfl⟩ := List.mem_map.1 ht
      exact (hT i (List.mem_range.1 hi)).2.1
    · intro x hx'
      obtain ⟨i, hi, rfl⟩ := List.mem_map.1 hx'
      rcases (hT i (List.mem_range.1 hi)).2.2 with e | ⟨d0, es, sp, r, e1, e2⟩
      · exact Or.inl e
      · exact Or.inr ⟨D i, List.mem_map.2 ⟨i, hi, rfl⟩, d0, es, sp, r, e1, e2⟩
theorem weightsAll_in {H : Type} {P : Program} {e : TypeId} : ∀ {es : List (DataW H)} {d : DataW H}, d ∈ es → ∀ n ∈ d.weights P e, n ∈ DataW.weightsAll P e es
  | [], _, h, _, _ => by cases h
  | a :: r, d, h, n, hn => by
    simp only [DataW.weightsAll, List.mem_append]
    rcases List.mem_cons.1 h with e | e
    · subst e; exact Or.inl hn
    · exact Or.inr (weightsAll_in e n hn)
/-- The bytes of a slice in the second field of a slice's member. -/
theorem sized_inF {H : Type} {P : Program} {ts : List TypeId} {ds : List (DataW H)} (h : (DataW.weightsEach P ts ds).all (· ≤ reachBytes) = true) {j : Nat} {t q t1 e : TypeId} {fs : Array Field} {elems spare : List (DataW H)} {d0 : DataW H} {es sp r : List (DataW H)} (ht : ts[j]? = some t) (hd : ds[j]? = some (.slice elems spare)) (hu : P.underlying t = some (.slice q)) (hs : P.underlying q = some (.struct fs)) (h1 : (fs.toList.map (·.type))[1]? = some t1) (hq : P.underlying t1 = some (.slice e)) (hm : DataW.agg (d0 :: .slice es sp :: r) ∈ elems) :
    (es.length + sp.length) * P.bytesOf e ≤ reachBytes := by
  have hw : (es.length + sp.length) * P.bytesOf e ∈ (DataW.slice es sp).weights P t1 := by simp [DataW.weights, hq]
  have h2 : (es.length + sp.length) * P.bytesOf e ∈ (DataW.agg (d0 :: .slice es sp :: r)).weights P q := by
    simp only [DataW.weights, hs]
    exact DataW.weights_mem_each (j := 1) h1 rfl _ hw
  have h3 : (es.length + sp.length) * P.bytesOf e ∈ (DataW.slice elems spare).weights P t := by
    simp only [DataW.weights, hu, List.mem_cons, List.mem_append]
    exact Or.inr (Or.inl (weightsAll_in hm _ h2))
  have := List.all_eq_true.1 h _ (DataW.weights_mem_each ht hd _ h3)
  simpa using this
theorem bytesPrv : Tryd.prog.bytesOf 60 = 104 := by kernel_rfl
end Go.Proofs.YthmppnmmlblbhaaDoor
