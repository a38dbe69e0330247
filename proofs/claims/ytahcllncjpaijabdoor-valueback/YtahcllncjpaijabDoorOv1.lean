/- Arguments of the types api.Value and []api.Value, opened: the atoms that they read as. -/
import Derived.Test.YtahcllncjpaijabDoorVc1
import Derived.Test.YtahcllncjpaijabDoorRows
import Derived.Deep.Slices
import Derived.ProofKit
import Derived.OpenShut
import Derived.Carry
import Derived.SizedLaws
namespace Go.Proofs.YtahcllncjpaijabDoor
open Go.ChangeShapes Go.WideShapes Go.ChangeAt Go.RowKit

theorem cellsAt : Tryd.prog.cellsOf 43 = 4 := by kernel_rfl
theorem cellsI : Tryd.prog.cellsOf 3 = 1 := by kernel_rfl
theorem cellsS : Tryd.prog.cellsOf 9 = 1 := by kernel_rfl
theorem cellsVl : Tryd.prog.cellsOf 23 = 1 := by kernel_rfl
theorem bytesAt : Tryd.prog.bytesOf 43 = 40 := by kernel_rfl
theorem bytesVl : Tryd.prog.bytesOf 23 = 24 := by kernel_rfl
set_option maxRecDepth 100000 in
theorem open_at {H : Type} {enc : TypeId × Value → H} {W : World} {base : Nat} {sp : Nat → Bool} {held : Bool} {n : Nat} {cs : List Value} {x : DataW H × List MemPlace} (h : DataW.trod enc Tryd.prog W base sp held n 43 cs = some x) :
    ∃ c : Atm, cs = atC c ∧ c.text.size ≤ maxLen := by
  obtain ⟨xs, k, _, hx, hcl, hxl, hf⟩ := DataW.trod_struct Tryd.underlying43 h
  rw [cellsAt] at hcl
  match xs, hxl, cs, hcl with
  | [y0, y1, y2, y3], _, [c0, c1, c2, c3], _ =>
    have g0 := hf 0 _ rfl
    have g1 := hf 1 _ rfl
    have g2 := hf 2 _ rfl
    have g3 := hf 3 _ rfl
    simp [cellsI, cellsS] at g0 g1 g2 g3
    obtain ⟨m0, e0, f0, _⟩ := DataW.trod_int Tryd.underlying3 g0
    obtain ⟨m1, e1, f1, _⟩ := DataW.trod_int Tryd.underlying3 g1
    obtain ⟨m2, e2, f2, _⟩ := DataW.trod_int Tryd.underlying3 g2
    obtain ⟨s, e3, f3, hs⟩ := DataW.trod_string Tryd.underlying9 g3
    simp only [List.cons.injEq, and_true] at e0 e1 e2 e3
    subst e0 e1 e2 e3
    exact ⟨⟨m0, m1, m2, s⟩, rfl, hs⟩
set_option maxRecDepth 100000 in
theorem spot_none {W : World} {a : Addr} {u : Value} (h : W.cell? a = some u) : a = ⟨a.block, a.off, none⟩ := by
  obtain ⟨b, o, s⟩ := a
  cases s with
  | none => rfl
  | some k =>
    exfalso
    unfold World.cell? at h
    split at h
    · simp at h
    · cases h
set_option maxRecDepth 100000 in
theorem open_vl {H : Type} {enc : TypeId × Value → H} {W : World} {held : Bool} {n : Nat} {cs : List Value} {x : DataW H × List MemPlace} (h : DataW.trod enc Tryd.prog W 0 (fun _ => true) held n 23 cs = some x) :
    ∃ (q : Option Addr) (c : Nat) (l : List Atm), cs = [.slice q l.length c] ∧ AS W (.slice q l.length c) l ∧ AT l ∧ (l = [] ∨ ∃ es spare, x.1 = .slice es spare ∧ es.length = l.length) := by
  rcases Deep.open_slice Tryd.underlying23 h with ⟨h1, h2⟩ | ⟨a, l0, c0, m, n, D, Pl, hcs, _, hlc, hcm, hm, hx, hel⟩
  · exact ⟨none, 0, [], h1, Or.inl ⟨Or.inl rfl, rfl⟩, (fun c hc => by cases hc), Or.inl rfl⟩
  · have hlm : l0 ≤ m := by rw [hm]; simp; exact hlc
    by_cases h0 : l0 = 0
    · subst h0
      exact ⟨some a, c0, [], hcs, Or.inl ⟨Or.inr ⟨a, c0, rfl⟩, rfl⟩, (fun c hc => by cases hc), Or.inl rfl⟩
    rw [cellsAt] at hel
    obtain ⟨T, hT⟩ := @Deep.choose_lt Atm ⟨⟨0, 0, 0, ByteArray.empty⟩⟩ l0 (fun i t => W.cells? 0 (a.add (i * 4)) 4 = some (atC t) ∧ t.text.size ≤ maxLen) (fun i hi => by
      obtain ⟨cs', g1, g2⟩ := hel i (by omega)
      obtain ⟨t, e1, e2⟩ := open_at g2
      exact ⟨t, by rw [g1, e1], e2⟩)
    have hll : ((List.range l0).map T).length = l0 := by simp
    have hcell : ∀ i, i < l0 → ∀ j, j < 4 → W.cell? ((a.add (i * 4)).add j) = (atC (T i))[j]? := fun i hi => (World.cells?_some (hT i hi).1).2.2
    have hq : W.cell? a = some (.int .i64 (T 0).kind) := by
      have := hcell 0 (by omega) 0 (by omega)
      simpa [Addr.add, atC] using this
    have ha : a = ⟨a.block, a.off, none⟩ := spot_none hq
    have hlt : a.block < W.heap.size := block_lt_of_cell hq
    refine ⟨some a, c0, (List.range l0).map T, by rw [hll]; exact hcs, ?_, ?_, Or.inr ⟨_, _, by rw [hx], by simp⟩⟩
    · refine Or.inr ⟨a.block, a.off, c0, by rw [← ha], hlt, by rw [hll]; exact hlc, fun k hk j u hu => ?_⟩
      have hk' : k < l0 := by rw [hll] at hk; exact hk
      have ek : ((List.range l0).map T)[k] = T k := by simp
      rw [ek] at hu
      have hj : j < 4 := by
        by_cases hlt : j < 4
        · exact hlt
        · have : (KA.f (T k))[j]? = none := List.getElem?_eq_none (by simp [KA, atC]; omega)
          rw [this] at hu; cases hu
      have hadd : (a.add (k * 4)).add j = ⟨a.block, a.off + k * 4 + j, none⟩ := by
        rw [Deep.add_add]
        unfold Addr.add
        split
        · rename_i hz
          rw [show a.off + k * 4 + j = a.off by omega]; exact ha
        · simp
      have q0 := hcell k hk' j hj
      rw [hadd] at q0
      exact q0.trans hu
    · intro t ht
      obtain ⟨i, hi, rfl⟩ := List.mem_map.1 ht
      exact (hT i (List.mem_range.1 hi)).2
set_option maxRecDepth 100000 in
/-- An argument api.Value. -/
theorem open_val {H : Type} {enc : TypeId × Value → H} {W : World} {r : Reach} {b0 : Nat} {v : Value} {d : DataW H} {ps : List MemPlace} (hval : Value.okWide Tryd.prog W r b0 23 v) (h : DataW.Trod enc Tryd.prog W 0 (fun _ => true) true 23 v d ps) :
    ∃ l : List Atm, AS W v l ∧ AT l ∧ (l = [] ∨ ∃ es spare, d = .slice es spare ∧ es.length = l.length) := by
  obtain ⟨fuel, h⟩ := h
  obtain ⟨a0, l0, c0, rfl⟩ := okWide_slice Tryd.underlying23 hval
  obtain ⟨q, c, l, e1, e2, e3, e4⟩ := open_vl h
  simp [Value.cells] at e1
  obtain ⟨rfl, rfl, rfl⟩ := e1
  exact ⟨l, e2, e3, e4⟩
set_option maxRecDepth 100000 in
/-- An argument []api.Value. -/
theorem open_vals {H : Type} {enc : TypeId × Value → H} {W : World} {r : Reach} {b0 : Nat} {v : Value} {d : DataW H} {ps : List MemPlace} (hval : Value.okWide Tryd.prog W r b0 24 v) (h : DataW.Trod enc Tryd.prog W 0 (fun _ => true) true 24 v d ps) :
    ∃ L : List Vx, VR W v L ∧ (∀ x ∈ L, AT x.a) ∧ (L = [] ∨ ∃ es spare, d = .slice es spare ∧ es.length = L.length ∧ ∀ x ∈ L, x.a = [] ∨ ∃ e ∈ es, ∃ es' sp', e = .slice es' sp' ∧ es'.length = x.a.length) := by
  obtain ⟨fuel, h⟩ := h
  obtain ⟨a0, l0, c0, rfl⟩ := okWide_slice Tryd.underlying24 hval
  rcases Deep.open_slice Tryd.underlying24 h with ⟨h1, h2⟩ | ⟨a, len, cap, m, n, D, Pl, hcs, _, hlc, hcm, hm, hx, hel⟩
  · simp [Value.cells] at h1
    obtain ⟨rfl, rfl, rfl⟩ := h1
    exact ⟨[], ⟨Or.inl ⟨Or.inl rfl, rfl⟩, by simp⟩, by simp, Or.inl rfl⟩
  · simp [Value.cells] at hcs
    obtain ⟨rfl, rfl, rfl⟩ := hcs
    have hlm : l0 ≤ m := by rw [hm]; simp; exact hlc
    by_cases h0 : l0 = 0
    · subst h0
      exact ⟨[], ⟨Or.inl ⟨Or.inr ⟨a, c0, rfl⟩, rfl⟩, by simp⟩, by simp, Or.inl rfl⟩
    rw [cellsVl] at hel
    obtain ⟨T, hT⟩ := @Deep.choose_lt Vx ⟨⟨[], none, 0⟩⟩ l0 (fun i t => W.cells? 0 (a.add (i * 1)) 1 = some [.slice t.q t.a.length t.c] ∧ (AS W t.v t.a ∧ AT t.a) ∧ (t.a = [] ∨ ∃ es spare, D i = .slice es spare ∧ es.length = t.a.length)) (fun i hi => by
      obtain ⟨cs', g1, g2⟩ := hel i (by omega)
      obtain ⟨q, c, l, e1, e2, e3, e4⟩ := open_vl g2
      exact ⟨⟨l, q, c⟩, by rw [g1, e1], ⟨e2, e3⟩, e4⟩)
    have hll : ((List.range l0).map T).length = l0 := by simp
    have hcell : ∀ i, i < l0 → W.cell? ((a.add (i * 1)).add 0) = some (.slice (T i).q (T i).a.length (T i).c) := fun i hi => (World.cells?_some (hT i hi).1).2.2 0 (by omega)
    have hq : W.cell? a = some (.slice (T 0).q (T 0).a.length (T 0).c) := by
      have := hcell 0 (by omega)
      simpa [Addr.add] using this
    have ha : a = ⟨a.block, a.off, none⟩ := spot_none hq
    have hlt : a.block < W.heap.size := block_lt_of_cell hq
    simp only [Prod.mk.injEq] at hx
    refine ⟨(List.range l0).map T, ⟨?_, ?_⟩, ?_, Or.inr ⟨_, _, hx.1, by simp, ?_⟩⟩
    · refine Or.inr ⟨a.block, a.off, c0, by rw [hll, ← ha], hlt, by rw [hll]; exact hlc, fun k hk j u hu => ?_⟩
      have hk' : k < l0 := by rw [hll] at hk; exact hk
      have ek : ((List.range l0).map T)[k] = T k := by simp
      rw [ek] at hu
      have hj : j = 0 := by
        by_cases hlt : j < 1
        · omega
        · have : (KV.f (T k))[j]? = none := List.getElem?_eq_none (by simp [KV]; omega)
          rw [this] at hu; cases hu
      subst hj
      have hadd : (a.add (k * 1)).add 0 = ⟨a.block, a.off + k * 1 + 0, none⟩ := by
        rw [Deep.add_add]
        unfold Addr.add
        split
        · rename_i hz
          rw [show a.off + k * 1 + 0 = a.off by omega]; exact ha
        · simp
      have q0 := hcell k hk'
      rw [hadd] at q0
      exact q0.trans hu
    · intro t ht
      obtain ⟨i, hi, rfl⟩ := List.mem_map.1 ht
      exact (hT i (List.mem_range.1 hi)).2.1.1
    · intro t ht
      obtain ⟨i, hi, rfl⟩ := List.mem_map.1 ht
      exact (hT i (List.mem_range.1 hi)).2.1.2
    · intro x hx'
      obtain ⟨i, hi, rfl⟩ := List.mem_map.1 hx'
      rcases (hT i (List.mem_range.1 hi)).2.2 with e | ⟨es, sp, e1, e2⟩
      · exact Or.inl e
      · exact Or.inr ⟨D i, List.mem_map.2 ⟨i, hi, rfl⟩, es, sp, e1, e2⟩
theorem weightsAll_mem {H : Type} {P : Program} {e : TypeId} : ∀ {es : List (DataW H)} {d : DataW H}, d ∈ es → ∀ n ∈ d.weights P e, n ∈ DataW.weightsAll P e es
  | [], _, h, _, _ => by cases h
  | a :: r, d, h, n, hn => by
    simp only [DataW.weightsAll, List.mem_append]
    rcases List.mem_cons.1 h with e | e
    · subst e; exact Or.inl hn
    · exact Or.inr (weightsAll_mem e n hn)
theorem sized_in {H : Type} {P : Program} {ts : List TypeId} {ds : List (DataW H)} (h : (DataW.weightsEach P ts ds).all (· ≤ reachBytes) = true) {j : Nat} {t q e : TypeId} {elems spare es sp : List (DataW H)} (ht : ts[j]? = some t) (hd : ds[j]? = some (.slice elems spare)) (hu : P.underlying t = some (.slice q)) (hq : P.underlying q = some (.slice e)) (hm : DataW.slice es sp ∈ elems) :
    (es.length + sp.length) * P.bytesOf e ≤ reachBytes := by
  have h1 : (es.length + sp.length) * P.bytesOf e ∈ (DataW.slice elems spare).weights P t := by
    simp only [DataW.weights, hu, List.mem_cons, List.mem_append]
    exact Or.inr (Or.inl (weightsAll_mem hm _ (by simp [DataW.weights, hq])))
  have := List.all_eq_true.1 h _ (DataW.weights_mem_each ht hd _ h1)
  simpa using this
end Go.Proofs.YtahcllncjpaijabDoor
