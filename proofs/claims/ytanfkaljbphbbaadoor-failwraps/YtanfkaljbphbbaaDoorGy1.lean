/- An argument of the type []api.Fail, opened: the failures that it reads as. -/
import Derived.Test.YtanfkaljbphbbaaDoorFy2
import Derived.Test.YtanfkaljbphbbaaDoorGx1
import Derived.SizedLaws
namespace Go.Proofs.YtanfkaljbphbbaaDoor
open Go.ChangeShapes Go.WideShapes Go.ChangeAt Go.RowKit

theorem cellsFl : Tryd.prog.cellsOf 23 = 1 := by kernel_rfl
set_option maxRecDepth 100000 in
theorem open_fl {H : Type} {enc : TypeId × Value → H} {W : World} {held : Bool} {n : Nat} {cs : List Value} {x : DataW H × List MemPlace} (h : DataW.trod enc Tryd.prog W 0 (fun _ => true) held n 23 cs = some x) :
    ∃ (v : Value) (l : List Cr), cs = [v] ∧ CS W v l ∧ (∀ c ∈ l, c.text.size ≤ maxLen) ∧ (l = [] ∨ ∃ es spare, x.1 = .slice es spare ∧ es.length = l.length) := by
  rcases Deep.open_slice Tryd.underlying23 h with ⟨h1, h2⟩ | ⟨a, l0, c0, m, n, D, Pl, hcs, _, hlc, hcm, hm, hx, hel⟩
  · exact ⟨_, [], h1, Or.inl ⟨Or.inl rfl, rfl⟩, by simp, Or.inl rfl⟩
  · have hlm : l0 ≤ m := by rw [hm]; simp; exact hlc
    by_cases h0 : l0 = 0
    · subst h0
      exact ⟨_, [], hcs, Or.inl ⟨Or.inr ⟨a, c0, rfl⟩, rfl⟩, by simp, Or.inl rfl⟩
    rw [cellsCr] at hel
    obtain ⟨T, hT⟩ := @Deep.choose_lt Cr ⟨⟨0, 0, ByteArray.empty⟩⟩ l0 (fun i t => W.cells? 0 (a.add (i * 3)) 3 = some (crC t) ∧ t.text.size ≤ maxLen) (fun i hi => by
      obtain ⟨cs', g1, g2⟩ := hel i (by omega)
      obtain ⟨t, e1, e2⟩ := open_cr g2
      exact ⟨t, by rw [g1, e1], e2⟩)
    have hll : ((List.range l0).map T).length = l0 := by simp
    have hcell : ∀ i, i < l0 → ∀ j, j < 3 → W.cell? ((a.add (i * 3)).add j) = (crC (T i))[j]? := fun i hi => (World.cells?_some (hT i hi).1).2.2
    have ha : a = ⟨a.block, a.off, none⟩ := by
      have := hcell 0 (by omega) 0 (by omega)
      simp [Addr.add, crC] at this
      exact spot_none this
    have hlt : a.block < W.heap.size := by
      have := hcell 0 (by omega) 0 (by omega)
      simp [Addr.add, crC] at this
      exact block_lt_of_cell this
    refine ⟨_, (List.range l0).map T, hcs, ?_, ?_, Or.inr ⟨_, _, by rw [hx], by simp⟩⟩
    · refine Or.inr ⟨a.block, a.off, c0, by rw [hll, ← ha], hlt, by rw [hll]; exact hlc, fun k hk => ?_⟩
      have hk' : k < l0 := by rw [hll] at hk; exact hk
      have ek : ((List.range l0).map T)[k] = T k := by simp
      rw [ek]
      have hadd : ∀ j, (a.add (k * 3)).add j = ⟨a.block, a.off + k * 3 + j, none⟩ := by
        intro j
        rw [Deep.add_add]
        unfold Addr.add
        split
        · rename_i hz
          rw [show a.off + k * 3 + j = a.off by omega]; exact ha
        · simp
      have q0 := hcell k hk' 0 (by omega)
      have q1 := hcell k hk' 1 (by omega)
      have q2 := hcell k hk' 2 (by omega)
      rw [hadd] at q0 q1 q2
      exact ⟨q0, q1, q2⟩
    · intro t ht
      obtain ⟨i, hi, rfl⟩ := List.mem_map.1 ht
      exact (hT i (List.mem_range.1 hi)).2
set_option maxRecDepth 100000 in
theorem open_fails {H : Type} {enc : TypeId × Value → H} {W : World} {r : Reach} {b0 : Nat} {v : Value} {d : DataW H} {ps : List MemPlace} (hval : Value.okWide Tryd.prog W r b0 33 v) (h : DataW.Trod enc Tryd.prog W 0 (fun _ => true) true 33 v d ps) :
    ∃ ll : List (List Cr), FS W v ll ∧ (∀ x ∈ ll, ∀ c ∈ x, c.text.size ≤ maxLen) ∧ (ll = [] ∨ ∃ es spare, d = .slice es spare ∧ es.length = ll.length ∧ ∀ x ∈ ll, x = [] ∨ ∃ e ∈ es, ∃ es' sp', e = .slice es' sp' ∧ es'.length = x.length) := by
  obtain ⟨fuel, h⟩ := h
  obtain ⟨a0, l0, c0, rfl⟩ := okWide_slice Tryd.underlying33 hval
  rcases Deep.open_slice Tryd.underlying33 h with ⟨h1, h2⟩ | ⟨a, len, cap, m, n, D, Pl, hcs, _, hlc, hcm, hm, hx, hel⟩
  · simp [Value.cells] at h1
    obtain ⟨rfl, rfl, rfl⟩ := h1
    exact ⟨[], ⟨none, 0, rfl, Nat.le_refl _, fun k hk => by simp at hk⟩, by simp, Or.inl rfl⟩
  · simp [Value.cells] at hcs
    obtain ⟨rfl, rfl, rfl⟩ := hcs
    obtain ⟨ha, hlt⟩ := ok_place Tryd.underlying33 hval
    have hlm : l0 ≤ m := by rw [hm]; simp; exact hlc
    rw [cellsFl] at hel
    obtain ⟨T, hT⟩ := @Deep.choose_lt (Value × List Cr) ⟨⟨.slice none 0 0, []⟩⟩ l0 (fun i t => W.cells? 0 (a.add (i * 1)) 1 = some [t.1] ∧ CS W t.1 t.2 ∧ (∀ c ∈ t.2, c.text.size ≤ maxLen) ∧ (t.2 = [] ∨ ∃ es spare, D i = .slice es spare ∧ es.length = t.2.length)) (fun i hi => by
      obtain ⟨cs', g1, g2⟩ := hel i (by omega)
      obtain ⟨u, l, e1, e2, e3, e4⟩ := open_fl g2
      exact ⟨⟨u, l⟩, by rw [g1, e1], e2, e3, e4⟩)
    have hll : ((List.range l0).map (fun i => (T i).2)).length = l0 := by simp
    simp only [Prod.mk.injEq] at hx
    refine ⟨(List.range l0).map (fun i => (T i).2), ?_, ?_, Or.inr ⟨_, _, hx.1, by simp, ?_⟩⟩
    · refine ⟨some a, c0, by rw [hll], by rw [hll]; exact hlc, fun k hk => ?_⟩
      have hk' : k < l0 := by rw [hll] at hk; exact hk
      have hcell := (World.cells?_some (hT k hk').1).2.2 0 (by omega)
      have ek : ((List.range l0).map (fun i => (T i).2))[k] = (T k).2 := by simp
      rw [ek]
      have hadd : (a.add (k * 1)).add 0 = ⟨a.block, a.off + k, none⟩ := by
        rw [Deep.add_add]
        unfold Addr.add
        split
        · rename_i hz
          rw [show a.off + k = a.off by omega]; exact ha
        · simp
      rw [hadd] at hcell
      exact ⟨a.block, a.off, (T k).1, by rw [← ha], hlt, by simpa using hcell, (hT k hk').2.1⟩
    · intro x hx'
      obtain ⟨i, hi, rfl⟩ := List.mem_map.1 hx'
      exact (hT i (List.mem_range.1 hi)).2.2.1
    · intro x hx'
      obtain ⟨i, hi, rfl⟩ := List.mem_map.1 hx'
      rcases (hT i (List.mem_range.1 hi)).2.2.2 with e | ⟨es, sp, e1, e2⟩
      · exact Or.inl e
      · exact Or.inr ⟨D i, List.mem_map.2 ⟨i, hi, rfl⟩, es, sp, e1, e2⟩
theorem weightsAll_mem {H : Type} {P : Program} {e : TypeId} : ∀ {es : List (DataW H)} {d : DataW H}, d ∈ es → ∀ n ∈ d.weights P e, n ∈ DataW.weightsAll P e es
  | [], _, h, _, _ => by cases h
  | a :: r, d, h, n, hn => by
    simp only [DataW.weightsAll, List.mem_append]
    rcases List.mem_cons.1 h with e | e
    · subst e; exact Or.inl hn
    · exact Or.inr (weightsAll_mem e n hn)
theorem sized_in {H : Type} {P : Program} {ts : List TypeId} {ds : List (DataW H)} (h : (DataW.weightsEach P ts ds).all (· ≤ reachBytes) = true) {j : Nat} {t q e : TypeId} {elems spare es sp : List (DataW H)} (ht : ts[j]? = some t) (hd : ds[j]? = some (.slice elems spare)) (hu : P.underlying t = some (.slice q)) (hq : P.underlying q = some (.slice e)) (hm : DataW.slice es sp ∈ elems) :
    (es.length + sp.length) * P.bytesOf e ≤ reachBytes := by
  have h1 : (es.length + sp.length) * P.bytesOf e ∈ (DataW.slice elems spare).weights P t := by
    simp only [DataW.weights, hu, List.mem_cons, List.mem_append]
    exact Or.inr (Or.inl (weightsAll_mem hm _ (by simp [DataW.weights, hq])))
  have := List.all_eq_true.1 h _ (DataW.weights_mem_each ht hd _ h1)
  simpa using this
theorem bytesFl : Tryd.prog.bytesOf 23 = 24 := by kernel_rfl
end Go.Proofs.YtanfkaljbphbbaaDoor
