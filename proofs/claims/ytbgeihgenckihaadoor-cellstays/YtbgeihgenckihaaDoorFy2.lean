/- An argument of the type api.Fail, opened: the cracks that it reads as. -/
import Derived.Test.YtbgeihgenckihaaDoorFx6
import Derived.Test.YtbgeihgenckihaaDoorRows
import Derived.Deep.Slices
import Derived.ProofKit
import Derived.OpenShut
import Derived.Carry
namespace Go.Proofs.YtbgeihgenckihaaDoor
open Go.ChangeShapes Go.WideShapes Go.ChangeAt Go.RowKit

theorem cellsCr : Tryd.prog.cellsOf 79 = 3 := by kernel_rfl
theorem cellsI : Tryd.prog.cellsOf 3 = 1 := by kernel_rfl
theorem cellsS : Tryd.prog.cellsOf 9 = 1 := by kernel_rfl
set_option maxRecDepth 100000 in
theorem open_cr {H : Type} {enc : TypeId × Value → H} {W : World} {base : Nat} {sp : Nat → Bool} {held : Bool} {n : Nat} {cs : List Value} {x : DataW H × List MemPlace} (h : DataW.trod enc Tryd.prog W base sp held n 79 cs = some x) :
    ∃ c : Cr, cs = crC c ∧ c.text.size ≤ maxLen := by
  obtain ⟨xs, k, _, hx, hcl, hxl, hf⟩ := DataW.trod_struct Tryd.underlying79 h
  rw [cellsCr] at hcl
  match xs, hxl, cs, hcl with
  | [y0, y1, y2], _, [c0, c1, c2], _ =>
    have g0 := hf 0 _ rfl
    have g1 := hf 1 _ rfl
    have g2 := hf 2 _ rfl
    simp [cellsI, cellsS] at g0 g1 g2
    obtain ⟨m0, e0, f0, _⟩ := DataW.trod_int Tryd.underlying3 g0
    obtain ⟨m1, e1, f1, _⟩ := DataW.trod_int Tryd.underlying3 g1
    obtain ⟨s, e2, f2, hs⟩ := DataW.trod_string Tryd.underlying9 g2
    simp only [List.cons.injEq, and_true] at e0 e1 e2
    subst e0 e1 e2
    exact ⟨⟨m0, m1, s⟩, rfl, hs⟩
set_option maxRecDepth 100000 in
theorem spot_none {W : World} {a : Addr} {u : Value} (h : W.cell? a = some u) : a = ⟨a.block, a.off, none⟩ := by
  obtain ⟨b, o, s⟩ := a
  cases s with
  | none => rfl
  | some k =>
    exfalso
    unfold World.cell? at h
    split at h
    · simp at h
    · cases h
set_option maxRecDepth 100000 in
theorem ok_place {W : World} {r : Reach} {b0 : Nat} {t e : TypeId} {a : Addr} {l c : Nat} (ht : Tryd.prog.underlying t = some (.slice e)) (h : Value.okWide Tryd.prog W r b0 t (.slice (some a) l c)) : a = ⟨a.block, a.off, none⟩ ∧ a.block < W.heap.size := by
  simp only [Value.okWide, ht, Cell.okWide, Cell.ok] at h
  obtain ⟨_, _, _, h2, row, cells, h3, _⟩ := h
  obtain ⟨b, o, s⟩ := a
  simp only at h2
  subst h2
  refine ⟨rfl, ?_⟩
  by_cases hb : b < W.heap.size
  · exact hb
  · simp [World.shape?, Array.getElem?_eq_none (Nat.le_of_not_lt hb)] at h3
set_option maxRecDepth 100000 in
theorem open_fail {H : Type} {enc : TypeId × Value → H} {W : World} {r : Reach} {b0 : Nat} {v : Value} {d : DataW H} {ps : List MemPlace} (hval : Value.okWide Tryd.prog W r b0 34 v) (h : DataW.Trod enc Tryd.prog W 0 (fun _ => true) true 34 v d ps) :
    ∃ l : List Cr, CS W v l ∧ (∀ c ∈ l, c.text.size ≤ maxLen) ∧ (l = [] ∨ ∃ es spare, d = .slice es spare ∧ es.length = l.length) := by
  obtain ⟨fuel, h⟩ := h
  obtain ⟨a0, l0, c0, rfl⟩ := okWide_slice Tryd.underlying34 hval
  rcases Deep.open_slice Tryd.underlying34 h with ⟨h1, h2⟩ | ⟨a, len, cap, m, n, D, Pl, hcs, _, hlc, hcm, hm, hx, hel⟩
  · simp [Value.cells] at h1
    obtain ⟨rfl, rfl, rfl⟩ := h1
    exact ⟨[], Or.inl ⟨Or.inl rfl, rfl⟩, by simp, Or.inl rfl⟩
  · simp [Value.cells] at hcs
    obtain ⟨rfl, rfl, rfl⟩ := hcs
    obtain ⟨ha, hlt⟩ := ok_place Tryd.underlying34 hval
    have hlm : l0 ≤ m := by rw [hm]; simp; exact hlc
    rw [cellsCr] at hel
    obtain ⟨T, hT⟩ := @Deep.choose_lt Cr ⟨⟨0, 0, ByteArray.empty⟩⟩ l0 (fun i t => W.cells? 0 (a.add (i * 3)) 3 = some (crC t) ∧ t.text.size ≤ maxLen) (fun i hi => by
      obtain ⟨cs', g1, g2⟩ := hel i (by omega)
      obtain ⟨t, e1, e2⟩ := open_cr g2
      exact ⟨t, by rw [g1, e1], e2⟩)
    have hll : ((List.range l0).map T).length = l0 := by simp
    simp only [Prod.mk.injEq] at hx
    refine ⟨(List.range l0).map T, ?_, ?_, Or.inr ⟨_, _, hx.1, by simp⟩⟩
    · refine Or.inr ⟨a.block, a.off, c0, by rw [hll, ← ha], hlt, by rw [hll]; exact hlc, fun k hk => ?_⟩
      have hk' : k < l0 := by rw [hll] at hk; exact hk
      have hcell : ∀ j, j < 3 → W.cell? ((a.add (k * 3)).add j) = (crC (T k))[j]? := (World.cells?_some (hT k hk').1).2.2
      have ek : ((List.range l0).map T)[k] = T k := by simp
      rw [ek]
      have hadd : ∀ j, (a.add (k * 3)).add j = ⟨a.block, a.off + k * 3 + j, none⟩ := by
        intro j
        rw [Deep.add_add]
        unfold Addr.add
        split
        · rename_i hz
          rw [show a.off + k * 3 + j = a.off by omega]; exact ha
        · simp
      have q0 := hcell 0 (by omega)
      have q1 := hcell 1 (by omega)
      have q2 := hcell 2 (by omega)
      rw [hadd] at q0 q1 q2
      exact ⟨q0, q1, q2⟩
    · intro t ht
      obtain ⟨i, hi, rfl⟩ := List.mem_map.1 ht
      exact (hT i (List.mem_range.1 hi)).2
theorem bytesCr : Tryd.prog.bytesOf 79 = 32 := by kernel_rfl
end Go.Proofs.YtbgeihgenckihaaDoor
