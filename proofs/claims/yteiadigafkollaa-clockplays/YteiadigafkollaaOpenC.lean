/- An argument of the type []Call, opened: the calls that it reads as. -/
import Derived.Test.YteiadigafkollaaLw2
import Derived.Test.YteiadigafkollaaRows
import Derived.Deep.Slices
import Derived.ProofKit
import Derived.OpenShut
import Derived.Carry
namespace Go.Proofs.Yteiadigafkollaa
open Go.ChangeShapes Go.WideShapes Go.ChangeAt Go.RowKit

theorem cellsCall : Try.prog.cellsOf 30 = 3 := by kernel_rfl
theorem cellsI : Try.prog.cellsOf 3 = 1 := by kernel_rfl
def callC (c : Int × Int × Int) : List Value := [.int .i64 c.1, .int .i64 c.2.1, .int .i64 c.2.2]
set_option maxRecDepth 100000 in
theorem open_call {H : Type} {enc : TypeId × Value → H} {W : World} {base : Nat} {sp : Nat → Bool} {held : Bool} {n : Nat} {cs : List Value} {x : DataW H × List MemPlace} (h : DataW.trod enc Try.prog W base sp held n 30 cs = some x) :
    ∃ c : Int × Int × Int, cs = callC c := by
  obtain ⟨xs, k, _, hx, hcl, hxl, hf⟩ := DataW.trod_struct Try.underlying30 h
  rw [cellsCall] at hcl
  match xs, hxl, cs, hcl with
  | [y0, y1, y2], _, [c0, c1, c2], _ =>
    have g0 := hf 0 _ rfl
    have g1 := hf 1 _ rfl
    have g2 := hf 2 _ rfl
    simp [cellsI] at g0 g1 g2
    obtain ⟨m0, e0, f0, _⟩ := DataW.trod_int Try.underlying3 g0
    obtain ⟨m1, e1, f1, _⟩ := DataW.trod_int Try.underlying3 g1
    obtain ⟨m2, e2, f2, _⟩ := DataW.trod_int Try.underlying3 g2
    simp only [List.cons.injEq, and_true] at e0 e1 e2
    subst e0 e1 e2
    exact ⟨⟨m0, m1, m2⟩, rfl⟩
theorem spot_none {W : World} {a : Addr} {u : Value} (h : W.cell? a = some u) : a = ⟨a.block, a.off, none⟩ := by
  obtain ⟨b, o, s⟩ := a
  cases s with
  | none => rfl
  | some k =>
    exfalso
    unfold World.cell? at h
    split at h
    · simp at h
    · cases h
set_option maxRecDepth 100000 in
theorem open_calls {H : Type} {enc : TypeId × Value → H} {W : World} {r : Reach} {b0 : Nat} {v : Value} {d : DataW H} {ps : List MemPlace} (hval : Value.okWide Try.prog W r b0 22 v) (h : DataW.Trod enc Try.prog W 0 (fun _ => true) true 22 v d ps) :
    ∃ (p : Option Addr) (cap : Nat) (l : List (Int × Int × Int)), v = .slice p l.length cap ∧ ArgC W p l ∧ (l = [] ∨ ∃ es spare, d = .slice es spare ∧ es.length = l.length) := by
  obtain ⟨fuel, h⟩ := h
  obtain ⟨a0, l0, c0, rfl⟩ := okWide_slice Try.underlying22 hval
  rcases Deep.open_slice Try.underlying22 h with ⟨h1, h2⟩ | ⟨a, len, cap, m, n, D, Pl, hcs, _, hlc, hcm, hm, hx, hel⟩
  · simp [Value.cells] at h1
    obtain ⟨rfl, rfl, rfl⟩ := h1
    exact ⟨none, 0, [], rfl, fun k hk => by simp at hk, Or.inl rfl⟩
  · simp [Value.cells] at hcs
    obtain ⟨rfl, rfl, rfl⟩ := hcs
    have hlm : l0 ≤ m := by rw [hm]; simp; exact hlc
    rw [cellsCall] at hel
    obtain ⟨T, hT⟩ := @Deep.choose_lt (Int × Int × Int) ⟨⟨0, 0, 0⟩⟩ l0 (fun i t => W.cells? 0 (a.add (i * 3)) 3 = some (callC t)) (fun i hi => by
      obtain ⟨cs', g1, g2⟩ := hel i (by omega)
      obtain ⟨t, e1⟩ := open_call g2
      exact ⟨t, by rw [g1, e1]⟩)
    have hll : ((List.range l0).map T).length = l0 := by simp
    simp only [Prod.mk.injEq] at hx
    refine ⟨some a, c0, (List.range l0).map T, by rw [hll], ?_, Or.inr ⟨_, _, hx.1, by simp⟩⟩
    have hcell : ∀ i, i < l0 → ∀ j, j < 3 → W.cell? ((a.add (i * 3)).add j) = (callC (T i))[j]? := fun i hi => (World.cells?_some (hT i hi)).2.2
    intro k hk
    have hk' : k < l0 := by rw [hll] at hk; exact hk
    have ha : a = ⟨a.block, a.off, none⟩ := by
      have := hcell 0 (by omega) 0 (by omega)
      simp [Addr.add, callC] at this
      exact spot_none this
    have hlt : a.block < W.heap.size := by
      have := hcell 0 (by omega) 0 (by omega)
      simp [Addr.add, callC] at this
      exact block_lt_of_cell this
    have ek : ((List.range l0).map T)[k] = T k := by simp
    rw [ek]
    have hadd : ∀ j, (a.add (k * 3)).add j = ⟨a.block, a.off + k * 3 + j, none⟩ := by
      intro j
      rw [Deep.add_add]
      unfold Addr.add
      split
      · rename_i hz
        rw [show a.off + k * 3 + j = a.off by omega]; exact ha
      · simp
    have q0 := hcell k hk' 0 (by omega)
    have q1 := hcell k hk' 1 (by omega)
    have q2 := hcell k hk' 2 (by omega)
    rw [hadd] at q0 q1 q2
    exact ⟨a.block, a.off, by rw [← ha], hlt, q0, q1, q2⟩
theorem bytesCall : Try.prog.bytesOf 30 = 24 := by kernel_rfl
theorem own : ownKnob Try.prog.godebug = none := by kernel_rfl
theorem laidOut : laidOutB Try.prog = true := by kernel_rfl
end Go.Proofs.Yteiadigafkollaa
