/- An argument of the type []api.Token, opened: the tokens that it reads as, and what their reading weighs. -/
import Derived.Test.YthckmpjokabkcaaDoorNow
import Derived.Test.YthckmpjokabkcaaDoorRows
import Derived.Deep.Slices
import Derived.ProofKit
import Derived.OpenShut
import Derived.Carry
namespace Go.Proofs.YthckmpjokabkcaaDoor
open Go.ChangeShapes Go.WideShapes Go.ChangeAt Go.RowKit

theorem cellsTok : Tryd.prog.cellsOf 30 = 4 := by kernel_rfl
theorem cellsI : Tryd.prog.cellsOf 3 = 1 := by kernel_rfl
theorem cellsS : Tryd.prog.cellsOf 9 = 1 := by kernel_rfl
/-- What a token reads as. -/
def tokD {H : Type} (t : Tok) : DataW H := .agg [.lit (.int .i64 t.kind), .lit (.int .i64 t.pos), .lit (.int .i64 t.num), .lit (.string t.text)]
theorem open_tok {H : Type} {enc : TypeId × Value → H} {W : World} {base : Nat} {sp : Nat → Bool} {held : Bool} {n : Nat} {cs : List Value} {x : DataW H × List MemPlace} (h : DataW.trod enc Tryd.prog W base sp held n 30 cs = some x) :
    ∃ t : Tok, cs = tokC t ∧ x.1 = tokD t ∧ t.text.length ≤ maxLen := by
  obtain ⟨xs, k, _, hx, hcl, hxl, hf⟩ := DataW.trod_struct Tryd.underlying30 h
  rw [cellsTok] at hcl
  match xs, hxl, cs, hcl with
  | [y0, y1, y2, y3], _, [c0, c1, c2, c3], _ =>
    have g0 := hf 0 _ rfl
    have g1 := hf 1 _ rfl
    have g2 := hf 2 _ rfl
    have g3 := hf 3 _ rfl
    simp [cellsI, cellsS] at g0 g1 g2 g3
    obtain ⟨m0, e0, f0, _⟩ := DataW.trod_int Tryd.underlying3 g0
    obtain ⟨m1, e1, f1, _⟩ := DataW.trod_int Tryd.underlying3 g1
    obtain ⟨m2, e2, f2, _⟩ := DataW.trod_int Tryd.underlying3 g2
    obtain ⟨s, e3, f3, hs⟩ := DataW.trod_string Tryd.underlying9 g3
    simp only [List.cons.injEq, and_true] at e0 e1 e2 e3
    subst e0 e1 e2 e3
    refine ⟨⟨m0, m1, m2, s.data.toList⟩, ?_, ?_, by simpa using hs⟩
    · simp [tokC]
    · rw [hx, f0, f1, f2, f3]; rfl
theorem spot_none {W : World} {a : Addr} {u : Value} (h : W.cell? a = some u) : a = ⟨a.block, a.off, none⟩ := by
  obtain ⟨b, o, s⟩ := a
  cases s with
  | none => rfl
  | some k =>
    exfalso
    unfold World.cell? at h
    split at h
    · simp at h
    · cases h
theorem open_toks {H : Type} {enc : TypeId × Value → H} {W : World} {r : Reach} {b0 : Nat} {v : Value} {d : DataW H} {ps : List MemPlace} (hval : Value.okWide Tryd.prog W r b0 22 v) (h : DataW.Trod enc Tryd.prog W 0 (fun _ => true) true 22 v d ps) :
    ∃ l : List Tok, ArgT W v l ∧ (∀ t ∈ l, t.text.length ≤ maxLen) ∧ l.length ≤ maxLen ∧ ((d = .nil ∧ l = []) ∨ ∃ spare, d = .slice (l.map tokD) spare) := by
  obtain ⟨fuel, h⟩ := h
  obtain ⟨a0, l0, c0, rfl⟩ := okWide_slice Tryd.underlying22 hval
  rcases Deep.open_slice Tryd.underlying22 h with ⟨h1, h2⟩ | ⟨a, len, cap, m, n, D, Pl, hcs, _, hlc, hcm, hm, hx, hel⟩
  · simp [Value.cells] at h1
    obtain ⟨rfl, rfl, rfl⟩ := h1
    simp only [Prod.mk.injEq] at h2
    exact ⟨[], Or.inl ⟨rfl, rfl⟩, by simp, by simp, Or.inl ⟨h2.1, rfl⟩⟩
  · simp [Value.cells] at hcs
    obtain ⟨rfl, rfl, rfl⟩ := hcs
    have hlm : l0 ≤ m := by rw [hm]; simp; exact hlc
    rw [cellsTok] at hel
    obtain ⟨T, hT⟩ := @Deep.choose_lt Tok ⟨⟨0, 0, 0, []⟩⟩ l0 (fun i t => W.cells? 0 (a.add (i * 4)) 4 = some (tokC t) ∧ D i = tokD t ∧ t.text.length ≤ maxLen) (fun i hi => by
      obtain ⟨cs', g1, g2⟩ := hel i (by omega)
      obtain ⟨t, e1, e2, e3⟩ := open_tok g2
      exact ⟨t, by rw [g1, e1], e2, e3⟩)
    have hll : ((List.range l0).map T).length = l0 := by simp
    refine ⟨(List.range l0).map T, ?_, ?_, by rw [hll]; omega, Or.inr ?_⟩
    · refine Or.inr ⟨a, c0, by rw [hll], ?_⟩
      by_cases h0 : l0 = 0
      · left; subst h0; rfl
      · right
        have hcell : ∀ i, i < l0 → ∀ j, j < 4 → W.cell? ((a.add (i * 4)).add j) = (tokC (T i))[j]? := fun i hi => (World.cells?_some (hT i hi).1).2.2
        have ha : a = ⟨a.block, a.off, none⟩ := by
          have := hcell 0 (by omega) 0 (by omega)
          simp [Addr.add, tokC] at this
          exact spot_none this
        refine ⟨a.block, a.off, ha, ?_, ?_⟩
        · have := hcell 0 (by omega) 0 (by omega)
          simp [Addr.add, tokC] at this
          exact block_lt_of_cell this
        · intro k hk
          have hk' : k < l0 := by rw [hll] at hk; exact hk
          have ek : ((List.range l0).map T)[k] = T k := by simp
          rw [ek]
          have hadd : ∀ j, (a.add (k * 4)).add j = ⟨a.block, a.off + k * 4 + j, none⟩ := by
            intro j
            rw [Deep.add_add]
            unfold Addr.add
            split
            · rename_i hz
              rw [show a.off + k * 4 + j = a.off by omega]; exact ha
            · simp
          have q0 := hcell k hk' 0 (by omega)
          have q1 := hcell k hk' 1 (by omega)
          have q2 := hcell k hk' 2 (by omega)
          have q3 := hcell k hk' 3 (by omega)
          rw [hadd] at q0 q1 q2 q3
          exact ⟨q0, q1, q2, q3⟩
    · intro t ht
      obtain ⟨i, hi, rfl⟩ := List.mem_map.1 ht
      exact (hT i (List.mem_range.1 hi)).2.2
    · simp only [Prod.mk.injEq] at hx
      have e : (List.range l0).map D = ((List.range l0).map T).map tokD := by
        rw [List.map_map]
        exact List.map_congr_left (fun i hi => (hT i (List.mem_range.1 hi)).2.1)
      exact ⟨_, by rw [hx.1, e]⟩
end Go.Proofs.YthckmpjokabkcaaDoor
