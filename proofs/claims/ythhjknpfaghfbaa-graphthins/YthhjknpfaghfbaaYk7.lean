/- Graph: a row cloned. -/
import Derived.Test.YthhjknpfaghfbaaYc1
namespace Go.Proofs.Ythhjknpfaghfbaa
open Go.RowKit

theorem clone_any (w : World) (v : Value) (l : List Int) (hv : GS KI w v l) (hl : l.length ≤ 100000) : Calls Try.prog 62 #[v] w fun e w' => ∃ p c, e = .returned (.slice p l.length c) ∧ OwnG KI w' w.heap.size (.slice p l.length c) l ∧ Below w.heap.size w w' := by
  have hv0 := hv
  rcases hv with ⟨rfl | ⟨ad, cap, rfl⟩, hmn⟩ | ⟨X, ox, cap, rfl, _⟩
  · subst hmn
    refine (Try.slices_Clone_int_nil 0 0 w).mono ?_
    rintro e w' ⟨rfl, hw⟩
    rw [hw]
    exact ⟨none, 0, rfl, OwnG.nil _ _ _, Below.refl _ _⟩
  · subst hmn
    refine (Try.slices_Clone_int_zero ad cap w).mono ?_
    rintro e w' ⟨v', rfl, ho, _, hb⟩
    have ho2 : OwnG KI w' w.heap.size v' ([] : List Int) := ho
    obtain ⟨p, c, e, _⟩ := ho2.form
    exact ⟨p, c, by rw [e], by rw [← e]; exact ho2, hb⟩
  · have hc : ∀ j, j < l.length → w.cell? ⟨X, ox + j, none⟩ = some (.int .i64 (l.getD j 0)) := fun j hj => by
      obtain ⟨Y, o, e, h⟩ := hv0.atI hj
      injection e with e
      injection e with e1 e2 _
      subst e1 e2
      rw [h]
      simp [List.getD, hj]
    refine (Try.slices_Clone_int X ox l.length cap l w (Nat.le_refl _) (by omega) hc).mono ?_
    rintro e w' ⟨v', rfl, ho, _, hb⟩
    have ho2 : OwnG KI w' w.heap.size v' l := by
      rw [List.take_length] at ho
      unfold OwnG
      rw [KI_flat]
      exact ho
    obtain ⟨p, c, e, _⟩ := ho2.form
    exact ⟨p, c, by rw [e], by rw [← e]; exact ho2, hb⟩
end Go.Proofs.Ythhjknpfaghfbaa
