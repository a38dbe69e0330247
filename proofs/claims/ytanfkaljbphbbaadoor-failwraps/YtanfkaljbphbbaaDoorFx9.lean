/- Failures: the reference's Leaf, Deep. -/
import Derived.Test.YtanfkaljbphbbaaDoorFx8
namespace Go.Proofs.YtanfkaljbphbbaaDoor
open Go.RowKit

theorem leaf_crR {k : Int} {t : ByteArray} (hk : isK k = true) (h9 : k ≠ 9) (h10 : k ≠ 10) : (frow k).least = 0 ∧ crR ⟨k, 0, t⟩ = txT (frow k).text t := by
  have e := crB_crR ⟨k, 0, t⟩
  have hk2 := (isK_iff k).1 hk
  have hkk : k = 1 ∨ k = 2 ∨ k = 3 ∨ k = 4 ∨ k = 5 ∨ k = 6 ∨ k = 7 ∨ k = 8 ∨ k = 11 := by omega
  have hr : (frow k).least = 0 ∧ (0 : Int) ≤ (frow k).most := by
    rcases hkk with e | e | e | e | e | e | e | e | e <;> rw [e] <;> decide
  refine ⟨hr.1, ?_⟩
  unfold crB at e
  simp only at e
  rw [hk, hr.1, decide_eq_true (show (0 : Int) ≤ 0 ∧ (0 : Int) ≤ (frow k).most from ⟨Int.le_refl _, hr.2⟩)] at e
  simpa using e.symm
theorem leafE_ref (k : Int) (t : ByteArray) : leafE k t = if k < 1 ∨ 11 < k ∨ k = 9 ∨ k = 10 then 1 else if 4096 < t.size then 3 else if crR ⟨k, 0, t⟩ = true then 0 else 2 := by
  unfold leafE
  by_cases h : k < 1 ∨ 11 < k ∨ k = 9 ∨ k = 10
  · rw [if_pos h, if_pos]
    rcases h with h | h | h | h
    · left; unfold isK; simp; omega
    · left; unfold isK; simp; omega
    · right; rw [h]; decide
    · right; rw [h]; decide
  · have hk : isK k = true := (isK_iff k).2 (by omega)
    obtain ⟨h1, h2⟩ := leaf_crR (t := t) hk (by omega) (by omega)
    rw [if_neg h, if_neg (by rw [hk, h1]; simp), h2]
set_option maxHeartbeats 4000000 in
set_option maxRecDepth 100000 in
theorem rleaf_any (k : Int) (t : ByteArray) (w : World) (ht : t.size ≤ maxLen) :
    Calls Tryd.prog 13 #[.int .i64 k, .string t] w fun e w' => ∃ p cap, e = .returned (.tuple #[.slice p (leafL k t).length cap, .int .i64 (leafE k t)]) ∧ CS w' (.slice p (leafL k t).length cap) (leafL k t) ∧ Below w.heap.size w w' := by
  have IC := fun w' => crack_any ⟨k, 0, t⟩ w' ht
  have ht2 := ht
  unfold maxLen at ht2
  have LE : Hid _ := leafE_ref k t
  have NO : ∀ e : Int, e ≠ 0 → leafE k t = e → Hid (∀ w', Below w.heap.size w w' → ∃ p cap, Ending.returned (.tuple #[.slice none 0 0, .int .i64 e]) = .returned (.tuple #[.slice p (leafL k t).length cap, .int .i64 (leafE k t)]) ∧ CS w' (.slice p (leafL k t).length cap) (leafL k t) ∧ Below w.heap.size w w') := fun e he h w' hb => by
    have e2 : leafL k t = [] := by unfold leafL; rw [h, if_neg he]
    rw [e2, h]
    exact ⟨none, 0, rfl, Or.inl ⟨Or.inl rfl, rfl⟩, hb⟩
  by_cases hbad : k < 1 ∨ 11 < k ∨ k = 9 ∨ k = 10
  · have F := NO 1 (by omega) (by rw [LE.out, if_pos hbad])
    clear NO IC LE
    have hc : k < 1 ∨ (¬ k < 1 ∧ k > 11) ∨ (¬ k < 1 ∧ ¬ k > 11 ∧ k = 9) ∨ (¬ k < 1 ∧ ¬ k > 11 ∧ ¬ k = 9 ∧ k = 10) := by omega
    rcases hc with h1 | ⟨h1, h2⟩ | ⟨h1, h2, rfl⟩ | ⟨h1, h2, h3, rfl⟩
    · clear hbad
      go_enter Tryd.func13, Tryd.ntmps13
      go_wp2
      go_ret2
      exact F.out _ (Below.refl _ _)
    · clear hbad
      go_enter Tryd.func13, Tryd.ntmps13
      go_wp2
      go_ret2
      exact F.out _ (Below.refl _ _)
    · clear hbad
      go_enter Tryd.func13, Tryd.ntmps13
      go_wp2
      go_ret2
      exact F.out _ (Below.refl _ _)
    · clear hbad
      go_enter Tryd.func13, Tryd.ntmps13
      go_wp2
      go_ret2
      exact F.out _ (Below.refl _ _)
  · have g1 : ¬ k < 1 := by omega
    have g2 : ¬ k > 11 := by omega
    have g3 : (k == 9) = false := by rw [beq_eq_false_iff_ne]; omega
    have g4 : (k == 10) = false := by rw [beq_eq_false_iff_ne]; omega
    by_cases h4 : 4096 < t.size
    · have F := NO 3 (by omega) (by rw [LE.out, if_neg hbad, if_pos h4])
      have h4i : (t.size : Int) > 4096 := by omega
      clear NO IC LE hbad
      go_enter Tryd.func13, Tryd.ntmps13
      go_wp2
      go_ret2
      exact F.out _ (Below.refl _ _)
    · have h4i : ¬ (t.size : Int) > 4096 := by omega
      cases hcr : crR ⟨k, 0, t⟩ with
      | false =>
        have F := NO 2 (by omega) (by rw [LE.out, if_neg hbad, if_neg h4, hcr]; simp)
        rw [hcr] at IC
        clear NO LE hbad
        go_enter Tryd.func13, Tryd.ntmps13
        go_wp2_with (go_at_call 47; refine (IC _).mono ?_; rintro e w5 ⟨rfl, hb5⟩; have HB5 : Hid (Below w.heap.size w w5) := ((Below.refl _ _).alloc (Nat.le_refl _) _).trans (hb5.mono (by simp)); clear hb5)
        go_ret2
        exact F.out _ HB5.out
      | true =>
        have e0 : leafE k t = 0 := by rw [LE.out, if_neg hbad, if_neg h4, hcr]; simp
        have eL : leafL k t = [⟨k, 0, t⟩] := by unfold leafL; rw [e0, if_pos rfl]
        rw [e0, eL]
        rw [hcr] at IC
        clear NO LE hbad e0 eL hcr
        go_enter Tryd.func13, Tryd.ntmps13
        go_wp2_with (go_at_call 47; refine (IC _).mono ?_; rintro e w5 ⟨rfl, hb5⟩; have y0 : w5.cell? ⟨w.heap.size, 0, none⟩ = some (.int .i64 k) := (hb5.cell (p := ⟨w.heap.size, 0, none⟩) (by simp)).trans (cell_of_row _ _ _ _ _ _ (heap_alloc_new w _)); have y1 : w5.cell? ⟨w.heap.size, 1, none⟩ = some (.int .i64 0) := (hb5.cell (p := ⟨w.heap.size, 1, none⟩) (by simp)).trans (cell_of_row _ _ _ _ _ _ (heap_alloc_new w _)); have y2 : w5.cell? ⟨w.heap.size, 2, none⟩ = some (.string t) := (hb5.cell (p := ⟨w.heap.size, 2, none⟩) (by simp)).trans (cell_of_row _ _ _ _ _ _ (heap_alloc_new w _)); have HB5 : Hid (Below w.heap.size w w5) := ((Below.refl _ _).alloc (Nat.le_refl _) _).trans (hb5.mono (by simp)); clear hb5)
        go_ret2
        refine ⟨_, _, rfl, Or.inr ⟨w5.heap.size, 0, 1, rfl, by simp, by simp, fun j hj => ?_⟩, HB5.out.alloc HB5.out.size _⟩
        have hj0 : j = 0 := by simp at hj; exact hj
        subst hj0
        exact ⟨cell_of_row _ _ _ _ _ _ (heap_alloc_new w5 _), cell_of_row _ _ _ _ _ _ (heap_alloc_new w5 _), cell_of_row _ _ _ _ _ _ (heap_alloc_new w5 _)⟩
end Go.Proofs.YtanfkaljbphbbaaDoor
