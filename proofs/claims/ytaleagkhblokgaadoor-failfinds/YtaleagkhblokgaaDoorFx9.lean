/- Failures: the reference's Leaf, Deep. -/
import Derived.Test.YtaleagkhblokgaaDoorFx8
namespace Go.Proofs.YtaleagkhblokgaaDoor
open Go.RowKit

theorem leaf_crR {k : Int} {t : ByteArray} (hk : isK k = true) (h9 : k ≠ 9) (h10 : k ≠ 10) : (frow k).least = 0 ∧ crR ⟨k, 0, t⟩ = txT (frow k).text t := by
  have e := crB_crR ⟨k, 0, t⟩
  have hk2 := (isK_iff k).1 hk
  have hkk : k = 1 ∨ k = 2 ∨ k = 3 ∨ k = 4 ∨ k = 5 ∨ k = 6 ∨ k = 7 ∨ k = 8 ∨ k = 11 := by omega
  have hr : (frow k).least = 0 ∧ (0 : Int) ≤ (frow k).most := by
    rcases hkk with e | e | e | e | e | e | e | e | e <;> rw [e] <;> decide
  refine ⟨hr.1, ?_⟩
  unfold crB at e
  simp only at e
  rw [hk, hr.1, decide_eq_true (show (0 : Int) ≤ 0 ∧ (0 : Int) ≤ (frow k).most from ⟨Int.le_refl _, hr.2⟩)] at e
  simpa using e.symm
theorem leafE_ref (k : Int) (t : ByteArray) : leafE k t = if k < 1 ∨ 11 < k ∨ k = 9 ∨ k = 10 then 1 else if 4096 < t.size then 3 else if crR ⟨k, 0, t⟩ = true then 0 else 2 := by
  unfold leafE
  by_cases h : k < 1 ∨ 11 < k ∨ k = 9 ∨ k = 10
  · rw [if_pos h, if_pos]
    rcases h with h | h | h | h
    · left; unfold isK; simp; omega
    · left; unfold isK; simp; omega
    · right; rw [h]; decide
    · right; rw [h]; decide
  · have hk : isK k = true := (isK_iff k).2 (by omega)
    obtain ⟨h1, h2⟩ := leaf_crR (t := t) hk (by omega) (by omega)
    rw [if_neg h, if_neg (by rw [hk, h1]; simp), h2]
end Go.Proofs.YtaleagkhblokgaaDoor
