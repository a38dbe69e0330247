/- Depend: the least in circles. -/
import Derived.Test.YtkhcinpcoabphaaDc3
namespace Go.Proofs.Ytkhcinpcoabphaa
open Go.RowKit

theorem lsI_take (n : Int) (F : List Int) {k : Nat} (hk : k < F.length) : lsI n (F.take (k + 1)) = if F[k] = -1 then lsI n (F.take k) else min (lsI n (F.take k)) F[k] := by
  rw [List.take_succ_eq_append_getElem hk, lsI_snoc]
theorem lsI_lo (n : Int) (hn : 0 ≤ n) {F : List Int} (hF : ∀ x ∈ F, -1 ≤ x) : 0 ≤ lsI n F := by
  obtain ⟨_, _, h | ⟨h1, h2⟩⟩ := lsI_spec n F
  · omega
  · have := hF _ h1; omega
end Go.Proofs.Ytkhcinpcoabphaa
