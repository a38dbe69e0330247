/- Depend: Circle. -/
import Derived.Test.YtkhcinpcoabphaaDc4
namespace Go.Proofs.Ytkhcinpcoabphaa
open Go.RowKit

theorem fL_val {L : List Int} {x y : Nat} (hx : x < L.length) (h : fL L x = some y) (hr : rlB L = true) : L[x] = (y : Int) := by
  rw [fL_at hx] at h
  have := eO_oI (rlB_at hr hx).1
  rw [h] at this
  exact this.symm
def cirE (L : List Int) : Int := if 4096 < L.length then 3 else if rlB L then 0 else 1
/-- What Circle answers. -/
def CirO (L : List Int) (R : List Nat) : Prop := (cirE L = 0 → rlB L = true ∧ L.length ≤ 4096 ∧ CirR L R) ∧ (cirE L ≠ 0 → R = [])
theorem CirO.uniq {L : List Int} {R S : List Nat} (h : CirO L R) (k : CirO L S) : R = S := by
  by_cases e : cirE L = 0
  · exact (h.1 e).2.2.uniq (k.1 e).2.2
  · rw [h.2 e, k.2 e]
end Go.Proofs.Ytkhcinpcoabphaa
