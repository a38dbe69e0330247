/- Retry: Total; the document's Times and Total. -/
import Derived.Test.YtddnagoljdhnlaaXa6
namespace Go.Proofs.Ytddnagoljdhnlaa
open Go.RowKit

theorem tot_no {p : Pol} (h : polB p = false) : totN p = 0 := by simp [totN, h]
theorem tot_ok {p : Pol} (h : polB p = true) : totN p = ((wts p).take (nwt p)).sum := by rw [totN, if_pos h, List.take_of_length_le (by rw [wts_len]; exact Nat.le_refl _)]
theorem wts_rt (p : Pol) (k : Nat) (h : k < (wts p).length) : wtP p (((k : Int) + 1) - 1).toNat = (wts p)[k] := by rw [wts_at]; congr 1; omega
/-- The row of the document's Times so far. -/
structure RI (base : Nat) (W wk : World) (v : Value) (S : List Int) : Prop where
  own : OwnG KI wk base v S
  bel : Below base W wk
theorem RI.call {base : Nat} {W wk w2 : World} {v : Value} {S : List Int} (h : RI base W wk v S) (hs : base ≤ W.heap.size) (k : Below wk.heap.size wk w2) : RI base W w2 v S := ⟨h.own.below k, h.bel.trans (k.mono (Nat.le_trans hs h.bel.size))⟩
end Go.Proofs.Ytddnagoljdhnlaa
