/- Retry, the document's side: wait, Wait, Due, May. -/
import Derived.Test.YtddnagoljdhnlaaXa4
namespace Go.Proofs.Ytddnagoljdhnlaa
open Go.RowKit

theorem wt_grow {p : Pol} {k : Nat} (h : wtP p k * p.f ≤ p.c) : wtP p (k + 1) = wtP p k * p.f := by rw [wtP]; omega
theorem wt_stop {p : Pol} {k : Nat} (h : p.c < wtP p k * p.f) : wtP p (k + 1) = p.c := by rw [wtP]; omega
end Go.Proofs.Ytddnagoljdhnlaa
