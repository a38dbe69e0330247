/- Cells, the laws: policies stay. -/
import Derived.Test.YtbgeihgenckihaaDoorCe2b
namespace Go.Proofs.YtbgeihgenckihaaDoor
open Go.RowKit

theorem begX_p (c : Ce) (tk n : Int) : (begX c tk n).p = c.p := by unfold begX; split <;> rfl
theorem endX_p (c : Ce) (tk n : Int) (o : Oc) : (endX c tk o n).p = c.p := by unfold endX; split <;> rfl
theorem resX_p (c : Ce) (n : Int) : (resX c n).p = c.p := by unfold resX; split <;> rfl
theorem cloX_p (c : Ce) : (cloX c).p = c.p := by unfold cloX; split <;> rfl
end Go.Proofs.YtbgeihgenckihaaDoor
