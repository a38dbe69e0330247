/- Depend: a web under calls. -/
import Derived.Test.YtkhcinpcoabphaaDd2
import Derived.Test.YtkhcinpcoabphaaDo1
namespace Go.Proofs.Ytkhcinpcoabphaa
open Go.RowKit

theorem box3c {w : World} {B : Nat} {a b c : Value} {t : TypeId} (h : w.heap[B]? = some (.cells #[a, b, c] t)) : w.cell? ⟨B, 0, none⟩ = some a ∧ w.cell? ⟨B, 1, none⟩ = some b ∧ w.cell? ⟨B, 2, none⟩ = some c :=
  ⟨cell_of_row _ _ _ _ _ _ h, cell_of_row _ _ _ _ _ _ h, cell_of_row _ _ _ _ _ _ h⟩
end Go.Proofs.Ytkhcinpcoabphaa
