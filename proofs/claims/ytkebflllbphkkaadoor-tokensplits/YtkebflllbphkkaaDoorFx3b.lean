/- Failures, the reference: crack. -/
import Derived.Test.YtkebflllbphkkaaDoorFx3
namespace Go.Proofs.YtkebflllbphkkaaDoor
open Go.RowKit

end Go.Proofs.YtkebflllbphkkaaDoor
namespace Go.Proofs.YtkebflllbphkkaaDoor
open Go.RowKit

end Go.Proofs.YtkebflllbphkkaaDoor
