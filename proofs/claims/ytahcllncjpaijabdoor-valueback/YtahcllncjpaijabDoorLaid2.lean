/- From what the row lists of the variable 'marks' to what the walks ask of memory. -/
import Derived.Test.YtahcllncjpaijabDoorLaid
import Derived.Test.YtahcllncjpaijabDoorTok2
namespace Go.Proofs.YtahcllncjpaijabDoor.L1
open Go.ChangeShapes Go.WideShapes Go.ChangeAt Go.WideMaps Go.WideElems Go.RowKit

theorem gMarks : Tryd.prog.globalNamed "onceweb/lex.marks" = some 0 := by kernel_rfl
theorem tMarks : (Tryd.prog.globals[0]?).map (·.type) = some 112 := by kernel_rfl
theorem marksData {H : Type} : (Rows.laid_onceweb_lex_marks : DataW H) = .agg (mk.map fun z => .lit (.string z.data.toList)) := rfl
theorem marksAt_of {W : World} {t : TypeId} {cs : Array Value} {g fuel : Nat} {p : List MemPlace} (hg : Tryd.prog.globalNamed "onceweb/lex.marks" = some g) (ht : (Tryd.prog.globals[g]?).map (·.type) = some t) (hv : W.var? Tryd.prog "onceweb/lex.marks" = some cs)
    (hd : DataW.trod (fun _ => ()) Tryd.prog W 0 (fun _ => true) false fuel t cs.toList = some (Rows.laid_onceweb_lex_marks, p)) : MarksAt W := by
  obtain rfl := Option.some.inj (gMarks.symm.trans hg)
  obtain rfl := Option.some.inj (tMarks.symm.trans ht)
  rw [marksData] at hd
  intro i hi
  rw [World.var?_cell hg hv i, ← Array.getElem?_toList]
  exact cells_of_strs Tryd.underlying112 Tryd.underlying9 cellsStr mk_len hd i hi
end Go.Proofs.YtahcllncjpaijabDoor.L1
