/-
  DERIVED. GIVEN WITH THE SEED: THE CARDS: each row of YthckmpjokabkcabDoorRows.lean that lists a variable, with what it lists TIED to the program's text (the seventh form; the later family's looks); each row that meets fmt, with fmt's text TOLD by the authors' own Lean function (tested against real Go, not proved from fmt's source: count such statements apart). THE CARD IS WHAT COUNTS. Prove the row's statement (the work); the ties are given (YthckmpjokabkcabDoorTie.lean); close each card by the builder's one call (the guide's Derived/Test/ToyasCard.lean, 'card_holds'). Laid BY PROGRAM, IN A SANDBOX (cutbox-door.mjs). By AI agents, Wed Nov 11 2026. No macro, syntax, notation, axiom, sorry.
-/
import Derived.Test.YthckmpjokabkcabDoorRows
import GoSem.ClaimSeven
namespace Go.Proofs.YthckmpjokabkcabDoor
namespace Rows

/-- THE TIED CARD OF 'onceweblaw01.LexBegins'. -/
def lexBeginsCard : Claim7 := { stood := { row := lexBeginsRow, standIns := [], harness := (true, "167357a8add8193ee2a35b1442e4c9de6aa5adb9131ac0e80bf36c75cef828bc"), looks := false }, kinds := [], alts := [], laidByText := true, laidKinds := [.data, .data], laidTests := true, laidLooks := .later }
def LexBeginsCardSaid : Prop := Claim7.holds Tryd.pinned (.plain (OpenSpec.ofChange lexBeginsSpec)) lexBeginsCard

/-- THE SECOND FORM's CARD OF 'onceweblaw01.LexBegins'. -/
def lexBeginsUptoCard : Claim7 := { stood := { row := lexBeginsUptoRow, standIns := [], harness := (true, "167357a8add8193ee2a35b1442e4c9de6aa5adb9131ac0e80bf36c75cef828bc"), looks := false }, kinds := [], alts := [], laidByText := true, laidKinds := [.data, .data], laidTests := true, laidLooks := .later }
def LexBeginsUptoCardSaid : Prop := Claim7.holds Tryd.pinned (.plain (OpenSpec.upto lexBeginsSpec)) lexBeginsUptoCard
end Rows
end Go.Proofs.YthckmpjokabkcabDoor
