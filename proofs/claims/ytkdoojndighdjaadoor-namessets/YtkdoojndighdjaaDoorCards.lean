/-
  DERIVED. GIVEN WITH THE SEED: THE CARDS: each row of YtkdoojndighdjaaDoorRows.lean that lists a variable, with what it lists TIED to the program's text (the seventh form; the later family's looks); each row that meets fmt, with fmt's text TOLD by the authors' own Lean function (tested against real Go, not proved from fmt's source: count such statements apart). THE CARD IS WHAT COUNTS. Prove the row's statement (the work); the ties are given (YtkdoojndighdjaaDoorTie.lean); close each card by the builder's one call (the guide's Derived/Test/ToyasCard.lean, 'card_holds'). Laid BY PROGRAM, IN A SANDBOX (cutbox-door.mjs). By AI agents, Wed Nov 11 2026. No macro, syntax, notation, axiom, sorry.
-/
import Derived.Test.YtkdoojndighdjaaDoorRows
import GoSem.ClaimSeven
namespace Go.Proofs.YtkdoojndighdjaaDoor
namespace Rows

/-- THE TIED CARD OF 'onceweblaw05.NamesChecks'. -/
def namesChecksCard : Claim7 := { stood := { row := namesChecksRow, standIns := [], harness := (true, "19202436032fb13eb0cd7c7bca3210adca8eb2a35875bb2ce5ecb8ed47939b27"), looks := false }, kinds := [], alts := [], laidByText := true, laidKinds := [.data, .data], laidTests := true, laidLooks := .later }
def NamesChecksCardSaid : Prop := Claim7.holds Tryd.pinned (.plain (OpenSpec.ofChange namesChecksSpec)) namesChecksCard

/-- THE TIED CARD OF 'onceweblaw05.NamesSets'. -/
def namesSetsCard : Claim7 := { stood := { row := namesSetsRow, standIns := [], harness := (true, "19202436032fb13eb0cd7c7bca3210adca8eb2a35875bb2ce5ecb8ed47939b27"), looks := false }, kinds := [], alts := [], laidByText := true, laidKinds := [.data, .data], laidTests := true, laidLooks := .later }
def NamesSetsCardSaid : Prop := Claim7.holds Tryd.pinned (.plain (OpenSpec.ofChange namesSetsSpec)) namesSetsCard

/-- THE TIED CARD OF 'onceweblaw05.NamesParts'. -/
def namesPartsCard : Claim7 := { stood := { row := namesPartsRow, standIns := [], harness := (true, "19202436032fb13eb0cd7c7bca3210adca8eb2a35875bb2ce5ecb8ed47939b27"), looks := false }, kinds := [], alts := [], laidByText := true, laidKinds := [.data, .data], laidTests := true, laidLooks := .later }
def NamesPartsCardSaid : Prop := Claim7.holds Tryd.pinned (.plain (OpenSpec.ofChange namesPartsSpec)) namesPartsCard

/-- THE TIED CARD OF 'onceweblaw05.NamesAsks'. -/
def namesAsksCard : Claim7 := { stood := { row := namesAsksRow, standIns := [], harness := (true, "19202436032fb13eb0cd7c7bca3210adca8eb2a35875bb2ce5ecb8ed47939b27"), looks := false }, kinds := [], alts := [], laidByText := true, laidKinds := [.data, .data], laidTests := true, laidLooks := .later }
def NamesAsksCardSaid : Prop := Claim7.holds Tryd.pinned (.plain (OpenSpec.ofChange namesAsksSpec)) namesAsksCard

/-- THE TIED CARD OF 'onceweblaw05.NamesClosures'. -/
def namesClosuresCard : Claim7 := { stood := { row := namesClosuresRow, standIns := [], harness := (true, "19202436032fb13eb0cd7c7bca3210adca8eb2a35875bb2ce5ecb8ed47939b27"), looks := false }, kinds := [], alts := [], laidByText := true, laidKinds := [.data, .data], laidTests := true, laidLooks := .later }
def NamesClosuresCardSaid : Prop := Claim7.holds Tryd.pinned (.plain (OpenSpec.ofChange namesClosuresSpec)) namesClosuresCard

/-- THE TIED CARD OF 'onceweblaw05.NamesRenames'. -/
def namesRenamesCard : Claim7 := { stood := { row := namesRenamesRow, standIns := [], harness := (true, "19202436032fb13eb0cd7c7bca3210adca8eb2a35875bb2ce5ecb8ed47939b27"), looks := false }, kinds := [], alts := [], laidByText := true, laidKinds := [.data, .data], laidTests := true, laidLooks := .later }
def NamesRenamesCardSaid : Prop := Claim7.holds Tryd.pinned (.plain (OpenSpec.ofChange namesRenamesSpec)) namesRenamesCard

/-- THE SECOND FORM's CARD OF 'onceweblaw05.NamesChecks'. -/
def namesChecksUptoCard : Claim7 := { stood := { row := namesChecksUptoRow, standIns := [], harness := (true, "19202436032fb13eb0cd7c7bca3210adca8eb2a35875bb2ce5ecb8ed47939b27"), looks := false }, kinds := [], alts := [], laidByText := true, laidKinds := [.data, .data], laidTests := true, laidLooks := .later }
def NamesChecksUptoCardSaid : Prop := Claim7.holds Tryd.pinned (.plain (OpenSpec.upto namesChecksSpec)) namesChecksUptoCard

/-- THE SECOND FORM's CARD OF 'onceweblaw05.NamesSets'. -/
def namesSetsUptoCard : Claim7 := { stood := { row := namesSetsUptoRow, standIns := [], harness := (true, "19202436032fb13eb0cd7c7bca3210adca8eb2a35875bb2ce5ecb8ed47939b27"), looks := false }, kinds := [], alts := [], laidByText := true, laidKinds := [.data, .data], laidTests := true, laidLooks := .later }
def NamesSetsUptoCardSaid : Prop := Claim7.holds Tryd.pinned (.plain (OpenSpec.upto namesSetsSpec)) namesSetsUptoCard

/-- THE SECOND FORM's CARD OF 'onceweblaw05.NamesParts'. -/
def namesPartsUptoCard : Claim7 := { stood := { row := namesPartsUptoRow, standIns := [], harness := (true, "19202436032fb13eb0cd7c7bca3210adca8eb2a35875bb2ce5ecb8ed47939b27"), looks := false }, kinds := [], alts := [], laidByText := true, laidKinds := [.data, .data], laidTests := true, laidLooks := .later }
def NamesPartsUptoCardSaid : Prop := Claim7.holds Tryd.pinned (.plain (OpenSpec.upto namesPartsSpec)) namesPartsUptoCard

/-- THE SECOND FORM's CARD OF 'onceweblaw05.NamesAsks'. -/
def namesAsksUptoCard : Claim7 := { stood := { row := namesAsksUptoRow, standIns := [], harness := (true, "19202436032fb13eb0cd7c7bca3210adca8eb2a35875bb2ce5ecb8ed47939b27"), looks := false }, kinds := [], alts := [], laidByText := true, laidKinds := [.data, .data], laidTests := true, laidLooks := .later }
def NamesAsksUptoCardSaid : Prop := Claim7.holds Tryd.pinned (.plain (OpenSpec.upto namesAsksSpec)) namesAsksUptoCard

/-- THE SECOND FORM's CARD OF 'onceweblaw05.NamesClosures'. -/
def namesClosuresUptoCard : Claim7 := { stood := { row := namesClosuresUptoRow, standIns := [], harness := (true, "19202436032fb13eb0cd7c7bca3210adca8eb2a35875bb2ce5ecb8ed47939b27"), looks := false }, kinds := [], alts := [], laidByText := true, laidKinds := [.data, .data], laidTests := true, laidLooks := .later }
def NamesClosuresUptoCardSaid : Prop := Claim7.holds Tryd.pinned (.plain (OpenSpec.upto namesClosuresSpec)) namesClosuresUptoCard

/-- THE SECOND FORM's CARD OF 'onceweblaw05.NamesRenames'. -/
def namesRenamesUptoCard : Claim7 := { stood := { row := namesRenamesUptoRow, standIns := [], harness := (true, "19202436032fb13eb0cd7c7bca3210adca8eb2a35875bb2ce5ecb8ed47939b27"), looks := false }, kinds := [], alts := [], laidByText := true, laidKinds := [.data, .data], laidTests := true, laidLooks := .later }
def NamesRenamesUptoCardSaid : Prop := Claim7.holds Tryd.pinned (.plain (OpenSpec.upto namesRenamesSpec)) namesRenamesUptoCard
end Rows
end Go.Proofs.YtkdoojndighdjaaDoor
