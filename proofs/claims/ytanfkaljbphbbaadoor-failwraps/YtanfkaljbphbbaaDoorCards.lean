/-
  DERIVED. GIVEN WITH THE SEED: THE CARDS: each row of YtanfkaljbphbbaaDoorRows.lean that lists a variable, with what it lists TIED to the program's text (the seventh form; the later family's looks); each row that meets fmt, with fmt's text TOLD by the authors' own Lean function (tested against real Go, not proved from fmt's source: count such statements apart). THE CARD IS WHAT COUNTS. Prove the row's statement (the work); the ties are given (YtanfkaljbphbbaaDoorTie.lean); close each card by the builder's one call (the guide's Derived/Test/ToyasCard.lean, 'card_holds'). Laid BY PROGRAM, IN A SANDBOX (cutbox-door.mjs). By AI agents, Wed Nov 11 2026. No macro, syntax, notation, axiom, sorry.
-/
import Derived.Test.YtanfkaljbphbbaaDoorRows
import GoSem.ClaimSeven
namespace Go.Proofs.YtanfkaljbphbbaaDoor
namespace Rows

/-- THE TIED CARD OF 'onceweblaw03.FailChecks'. -/
def failChecksCard : Claim7 := { stood := { row := failChecksRow, standIns := [], harness := (true, "bbbe13ca0f847c3f84a7505641b153ecc028b2fd5988e378d8f4a80f36c541c7"), looks := false }, kinds := [], alts := [], laidByText := true, laidKinds := [.data, .data, .data], laidTests := true, laidLooks := .later }
def FailChecksCardSaid : Prop := Claim7.holds Tryd.pinned (.plain (OpenSpec.ofChange failChecksSpec)) failChecksCard

/-- THE TIED CARD OF 'onceweblaw03.FailWraps'. -/
def failWrapsCard : Claim7 := { stood := { row := failWrapsRow, standIns := [], harness := (true, "bbbe13ca0f847c3f84a7505641b153ecc028b2fd5988e378d8f4a80f36c541c7"), looks := false }, kinds := [], alts := [], laidByText := true, laidKinds := [.data, .data, .data], laidTests := true, laidLooks := .later }
def FailWrapsCardSaid : Prop := Claim7.holds Tryd.pinned (.plain (OpenSpec.ofChange failWrapsSpec)) failWrapsCard

/-- THE TIED CARD OF 'onceweblaw03.FailParts'. -/
def failPartsCard : Claim7 := { stood := { row := failPartsRow, standIns := [], harness := (true, "bbbe13ca0f847c3f84a7505641b153ecc028b2fd5988e378d8f4a80f36c541c7"), looks := false }, kinds := [], alts := [], laidByText := true, laidKinds := [.data, .data, .data], laidTests := true, laidLooks := .later }
def FailPartsCardSaid : Prop := Claim7.holds Tryd.pinned (.plain (OpenSpec.ofChange failPartsSpec)) failPartsCard

/-- THE TIED CARD OF 'onceweblaw03.FailFinds'. -/
def failFindsCard : Claim7 := { stood := { row := failFindsRow, standIns := [], harness := (true, "bbbe13ca0f847c3f84a7505641b153ecc028b2fd5988e378d8f4a80f36c541c7"), looks := false }, kinds := [], alts := [], laidByText := true, laidKinds := [.data, .data, .data], laidTests := true, laidLooks := .later }
def FailFindsCardSaid : Prop := Claim7.holds Tryd.pinned (.plain (OpenSpec.ofChange failFindsSpec)) failFindsCard

/-- THE TIED CARD OF 'onceweblaw03.FailTexts'. -/
def failTextsCard : Claim7 := { stood := { row := failTextsRow, standIns := [], harness := (true, "bbbe13ca0f847c3f84a7505641b153ecc028b2fd5988e378d8f4a80f36c541c7"), looks := false }, kinds := [], alts := [], laidByText := true, laidKinds := [.data, .data, .data], laidTests := true, laidLooks := .later }
def FailTextsCardSaid : Prop := Claim7.holds Tryd.pinned (.plain (OpenSpec.ofChange failTextsSpec)) failTextsCard

/-- THE TIED CARD OF 'onceweblaw03.FailBack'. -/
def failBackCard : Claim7 := { stood := { row := failBackRow, standIns := [], harness := (true, "bbbe13ca0f847c3f84a7505641b153ecc028b2fd5988e378d8f4a80f36c541c7"), looks := false }, kinds := [], alts := [], laidByText := true, laidKinds := [.data, .data, .data], laidTests := true, laidLooks := .later }
def FailBackCardSaid : Prop := Claim7.holds Tryd.pinned (.plain (OpenSpec.ofChange failBackSpec)) failBackCard

/-- THE SECOND FORM's CARD OF 'onceweblaw03.FailChecks'. -/
def failChecksUptoCard : Claim7 := { stood := { row := failChecksUptoRow, standIns := [], harness := (true, "bbbe13ca0f847c3f84a7505641b153ecc028b2fd5988e378d8f4a80f36c541c7"), looks := false }, kinds := [], alts := [], laidByText := true, laidKinds := [.data, .data, .data], laidTests := true, laidLooks := .later }
def FailChecksUptoCardSaid : Prop := Claim7.holds Tryd.pinned (.plain (OpenSpec.upto failChecksSpec)) failChecksUptoCard

/-- THE SECOND FORM's CARD OF 'onceweblaw03.FailWraps'. -/
def failWrapsUptoCard : Claim7 := { stood := { row := failWrapsUptoRow, standIns := [], harness := (true, "bbbe13ca0f847c3f84a7505641b153ecc028b2fd5988e378d8f4a80f36c541c7"), looks := false }, kinds := [], alts := [], laidByText := true, laidKinds := [.data, .data, .data], laidTests := true, laidLooks := .later }
def FailWrapsUptoCardSaid : Prop := Claim7.holds Tryd.pinned (.plain (OpenSpec.upto failWrapsSpec)) failWrapsUptoCard

/-- THE SECOND FORM's CARD OF 'onceweblaw03.FailParts'. -/
def failPartsUptoCard : Claim7 := { stood := { row := failPartsUptoRow, standIns := [], harness := (true, "bbbe13ca0f847c3f84a7505641b153ecc028b2fd5988e378d8f4a80f36c541c7"), looks := false }, kinds := [], alts := [], laidByText := true, laidKinds := [.data, .data, .data], laidTests := true, laidLooks := .later }
def FailPartsUptoCardSaid : Prop := Claim7.holds Tryd.pinned (.plain (OpenSpec.upto failPartsSpec)) failPartsUptoCard

/-- THE SECOND FORM's CARD OF 'onceweblaw03.FailFinds'. -/
def failFindsUptoCard : Claim7 := { stood := { row := failFindsUptoRow, standIns := [], harness := (true, "bbbe13ca0f847c3f84a7505641b153ecc028b2fd5988e378d8f4a80f36c541c7"), looks := false }, kinds := [], alts := [], laidByText := true, laidKinds := [.data, .data, .data], laidTests := true, laidLooks := .later }
def FailFindsUptoCardSaid : Prop := Claim7.holds Tryd.pinned (.plain (OpenSpec.upto failFindsSpec)) failFindsUptoCard

/-- THE SECOND FORM's CARD OF 'onceweblaw03.FailTexts'. -/
def failTextsUptoCard : Claim7 := { stood := { row := failTextsUptoRow, standIns := [], harness := (true, "bbbe13ca0f847c3f84a7505641b153ecc028b2fd5988e378d8f4a80f36c541c7"), looks := false }, kinds := [], alts := [], laidByText := true, laidKinds := [.data, .data, .data], laidTests := true, laidLooks := .later }
def FailTextsUptoCardSaid : Prop := Claim7.holds Tryd.pinned (.plain (OpenSpec.upto failTextsSpec)) failTextsUptoCard

/-- THE SECOND FORM's CARD OF 'onceweblaw03.FailBack'. -/
def failBackUptoCard : Claim7 := { stood := { row := failBackUptoRow, standIns := [], harness := (true, "bbbe13ca0f847c3f84a7505641b153ecc028b2fd5988e378d8f4a80f36c541c7"), looks := false }, kinds := [], alts := [], laidByText := true, laidKinds := [.data, .data, .data], laidTests := true, laidLooks := .later }
def FailBackUptoCardSaid : Prop := Claim7.holds Tryd.pinned (.plain (OpenSpec.upto failBackSpec)) failBackUptoCard
end Rows
end Go.Proofs.YtanfkaljbphbbaaDoor
