/-
  DERIVED. GIVEN WITH THE SEED: THE CARDS: each row of YtffabehipcomfaaDoorRows.lean that lists a variable, with what it lists TIED to the program's text (the seventh form; the later family's looks); each row that meets fmt, with fmt's text TOLD by the authors' own Lean function (tested against real Go, not proved from fmt's source: count such statements apart). THE CARD IS WHAT COUNTS. Prove the row's statement (the work); the ties are given (YtffabehipcomfaaDoorTie.lean); close each card by the builder's one call (the guide's Derived/Test/ToyasCard.lean, 'card_holds'). Laid BY PROGRAM, IN A SANDBOX (cutbox-door.mjs). By AI agents, Wed Nov 11 2026. No macro, syntax, notation, axiom, sorry.
-/
import Derived.Test.YtffabehipcomfaaDoorRows
import GoSem.ClaimSeven
namespace Go.Proofs.YtffabehipcomfaaDoor
namespace Rows

/-- THE TIED CARD OF 'onceweblaw17.RegistryPlays'. -/
def registryPlaysCard : Claim7 := { stood := { row := registryPlaysRow, standIns := [], harness := (true, "68e350ebaee8c184ddbcd73dc5282b0b2e1a51faa0f8a543a616acac518abffe"), looks := true }, kinds := [], alts := [], laidByText := true, laidKinds := [.data, .data], laidTests := true, laidLooks := .later }
def RegistryPlaysCardSaid : Prop := Claim7.holds Tryd.pinned (.plain (OpenSpec.ofChange registryPlaysSpec)) registryPlaysCard

/-- THE TIED CARD OF 'onceweblaw17.RegistryGoes'. -/
def registryGoesCard : Claim7 := { stood := { row := registryGoesRow, standIns := [], harness := (true, "68e350ebaee8c184ddbcd73dc5282b0b2e1a51faa0f8a543a616acac518abffe"), looks := true }, kinds := [], alts := [], laidByText := true, laidKinds := [.data, .data], laidTests := true, laidLooks := .later }
def RegistryGoesCardSaid : Prop := Claim7.holds Tryd.pinned (.plain (OpenSpec.ofChange registryGoesSpec)) registryGoesCard

/-- THE TIED CARD OF 'onceweblaw17.RegistryKeeps'. -/
def registryKeepsCard : Claim7 := { stood := { row := registryKeepsRow, standIns := [], harness := (true, "68e350ebaee8c184ddbcd73dc5282b0b2e1a51faa0f8a543a616acac518abffe"), looks := true }, kinds := [], alts := [], laidByText := true, laidKinds := [.data, .data], laidTests := true, laidLooks := .later }
def RegistryKeepsCardSaid : Prop := Claim7.holds Tryd.pinned (.plain (OpenSpec.ofChange registryKeepsSpec)) registryKeepsCard

/-- THE SECOND FORM's CARD OF 'onceweblaw17.RegistryPlays'. -/
def registryPlaysUptoCard : Claim7 := { stood := { row := registryPlaysUptoRow, standIns := [], harness := (true, "68e350ebaee8c184ddbcd73dc5282b0b2e1a51faa0f8a543a616acac518abffe"), looks := true }, kinds := [], alts := [], laidByText := true, laidKinds := [.data, .data], laidTests := true, laidLooks := .later }
def RegistryPlaysUptoCardSaid : Prop := Claim7.holds Tryd.pinned (.plain (OpenSpec.upto registryPlaysSpec)) registryPlaysUptoCard

/-- THE SECOND FORM's CARD OF 'onceweblaw17.RegistryGoes'. -/
def registryGoesUptoCard : Claim7 := { stood := { row := registryGoesUptoRow, standIns := [], harness := (true, "68e350ebaee8c184ddbcd73dc5282b0b2e1a51faa0f8a543a616acac518abffe"), looks := true }, kinds := [], alts := [], laidByText := true, laidKinds := [.data, .data], laidTests := true, laidLooks := .later }
def RegistryGoesUptoCardSaid : Prop := Claim7.holds Tryd.pinned (.plain (OpenSpec.upto registryGoesSpec)) registryGoesUptoCard

/-- THE SECOND FORM's CARD OF 'onceweblaw17.RegistryKeeps'. -/
def registryKeepsUptoCard : Claim7 := { stood := { row := registryKeepsUptoRow, standIns := [], harness := (true, "68e350ebaee8c184ddbcd73dc5282b0b2e1a51faa0f8a543a616acac518abffe"), looks := true }, kinds := [], alts := [], laidByText := true, laidKinds := [.data, .data], laidTests := true, laidLooks := .later }
def RegistryKeepsUptoCardSaid : Prop := Claim7.holds Tryd.pinned (.plain (OpenSpec.upto registryKeepsSpec)) registryKeepsUptoCard
end Rows
end Go.Proofs.YtffabehipcomfaaDoor
