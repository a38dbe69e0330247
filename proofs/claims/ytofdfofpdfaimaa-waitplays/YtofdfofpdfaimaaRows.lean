/-
  No cell of these rows narrows 'for every input' (looked for: loops, veiled, ifaces, maps, wideKeys, modest, calm, conditions, laid).
  DERIVED. THE GIVEN ROWS OF THIS SEAT. 4 by the template 'for every input the law returns true; each argument reads behind the call as it read before'; 0 by the template 'total and deterministic' (their statements: YtofdfofpdfaimaaTotals.lean).
  GIVEN WITH THE SEED: the statements are not yours to turn. If you find one false, say at which input.
  Laid BY PROGRAM, IN A SANDBOX (cutbox-rows.mjs): the forced cells as the released guide's own fill.sh prints them over the translation ab0b916ffd57a4f7… (all of the seat's roots in one cut). By AI agents, Wed Nov 11 2026. No macro, syntax, notation, axiom, sorry.
-/
import Derived.Test.YtofdfofpdfaimaaChecked
import GoSem.Claim
import GoSem.ClaimJoined
import GoSem.ClaimMapViews
import Derived.JoinedTies
import Derived.KernelRfl
namespace Go.Proofs.Ytofdfofpdfaimaa
/- THE CELL 'sum', in the pinned program and in every row, IS THE sha256 OF THE DUMP (.gsa) THAT YtofdfofpdfaimaaProg.lean LOADS. Nothing in Lean hashes anything: it is a label: what it is worth is what the hold of that sum in a sandbox is worth. -/
noncomputable def Try.pinned : Pinned := { name := "ytofdfofpdfaimaa", sum := "ab0b916ffd57a4f746e027972d3d566d896b5b063efa6a817148533785e4a8ac", checked := Try.checked }
namespace Rows
def none {H : Type} : Left H := { results := [], args := [] }

/-- 'onceweblaw13.WaitPlays': WHATEVER THE INPUT: true; the input reads as it did. -/
def waitPlaysSpec : ChangeSpec := { name := "waitPlays", fn := fun _ => fun
  | [d] => { results := [.lit (.bool true)], args := [d] }
  | _ => none }
def waitPlaysRow : OpenClaim := { program := "ytofdfofpdfaimaa", sum := "ab0b916ffd57a4f746e027972d3d566d896b5b063efa6a817148533785e4a8ac", func := "onceweb/onceweblaw13.WaitPlays", spec := "waitPlays", unfollowed := true, recurses := true, apart := false }
def WaitPlaysSaid : Prop := waitPlaysRow.holds Try.pinned (OpenSpec.ofChange waitPlaysSpec)

/-- ITS FALSE NEIGHBOUR: 'it returns false'. Refute it at one input. -/
def waitPlaysWrong : ChangeSpec := { name := "waitPlays", fn := fun _ => fun
  | [d] => { results := [.lit (.bool false)], args := [d] }
  | _ => none }
def WaitPlaysWrongFalsely : Prop := waitPlaysRow.holds Try.pinned (OpenSpec.ofChange waitPlaysWrong)

/-- 'onceweblaw13.WaitEach': WHATEVER THE INPUT: true; the input reads as it did. -/
def waitEachSpec : ChangeSpec := { name := "waitEach", fn := fun _ => fun
  | [d1, d2] => { results := [.lit (.bool true)], args := [d1, d2] }
  | _ => none }
def waitEachRow : OpenClaim := { program := "ytofdfofpdfaimaa", sum := "ab0b916ffd57a4f746e027972d3d566d896b5b063efa6a817148533785e4a8ac", func := "onceweb/onceweblaw13.WaitEach", spec := "waitEach", unfollowed := true, recurses := true, apart := false }
def WaitEachSaid : Prop := waitEachRow.holds Try.pinned (OpenSpec.ofChange waitEachSpec)

/-- ITS FALSE NEIGHBOUR: 'it returns false'. Refute it at one input. -/
def waitEachWrong : ChangeSpec := { name := "waitEach", fn := fun _ => fun
  | [d1, d2] => { results := [.lit (.bool false)], args := [d1, d2] }
  | _ => none }
def WaitEachWrongFalsely : Prop := waitEachRow.holds Try.pinned (OpenSpec.ofChange waitEachWrong)

/-- 'onceweblaw13.WaitFirst': WHATEVER THE INPUT: true; the input reads as it did. -/
def waitFirstSpec : ChangeSpec := { name := "waitFirst", fn := fun _ => fun
  | [d1, d2] => { results := [.lit (.bool true)], args := [d1, d2] }
  | _ => none }
def waitFirstRow : OpenClaim := { program := "ytofdfofpdfaimaa", sum := "ab0b916ffd57a4f746e027972d3d566d896b5b063efa6a817148533785e4a8ac", func := "onceweb/onceweblaw13.WaitFirst", spec := "waitFirst", unfollowed := true, recurses := true, apart := false }
def WaitFirstSaid : Prop := waitFirstRow.holds Try.pinned (OpenSpec.ofChange waitFirstSpec)

/-- ITS FALSE NEIGHBOUR: 'it returns false'. Refute it at one input. -/
def waitFirstWrong : ChangeSpec := { name := "waitFirst", fn := fun _ => fun
  | [d1, d2] => { results := [.lit (.bool false)], args := [d1, d2] }
  | _ => none }
def WaitFirstWrongFalsely : Prop := waitFirstRow.holds Try.pinned (OpenSpec.ofChange waitFirstWrong)

/-- 'onceweblaw13.WaitSums': WHATEVER THE INPUT: true; the input reads as it did. -/
def waitSumsSpec : ChangeSpec := { name := "waitSums", fn := fun _ => fun
  | [d1, d2] => { results := [.lit (.bool true)], args := [d1, d2] }
  | _ => none }
def waitSumsRow : OpenClaim := { program := "ytofdfofpdfaimaa", sum := "ab0b916ffd57a4f746e027972d3d566d896b5b063efa6a817148533785e4a8ac", func := "onceweb/onceweblaw13.WaitSums", spec := "waitSums", unfollowed := true, recurses := true, apart := false }
def WaitSumsSaid : Prop := waitSumsRow.holds Try.pinned (OpenSpec.ofChange waitSumsSpec)

/-- ITS FALSE NEIGHBOUR: 'it returns false'. Refute it at one input. -/
def waitSumsWrong : ChangeSpec := { name := "waitSums", fn := fun _ => fun
  | [d1, d2] => { results := [.lit (.bool false)], args := [d1, d2] }
  | _ => none }
def WaitSumsWrongFalsely : Prop := waitSumsRow.holds Try.pinned (OpenSpec.ofChange waitSumsWrong)

/- THE SECOND FORM. 'bulk': how many values and letters a reading holds, each counted each time it is reached (what is shared counts as often as it is met; a slice's spare places count too). A statement '..UptoSaid' is the law's where the arguments, and the package variables that the reading takes, are together of bulk at most 1048576: NARROWER than '..Said'. Prove '..Said' where nothing that the law and all that it calls make is longer than what came in: it says more and counts as full. Else prove '..UptoSaid'. A law counts once. -/
mutual
def uptoBulk {H : Type} : DataW H → Nat
  | .lit (.string bytes) => bytes.length + 1
  | .lit _ => 1
  | .nil => 1
  | .ptr d => uptoBulk d + 1
  | .slice elems spare => uptoBulkAll elems + uptoBulkAll spare + 1
  | .agg parts => uptoBulkAll parts + 1
  | .iface _ d => uptoBulk d + 1
  | .map entries => uptoBulkEntries entries + 1
  | .held _ => 1
def uptoBulkAll {H : Type} : List (DataW H) → Nat
  | [] => 0
  | d :: r => uptoBulk d + uptoBulkAll r
def uptoBulkEntries {H : Type} : List (Lit × DataW H) → Nat
  | [] => 0
  | x :: r => uptoBulkEntry x + uptoBulkEntries r
def uptoBulkEntry {H : Type} : Lit × DataW H → Nat
  | (.string bytes, d) => bytes.length + uptoBulk d + 1
  | (_, d) => uptoBulk d + 1
 end
def uptoSmall : (H : Type) → List (DataW H) → Bool := fun _ ds => decide (uptoBulkAll ds ≤ 1048576)
def OpenSpec.upto (s : _root_.Go.ChangeSpec) : _root_.Go.OpenSpec := { _root_.Go.OpenSpec.ofChange s with cond := some uptoSmall }

/-- 'onceweblaw13.WaitPlays', WHERE WHAT IT READS IS OF BULK AT MOST 1048576: true; the input reads as it did. -/
def waitPlaysUptoRow : OpenClaim := { program := "ytofdfofpdfaimaa", sum := "ab0b916ffd57a4f746e027972d3d566d896b5b063efa6a817148533785e4a8ac", func := "onceweb/onceweblaw13.WaitPlays", spec := "waitPlays", unfollowed := true, recurses := true, apart := false, narrowed := true }
def WaitPlaysUptoSaid : Prop := waitPlaysUptoRow.holds Try.pinned (OpenSpec.upto waitPlaysSpec)

/-- 'onceweblaw13.WaitEach', WHERE WHAT IT READS IS OF BULK AT MOST 1048576: true; the input reads as it did. -/
def waitEachUptoRow : OpenClaim := { program := "ytofdfofpdfaimaa", sum := "ab0b916ffd57a4f746e027972d3d566d896b5b063efa6a817148533785e4a8ac", func := "onceweb/onceweblaw13.WaitEach", spec := "waitEach", unfollowed := true, recurses := true, apart := false, narrowed := true }
def WaitEachUptoSaid : Prop := waitEachUptoRow.holds Try.pinned (OpenSpec.upto waitEachSpec)

/-- 'onceweblaw13.WaitFirst', WHERE WHAT IT READS IS OF BULK AT MOST 1048576: true; the input reads as it did. -/
def waitFirstUptoRow : OpenClaim := { program := "ytofdfofpdfaimaa", sum := "ab0b916ffd57a4f746e027972d3d566d896b5b063efa6a817148533785e4a8ac", func := "onceweb/onceweblaw13.WaitFirst", spec := "waitFirst", unfollowed := true, recurses := true, apart := false, narrowed := true }
def WaitFirstUptoSaid : Prop := waitFirstUptoRow.holds Try.pinned (OpenSpec.upto waitFirstSpec)

/-- 'onceweblaw13.WaitSums', WHERE WHAT IT READS IS OF BULK AT MOST 1048576: true; the input reads as it did. -/
def waitSumsUptoRow : OpenClaim := { program := "ytofdfofpdfaimaa", sum := "ab0b916ffd57a4f746e027972d3d566d896b5b063efa6a817148533785e4a8ac", func := "onceweb/onceweblaw13.WaitSums", spec := "waitSums", unfollowed := true, recurses := true, apart := false, narrowed := true }
def WaitSumsUptoSaid : Prop := waitSumsUptoRow.holds Try.pinned (OpenSpec.upto waitSumsSpec)

end Rows
end Go.Proofs.Ytofdfofpdfaimaa
