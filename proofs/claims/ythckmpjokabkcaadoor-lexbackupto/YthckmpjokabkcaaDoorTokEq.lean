/- The walk of the law's own 'tokens': two slices that hold the same tokens are told to. -/
import Derived.Test.YthckmpjokabkcaaDoorTok5
import Derived.Deep.QuietTactic
import Derived.BigQuiet
namespace Go.Proofs.YthckmpjokabkcaaDoor
open Go.RowKit

/-- These tokens lie from a place of a block on. -/
def TokAt (w : World) (g o : Nat) (l : List Tok) : Prop := ∀ k (h : k < l.length), w.cell? ⟨g, o + k * 4, none⟩ = some (.int .i64 l[k].kind) ∧ w.cell? ⟨g, o + k * 4 + 1, none⟩ = some (.int .i64 l[k].pos) ∧ w.cell? ⟨g, o + k * 4 + 2, none⟩ = some (.int .i64 l[k].num) ∧ w.cell? ⟨g, o + k * 4 + 3, none⟩ = some (.string ⟨l[k].text.toArray⟩)

set_option maxHeartbeats 2000000 in
theorem tokensEq_any (l : List Tok) (ga oa ca gb ob cb : Nat) (w : World) (hl : l.length ≤ 100000) (hA : TokAt w ga oa l) (hB : TokAt w gb ob l) :
    Calls Tryd.prog 10 #[.slice (some ⟨ga, oa, none⟩) l.length ca, .slice (some ⟨gb, ob, none⟩) l.length cb] w fun e w' => e = .returned (.bool true) ∧ ∃ n, w' = w.drewN n := by
  have HA : Hid _ := hA
  have HB : Hid _ := hB
  clear hA hB
  go_enter Tryd.func10, Tryd.ntmps10
  go_wp2
  go_loopw [5] (fun i wr => ∃ k n : Nat, k ≤ l.length ∧ i = .int .i64 k ∧ wr = w.drewN n) (fun i _ => l.length - (intOf i).toNat)
  case atStart => exact ⟨0, 0, Nat.zero_le _, rfl, rfl⟩
  case round =>
    obtain ⟨k, n, hk, rfl, rfl⟩ := hrel
    by_cases hlt : k < l.length
    · obtain ⟨a0, a1, a2, a3⟩ := HA.out k hlt
      obtain ⟨b0, b1, b2, b3⟩ := HB.out k hlt
      have hlt' : (k : Int) < (l.length : Int) := by omega
      generalize l[k] = t at *
      go_wp2
      go_quiet (fail)
      go_wp2
      all_goals
        go_roundw
        case rel => exact ⟨k + 1, _, by omega, by go_num, rfl⟩
        case measure => simp [intOf]; omega
    · go_wp2
      go_ret
      exact ⟨rfl, n, rfl⟩
end Go.Proofs.YthckmpjokabkcaaDoor
