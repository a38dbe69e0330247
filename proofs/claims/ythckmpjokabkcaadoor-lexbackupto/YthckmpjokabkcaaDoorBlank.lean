/- The walk of lex.pastBlank: where the blank ends that begins at a place. -/
import Derived.Test.YthckmpjokabkcaaDoorWord
namespace Go.Proofs.YthckmpjokabkcaaDoor
open Go.RowKit

/-- How many bytes of blank begin here; inside a comment, or not. -/
def pbGo : Bool → List UInt8 → Nat
  | _, [] => 0
  | cm, c :: r => if (c.toNat : Int) = 10 then pbGo false r + 1 else if cm = true ∨ (c.toNat : Int) = 9 ∨ (c.toNat : Int) = 13 ∨ (c.toNat : Int) = 32 then pbGo cm r + 1 else if (c.toNat : Int) = 35 then pbGo true r + 1 else 0
theorem pbGo_le : ∀ (cm : Bool) (l : List UInt8), pbGo cm l ≤ l.length
  | _, [] => Nat.le_refl _
  | cm, c :: r => by
    simp only [pbGo]
    have h1 := pbGo_le false r
    have h2 := pbGo_le cm r
    have h3 := pbGo_le true r
    split
    · simp; omega
    · split
      · simp; omega
      · split <;> simp <;> omega
theorem pb_nl {cm : Bool} {c : UInt8} {r : List UInt8} (h : (c.toNat : Int) = 10) : pbGo cm (c :: r) = pbGo false r + 1 := by simp only [pbGo]; rw [if_pos h]
theorem pb_go {cm : Bool} {c : UInt8} {r : List UInt8} (h0 : ¬ (c.toNat : Int) = 10) (h : cm = true ∨ (c.toNat : Int) = 9 ∨ (c.toNat : Int) = 13 ∨ (c.toNat : Int) = 32) : pbGo cm (c :: r) = pbGo cm r + 1 := by simp only [pbGo]; rw [if_neg h0, if_pos h]
theorem pb_cm {c : UInt8} {r : List UInt8} (h : (c.toNat : Int) = 35) : pbGo false (c :: r) = pbGo true r + 1 := by simp only [pbGo]; rw [if_neg (by omega), if_neg (by simp; omega), if_pos h]
theorem pb_no {c : UInt8} {r : List UInt8} (h : ¬ ((c.toNat : Int) = 10 ∨ (c.toNat : Int) = 9 ∨ (c.toNat : Int) = 13 ∨ (c.toNat : Int) = 32 ∨ (c.toNat : Int) = 35)) : pbGo false (c :: r) = 0 := by simp only [pbGo]; rw [if_neg (by omega), if_neg (by simp; omega), if_neg (by omega)]

set_option maxHeartbeats 2000000 in
theorem pastBlank_any (s : ByteArray) (n : Nat) (w : World) (hs : s.size ≤ maxLen) (hn : n ≤ s.size) :
    Calls Tryd.prog 23 #[.string s, .int .i64 n] w fun e w' => e = .returned (.int .i64 (n + pbGo false (s.data.toList.drop n) : Nat)) ∧ w' = w := by
  unfold maxLen at hs
  obtain ⟨E, hE⟩ : ∃ E, E = n + pbGo false (s.data.toList.drop n) := ⟨_, rfl⟩
  rw [← hE]
  have HE : Hid (E = n + pbGo false (s.data.toList.drop n)) := hE
  clear hE
  go_enter Tryd.func23, Tryd.ntmps23
  go_wp2; go_step3; go_wp2; go_step3; go_wp2
  go_loop [1, 5] (fun i m => ∃ (k : Nat) (cm : Bool), k ≤ s.size ∧ i = .int .i64 k ∧ m = .bool cm ∧ Hid (E = k + pbGo cm (s.data.toList.drop k))) (fun i _ => s.size - (intOf i).toNat)
  case atStart => exact ⟨n, false, hn, rfl, rfl, HE⟩
  case round =>
    obtain ⟨k, cm, hk, rfl, rfl, HR⟩ := hrel
    clear HE
    by_cases hlt : k < s.size
    · have HD : Hid (s.data.toList.drop k = s[k] :: s.data.toList.drop (k + 1)) := drop_cons s k hlt
      have hc : (s[k].toNat : Int) ≤ 255 := by have := UInt8.toNat_lt s[k]; omega
      by_cases h10 : (s[k].toNat : Int) = 10
      · go_wp2
        go_round
        case rel => exact ⟨k + 1, false, by omega, by go_num, rfl, by show _ = _; rw [HR.out, HD.out, pb_nl h10]; omega⟩
        case measure => simp [intOf]; omega
      have h10' : ((s[k].toNat : Int) == 10) = false := by simpa using h10
      cases cm
      · by_cases h9 : (s[k].toNat : Int) = 9
        · go_wp2
          go_round
          case rel => exact ⟨k + 1, false, by omega, by go_num, rfl, by show _ = _; rw [HR.out, HD.out, pb_go h10 (by omega)]; omega⟩
          case measure => simp [intOf]; omega
        have h9' : ((s[k].toNat : Int) == 9) = false := by simpa using h9
        by_cases h13 : (s[k].toNat : Int) = 13
        · go_wp2
          go_round
          case rel => exact ⟨k + 1, false, by omega, by go_num, rfl, by show _ = _; rw [HR.out, HD.out, pb_go h10 (by omega)]; omega⟩
          case measure => simp [intOf]; omega
        have h13' : ((s[k].toNat : Int) == 13) = false := by simpa using h13
        by_cases h32 : (s[k].toNat : Int) = 32
        · go_wp2
          go_round
          case rel => exact ⟨k + 1, false, by omega, by go_num, rfl, by show _ = _; rw [HR.out, HD.out, pb_go h10 (by omega)]; omega⟩
          case measure => simp [intOf]; omega
        have h32' : ((s[k].toNat : Int) == 32) = false := by simpa using h32
        by_cases h35 : (s[k].toNat : Int) = 35
        · go_wp2
          go_round
          case rel => exact ⟨k + 1, true, by omega, by go_num, rfl, by show _ = _; rw [HR.out, HD.out, pb_cm h35]; omega⟩
          case measure => simp [intOf]; omega
        have h35' : ((s[k].toNat : Int) == 35) = false := by simpa using h35
        have hE : E = k := by rw [HR.out, HD.out, pb_no (by omega)]; rfl
        clear h9 h13 h32 h35
        subst hE
        go_wp2
        go_ret
        exact ⟨rfl, rfl⟩
      · go_wp2
        go_round
        case rel => exact ⟨k + 1, true, by omega, by go_num, rfl, by show _ = _; rw [HR.out, HD.out, pb_go h10 (Or.inl rfl)]; omega⟩
        case measure => simp [intOf]; omega
    · have hE : E = k := by rw [HR.out, drop_end s k (by omega)]; cases cm <;> rfl
      subst hE
      go_wp2
      go_ret
      exact ⟨rfl, rfl⟩
end Go.Proofs.YthckmpjokabkcaaDoor
