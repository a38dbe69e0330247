/- The walks of lex.wordEnd and of its references: where the word ends that begins at a place, for every text. -/
import Derived.Test.YtkebflllbphkkaaDoorProg
import Derived.Test.YtkebflllbphkkaaDoorPlain2
import Derived.Test.YtkebflllbphkkaaDoorNum
import Derived.WalkKit
import Derived.WalkSpells
import Derived.WalkLawsBesides
namespace Go.Proofs.YtkebflllbphkkaaDoor
open Go.RowKit

theorem ret_int {k : IntKind} {a b : Int} (h : a = b) : Ending.returned (.int k a) = .returned (.int k b) := by rw [h]
theorem ret_bool {a b : Bool} (h : a = b) : Ending.returned (.bool a) = .returned (.bool b) := by rw [h]

set_option maxHeartbeats 1000000 in
theorem wordEnd_any (s : ByteArray) (n : Nat) (w : World) (hs : s.size ≤ maxLen) (hn : n ≤ s.size) :
    Calls Tryd.prog 85 #[.string s, .int .i64 n] w fun e w' => e = .returned (.int .i64 (n + wLen (s.data.toList.drop n) : Nat)) ∧ w' = w := by
  unfold maxLen at hs
  go_enter Tryd.func85, Tryd.ntmps85
  go_wp2; go_step3; go_wp2; go_step3; go_wp2
  go_loop [5] (fun i => ∃ k : Nat, n ≤ k ∧ k ≤ s.size ∧ i = .int .i64 k ∧ Hid (n + wLen (s.data.toList.drop n) = if k = n then n + wLen (s.data.toList.drop n) else k + ptLen (s.data.toList.drop k))) (fun i => s.size - (intOf i).toNat)
  case atStart => exact ⟨n, Nat.le_refl _, hn, rfl, by show _ = _; rw [if_pos rfl]⟩
  case round =>
    obtain ⟨k, hk, hks, rfl, HR⟩ := hrel
    by_cases hlt : k < s.size
    · have HD : Hid (s.data.toList.drop k = s[k] :: s.data.toList.drop (k + 1)) := drop_cons s k hlt
      have hc : (s[k].toNat : Int) ≤ 255 := by have := UInt8.toNat_lt s[k]; omega
      by_cases hsm : 97 ≤ (s[k].toNat : Int) ∧ (s[k].toNat : Int) ≤ 122
      · obtain ⟨h1, h2⟩ := hsm
        go_wp2
        go_round
        case rel =>
          refine ⟨k + 1, by omega, by omega, by go_num, ?_⟩
          show _ = _
          rw [if_neg (by omega)]
          by_cases hkn : k = n
          · subst hkn; rw [HD.out, wLen_cons_pos (isSm_t h1 h2)]; omega
          · rw [HR.out, if_neg hkn, HD.out, ptLen_cons_pos (isPt_t (Or.inl ⟨h1, h2⟩))]; omega
        case measure => simp [intOf]; omega
      · by_cases hkn : k = n
        · subst hkn
          go_wp2
          all_goals
            go_ret
            refine ⟨ret_int ?_, rfl⟩
            rw [HD.out, wLen_cons_neg (isSm_f hsm)]; rfl
        · by_cases h9 : (s[k].toNat : Int) = 95
          · go_wp2
            all_goals
              go_round
              case rel =>
                refine ⟨k + 1, by omega, by omega, by go_num, ?_⟩
                show _ = _
                rw [if_neg (by omega), HR.out, if_neg hkn, HD.out, ptLen_cons_pos (isPt_t (Or.inr (Or.inr h9)))]; omega
              case measure => simp [intOf]; omega
          · by_cases hd : 48 ≤ (s[k].toNat : Int) ∧ (s[k].toNat : Int) ≤ 57
            · obtain ⟨hd1, hd2⟩ := hd
              go_wp2
              all_goals
                go_round
                case rel =>
                  refine ⟨k + 1, by omega, by omega, by go_num, ?_⟩
                  show _ = _
                  rw [if_neg (by omega), HR.out, if_neg hkn, HD.out, ptLen_cons_pos (isPt_t (Or.inr (Or.inl ⟨hd1, hd2⟩)))]; omega
                case measure => simp [intOf]; omega
            · have hp : isPt s[k] = false := isPt_f (by omega)
              have HP : Hid (isPt s[k] = false) := hp
              have h9b : ((s[k].toNat : Int) == 95) = false := by simpa using h9
              clear hp h9
              go_wp2
              all_goals
                go_ret
                refine ⟨ret_int ?_, rfl⟩
                rw [HR.out, if_neg hkn, HD.out, ptLen_cons_neg HP.out]; rfl
    · go_wp2
      go_ret
      refine ⟨ret_int ?_, rfl⟩
      rw [HR.out]
      by_cases hkn : k = n
      · rw [if_pos hkn, hkn, drop_end s n (by omega)]; simp [wLen]
      · rw [if_neg hkn, drop_end s k (by omega)]; simp [ptLen]

theorem wordB_nil : wordB [] = false := by simp [wordB]
theorem wordB_cons_neg {c : UInt8} {r : List UInt8} (h : isSm c = false) : wordB (c :: r) = false := by simp [wordB, wLen_cons_neg h]
theorem wordB_cons_pos {c : UInt8} {r : List UInt8} (h : isSm c = true) : wordB (c :: r) = decide (ptLen r = r.length) := by simp [wordB, wLen_cons_pos h]

/-- A word that a local may have: not empty, at most MaxName bytes, all of it one word. -/
def localB (l : List UInt8) : Bool := decide (l.length ≤ 24) && wordB l

set_option maxHeartbeats 400000 in
theorem isWord_any (s : ByteArray) (w : World) (hs : s.size ≤ maxLen) :
    Calls Tryd.prog 82 #[.string s] w fun e w' => e = .returned (.bool (localB s.data.toList)) ∧ w' = w := by
  have hs' := hs
  unfold maxLen at hs
  by_cases hz : s.size = 0
  · obtain rfl := bytes_nil hz
    go_enter Tryd.func82, Tryd.ntmps82
    go_wp2
    go_ret
    exact ⟨ret_bool (by simp [localB, wordB_nil]), rfl⟩
  have h0 : 0 < s.size := by omega
  obtain ⟨hn1, hn2⟩ := bytes_ne h0
  by_cases hl : s.size ≤ 24
  · have HL : Hid (localB s.data.toList = decide (((0 + wLen (s.data.toList.drop 0) : Nat) : Int) = (s.size : Int))) := by
      show _ = _
      have : s.data.toList ≠ [] := by rw [bytes_cons h0]; simp
      have e : s.data.toList.length = s.size := by simp
      simp only [localB, wordB, e, hl, decide_true, Bool.true_and, List.drop_zero]
      rw [decide_eq_decide]
      constructor
      · intro h; omega
      · intro h; exact ⟨this, by omega⟩
    go_enter Tryd.func82, Tryd.ntmps82
    go_wp2_with (go_at_call 85; refine (wordEnd_any s 0 _ hs' (Nat.zero_le _)).mono ?_; rintro e w' ⟨rfl, rfl⟩)
    go_ret
    exact ⟨ret_bool (by rw [HL.out, Nat.zero_add, List.drop_zero]; rfl), rfl⟩
  · go_enter Tryd.func82, Tryd.ntmps82
    go_wp2
    go_ret
    exact ⟨ret_bool (by simp [localB, hl]), rfl⟩
end Go.Proofs.YtkebflllbphkkaaDoor
