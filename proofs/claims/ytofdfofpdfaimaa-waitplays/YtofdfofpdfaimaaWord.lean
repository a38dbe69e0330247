/- The walks of lex.wordEnd and of its references: where the word ends that begins at a place, for every text. -/
import Derived.Test.YtofdfofpdfaimaaProg
import Derived.Test.YtofdfofpdfaimaaPlain2
import Derived.Test.YtofdfofpdfaimaaNum
import Derived.WalkKit
import Derived.WalkSpells
import Derived.WalkLawsBesides
namespace Go.Proofs.Ytofdfofpdfaimaa
open Go.RowKit

theorem ret_int {k : IntKind} {a b : Int} (h : a = b) : Ending.returned (.int k a) = .returned (.int k b) := by rw [h]
theorem ret_bool {a b : Bool} (h : a = b) : Ending.returned (.bool a) = .returned (.bool b) := by rw [h]

theorem wordB_nil : wordB [] = false := by simp [wordB]
theorem wordB_cons_neg {c : UInt8} {r : List UInt8} (h : isSm c = false) : wordB (c :: r) = false := by simp [wordB, wLen_cons_neg h]
theorem wordB_cons_pos {c : UInt8} {r : List UInt8} (h : isSm c = true) : wordB (c :: r) = decide (ptLen r = r.length) := by simp [wordB, wLen_cons_pos h]

set_option maxHeartbeats 1000000 in
theorem word_any (s : ByteArray) (w : World) (hs : s.size ≤ maxLen) :
    Calls Try.prog 59 #[.string s] w fun e w' => e = .returned (.bool (wordB s.data.toList)) ∧ w' = w := by
  unfold maxLen at hs
  by_cases hz : s.size = 0
  · obtain rfl := bytes_nil hz
    go_enter Try.func59, Try.ntmps59
    go_wp2
    go_ret
    exact ⟨ret_bool wordB_nil.symm, rfl⟩
  have h0 : 0 < s.size := by omega
  obtain ⟨hn1, hn2⟩ := bytes_ne h0
  have HC : Hid (s.data.toList = s[0] :: s.data.toList.drop 1) := bytes_cons h0
  by_cases hsm : 97 ≤ (s[0].toNat : Int) ∧ (s[0].toNat : Int) ≤ 122
  · obtain ⟨hs1, hs2⟩ := hsm
    have HW : Hid (wordB s.data.toList = decide (ptLen (s.data.toList.drop 1) = s.size - 1)) := by
      show _ = _
      rw [HC.out, wordB_cons_pos (isSm_t hs1 hs2)]; simp
    go_enter Try.func59, Try.ntmps59
    go_wp2
    go_loop [3] (fun i => ∃ k : Nat, 1 ≤ k ∧ k ≤ s.size ∧ i = .int .i64 k ∧ Hid (1 + ptLen (s.data.toList.drop 1) = k + ptLen (s.data.toList.drop k))) (fun i => s.size - (intOf i).toNat)
    case atStart => exact ⟨1, Nat.le_refl _, by omega, rfl, rfl⟩
    case round =>
      obtain ⟨k, hk, hks, rfl, HR⟩ := hrel
      by_cases hlt : k < s.size
      · have HD : Hid (s.data.toList.drop k = s[k] :: s.data.toList.drop (k + 1)) := drop_cons s k hlt
        have hc : (s[k].toNat : Int) ≤ 255 := by have := UInt8.toNat_lt s[k]; omega
        by_cases hp : (97 ≤ (s[k].toNat : Int) ∧ (s[k].toNat : Int) ≤ 122) ∨ (48 ≤ (s[k].toNat : Int) ∧ (s[k].toNat : Int) ≤ 57) ∨ (s[k].toNat : Int) = 95
        · have HP : Hid (isPt s[k] = true) := isPt_t hp
          have fin : ∃ k1 : Nat, 1 ≤ k1 ∧ k1 ≤ s.size ∧ Value.int IntKind.i64 ((k : Int) + 1) = .int .i64 k1 ∧ Hid (1 + ptLen (s.data.toList.drop 1) = k1 + ptLen (s.data.toList.drop k1)) := by
            refine ⟨k + 1, by omega, by omega, by go_num, ?_⟩
            show _ = _
            rw [HR.out, HD.out, ptLen_cons_pos HP.out]; omega
          have FIN : Hid _ := fin
          clear fin
          rcases hp with ⟨h1, h2⟩ | ⟨h1, h2⟩ | h1
          all_goals
            go_wp2
            go_round
            case rel => exact FIN.out
            case measure => simp [intOf]; omega
        · have HP : Hid (isPt s[k] = false) := isPt_f hp
          have a3b : ((s[k].toNat : Int) == 95) = false := by simp; omega
          rcases (by omega : 122 < (s[k].toNat : Int) ∨ (57 < (s[k].toNat : Int) ∧ (s[k].toNat : Int) < 97) ∨ (s[k].toNat : Int) < 48) with h1 | ⟨h1, h2⟩ | h1
          · have c1 : ¬ (s[k].toNat : Int) ≤ 122 := by omega
            have c2 : ¬ (s[k].toNat : Int) ≤ 57 := by omega
            clear hp
            go_wp2
            go_ret
            refine ⟨ret_bool ?_, rfl⟩
            rw [HW.out]
            have := HR.out
            rw [HD.out, ptLen_cons_neg HP.out] at this
            symm; rw [decide_eq_false_iff_not]; omega
          · have c1 : ¬ 97 ≤ (s[k].toNat : Int) := by omega
            have c2 : ¬ (s[k].toNat : Int) ≤ 57 := by omega
            clear hp
            go_wp2
            go_ret
            refine ⟨ret_bool ?_, rfl⟩
            rw [HW.out]
            have := HR.out
            rw [HD.out, ptLen_cons_neg HP.out] at this
            symm; rw [decide_eq_false_iff_not]; omega
          · have c1 : ¬ 97 ≤ (s[k].toNat : Int) := by omega
            have c2 : ¬ 48 ≤ (s[k].toNat : Int) := by omega
            clear hp
            go_wp2
            go_ret
            refine ⟨ret_bool ?_, rfl⟩
            rw [HW.out]
            have := HR.out
            rw [HD.out, ptLen_cons_neg HP.out] at this
            symm; rw [decide_eq_false_iff_not]; omega
      · go_wp2
        go_ret
        refine ⟨ret_bool ?_, rfl⟩
        rw [HW.out]
        have := HR.out
        rw [drop_end s k (by omega)] at this
        symm; rw [decide_eq_true_eq]; simp only [ptLen] at this; omega
  · have HW : Hid (wordB s.data.toList = false) := by
      show _ = _
      rw [HC.out, wordB_cons_neg (isSm_f hsm)]
    by_cases hs1 : 97 ≤ (s[0].toNat : Int)
    · have hs2 : ¬ (s[0].toNat : Int) ≤ 122 := fun h => hsm ⟨hs1, h⟩
      clear hsm
      go_enter Try.func59, Try.ntmps59
      go_wp2
      go_ret
      exact ⟨ret_bool HW.out.symm, rfl⟩
    · clear hsm
      go_enter Try.func59, Try.ntmps59
      go_wp2
      go_ret
      exact ⟨ret_bool HW.out.symm, rfl⟩

/-- A word that a local may have: not empty, at most MaxName bytes, all of it one word. -/
def localB (l : List UInt8) : Bool := decide (l.length ≤ 24) && wordB l

end Go.Proofs.Ytofdfofpdfaimaa
