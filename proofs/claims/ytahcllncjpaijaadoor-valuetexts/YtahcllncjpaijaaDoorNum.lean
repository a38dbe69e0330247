/- The walks of lex.Number and of its reference: both give what 'numN' and 'numB' say, for every text. -/
import Derived.Test.YtahcllncjpaijaaDoorProg
import Derived.Test.YtahcllncjpaijaaDoorPlain2
import Derived.WalkKit
import Derived.WalkSpells
import Derived.WalkLawsBesides
namespace Go.Proofs.YtahcllncjpaijaaDoor.L1
open Go.RowKit

theorem ret_tuple2 {k : IntKind} {a b : Int} {p q : Bool} (h : a = b) (h2 : p = q) : Ending.returned (.tuple #[.int k a, .bool p]) = .returned (.tuple #[.int k b, .bool q]) := by rw [h, h2]
theorem bytes_nil {s : ByteArray} (h : s.size = 0) : s = ByteArray.empty := by
  have : s.data = #[] := Array.eq_empty_of_size_eq_zero h
  cases s; simp at this; subst this; rfl
theorem bytes_ne {s : ByteArray} (h : 0 < s.size) : ¬ s.toList = [] ∧ s.toList.isEmpty = false := by
  have e : ¬ s.toList = [] := by
    rw [ByteArray.toList_eq]; intro e
    have : s.data.toList.length = 0 := by rw [e]; rfl
    have h2 : s.data.toList.length = s.size := by simp
    omega
  exact ⟨e, by cases h : s.toList with | nil => exact absurd h e | cons => rfl⟩
theorem bytes_cons {s : ByteArray} (h : 0 < s.size) : s.data.toList = s[0] :: s.data.toList.drop 1 := by
  have := drop_cons s 0 h; simpa using this
theorem numBad_zero {s : ByteArray} (h : 0 < s.size) (hz : (s[0].toNat : Int) = 48) (h1 : 1 < s.size) : numBad s.data.toList = true := by
  have hl : (s.data.toList.drop 1).length = s.size - 1 := by simp
  rw [bytes_cons h]
  match e : s.data.toList.drop 1, hl with
  | [], hl => simp at hl; omega
  | d :: r, _ => simp [numBad]; apply UInt8.toNat_inj.1; simp; omega
theorem numBad_not {s : ByteArray} (h : 0 < s.size) (hz : ¬ ((s[0].toNat : Int) = 48 ∧ 1 < s.size)) : numBad s.data.toList = false := by
  have hl : (s.data.toList.drop 1).length = s.size - 1 := by simp
  rw [bytes_cons h]
  match e : s.data.toList.drop 1, hl with
  | [], hl => simp [numBad]
  | d :: r, hl => 
    simp [numBad]; intro hc; apply hz; rw [hc]; refine ⟨rfl, ?_⟩; simp at hl; omega

set_option maxHeartbeats 400000 in
theorem number_any (s : ByteArray) (w : World) (hs : s.size ≤ maxLen) :
    Calls Tryd.prog 99 #[.string s] w fun e w' => e = .returned (.tuple #[.int .i64 (numN s.data.toList), .bool (numB s.data.toList)]) ∧ w' = w := by
  unfold maxLen at hs
  by_cases hz : s.size = 0
  · obtain rfl := bytes_nil hz
    go_enter Tryd.func99, Tryd.ntmps99
    go_wp2
    go_ret2
    exact ⟨rfl, rfl⟩
  have h0 : 0 < s.size := by omega
  obtain ⟨hn1, hn2⟩ := bytes_ne h0
  by_cases hb : (s[0].toNat : Int) = 48 ∧ 1 < s.size
  · obtain ⟨hb1, hb2⟩ := hb
    go_enter Tryd.func99, Tryd.ntmps99
    go_wp2
    go_ret2
    have hbad := numBad_zero h0 hb1 hb2
    exact ⟨ret_tuple2 (by simp [numN, hbad]) (by simp [numB, hbad]), rfl⟩
  have HB : Hid (numBad s.data.toList = false) := numBad_not h0 hb
  go_enter Tryd.func99, Tryd.ntmps99
  go_wp2
  all_goals
    clear hb hn1 hn2
    go_loop [4, 20] (fun n i => ∃ (k : Nat) (v : Int), k ≤ s.size ∧ i = .int .i64 k ∧ n = .int .i64 v ∧ 0 ≤ v ∧ v ≤ 9007199254740992 ∧ Hid (numGo s.data.toList 0 = numGo (s.data.toList.drop k) v)) (fun _ i => s.size - (intOf i).toNat)
    case atStart => exact ⟨0, 0, Nat.zero_le _, rfl, rfl, by omega, by omega, rfl⟩
    case round =>
      obtain ⟨k, v, hk, rfl, rfl, hv0, hv1, HR⟩ := hrel
      by_cases hlt : k < s.size
      · have HD : Hid (s.data.toList.drop k = s[k] :: s.data.toList.drop (k + 1)) := drop_cons s k hlt
        have hc : (s[k].toNat : Int) ≤ 255 := by have := UInt8.toNat_lt s[k]; omega
        by_cases hd : 48 ≤ (s[k].toNat : Int) ∧ (s[k].toNat : Int) ≤ 57
        · obtain ⟨hd1, hd2⟩ := hd
          by_cases hbig : 9007199254740992 < 10 * v + ((s[k].toNat : Int) - 48)
          · go_wp2
            go_ret2
            have e : numGo s.data.toList 0 = none := by rw [HR.out, HD.out]; simp only [numGo]; rw [if_pos ⟨hd1, hd2⟩, if_pos hbig]
            exact ⟨ret_tuple2 (by simp [numN, e]) (by simp [numB, e]), rfl⟩
          · go_wp2
            go_round
            case rel =>
              refine ⟨k + 1, _, by omega, by go_num, rfl, by omega, by omega, ?_⟩
              show numGo _ _ = _
              rw [HR.out, HD.out]; simp only [numGo]; rw [if_pos ⟨hd1, hd2⟩, if_neg hbig]
            case measure => simp [intOf]; omega
        · have e : numGo s.data.toList 0 = none := by rw [HR.out, HD.out]; simp only [numGo]; rw [if_neg hd]
          have HE : Hid (numGo s.data.toList 0 = none) := e
          clear e
          by_cases hd1 : 48 ≤ (s[k].toNat : Int)
          · have hd2 : ¬ (s[k].toNat : Int) ≤ 57 := fun h => hd ⟨hd1, h⟩
            clear hd
            go_wp2
            go_ret2
            exact ⟨ret_tuple2 (by simp [numN, HE.out]) (by simp [numB, HE.out]), rfl⟩
          · clear hd
            go_wp2
            go_ret2
            exact ⟨ret_tuple2 (by simp [numN, HE.out]) (by simp [numB, HE.out]), rfl⟩
      · go_wp2
        go_ret2
        have e : numGo s.data.toList 0 = some v := by rw [HR.out, drop_end s k (by omega)]; rfl
        exact ⟨ret_tuple2 (by simp [numN, HB.out, e]) (by simp [numB, HB.out, e]), rfl⟩
theorem numB_long {s : ByteArray} (h0 : 0 < s.size) (hb : ¬ ((s[0].toNat : Int) = 48 ∧ 1 < s.size)) (h : 19 < s.size) : numN s.data.toList = 0 ∧ numB s.data.toList = false := by
  have e := numGo_long s.data.toList (numBad_not h0 hb) (by simpa using h)
  exact ⟨by simp [numN, e], by simp [numB, e]⟩

set_option maxHeartbeats 400000 in
theorem whole_any (s : ByteArray) (w : World) (hs : s.size ≤ maxLen) :
    Calls Tryd.prog 66 #[.string s, .int .i64 9007199254740992] w fun e w' => e = .returned (.tuple #[.int .i64 (numN s.data.toList), .bool (numB s.data.toList)]) ∧ w' = w := by
  unfold maxLen at hs
  by_cases hz : s.size = 0
  · obtain rfl := bytes_nil hz
    go_enter Tryd.func66, Tryd.ntmps66
    go_wp2
    go_ret2
    exact ⟨rfl, rfl⟩
  have h0 : 0 < s.size := by omega
  obtain ⟨hn1, hn2⟩ := bytes_ne h0
  by_cases hlong : 19 < s.size
  · go_enter Tryd.func66, Tryd.ntmps66
    go_wp2
    go_ret2
    by_cases hb : (s[0].toNat : Int) = 48 ∧ 1 < s.size
    · have hbad := numBad_zero h0 hb.1 hb.2
      exact ⟨ret_tuple2 (by simp [numN, hbad]) (by simp [numB, hbad]), rfl⟩
    · have := numB_long h0 hb hlong
      exact ⟨ret_tuple2 this.1.symm this.2.symm, rfl⟩
  by_cases hb : (s[0].toNat : Int) = 48 ∧ 1 < s.size
  · obtain ⟨hb1, hb2⟩ := hb
    go_enter Tryd.func66, Tryd.ntmps66
    go_wp2
    go_ret2
    have hbad := numBad_zero h0 hb1 hb2
    exact ⟨ret_tuple2 (by simp [numN, hbad]) (by simp [numB, hbad]), rfl⟩
  have HB : Hid (numBad s.data.toList = false) := numBad_not h0 hb
  go_enter Tryd.func66, Tryd.ntmps66
  go_wp2
  all_goals
    clear hb hn1 hn2
    go_loop [6, 7] (fun n i => ∃ (k : Nat) (v : Int), k ≤ s.size ∧ i = .int .i64 k ∧ n = .int .i64 v ∧ 0 ≤ v ∧ v ≤ 9007199254740992 ∧ Hid (numGo s.data.toList 0 = numGo (s.data.toList.drop k) v)) (fun _ i => s.size - (intOf i).toNat)
    case atStart => exact ⟨0, 0, Nat.zero_le _, rfl, rfl, by omega, by omega, rfl⟩
    case round =>
      obtain ⟨k, v, hk, rfl, rfl, hv0, hv1, HR⟩ := hrel
      by_cases hlt : k < s.size
      · have HD : Hid (s.data.toList.drop k = s[k] :: s.data.toList.drop (k + 1)) := drop_cons s k hlt
        have hc : (s[k].toNat : Int) ≤ 255 := by have := UInt8.toNat_lt s[k]; omega
        by_cases hd : 48 ≤ (s[k].toNat : Int) ∧ (s[k].toNat : Int) ≤ 57
        · obtain ⟨hd1, hd2⟩ := hd
          by_cases hbig : (9007199254740992 - ((s[k].toNat : Int) - 48)) / 10 < v
          · go_wp2
            go_ret2
            have e : numGo s.data.toList 0 = none := by rw [HR.out, HD.out]; simp only [numGo]; rw [if_pos ⟨hd1, hd2⟩, if_pos (by omega)]
            exact ⟨ret_tuple2 (by simp [numN, e]) (by simp [numB, e]), rfl⟩
          · go_wp2
            go_round
            case rel =>
              refine ⟨k + 1, _, by omega, by go_num, rfl, by omega, by omega, ?_⟩
              show numGo _ _ = _
              rw [HR.out, HD.out]; simp only [numGo]; rw [if_pos ⟨hd1, hd2⟩, if_neg (by omega), Int.mul_comm 10 v]
            case measure => simp [intOf]; omega
        · have e : numGo s.data.toList 0 = none := by rw [HR.out, HD.out]; simp only [numGo]; rw [if_neg hd]
          have HE : Hid (numGo s.data.toList 0 = none) := e
          clear e
          by_cases hd1 : 48 ≤ (s[k].toNat : Int)
          · have hd2 : ¬ (s[k].toNat : Int) ≤ 57 := fun h => hd ⟨hd1, h⟩
            clear hd
            go_wp2
            go_ret2
            exact ⟨ret_tuple2 (by simp [numN, HE.out]) (by simp [numB, HE.out]), rfl⟩
          · clear hd
            go_wp2
            go_ret2
            exact ⟨ret_tuple2 (by simp [numN, HE.out]) (by simp [numB, HE.out]), rfl⟩
      · go_wp2
        go_ret2
        have e : numGo s.data.toList 0 = some v := by rw [HR.out, drop_end s k (by omega)]; rfl
        exact ⟨ret_tuple2 (by simp [numN, HB.out, e]) (by simp [numB, HB.out, e]), rfl⟩

end Go.Proofs.YtahcllncjpaijaaDoor.L1
