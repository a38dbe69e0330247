/- Waiting: tasks, tokens, right waiters. -/
import Derived.Test.YtofdfofpdfaimaaWb0
namespace Go.Proofs.Ytofdfofpdfaimaa
open Go.RowKit

def taskB (t : Int) : Bool := decide (0 ≤ t ∧ t < 128)
set_option maxHeartbeats 1000000 in
theorem isTask_any (t : Int) (w : World) : Calls Try.prog 46 #[.int .i64 t] w fun e w' => e = .returned (.bool (taskB t)) ∧ w' = w := by
  have H : Hid (taskB t = decide (0 ≤ t ∧ t < 128)) := rfl
  generalize taskB t = r at *
  by_cases h1 : 0 ≤ t
  · by_cases h2 : t < 128
    · go_enter Try.func46, Try.ntmps46
      go_wp2
      go_ret
      exact ⟨ret_bool (by rw [H.out]; simp [h1, h2]), rfl⟩
    · go_enter Try.func46, Try.ntmps46
      go_wp2
      go_ret
      exact ⟨ret_bool (by rw [H.out]; simp [h2]), rfl⟩
  · go_enter Try.func46, Try.ntmps46
    go_wp2
    go_ret
    exact ⟨ret_bool (by rw [H.out]; simp; omega), rfl⟩
set_option maxHeartbeats 1000000 in
theorem wsmall_any (c : UInt8) (w : World) : Calls Try.prog 64 #[.int .u8 (c.toNat : Int)] w fun e w' => e = .returned (.bool (isSm c)) ∧ w' = w := by
  have hc : (c.toNat : Int) ≤ 255 := by have := UInt8.toNat_lt c; omega
  have H : Hid (isSm c = decide (97 ≤ (c.toNat : Int) ∧ (c.toNat : Int) ≤ 122)) := rfl
  generalize isSm c = r at *
  generalize (c.toNat : Int) = x at *
  by_cases h1 : 97 ≤ x
  · by_cases h2 : x ≤ 122
    · go_enter Try.func64, Try.ntmps64
      go_wp2
      go_ret
      exact ⟨ret_bool (by rw [H.out]; simp [h1, h2]), rfl⟩
    · go_enter Try.func64, Try.ntmps64
      go_wp2
      go_ret
      exact ⟨ret_bool (by rw [H.out]; simp [h2]), rfl⟩
  · go_enter Try.func64, Try.ntmps64
    go_wp2
    go_ret
    exact ⟨ret_bool (by rw [H.out]; simp; omega), rfl⟩
set_option maxHeartbeats 1000000 in
theorem wdigit_any (c : UInt8) (w : World) : Calls Try.prog 65 #[.int .u8 (c.toNat : Int)] w fun e w' => e = .returned (.bool (isDg c)) ∧ w' = w := by
  have hc : (c.toNat : Int) ≤ 255 := by have := UInt8.toNat_lt c; omega
  have H : Hid (isDg c = decide (48 ≤ (c.toNat : Int) ∧ (c.toNat : Int) ≤ 57)) := rfl
  generalize isDg c = r at *
  generalize (c.toNat : Int) = x at *
  by_cases h1 : 48 ≤ x
  · by_cases h2 : x ≤ 57
    · go_enter Try.func65, Try.ntmps65
      go_wp2
      go_ret
      exact ⟨ret_bool (by rw [H.out]; simp [h1, h2]), rfl⟩
    · go_enter Try.func65, Try.ntmps65
      go_wp2
      go_ret
      exact ⟨ret_bool (by rw [H.out]; simp [h2]), rfl⟩
  · go_enter Try.func65, Try.ntmps65
    go_wp2
    go_ret
    exact ⟨ret_bool (by rw [H.out]; simp; omega), rfl⟩
theorem isPt_or (c : UInt8) : isPt c = (isSm c || isDg c || decide ((c.toNat : Int) = 95)) := by
  unfold isPt isSm isDg
  rw [Bool.eq_iff_iff]
  simp [or_assoc]
/-- A text is empty, or a name. -/
def tokB (s : ByteArray) : Bool := decide (s.size = 0) || localB s.data.toList
/-- How far the text goes on as a word, from byte k on; where k is 0 the first one is small. -/
def tokAt (s : ByteArray) (k : Nat) : Bool := if k = 0 then decide (s.size = 0) || wordB s.data.toList else decide (ptLen (s.data.toList.drop k) = s.size - k)
theorem tokB_at {s : ByteArray} (h : s.size ≤ 24) : tokB s = tokAt s 0 := by
  unfold tokB tokAt localB
  rw [if_pos rfl, decide_eq_true (p := s.data.toList.length ≤ 24) (by simpa using h), Bool.true_and]
theorem tokB_long {s : ByteArray} (h : 24 < s.size) : tokB s = false := by
  unfold tokB localB
  rw [decide_eq_false (by omega), decide_eq_false (by simp; omega)]; rfl
theorem tokAt_end (s : ByteArray) : tokAt s s.size = true := by
  unfold tokAt
  split
  · rename_i h; simp [h]
  · rw [drop_end s _ (Nat.le_refl _), decide_eq_true_eq]; simp [ptLen]
theorem tokAt_zero {s : ByteArray} (h : 0 < s.size) : tokAt s 0 = (isSm s[0] && tokAt s 1) := by
  unfold tokAt
  rw [if_pos rfl, if_neg (by decide), decide_eq_false (by omega), Bool.false_or, bytes_cons h]
  cases hs : isSm s[0] with
  | true => rw [wordB_cons_pos hs, Bool.true_and]; simp
  | false => rw [wordB_cons_neg hs, Bool.false_and]
theorem tokAt_next {s : ByteArray} {k : Nat} (h : k < s.size) (hk : k ≠ 0) : tokAt s k = (isPt s[k] && tokAt s (k + 1)) := by
  unfold tokAt
  rw [if_neg hk, if_neg (by omega), drop_cons s k h]
  have := ptLen_le (s.data.toList.drop (k + 1))
  have hl : (s.data.toList.drop (k + 1)).length = s.size - (k + 1) := by simp
  cases hp : isPt s[k] with
  | true => rw [ptLen_cons_pos hp, Bool.true_and]; exact decide_eq_decide.2 (by omega)
  | false => rw [ptLen_cons_neg hp, Bool.false_and, decide_eq_false_iff_not]; omega
set_option maxHeartbeats 4000000 in
theorem isToken_any (s : ByteArray) (w : World) (hs : s.size ≤ maxLen) : Calls Try.prog 51 #[.string s] w fun e w' => e = .returned (.bool (tokB s)) ∧ w' = w := by
  unfold maxLen at hs
  have SM := hid (fun c => wsmall_any c w)
  have DG := hid (fun c => wdigit_any c w)
  by_cases hl : 24 < s.size
  · have HR := hid (tokB_long hl)
    have hl2 : (24 : Int) < (s.size : Int) := by omega
    clear SM DG
    go_enter Try.func51, Try.ntmps51
    go_wp2
    go_ret
    exact ⟨ret_bool HR.out.symm, rfl⟩
  have hl2 : ¬ (24 : Int) < (s.size : Int) := by omega
  have HR := hid (tokB_at (show s.size ≤ 24 by omega))
  generalize tokB s = R at *
  go_enter Try.func51, Try.ntmps51
  go_wp2
  go_loop [9] (fun i => ∃ k : Nat, k ≤ s.size ∧ i = .int .i64 k ∧ Hid (R = tokAt s k)) (fun i => s.size - (intOf i).toNat)
  case atStart => exact ⟨0, Nat.zero_le _, rfl, HR⟩
  case round =>
    obtain ⟨k, hk, rfl, HK⟩ := hrel
    clear HR
    by_cases hlt : k < s.size
    · have hpo := isPt_or s[k]
      have A1 := hid (SM.out s[k])
      have A2 := hid (DG.out s[k])
      have N0 : Hid (k = 0 → tokAt s k = (isSm s[k] && tokAt s (k + 1))) := fun e => by subst e; exact tokAt_zero hlt
      have N1 : Hid (k ≠ 0 → tokAt s k = (isPt s[k] && tokAt s (k + 1))) := fun e => tokAt_next hlt e
      generalize isPt s[k] = pt at *
      cases hs1 : isSm s[k] with
      | true =>
        rw [hs1] at A1 hpo N0
        have HN : Hid (R = tokAt s (k + 1)) := by
          show _ = _
          rw [HK.out]
          by_cases e : k = 0
          · rw [N0.out e, Bool.true_and]
          · rw [N1.out e, hpo]; simp
        clear hpo N0 N1 hs1 A2 HK
        go_wp2_with (go_at_call 64; refine A1.out.mono ?_; rintro e w2 ⟨rfl, hw2⟩; subst w2)
        go_round
        case rel => exact ⟨k + 1, by omega, by go_num, HN⟩
        case measure => simp [intOf]; omega
      | false =>
        rw [hs1] at A1 hpo N0
        by_cases hk0 : k = 0
        · have HN : Hid (R = false) := by
            show _ = _
            rw [HK.out, N0.out hk0, Bool.false_and]
          have hz1 : ((k : Int) == 0) = true := by simpa using hk0
          clear hpo N0 N1 hs1 A2 HK hk0
          go_wp2_with (go_at_call 64; refine A1.out.mono ?_; rintro e w2 ⟨rfl, hw2⟩; subst w2)
          go_ret
          exact ⟨ret_bool HN.out.symm, rfl⟩
        · have hz1 : ((k : Int) == 0) = false := by simpa using hk0
          have hz2 : ¬ (k : Int) = 0 := by omega
          cases hs2 : isDg s[k] with
          | true =>
            rw [hs2] at A2 hpo
            have HN : Hid (R = tokAt s (k + 1)) := by
              show _ = _
              rw [HK.out, N1.out hk0, hpo]; simp
            clear hpo N0 N1 hs1 hs2 HK hk0
            go_wp2_with (first | (go_at_call 64; refine A1.out.mono ?_; rintro e w2 ⟨rfl, hw2⟩; subst w2) | (go_at_call 65; refine A2.out.mono ?_; rintro e w2 ⟨rfl, hw2⟩; subst w2))
            go_round
            case rel => exact ⟨k + 1, by omega, by go_num, HN⟩
            case measure => simp [intOf]; omega
          | false =>
            rw [hs2] at A2 hpo
            by_cases h9 : (s[k].toNat : Int) = 95
            · have HN : Hid (R = tokAt s (k + 1)) := by
                show _ = _
                rw [HK.out, N1.out hk0, hpo]; simp [h9]
              have h9b : ((s[k].toNat : Int) == 95) = true := by simpa using h9
              have h9c : ((s[k].toNat : Int) != 95) = false := by simpa using h9
              clear h9 hpo N0 N1 hs1 hs2 HK hk0
              go_wp2_with (first | (go_at_call 64; refine A1.out.mono ?_; rintro e w2 ⟨rfl, hw2⟩; subst w2) | (go_at_call 65; refine A2.out.mono ?_; rintro e w2 ⟨rfl, hw2⟩; subst w2))
              go_round
              case rel => exact ⟨k + 1, by omega, by go_num, HN⟩
              case measure => simp [intOf]; omega
            · have HN : Hid (R = false) := by
                show _ = _
                rw [HK.out, N1.out hk0, hpo]; simp [h9]
              have h9b : ((s[k].toNat : Int) == 95) = false := by simpa using h9
              have h9c : ((s[k].toNat : Int) != 95) = true := by simpa using h9
              clear hpo N0 N1 hs1 hs2 HK hk0
              go_wp2_with (first | (go_at_call 64; refine A1.out.mono ?_; rintro e w2 ⟨rfl, hw2⟩; subst w2) | (go_at_call 65; refine A2.out.mono ?_; rintro e w2 ⟨rfl, hw2⟩; subst w2))
              go_ret
              exact ⟨ret_bool HN.out.symm, rfl⟩
    · obtain rfl : k = s.size := by omega
      have FIN : Hid (R = true) := by show _ = _; rw [HK.out, tokAt_end]
      clear HK
      go_wp2
      go_ret
      exact ⟨ret_bool FIN.out.symm, rfl⟩
/-- What is wrong with a waiter. -/
def chkE (x : Wt) : Int := if taskB x.task = false then 1 else if 4096 < x.key.size then 3 else if tokB x.tok = false then 2 else if x.kind < 0 ∨ 7 < x.kind then 1 else 0
set_option maxHeartbeats 4000000 in
theorem check_any (x : Wt) (w : World) (hk : x.key.size ≤ maxLen) (hs : x.tok.size ≤ maxLen) : Calls Try.prog 31 #[.agg #[.int .i64 x.task, .int .i64 x.kind, .string x.key, .string x.tok]] w fun e w' => e = .returned (.int .i64 (chkE x)) ∧ Below w.heap.size w w' := by
  have HE : Hid (chkE x = if taskB x.task = false then 1 else if 4096 < x.key.size then 3 else if tokB x.tok = false then 2 else if x.kind < 0 ∨ 7 < x.kind then 1 else 0) := rfl
  have IT := fun w' => isTask_any x.task w'
  have TK := fun w' => isToken_any x.tok w' hs
  have AL := hid (fun ob => bal w ob)
  unfold maxLen at hk
  generalize chkE x = r at *
  obtain ⟨t, kd, ky, tk⟩ := x
  simp only at *
  cases h1 : taskB t with
  | false =>
    rw [h1] at IT HE
    clear h1
    go_enter Try.func31, Try.ntmps31
    go_wp2_with (go_at_call 46; refine (IT _).mono ?_; rintro e w' ⟨rfl, hw⟩; rw [hw]; clear hw)
    go_ret
    exact ⟨ret_int (by rw [HE.out]; rfl), AL.out _⟩
  | true =>
    rw [h1] at IT HE
    clear h1
    by_cases h2 : 4096 < ky.size
    · have h2' : (4096 : Int) < (ky.size : Int) := by omega
      go_enter Try.func31, Try.ntmps31
      go_wp2_with (go_at_call 46; refine (IT _).mono ?_; rintro e w' ⟨rfl, hw⟩; rw [hw]; clear hw)
      go_ret
      exact ⟨ret_int (by rw [HE.out]; simp [h2]), AL.out _⟩
    · have h2' : ¬ (4096 : Int) < (ky.size : Int) := by omega
      cases h3 : tokB tk with
      | false =>
        rw [h3] at TK HE
        clear h3
        go_enter Try.func31, Try.ntmps31
        go_wp2_with (first | (go_at_call 46; refine (IT _).mono ?_; rintro e w' ⟨rfl, hw⟩; rw [hw]; clear hw) | (go_at_call 51; refine (TK _).mono ?_; rintro e w' ⟨rfl, hw⟩; rw [hw]; clear hw))
        go_ret
        exact ⟨ret_int (by rw [HE.out]; simp [h2]), AL.out _⟩
      | true =>
        rw [h3] at TK HE
        clear h3
        by_cases h4 : kd < 0
        · go_enter Try.func31, Try.ntmps31
          go_wp2_with (first | (go_at_call 46; refine (IT _).mono ?_; rintro e w' ⟨rfl, hw⟩; rw [hw]; clear hw) | (go_at_call 51; refine (TK _).mono ?_; rintro e w' ⟨rfl, hw⟩; rw [hw]; clear hw))
          go_ret
          exact ⟨ret_int (by rw [HE.out]; simp [h2, h4]), AL.out _⟩
        · by_cases h5 : 7 < kd
          · go_enter Try.func31, Try.ntmps31
            go_wp2_with (first | (go_at_call 46; refine (IT _).mono ?_; rintro e w' ⟨rfl, hw⟩; rw [hw]; clear hw) | (go_at_call 51; refine (TK _).mono ?_; rintro e w' ⟨rfl, hw⟩; rw [hw]; clear hw))
            go_ret
            exact ⟨ret_int (by rw [HE.out]; simp [h2, h5]), AL.out _⟩
          · go_enter Try.func31, Try.ntmps31
            go_wp2_with (first | (go_at_call 46; refine (IT _).mono ?_; rintro e w' ⟨rfl, hw⟩; rw [hw]; clear hw) | (go_at_call 51; refine (TK _).mono ?_; rintro e w' ⟨rfl, hw⟩; rw [hw]; clear hw))
            go_ret
            exact ⟨ret_int (by rw [HE.out]; simp [h2, h4, h5]), AL.out _⟩
end Go.Proofs.Ytofdfofpdfaimaa
