/- Values: numbers and texts compared; the first that is not 0; atoms compared. -/
import Derived.Test.YtahcllncjpaijaaVd1
import Derived.Test.YtahcllncjpaijaaVo2
import Derived.Laws.Cover1
import Derived.Sort.Walk0
namespace Go.Proofs.Ytahcllncjpaijaa
open Go.RowKit

theorem ret_i {a b : Int} (h : a = b) : Ending.returned (.int .i64 a) = .returned (.int .i64 b) := by rw [h]
set_option maxHeartbeats 2000000 in
theorem cmpInt_any (a b : Int) (w : World) : Calls Try.prog 48 #[.int .i64 a, .int .i64 b] w fun e w' => e = .returned (.int .i64 (sgn (a - b))) ∧ w' = w := by
  have IN : Hid (∀ (x : Int) w, Calls Try.prog 52 #[.int .i64 x] w fun e w' => e = .returned (.bool false) ∧ w' = w) := fun x w => by
    go_enter Try.func52, Try.ntmps52
    go_wp2_with fail
    go_ret
    exact ⟨by simp, rfl⟩
  by_cases h1 : a < b
  · have h0 : sgn (a - b) = -1 := sgn_neg (by omega)
    rw [h0]
    clear h0
    go_enter Try.func48, Try.ntmps48
    go_wp2_with (go_at_call 52; refine Calls.mono (IN.out _ _) ?_; rintro e w1 ⟨rfl, rfl⟩)
    go_ret
    exact ⟨rfl, rfl⟩
  · by_cases h2 : a > b
    · have h0 : sgn (a - b) = 1 := sgn_pos (by omega)
      rw [h0]
      clear h0
      go_enter Try.func48, Try.ntmps48
      go_wp2_with (go_at_call 52; refine Calls.mono (IN.out _ _) ?_; rintro e w1 ⟨rfl, rfl⟩)
      go_ret
      exact ⟨rfl, rfl⟩
    · obtain rfl : a = b := by omega
      rw [Int.sub_self, sgn_zero]
      go_enter Try.func48, Try.ntmps48
      go_wp2_with (go_at_call 52; refine Calls.mono (IN.out _ _) ?_; rintro e w1 ⟨rfl, rfl⟩)
      go_ret
      exact ⟨rfl, rfl⟩
theorem less_of {a b : ByteArray} : Op.bytesLess a.toList b.toList = decide (a.data.toList < b.data.toList) := by
  rw [bytesLess_eq, ByteArray.toList_eq, ByteArray.toList_eq]
theorem eq_of {a b : ByteArray} : (a.toList == b.toList) = decide (a = b) := by
  rw [ByteArray.toList_eq, ByteArray.toList_eq]
  by_cases h : a = b
  · subst h; simp
  · have : ¬ a.data.toList = b.data.toList := fun e => h (ba_ext e)
    simp only [h, decide_false, beq_eq_false_iff_ne, ne_eq]; exact this
set_option maxHeartbeats 2000000 in
theorem cmpStr_any (a b : ByteArray) (w : World) : Calls Try.prog 54 #[.string a, .string b] w fun e w' => e = .returned (.int .i64 (cmpT a b)) ∧ w' = w := by
  have IN : Hid (∀ (x : ByteArray) w, Calls Try.prog 56 #[.string x] w fun e w' => e = .returned (.bool false) ∧ w' = w) := fun x w => by
    go_enter Try.func56, Try.ntmps56
    go_wp2_with fail
    go_ret
    exact ⟨by simp, rfl⟩
  have hl : Op.bytesLess a.toList b.toList = decide (a.data.toList < b.data.toList) := less_of
  have he : (a.toList == b.toList) = decide (a = b) := eq_of
  have HC : Hid (cmpT a b = if a.data.toList < b.data.toList then -1 else if b.data.toList < a.data.toList then 1 else 0) := rfl
  by_cases h1 : a.data.toList < b.data.toList
  · rw [if_pos h1] at HC
    rw [HC.out]
    simp only [h1, decide_true] at hl
    clear HC he h1
    go_enter Try.func54, Try.ntmps54
    go_wp2_with (go_at_call 56; refine Calls.mono (IN.out _ _) ?_; rintro e w1 ⟨rfl, rfl⟩)
    go_ret
    exact ⟨rfl, rfl⟩
  · rw [if_neg h1] at HC
    simp only [h1, decide_false] at hl
    by_cases h2 : b.data.toList < a.data.toList
    · have hne : a ≠ b := fun e => by subst e; exact List.lt_irrefl _ h2
      rw [if_pos h2] at HC
      rw [HC.out]
      simp only [hne, decide_false] at he
      clear HC h1 h2 hne
      have hnot : ¬ (Op.bytesLess a.toList b.toList = true ∨ a.toList = b.toList) := by
        rintro (e | e)
        · rw [hl] at e; cases e
        · rw [e] at he; simp at he
      go_enter Try.func54, Try.ntmps54
      go_wp2_with (go_at_call 56; refine Calls.mono (IN.out _ _) ?_; rintro e w1 ⟨rfl, rfl⟩)
      go_ret
      exact ⟨rfl, rfl⟩
    · have heq : a = b := by
        rcases List.le_iff_lt_or_eq.1 (List.not_lt.1 h1) with e | e
        · exact absurd e h2
        · exact (ba_ext e).symm
      subst heq
      rw [if_neg h2] at HC
      rw [HC.out]
      clear HC h1 h2 he
      go_enter Try.func54, Try.ntmps54
      go_wp2_with (go_at_call 56; refine Calls.mono (IN.out _ _) ?_; rintro e w1 ⟨rfl, rfl⟩)
      go_ret
      exact ⟨rfl, rfl⟩
/-- The first that is not 0. -/
def orL : List Int → Int
  | [] => 0
  | a :: r => if a = 0 then orL r else a
set_option maxHeartbeats 2000000 in
theorem cmpOr_any (v : Value) (l : List Int) (w : World) (h : IS w v l) (hl : l.length ≤ 1000) : Calls Try.prog 47 #[v] w fun e w' => e = .returned (.int .i64 (orL l)) ∧ w' = w := by
  obtain ⟨p, cap, rfl⟩ := h.form
  have HS : Hid (IS w (.slice p l.length cap) l) := h
  have NX : Hid (∀ k (hk : k < l.length), orL (l.drop k) = if l[k] = 0 then orL (l.drop (k + 1)) else l[k]) := fun k hk => by rw [List.drop_eq_getElem_cons hk, orL]
  have D0 : Hid (orL l = orL (l.drop 0)) := rfl
  have FN : Hid (∀ k, ¬ k < l.length → orL (l.drop k) = 0) := fun k hk => by rw [List.drop_eq_nil_of_le (by omega), orL]
  generalize orL l = r at *
  clear h
  go_enter Try.func47, Try.ntmps47
  go_wp2_with fail
  go_loop [8] (fun v8 => ∃ k : Nat, v8 = .int .i64 k ∧ k ≤ l.length ∧ Hid (r = orL (l.drop k))) (fun v8 => l.length - (intOf v8).toNat)
  case atStart => exact ⟨0, rfl, Nat.zero_le _, D0⟩
  case round =>
    obtain ⟨k, rfl, hk, HD⟩ := hrel
    clear D0
    by_cases hlt : k < l.length
    · obtain ⟨X, o, e1, x0⟩ := HS.out.atI hlt
      obtain rfl : p = some ⟨X, o, none⟩ := e1
      have HN : Hid _ := NX.out k hlt
      rw [HN.out] at HD
      obtain ⟨x, hx⟩ : ∃ x, x = l[k] := ⟨_, rfl⟩
      rw [← hx] at x0 HD
      clear hx HN NX FN HS
      by_cases hz : x = 0
      · rw [if_pos hz] at HD
        subst hz
        go_wp2_with fail
        go_round
        case rel => exact ⟨k + 1, by go_num, by omega, HD⟩
        case measure => simp [intOf]; omega
      · rw [if_neg hz] at HD
        have hz2 : (x != 0) = true := by simp [hz]
        go_wp2_with fail
        go_ret
        exact ⟨by rw [HD.out]; rfl, rfl⟩
    · have HF := FN.out k hlt
      rw [HF] at HD
      clear NX FN HS HF
      go_wp2_with fail
      go_ret
      exact ⟨by rw [HD.out]; rfl, rfl⟩
theorem rank_any (k : Int) (w : World) : Calls Try.prog 53 #[.int .i64 k] w fun e w' => e = .returned (.int .i64 (rnk k)) ∧ w' = w := by
  have HR : Hid (rnk k = if k = 3 then 0 else k) := rfl
  by_cases h : k = 3
  · rw [if_pos h] at HR
    rw [HR.out]
    subst h
    clear HR
    go_enter Try.func53, Try.ntmps53
    go_wp2_with fail
    go_ret
    exact ⟨rfl, rfl⟩
  · rw [if_neg h] at HR
    rw [HR.out]
    have h2 : (k == 3) = false := by simp [h]
    clear HR
    go_enter Try.func53, Try.ntmps53
    go_wp2_with fail
    go_ret
    exact ⟨rfl, rfl⟩
/-- Two atoms held against each other. -/
def cmpA (a b : Atm) : Int := orI (sgn (rnk a.kind - rnk b.kind)) (orI (sgn (a.int - b.int)) (cmpT a.text b.text))
theorem orL_three (a b c : Int) : orL [a, b, c] = orI a (orI b c) := by
  unfold orI
  rw [orL, orL, orL, orL]
  by_cases h1 : a = 0
  · simp only [h1, if_true]
    by_cases h2 : b = 0
    · simp only [h2, if_true]
      split
      · rename_i h; exact h.symm
      · rfl
    · simp [h2]
  · simp [h1]
theorem orL_two (a b : Int) : orL [a, b] = orI a b := by
  unfold orI
  rw [orL, orL, orL]
  by_cases h1 : a = 0
  · simp only [h1, if_true]
    split
    · rename_i h; exact h.symm
    · rfl
  · simp [h1]
set_option maxHeartbeats 8000000 in
theorem compareAtoms_any (a b : Atm) (w : World) : Calls Try.prog 49 #[.agg #[.int .i64 a.kind, .int .i64 a.n, .int .i64 a.int, .string a.text], .agg #[.int .i64 b.kind, .int .i64 b.n, .int .i64 b.int, .string b.text]] w fun e w' => e = .returned (.int .i64 (cmpA a b)) ∧ Below w.heap.size w w' := by
  obtain ⟨k1, n1, i1, t1⟩ := a
  obtain ⟨k2, n2, i2, t2⟩ := b
  have HA : Hid (cmpA ⟨k1, n1, i1, t1⟩ ⟨k2, n2, i2, t2⟩ = orL [sgn (rnk k1 - rnk k2), sgn (i1 - i2), cmpT t1 t2]) := by show _ = _; rw [orL_three]; rfl
  generalize cmpA ⟨k1, n1, i1, t1⟩ ⟨k2, n2, i2, t2⟩ = r at *
  simp only
  have IA : Hid (∀ (w0 : World) (x1 x2 x3 : Int), IS (w0.alloc (.cells #[.int .i64 x1, .int .i64 x2, .int .i64 x3] 3)) (.slice (some ⟨w0.heap.size, 0, none⟩) 3 3) [x1, x2, x3]) := fun w0 x1 x2 x3 => (OwnG.lit KI w0 [x1, x2, x3] _ rfl rfl (by show 3 ≤ maxLen; unfold maxLen; omega)).gs KI_ok.len
  have ID : Hid (∀ (w0 : World) (x1 x2 x3 : Int), IS (w0.alloc (.cells #[.int .i64 x1, .int .i64 x2, .int .i64 x3] 3)).drew (.slice (some ⟨w0.heap.size, 0, none⟩) 3 3) [x1, x2, x3]) := fun w0 x1 x2 x3 => (IA.out w0 x1 x2 x3).below ((Below.refl _ _).drew)
  have DN : Hid (∀ (W : World) ob, Below w.heap.size w W → Below w.heap.size w (W.alloc ob) ∧ Below w.heap.size w (W.alloc ob).drew) := fun W ob b => ⟨b.alloc b.size _, (b.alloc b.size _).drew⟩
  go_enter Try.func49, Try.ntmps49
  go_upto_region 1 with fail
  generalize hW : World.alloc _ _ = W
  have BW : Hid (Below w.heap.size w W) := by rw [← hW]; exact ((Below.refl _ _).alloc (Nat.le_refl _) _).alloc (by simp) _
  have a0 : W.cell? ⟨w.heap.size, 0, none⟩ = some (.int .i64 k1) := by rw [← hW]; simp
  have a2 : W.cell? ⟨w.heap.size, 2, none⟩ = some (.int .i64 i1) := by rw [← hW]; simp
  have a3 : W.cell? ⟨w.heap.size, 3, none⟩ = some (.string t1) := by rw [← hW]; simp
  have b0 : W.cell? ⟨w.heap.size + 1, 0, none⟩ = some (.int .i64 k2) := by rw [← hW]; simp
  have b2 : W.cell? ⟨w.heap.size + 1, 2, none⟩ = some (.int .i64 i2) := by rw [← hW]; simp
  have b3 : W.cell? ⟨w.heap.size + 1, 3, none⟩ = some (.string t2) := by rw [← hW]; simp
  clear hW
  go_region_held3 (fun w' => w'.cell? ⟨w.heap.size, 0, none⟩ = some (.int .i64 k1) ∧ w'.cell? ⟨w.heap.size, 2, none⟩ = some (.int .i64 i1) ∧ w'.cell? ⟨w.heap.size, 3, none⟩ = some (.string t1) ∧ w'.cell? ⟨w.heap.size + 1, 0, none⟩ = some (.int .i64 k2) ∧ w'.cell? ⟨w.heap.size + 1, 2, none⟩ = some (.int .i64 i2) ∧ w'.cell? ⟨w.heap.size + 1, 3, none⟩ = some (.string t2)) (go_keep) (first | (go_at_call 53; refine Calls.mono (rank_any _ _) ?_; rintro e w1 ⟨rfl, rfl⟩) | (go_at_call 48; refine Calls.mono (cmpInt_any _ _ _) ?_; rintro e w1 ⟨rfl, rfl⟩) | (go_at_call 54; refine Calls.mono (cmpStr_any _ _ _) ?_; rintro e w1 ⟨rfl, rfl⟩) | (go_at_call 47; refine Calls.mono (cmpOr_any _ [sgn (rnk k1 - rnk k2), sgn (i1 - i2), cmpT t1 t2] _ (by first | exact ID.out _ _ _ _ | exact IA.out _ _ _ _) (by show 3 ≤ 1000; omega)) ?_; rintro e w1 ⟨rfl, rfl⟩))
  all_goals
    go_wp2_with fail
    go_ret
    exact ⟨by rw [HA.out]; rfl, by first | exact (DN.out _ _ BW.out).2 | exact (DN.out _ _ BW.out).1⟩
end Go.Proofs.Ytahcllncjpaijaa
