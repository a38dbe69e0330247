/- The walk of the reference's 'one', the cases of words: the token that begins at a place, or its fault. (Made by mkone.py.) -/
import Derived.Test.YthckmpjokabkcaaDoorOne1
import Derived.BigRegion
namespace Go.Proofs.YthckmpjokabkcaaDoor
open Go.RowKit

/-- What 'one' hands back: the fault's code; with code 0 the token and where it ends. -/
def OneP (R : RT) (n : Nat) (e : Ending) : Prop := ∃ (a b c : Int) (t : ByteArray) (en : Int), e = .returned (.tuple #[.agg #[.int .i64 a, .int .i64 b, .int .i64 c, .string t], .int .i64 en, .int .i64 R.code]) ∧
  (R.code = 0 → a = R.kind ∧ b = n ∧ c = R.num ∧ t = ⟨R.text.toArray⟩ ∧ en = (n + R.len : Nat))
theorem keyL_len {l : List UInt8} (h : keyL l = true) : l.length ≤ 24 := by
  unfold keyL at h
  obtain ⟨x, hx, he⟩ := List.any_eq_true.1 h
  have h1 : ∀ x ∈ kw, x.data.toList.length ≤ 24 := by decide
  have := h1 x hx
  rw [beq_iff_eq] at he
  rw [← he]; exact this

set_option maxRecDepth 100000 in
set_option maxHeartbeats 8000000 in
theorem one_word (s : ByteArray) (n : Nat) (w : World) (hs : s.size ≤ 65536) (hn : n < s.size) (h1 : 97 ≤ (s[n].toNat : Int)) (h2 : (s[n].toNat : Int) ≤ 122) :
    Calls Tryd.prog 25 #[.string s, .int .i64 n] w fun e w' => OneP (rw' false (s.data.toList.drop n)) n e ∧ Below w.heap.size w w' := by
  have HD : Hid (s.data.toList.drop n = s[n] :: s.data.toList.drop (n + 1)) := drop_cons s n hn
  have FR := fun w1 => from_any s n w1 hs (by omega)
  have hl := wLen_le (s.data.toList.drop n)
  have hm1 : 1 ≤ wLen (s.data.toList.drop n) := by rw [HD.out, wLen_cons_pos (isSm_t h1 h2)]; omega
  obtain ⟨R, hR⟩ : ∃ R, R = rw' false (s.data.toList.drop n) := ⟨_, rfl⟩
  rw [← hR]
  have HR : Hid (R = if wLen (s.data.toList.drop n) = 0 then RT.bad 10 else if 24 < wLen (s.data.toList.drop n) then RT.bad 3
    else ⟨0, if keyL ((s.data.toList.drop n).take (wLen (s.data.toList.drop n))) then 2 else 1, 0, (s.data.toList.drop n).take (wLen (s.data.toList.drop n)), wLen (s.data.toList.drop n)⟩) := by
    show _ = _; rw [hR]; unfold rw'; simp
  clear hR HD
  obtain ⟨m, hm⟩ : ∃ m, m = wLen (s.data.toList.drop n) := ⟨_, rfl⟩
  rw [← hm] at FR hl HR hm1
  clear hm
  have hle : n + m ≤ s.size := by simp at hl; omega
  have HE : Hid (s.extract n (n + m) = ⟨((s.data.toList.drop n).take m).toArray⟩) := by
    show _ = _; rw [extract_eq]; congr 3; omega
  have hTl : ((s.data.toList.drop n).take m).length = m := by simp at hl ⊢; omega
  obtain ⟨T, hT⟩ : ∃ T, T = (s.data.toList.drop n).take m := ⟨_, rfl⟩
  rw [← hT] at HR HE hTl
  clear hT hl
  have HK : Hid (inB kw (s.extract n (n + m)) = keyL T) := by show _ = _; rw [keyL_in, HE.out]
  have RK := fun w1 => refIsKey_any (s.extract n (n + m)) w1
  rw [HK.out] at RK
  clear HK
  have HKL : Hid (keyL T = true → m ≤ 24) := fun h => by have := keyL_len h; omega
  obtain ⟨b, hb⟩ : ∃ b, b = keyL T := ⟨_, rfl⟩
  rw [← hb] at HR RK HKL
  clear hb
  have hmp : (0 : Int) < (m : Int) := by omega
  have i1 : (0 : Int) ≤ (n : Int) := by omega
  have i2 : (n : Int) ≤ (n : Int) + (m : Int) := by omega
  have i3 : (n : Int) + (m : Int) ≤ (s.size : Int) := by omega
  generalize kwV = V at *
  cases b
  · by_cases h24 : 24 < m
    · have HR2 : Hid (R = RT.bad 3) := by show _ = _; rw [HR.out, if_neg (by omega), if_pos h24]
      clear HR HKL
      go_enter Tryd.func25, Tryd.ntmps25
      go_wp2_with (first | (go_at_call 44; refine (FR _).mono ?_; rintro e w' ⟨rfl, rfl⟩))
      go_region
      go_wp2_with (first | (go_at_call 16; refine (RK _).mono ?_; rintro e w' ⟨rfl, rfl⟩))
      refine bodyPost_ret (v := .tuple #[.agg #[.int .i64 1, .int .i64 n, .int .i64 0, .string (s.extract n (n + m))], .int .i64 0, .int .i64 3]) (by simp [results, Tryd.results25, go_sem]) rfl ⟨⟨_, _, _, _, _, by rw [HR2.out]; rfl, ?_⟩, ?_⟩
      · intro h; rw [HR2.out] at h; cases h
      · exact ((((Below.refl _ _).alloc (Nat.le_refl _) _).alloc (by simp) _).alloc (by simp; omega) _).drew
    · have HR2 : Hid (R = ⟨0, 1, 0, T, m⟩) := by show _ = _; rw [HR.out, if_neg (by omega), if_neg h24]; rfl
      clear HR HKL
      go_enter Tryd.func25, Tryd.ntmps25
      go_wp2_with (first | (go_at_call 44; refine (FR _).mono ?_; rintro e w' ⟨rfl, rfl⟩))
      go_region
      go_wp2_with (first | (go_at_call 16; refine (RK _).mono ?_; rintro e w' ⟨rfl, rfl⟩))
      refine bodyPost_ret (v := .tuple #[.agg #[.int .i64 1, .int .i64 n, .int .i64 0, .string (s.extract n (n + m))], .int .i64 ((n : Int) + (m : Int)), .int .i64 0]) (by simp [results, Tryd.results25, go_sem]) rfl ⟨⟨_, _, _, _, _, by rw [HR2.out], ?_⟩, ?_⟩
      · intro _; rw [HR2.out]; exact ⟨rfl, rfl, rfl, HE.out, by go_num⟩
      · exact ((((Below.refl _ _).alloc (Nat.le_refl _) _).alloc (by simp) _).alloc (by simp; omega) _).drew
  · have h24 : m ≤ 24 := HKL.out (by simp)
    have HR2 : Hid (R = ⟨0, 2, 0, T, m⟩) := by show _ = _; rw [HR.out, if_neg (by omega), if_neg (by omega)]; rfl
    clear HR HKL
    go_enter Tryd.func25, Tryd.ntmps25
    go_wp2_with (first | (go_at_call 44; refine (FR _).mono ?_; rintro e w' ⟨rfl, rfl⟩))
    go_region
    go_wp2_with (first | (go_at_call 16; refine (RK _).mono ?_; rintro e w' ⟨rfl, rfl⟩))
    refine bodyPost_ret (v := .tuple #[.agg #[.int .i64 2, .int .i64 n, .int .i64 0, .string (s.extract n (n + m))], .int .i64 ((n : Int) + (m : Int)), .int .i64 0]) (by simp [results, Tryd.results25, go_sem]) rfl ⟨⟨_, _, _, _, _, by rw [HR2.out], ?_⟩, ?_⟩
    · intro _; rw [HR2.out]; exact ⟨rfl, rfl, rfl, HE.out, by go_num⟩
    · exact ((((Below.refl _ _).alloc (Nat.le_refl _) _).alloc (by simp) _).alloc (by simp; omega) _).drew

set_option maxRecDepth 100000 in
set_option maxHeartbeats 8000000 in
theorem one_dollar (s : ByteArray) (n : Nat) (w : World) (hs : s.size ≤ 65536) (hn : n < s.size) (h36 : (s[n].toNat : Int) = 36) :
    Calls Tryd.prog 25 #[.string s, .int .i64 n] w fun e w' => OneP (rw' true (s.data.toList.drop (n + 1))) n e ∧ Below w.heap.size w w' := by
  have FR := fun w1 => from_any s n w1 hs (by omega)
  have e0 : wLen (s.data.toList.drop n) = 0 := by rw [drop_cons s n hn, wLen_cons_neg (isSm_f (by omega))]
  rw [e0] at FR
  clear e0
  have F2 := fun w1 => from_any s (n + 1) w1 hs (by omega)
  have hl := wLen_le (s.data.toList.drop (n + 1))
  obtain ⟨R, hR⟩ : ∃ R, R = rw' true (s.data.toList.drop (n + 1)) := ⟨_, rfl⟩
  rw [← hR]
  have HR : Hid (R = if wLen (s.data.toList.drop (n + 1)) = 0 then RT.bad 10 else if 24 < wLen (s.data.toList.drop (n + 1)) then RT.bad 3
    else ⟨0, 3, 0, (s.data.toList.drop (n + 1)).take (wLen (s.data.toList.drop (n + 1))), wLen (s.data.toList.drop (n + 1)) + 1⟩) := by
    show _ = _; rw [hR]; unfold rw'; simp
  clear hR
  obtain ⟨m, hm⟩ : ∃ m, m = wLen (s.data.toList.drop (n + 1)) := ⟨_, rfl⟩
  rw [← hm] at F2 hl HR
  clear hm
  have hle : n + 1 + m ≤ s.size := by simp at hl; omega
  have HE : Hid (s.extract (n + 1) (n + 1 + m) = ⟨((s.data.toList.drop (n + 1)).take m).toArray⟩) := by
    show _ = _; rw [extract_eq]; congr 3; omega
  obtain ⟨T, hT⟩ : ∃ T, T = (s.data.toList.drop (n + 1)).take m := ⟨_, rfl⟩
  rw [← hT] at HR HE
  clear hT hl
  have i1 : (0 : Int) ≤ (n : Int) + 1 := by omega
  have i2 : (n : Int) + 1 ≤ (n : Int) + 1 + (m : Int) := by omega
  have i3 : (n : Int) + 1 + (m : Int) ≤ (s.size : Int) := by omega
  by_cases h0 : m = 0
  · have HR2 : Hid (R = RT.bad 10) := by show _ = _; rw [HR.out, if_pos h0]
    subst h0
    clear HR
    go_enter Tryd.func25, Tryd.ntmps25
    go_wp2_with fail
    refine (FR _).mono ?_
    rintro e w' ⟨rfl, rfl⟩
    go_wp2_with fail
    refine (F2 _).mono ?_
    rintro e w' ⟨rfl, rfl⟩
    go_wp2
    refine bodyPost_ret (v := .tuple #[.agg #[.int .i64 0, .int .i64 n, .int .i64 0, .string ⟨#[]⟩], .int .i64 0, .int .i64 10]) (by simp [results, Tryd.results25, go_sem]) rfl ⟨⟨_, _, _, _, _, by rw [HR2.out]; rfl, ?_⟩, ?_⟩
    · intro h; rw [HR2.out] at h; cases h
    · exact ((Below.refl _ _).alloc (Nat.le_refl _) _).alloc (by simp) _
  have h0b : ((m : Int) == 0) = false := by simp; omega
  by_cases h24 : 24 < m
  · have HR2 : Hid (R = RT.bad 3) := by show _ = _; rw [HR.out, if_neg h0, if_pos h24]
    clear HR
    go_enter Tryd.func25, Tryd.ntmps25
    go_wp2_with fail
    refine (FR _).mono ?_
    rintro e w' ⟨rfl, rfl⟩
    go_wp2_with fail
    refine (F2 _).mono ?_
    rintro e w' ⟨rfl, rfl⟩
    go_wp2
    refine bodyPost_ret (v := .tuple #[.agg #[.int .i64 0, .int .i64 n, .int .i64 0, .string ⟨#[]⟩], .int .i64 0, .int .i64 3]) (by simp [results, Tryd.results25, go_sem]) rfl ⟨⟨_, _, _, _, _, by rw [HR2.out]; rfl, ?_⟩, ?_⟩
    · intro h; rw [HR2.out] at h; cases h
    · exact ((Below.refl _ _).alloc (Nat.le_refl _) _).alloc (by simp) _
  · have HR2 : Hid (R = ⟨0, 3, 0, T, m + 1⟩) := by show _ = _; rw [HR.out, if_neg h0, if_neg h24]
    clear HR
    go_enter Tryd.func25, Tryd.ntmps25
    go_wp2_with fail
    refine (FR _).mono ?_
    rintro e w' ⟨rfl, rfl⟩
    go_wp2_with fail
    refine (F2 _).mono ?_
    rintro e w' ⟨rfl, rfl⟩
    go_wp2
    go_region
    go_wp2
    refine bodyPost_ret (v := .tuple #[.agg #[.int .i64 3, .int .i64 n, .int .i64 0, .string (s.extract (n + 1) (n + 1 + m))], .int .i64 ((n : Int) + 1 + (m : Int)), .int .i64 0]) (by simp [results, Tryd.results25, go_sem]) rfl ⟨⟨_, _, _, _, _, by rw [HR2.out], ?_⟩, ?_⟩
    · intro _; rw [HR2.out]; exact ⟨rfl, rfl, rfl, HE.out, by simp; omega⟩
    · exact (((Below.refl _ _).alloc (Nat.le_refl _) _).alloc (by simp) _).drew
end Go.Proofs.YthckmpjokabkcaaDoor
