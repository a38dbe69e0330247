/- The walk of the reference's 'one', the cases of marks, and all cases together. (Made by mkone.py.) -/
import Derived.Test.YthckmpjokabkcaaDoorOne3
namespace Go.Proofs.YthckmpjokabkcaaDoor
open Go.RowKit

def mk1 : List UInt8 := [40, 41, 91, 93, 44, 59, 46, 61, 43, 45, 42, 38, 60]
theorem inMk (c : UInt8) : inB mk ⟨#[c]⟩ = decide (c ∈ mk1) := by
  have h : ∀ n : Fin 256, inB mk ⟨#[UInt8.ofNat n.val]⟩ = decide (UInt8.ofNat n.val ∈ mk1) := by decide +kernel
  have := h ⟨c.toNat, UInt8.toNat_lt c⟩
  simpa using this
theorem rm_eqeq (r : List UInt8) : rm (61 :: 61 :: r) = ⟨0, 6, 0, [61, 61], 2⟩ := by simp [rm, rmOf, mk, Lib.hasPrefix, List.isPrefixOf]; rfl
theorem rm_one {c : UInt8} {r : List UInt8} (hc : c ∈ mk1) (h : ¬ (c = 61 ∧ r.head? = some 61)) : rm (c :: r) = ⟨0, 6, 0, [c], 1⟩ := by
  simp only [mk1, List.mem_cons, List.not_mem_nil, or_false] at hc
  rcases hc with rfl | rfl | rfl | rfl | rfl | rfl | rfl | rfl | rfl | rfl | rfl | rfl | rfl
  all_goals first
    | (simp [rm, rmOf, mk, Lib.hasPrefix, List.isPrefixOf]; rfl)
    | (cases r with
       | nil => simp [rm, rmOf, mk, Lib.hasPrefix, List.isPrefixOf]; rfl
       | cons d r2 =>
         have hd : ¬ d = 61 := fun e => h ⟨rfl, by simp [e]⟩
         have hd2 : ((61 : UInt8) == d) = false := by simp; exact fun e => hd e.symm
         simp [rm, rmOf, mk, Lib.hasPrefix, List.isPrefixOf, hd2]; rfl)
theorem rm_none {c : UInt8} {r : List UInt8} (hc : ¬ c ∈ mk1) : rm (c :: r) = RT.bad 10 := by
  simp only [mk1, List.mem_cons, List.not_mem_nil, or_false, not_or] at hc
  obtain ⟨a1, a2, a3, a4, a5, a6, a7, a8, a9, a10, a11, a12, a13⟩ := hc
  simp [rm, rmOf, mk, Lib.hasPrefix, List.isPrefixOf, Ne.symm a1, Ne.symm a2, Ne.symm a3, Ne.symm a4, Ne.symm a5, Ne.symm a6, Ne.symm a7, Ne.symm a8, Ne.symm a9, Ne.symm a10, Ne.symm a11, Ne.symm a12, Ne.symm a13]
theorem extract_one (s : ByteArray) (n : Nat) (hn : n < s.size) : s.extract n (n + 1) = ⟨#[s[n]]⟩ := by
  rw [extract_eq, drop_cons s n hn]
  have : n + 1 - n = 1 := by omega
  rw [this]; rfl

set_option maxRecDepth 100000 in
set_option maxHeartbeats 8000000 in
theorem one_mark (s : ByteArray) (n : Nat) (w : World) (hs : s.size ≤ 65536) (hn : n < s.size) (hsm : ¬ (97 ≤ (s[n].toNat : Int) ∧ (s[n].toNat : Int) ≤ 122)) (h36 : ¬ (s[n].toNat : Int) = 36) (hdg : ¬ (48 ≤ (s[n].toNat : Int) ∧ (s[n].toNat : Int) ≤ 57)) (h34 : ¬ (s[n].toNat : Int) = 34) :
    Calls Tryd.prog 25 #[.string s, .int .i64 n] w fun e w' => OneP (rm (s.data.toList.drop n)) n e ∧ Below w.heap.size w w' := by
  have FR := fun w1 => from_any s n w1 hs (by omega)
  have e0 : wLen (s.data.toList.drop n) = 0 := by rw [drop_cons s n hn, wLen_cons_neg (isSm_f hsm)]
  rw [e0] at FR
  clear e0
  have HD : Hid (s.data.toList.drop n = s[n] :: s.data.toList.drop (n + 1)) := drop_cons s n hn
  have b36 : ((s[n].toNat : Int) == 36) = false := by simpa using h36
  have b34 : ((s[n].toNat : Int) == 34) = false := by simpa using h34
  have i2 : (n : Int) ≤ (n : Int) + 1 := by omega
  have i3 : (n : Int) + 1 ≤ (s.size : Int) := by omega
  obtain ⟨R, hR⟩ : ∃ R, R = rm (s.data.toList.drop n) := ⟨_, rfl⟩
  rw [← hR]
  have HR : Hid (R = rm (s[n] :: s.data.toList.drop (n + 1))) := by show _ = _; rw [hR, HD.out]
  clear hR HD
  have MK := fun w1 => refMark_any (s.extract n (n + 1)) w1
  have HE : Hid (s.extract n (n + 1) = ⟨#[s[n]]⟩) := extract_one s n hn
  have HI : Hid (inB mk (s.extract n (n + 1)) = decide (s[n] ∈ mk1)) := by show _ = _; rw [HE.out, inMk]
  rw [HI.out] at MK
  clear HI
  generalize mkV = V at *
  have key : ∀ (P1 : 48 ≤ (s[n].toNat : Int) → False ∨ 57 < (s[n].toNat : Int)), True := fun _ => trivial
  clear key
  by_cases heq : (s[n].toNat : Int) = 61 ∧ ∃ h : n + 1 < s.size, (s[n + 1].toNat : Int) = 61
  · obtain ⟨g1, h1, g2⟩ := heq
    have HR2 : Hid (R = ⟨0, 6, 0, [61, 61], 2⟩) := by
      show _ = _
      have e1 : s[n] = 61 := u8_eq (n := 61) (by omega) g1
      have e2 : s[n + 1] = 61 := u8_eq (n := 61) (by omega) g2
      rw [HR.out, drop_cons s (n + 1) h1, e1, e2, rm_eqeq]
    have h1' : (n : Int) + 1 < (s.size : Int) := by omega
    clear HR MK hsm hdg h36 h34 HE
    go_enter Tryd.func25, Tryd.ntmps25
    go_wp2_with (first | (go_at_call 44; refine (FR _).mono ?_; rintro e w' ⟨rfl, rfl⟩))
    refine bodyPost_ret (v := .tuple #[.agg #[.int .i64 6, .int .i64 n, .int .i64 0, .string ⟨#[61, 61]⟩], .int .i64 ((n : Int) + 2), .int .i64 0]) (by simp [results, Tryd.results25, go_sem]) rfl ⟨⟨_, _, _, _, _, by rw [HR2.out], ?_⟩, ?_⟩
    · intro _; rw [HR2.out]; exact ⟨rfl, rfl, rfl, rfl, by simp⟩
    · exact ((Below.refl _ _).alloc (Nat.le_refl _) _).alloc (by simp) _
  have HN : Hid (¬ (s[n] = 61 ∧ (s.data.toList.drop (n + 1)).head? = some 61)) := by
    rintro ⟨e1, e2⟩
    apply heq
    refine ⟨by rw [e1]; rfl, ?_⟩
    by_cases h1 : n + 1 < s.size
    · refine ⟨h1, ?_⟩
      rw [drop_cons s (n + 1) h1] at e2
      simp at e2
      rw [e2]; rfl
    · rw [drop_end s (n + 1) (by omega)] at e2; simp at e2
  obtain ⟨bm, hbm⟩ : ∃ bm, bm = decide (s[n] ∈ mk1) := ⟨_, rfl⟩
  rw [← hbm] at MK
  have HT : Hid (bm = true → R = ⟨0, 6, 0, [s[n]], 1⟩) := fun h => by rw [HR.out]; exact rm_one (of_decide_eq_true (hbm ▸ h)) HN.out
  have HF : Hid (bm = false → R = RT.bad 10) := fun h => by rw [HR.out]; exact rm_none (of_decide_eq_false (hbm ▸ h))
  clear hbm HR HN
  have HMK : Hid _ := MK
  clear MK
  have dcases : ((s[n].toNat : Int) < 48 ∧ (s[n].toNat : Int) < 97) ∨ (57 < (s[n].toNat : Int) ∧ (s[n].toNat : Int) < 97 ∧ 48 ≤ (s[n].toNat : Int)) ∨ (122 < (s[n].toNat : Int) ∧ 57 < (s[n].toNat : Int) ∧ 48 ≤ (s[n].toNat : Int)) := by omega
  have ecases : (((s[n].toNat : Int) == 61) = false) ∨ ((s[n].toNat : Int) = 61 ∧ ¬ (n : Int) + 1 < (s.size : Int)) ∨ ((s[n].toNat : Int) = 61 ∧ ∃ h : n + 1 < s.size, ((s[n + 1].toNat : Int) == 61) = false) := by
    by_cases e1 : (s[n].toNat : Int) = 61
    · by_cases h1 : n + 1 < s.size
      · exact Or.inr (Or.inr ⟨e1, h1, by simp; exact fun e2 => heq ⟨e1, h1, by omega⟩⟩)
      · exact Or.inr (Or.inl ⟨e1, by omega⟩)
    · exact Or.inl (by simpa using e1)
  clear heq hsm hdg h36 h34
  cases bm
  · have HR2 : Hid (R = RT.bad 10) := HF.out (by simp)
    clear HF HT HE
    rcases ecases with e1 | ⟨e1, e2⟩ | ⟨e1, h1, e2⟩
    · rcases dcases with ⟨d1, d2⟩ | ⟨d1, d2, d3⟩ | ⟨d1, d2, d3⟩
      all_goals
        go_enter Tryd.func25, Tryd.ntmps25
        go_wp2_with (first | (go_at_call 44; refine (FR _).mono ?_; rintro e w' ⟨rfl, rfl⟩) | (go_at_call 46; refine (HMK.out _).mono ?_; rintro e w' ⟨rfl, rfl⟩))
        refine bodyPost_ret (v := .tuple #[.agg #[.int .i64 0, .int .i64 n, .int .i64 0, .string ⟨#[]⟩], .int .i64 0, .int .i64 10]) (by simp [results, Tryd.results25, go_sem]) rfl ⟨⟨_, _, _, _, _, by rw [HR2.out]; rfl, ?_⟩, ?_⟩
        · intro h; rw [HR2.out] at h; cases h
        · exact (((Below.refl _ _).alloc (Nat.le_refl _) _).alloc (by simp) _).alloc (by simp; omega) _
    · clear dcases
      go_enter Tryd.func25, Tryd.ntmps25
      go_wp2_with (first | (go_at_call 44; refine (FR _).mono ?_; rintro e w' ⟨rfl, rfl⟩) | (go_at_call 46; refine (HMK.out _).mono ?_; rintro e w' ⟨rfl, rfl⟩))
      refine bodyPost_ret (v := .tuple #[.agg #[.int .i64 0, .int .i64 n, .int .i64 0, .string ⟨#[]⟩], .int .i64 0, .int .i64 10]) (by simp [results, Tryd.results25, go_sem]) rfl ⟨⟨_, _, _, _, _, by rw [HR2.out]; rfl, ?_⟩, ?_⟩
      · intro h; rw [HR2.out] at h; cases h
      · exact (((Below.refl _ _).alloc (Nat.le_refl _) _).alloc (by simp) _).alloc (by simp; omega) _
    · clear dcases
      have h1' : (n : Int) + 1 < (s.size : Int) := by omega
      go_enter Tryd.func25, Tryd.ntmps25
      go_wp2_with (first | (go_at_call 44; refine (FR _).mono ?_; rintro e w' ⟨rfl, rfl⟩) | (go_at_call 46; refine (HMK.out _).mono ?_; rintro e w' ⟨rfl, rfl⟩))
      refine bodyPost_ret (v := .tuple #[.agg #[.int .i64 0, .int .i64 n, .int .i64 0, .string ⟨#[]⟩], .int .i64 0, .int .i64 10]) (by simp [results, Tryd.results25, go_sem]) rfl ⟨⟨_, _, _, _, _, by rw [HR2.out]; rfl, ?_⟩, ?_⟩
      · intro h; rw [HR2.out] at h; cases h
      · exact (((Below.refl _ _).alloc (Nat.le_refl _) _).alloc (by simp) _).alloc (by simp; omega) _
  · have HR2 : Hid (R = ⟨0, 6, 0, [s[n]], 1⟩) := HT.out (by simp)
    clear HF HT
    rcases ecases with e1 | ⟨e1, e2⟩ | ⟨e1, h1, e2⟩
    · rcases dcases with ⟨d1, d2⟩ | ⟨d1, d2, d3⟩ | ⟨d1, d2, d3⟩
      all_goals
        go_enter Tryd.func25, Tryd.ntmps25
        go_wp2_with (first | (go_at_call 44; refine (FR _).mono ?_; rintro e w' ⟨rfl, rfl⟩) | (go_at_call 46; refine (HMK.out _).mono ?_; rintro e w' ⟨rfl, rfl⟩))
        go_region
        go_wp2
        refine bodyPost_ret (v := .tuple #[.agg #[.int .i64 6, .int .i64 n, .int .i64 0, .string (s.extract n (n + 1))], .int .i64 ((n : Int) + 1), .int .i64 0]) (by simp [results, Tryd.results25, go_sem]) rfl ⟨⟨_, _, _, _, _, by rw [HR2.out], ?_⟩, ?_⟩
        · intro _; rw [HR2.out]; exact ⟨rfl, rfl, rfl, HE.out, by simp⟩
        · exact ((((Below.refl _ _).alloc (Nat.le_refl _) _).alloc (by simp) _).alloc (by simp; omega) _).drew
    · clear dcases
      go_enter Tryd.func25, Tryd.ntmps25
      go_wp2_with (first | (go_at_call 44; refine (FR _).mono ?_; rintro e w' ⟨rfl, rfl⟩) | (go_at_call 46; refine (HMK.out _).mono ?_; rintro e w' ⟨rfl, rfl⟩))
      go_region
      go_wp2
      refine bodyPost_ret (v := .tuple #[.agg #[.int .i64 6, .int .i64 n, .int .i64 0, .string (s.extract n (n + 1))], .int .i64 ((n : Int) + 1), .int .i64 0]) (by simp [results, Tryd.results25, go_sem]) rfl ⟨⟨_, _, _, _, _, by rw [HR2.out], ?_⟩, ?_⟩
      · intro _; rw [HR2.out]; exact ⟨rfl, rfl, rfl, HE.out, by simp⟩
      · exact ((((Below.refl _ _).alloc (Nat.le_refl _) _).alloc (by simp) _).alloc (by simp; omega) _).drew
    · clear dcases
      have h1' : (n : Int) + 1 < (s.size : Int) := by omega
      go_enter Tryd.func25, Tryd.ntmps25
      go_wp2_with (first | (go_at_call 44; refine (FR _).mono ?_; rintro e w' ⟨rfl, rfl⟩) | (go_at_call 46; refine (HMK.out _).mono ?_; rintro e w' ⟨rfl, rfl⟩))
      go_region
      go_wp2
      refine bodyPost_ret (v := .tuple #[.agg #[.int .i64 6, .int .i64 n, .int .i64 0, .string (s.extract n (n + 1))], .int .i64 ((n : Int) + 1), .int .i64 0]) (by simp [results, Tryd.results25, go_sem]) rfl ⟨⟨_, _, _, _, _, by rw [HR2.out], ?_⟩, ?_⟩
      · intro _; rw [HR2.out]; exact ⟨rfl, rfl, rfl, HE.out, by simp⟩
      · exact ((((Below.refl _ _).alloc (Nat.le_refl _) _).alloc (by simp) _).alloc (by simp; omega) _).drew

theorem one_any (s : ByteArray) (n : Nat) (w : World) (hs : s.size ≤ 65536) (hn : n < s.size) :
    Calls Tryd.prog 25 #[.string s, .int .i64 n] w fun e w' => OneP (rt (s.data.toList.drop n)) n e ∧ Below w.heap.size w w' := by
  have HD := drop_cons s n hn
  have e : rt (s.data.toList.drop n) = if (s[n].toNat : Int) = 36 then rw' true (s.data.toList.drop (n + 1)) else if isSm s[n] then rw' false (s.data.toList.drop n) else if isDg s[n] then rn (s.data.toList.drop n) else if (s[n].toNat : Int) = 34 then rq (s.data.toList.drop n) else rm (s.data.toList.drop n) := by
    rw [HD]; simp only [rt]
  rw [e]
  by_cases h36 : (s[n].toNat : Int) = 36
  · rw [if_pos h36]; exact one_dollar s n w hs hn h36
  rw [if_neg h36]
  by_cases hsm : 97 ≤ (s[n].toNat : Int) ∧ (s[n].toNat : Int) ≤ 122
  · rw [if_pos (isSm_t hsm.1 hsm.2)]; exact one_word s n w hs hn hsm.1 hsm.2
  rw [if_neg (by rw [isSm_f hsm]; simp)]
  by_cases hdg : 48 ≤ (s[n].toNat : Int) ∧ (s[n].toNat : Int) ≤ 57
  · rw [if_pos (by simp only [isDg, decide_eq_true_eq]; exact hdg)]; exact one_digit s n w hs hn hdg.1 hdg.2
  rw [if_neg (by simp only [isDg, decide_eq_true_eq]; exact hdg)]
  by_cases h34 : (s[n].toNat : Int) = 34
  · rw [if_pos h34]; exact one_text s n w hs hn h34
  rw [if_neg h34]; exact one_mark s n w hs hn hsm h36 hdg h34
end Go.Proofs.YthckmpjokabkcaaDoor
