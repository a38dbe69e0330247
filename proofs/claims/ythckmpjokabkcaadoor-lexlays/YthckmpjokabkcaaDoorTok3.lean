/- The walk of lex.readToken: the token that begins at a place, or its fault. -/
import Derived.Test.YthckmpjokabkcaaDoorTok2
namespace Go.Proofs.YthckmpjokabkcaaDoor
open Go.RowKit

/-- The token at the beginning of a text that is not empty, or its fault. -/
def rt (l : List UInt8) : RT := match l with
  | [] => RT.bad 10
  | c :: r => if (c.toNat : Int) = 36 then rw' true r else if isSm c then rw' false l else if isDg c then rn l else if (c.toNat : Int) = 34 then rq l else rm l

theorem rtV_form (R : RT) (n : Nat) : ∃ (a b c : Int) (t : ByteArray) (e k : Int), rtV R n = .tuple #[.agg #[.int .i64 a, .int .i64 b, .int .i64 c, .string t], .int .i64 e, .int .i64 k] := by
  unfold rtV
  split
  · exact ⟨_, _, _, _, _, _, rfl⟩
  · exact ⟨_, _, _, _, _, _, rfl⟩

set_option maxHeartbeats 2000000 in
theorem readToken_any (s : ByteArray) (n : Nat) (w : World) (hs : s.size ≤ 65536) (hn : n < s.size) (hk : KeysAt w) (hm : MarksAt w) :
    Calls Tryd.prog 24 #[.string s, .int .i64 n] w fun e w' => e = .returned (rtV (rt (s.data.toList.drop n)) n) ∧ Below w.heap.size w w' := by
  have HD : Hid (s.data.toList.drop n = s[n] :: s.data.toList.drop (n + 1)) := drop_cons s n hn
  have hc : (s[n].toNat : Int) ≤ 255 := by have := UInt8.toNat_lt s[n]; omega
  obtain ⟨R, hR⟩ : ∃ R, R = rt (s.data.toList.drop n) := ⟨_, rfl⟩
  rw [← hR]
  have HR : Hid (R = if (s[n].toNat : Int) = 36 then rw' true (s.data.toList.drop (n + 1)) else if isSm s[n] then rw' false (s.data.toList.drop n) else if isDg s[n] then rn (s.data.toList.drop n) else if (s[n].toNat : Int) = 34 then rq (s.data.toList.drop n) else rm (s.data.toList.drop n)) := by
    show _ = _
    rw [hR, HD.out]; simp only [rt]
  clear hR
  by_cases h36 : (s[n].toNat : Int) = 36
  · have HR2 : Hid (R = rw' true (s.data.toList.drop (n + 1))) := by show _ = _; rw [HR.out, if_pos h36]
    have C := readWord_any s n 1 (w.alloc (.cells #[.int .i64 0, .int .i64 0, .int .i64 0, .string ⟨#[]⟩] 30)) hs (by omega) (by omega) (hk.alloc _)
    simp only [decide_true] at C
    rw [← HR2.out] at C
    clear HR HR2 hk hm HD
    obtain ⟨va, vb, vc, vt, ve, vk, hv⟩ := rtV_form R n
    rw [hv] at C ⊢
    clear hv
    go_enter Tryd.func24, Tryd.ntmps24
    go_wp2_with (first | (go_at_call 40; refine C.mono ?_; rintro e w2 ⟨rfl, hb2⟩; obtain ⟨hc2, hf⟩ := oldCells hb2; have hz2 := hb2.size) | go_in)
    refine bodyPost_ret (v := .tuple #[.agg #[.int .i64 va, .int .i64 vb, .int .i64 vc, .string vt], .int .i64 ve, .int .i64 vk]) (by simp [results, Tryd.results24, go_sem, hc2]) rfl ⟨rfl, ?_⟩
    exact ((((((Below.refl _ _).alloc (Nat.le_refl _) _).trans (hb2.mono (by simp))).setCell (Nat.le_refl _) _).setCell (Nat.le_refl _) _).setCell (Nat.le_refl _) _).setCell (Nat.le_refl _) _
  have h36' : ((s[n].toNat : Int) == 36) = false := by simpa using h36
  by_cases hsm : 97 ≤ (s[n].toNat : Int) ∧ (s[n].toNat : Int) ≤ 122
  · have HR2 : Hid (R = rw' false (s.data.toList.drop n)) := by show _ = _; rw [HR.out, if_neg h36, if_pos (isSm_t hsm.1 hsm.2)]
    have C := readWord_any s n 0 (w.alloc (.cells #[.int .i64 0, .int .i64 0, .int .i64 0, .string ⟨#[]⟩] 30)) hs (by omega) (by omega) (hk.alloc _)
    simp only [Nat.add_zero, Nat.zero_ne_one, decide_false] at C
    rw [← HR2.out] at C
    clear HR HR2 hk hm HD
    obtain ⟨va, vb, vc, vt, ve, vk, hv⟩ := rtV_form R n
    rw [hv] at C ⊢
    clear hv
    obtain ⟨hs1, hs2⟩ := hsm
    go_enter Tryd.func24, Tryd.ntmps24
    go_wp2_with (first | (go_at_call 40; refine C.mono ?_; rintro e w2 ⟨rfl, hb2⟩; obtain ⟨hc2, hf⟩ := oldCells hb2; have hz2 := hb2.size) | go_in)
    refine bodyPost_ret (v := .tuple #[.agg #[.int .i64 va, .int .i64 vb, .int .i64 vc, .string vt], .int .i64 ve, .int .i64 vk]) (by simp [results, Tryd.results24, go_sem, hc2]) rfl ⟨rfl, ?_⟩
    exact ((((((Below.refl _ _).alloc (Nat.le_refl _) _).trans (hb2.mono (by simp))).setCell (Nat.le_refl _) _).setCell (Nat.le_refl _) _).setCell (Nat.le_refl _) _).setCell (Nat.le_refl _) _
  by_cases hdg : 48 ≤ (s[n].toNat : Int) ∧ (s[n].toNat : Int) ≤ 57
  · have HR2 : Hid (R = rn (s.data.toList.drop n)) := by show _ = _; rw [HR.out, if_neg h36, if_neg (by rw [isSm_f hsm]; simp), if_pos (by simp only [isDg, decide_eq_true_eq]; exact hdg)]
    have C := readNumber_any s n (w.alloc (.cells #[.int .i64 0, .int .i64 0, .int .i64 0, .string ⟨#[]⟩] 30)) hs (by omega)
    rw [← HR2.out] at C
    clear HR HR2 hk hm HD
    obtain ⟨va, vb, vc, vt, ve, vk, hv⟩ := rtV_form R n
    rw [hv] at C ⊢
    clear hv
    obtain ⟨hs1, hs2⟩ := hdg
    go_enter Tryd.func24, Tryd.ntmps24
    go_wp2_with (first | (go_at_call 41; refine C.mono ?_; rintro e w2 ⟨rfl, hb2⟩; obtain ⟨hc2, hf⟩ := oldCells hb2; have hz2 := hb2.size) | go_in)
    refine bodyPost_ret (v := .tuple #[.agg #[.int .i64 va, .int .i64 vb, .int .i64 vc, .string vt], .int .i64 ve, .int .i64 vk]) (by simp [results, Tryd.results24, go_sem, hc2]) rfl ⟨rfl, ?_⟩
    exact ((((((Below.refl _ _).alloc (Nat.le_refl _) _).trans (hb2.mono (by simp))).setCell (Nat.le_refl _) _).setCell (Nat.le_refl _) _).setCell (Nat.le_refl _) _).setCell (Nat.le_refl _) _
  have hdf : isDg s[n] = false := by simp only [isDg, decide_eq_false_iff_not]; exact hdg
  by_cases h34 : (s[n].toNat : Int) = 34
  · have HR2 : Hid (R = rq (s.data.toList.drop n)) := by show _ = _; rw [HR.out, if_neg h36, if_neg (by rw [isSm_f hsm]; simp), if_neg (by rw [hdf]; simp), if_pos h34]
    have C := readText_any s n (w.alloc (.cells #[.int .i64 0, .int .i64 0, .int .i64 0, .string ⟨#[]⟩] 30)) hs hn
    rw [← HR2.out] at C
    clear HR HR2 hk hm HD
    obtain ⟨va, vb, vc, vt, ve, vk, hv⟩ := rtV_form R n
    rw [hv] at C ⊢
    clear hv
    clear hdf hsm hdg
    go_enter Tryd.func24, Tryd.ntmps24
    go_wp2_with (first | (go_at_call 42; refine C.mono ?_; rintro e w2 ⟨rfl, hb2⟩; obtain ⟨hc2, hf⟩ := oldCells hb2; have hz2 := hb2.size) | go_in)
    refine bodyPost_ret (v := .tuple #[.agg #[.int .i64 va, .int .i64 vb, .int .i64 vc, .string vt], .int .i64 ve, .int .i64 vk]) (by simp [results, Tryd.results24, go_sem, hc2]) rfl ⟨rfl, ?_⟩
    exact ((((((Below.refl _ _).alloc (Nat.le_refl _) _).trans (hb2.mono (by simp))).setCell (Nat.le_refl _) _).setCell (Nat.le_refl _) _).setCell (Nat.le_refl _) _).setCell (Nat.le_refl _) _
  have h34' : ((s[n].toNat : Int) == 34) = false := by simpa using h34
  have HR2 : Hid (R = rm (s.data.toList.drop n)) := by show _ = _; rw [HR.out, if_neg h36, if_neg (by rw [isSm_f hsm]; simp), if_neg (by rw [hdf]; simp), if_neg h34]
  have C := readMark_any s n (w.alloc (.cells #[.int .i64 0, .int .i64 0, .int .i64 0, .string ⟨#[]⟩] 30)) hs hn (hm.alloc _)
  rw [← HR2.out] at C
  clear HR HR2 hk hm HD
  obtain ⟨va, vb, vc, vt, ve, vk, hv⟩ := rtV_form R n
  rw [hv] at C ⊢
  clear hv hdf
  rcases (by omega : (s[n].toNat : Int) < 97 ∨ 122 < (s[n].toNat : Int)) with a1 | a1
  all_goals
    rcases (by omega : (s[n].toNat : Int) < 48 ∨ 57 < (s[n].toNat : Int)) with a2 | a2
    all_goals
      first
      | omega
      | (have b1 : ¬ ((s[n].toNat : Int) ≤ 122 ∧ 97 ≤ (s[n].toNat : Int)) := by omega
         clear hsm hdg b1
         go_enter Tryd.func24, Tryd.ntmps24
         go_wp2_with (first | (go_at_call 43; refine C.mono ?_; rintro e w2 ⟨rfl, hb2⟩; obtain ⟨hc2, hf⟩ := oldCells hb2; have hz2 := hb2.size) | go_in)
         refine bodyPost_ret (v := .tuple #[.agg #[.int .i64 va, .int .i64 vb, .int .i64 vc, .string vt], .int .i64 ve, .int .i64 vk]) (by simp [results, Tryd.results24, go_sem, hc2]) rfl ⟨rfl, ?_⟩
         exact ((((((Below.refl _ _).alloc (Nat.le_refl _) _).trans (hb2.mono (by simp))).setCell (Nat.le_refl _) _).setCell (Nat.le_refl _) _).setCell (Nat.le_refl _) _).setCell (Nat.le_refl _) _)
end Go.Proofs.YthckmpjokabkcaaDoor
