/- The walks of lex.quotedByte, quotedAt and Unquote: what the quoted text stands for. Asked: the text has room in memory. -/
import Derived.Test.YthckmpjokabkcaaDoorUnq
namespace Go.Proofs.YthckmpjokabkcaaDoor
open Go.RowKit

def ubR (l : List UInt8) : UInt8 × Nat := (ub l).getD (0, 0)
theorem ubR_plain {c : UInt8} {r : List UInt8} (h : plU c = true) : ubR (c :: r) = (c, 1) := by simp [ubR, ub, h]
theorem ubR_other {c : UInt8} {r : List UInt8} (h : plU c = false) (hc : c ≠ 92) : ubR (c :: r) = (0, 0) := by simp [ubR, ub, h, hc]
theorem pl92 : plU 92 = false := by decide
theorem ubR_one : ubR [92] = (0, 0) := by simp [ubR, ub, pl92]
theorem ubR_esc {d : UInt8} {r : List UInt8} (h : d = 34 ∨ d = 92) : ubR (92 :: d :: r) = (d, 2) := by simp [ubR, ub, pl92, h]
theorem ubR_n {r : List UInt8} : ubR (92 :: 110 :: r) = (10, 2) := by simp [ubR, ub, pl92]
theorem ubR_x {r : List UInt8} : ubR (92 :: 120 :: r) = hr (92 :: 120 :: r) := by
  match r with
  | [] => simp [ubR, ub, pl92, hr]
  | [_] => simp [ubR, ub, pl92, hr]
  | e :: f :: _ => simp [ubR, ub, pl92, hr]; cases hexB e f <;> rfl
theorem ubR_no {d : UInt8} {r : List UInt8} (h1 : d ≠ 34) (h2 : d ≠ 92) (h3 : d ≠ 110) (h4 : d ≠ 120) : ubR (92 :: d :: r) = (0, 0) := by simp [ubR, ub, pl92, h1, h2, h3, h4]
theorem u8_eq {c : UInt8} {n : Nat} (hn : n < 256) (h : (c.toNat : Int) = n) : c = UInt8.ofNat n := by apply UInt8.toNat_inj.1; simp; omega
theorem bytes1 {t : ByteArray} (h : 0 < t.size) : t.data.toList = t[0] :: t.data.toList.drop 1 := by
  have d0 := List.drop_eq_getElem_cons (l := t.data.toList) (i := 0) (by simp; omega)
  rw [List.drop_zero] at d0
  exact d0
theorem bytes2 {t : ByteArray} (h : 1 < t.size) : t.data.toList = t[0] :: t[1] :: t.data.toList.drop 2 := by
  have d0 := List.drop_eq_getElem_cons (l := t.data.toList) (i := 0) (by simp; omega)
  have d1 := List.drop_eq_getElem_cons (l := t.data.toList) (i := 1) (by simp; omega)
  rw [List.drop_zero] at d0
  rw [d1] at d0
  exact d0

set_option maxHeartbeats 1000000 in
theorem quotedByte_any (t : ByteArray) (w : World) (ht : t.size ≤ maxLen) (h0 : 0 < t.size) :
    Calls Tryd.prog 51 #[.string t] w fun e w' => e = .returned (.tuple #[.int .u8 ((ubR t.data.toList).1.toNat : Int), .int .i64 ((ubR t.data.toList).2 : Int)]) ∧ Below w.heap.size w w' := by
  have ht' := ht
  unfold maxLen at ht
  have HB := hexByte_any t
  by_cases hp : plU t[0] = true
  · have HE : Hid (ubR t.data.toList = (t[0], 1)) := by show _ = _; rw [bytes1 h0]; exact ubR_plain hp
    have hp' : plB (t[0].toNat : Int) = true := hp
    generalize ubR t.data.toList = R at *
    go_enter Tryd.func51, Tryd.ntmps51
    go_wp2_with (go_at_call 52; refine (isPlain_t _ _ hp').mono ?_; rintro e w' ⟨rfl, rfl⟩)
    go_ret2
    exact ⟨ret_u8n (by rw [HE.out]) (by rw [HE.out]; rfl), Below.refl _ _⟩
  · have hp' : plB (t[0].toNat : Int) = false := by simpa [plU] using hp
    by_cases h92 : (t[0].toNat : Int) = 92
    · have e92 : t[0] = 92 := u8_eq (n := 92) (by omega) h92
      by_cases h1 : 1 < t.size
      · have E2 : Hid (t.data.toList = (92 : UInt8) :: t[1] :: t.data.toList.drop 2) := by show _ = _; rw [← e92]; exact bytes2 h1
        clear e92
        by_cases hq : (t[1].toNat : Int) = 34
        · have HE : Hid (ubR t.data.toList = (34, 2)) := by show _ = _; rw [E2.out, u8_eq (n := 34) (by omega) hq]; exact ubR_esc (Or.inl rfl)
          generalize ubR t.data.toList = R at *
          clear E2
          go_enter Tryd.func51, Tryd.ntmps51
          go_wp2_with (go_at_call 52; refine (isPlain_f _ _ (by first | exact hp' | decide)).mono ?_; rintro e w' ⟨rfl, rfl⟩)
          go_ret2
          exact ⟨ret_u8n (by rw [HE.out]; rfl) (by rw [HE.out]; rfl), Below.refl _ _⟩
        have hq' : ((t[1].toNat : Int) == 34) = false := by simpa using hq
        by_cases hb : (t[1].toNat : Int) = 92
        · have HE : Hid (ubR t.data.toList = (92, 2)) := by show _ = _; rw [E2.out, u8_eq (n := 92) (by omega) hb]; exact ubR_esc (Or.inr rfl)
          generalize ubR t.data.toList = R at *
          clear E2
          go_enter Tryd.func51, Tryd.ntmps51
          go_wp2_with (go_at_call 52; refine (isPlain_f _ _ (by first | exact hp' | decide)).mono ?_; rintro e w' ⟨rfl, rfl⟩)
          go_ret2
          exact ⟨ret_u8n (by rw [HE.out]; rfl) (by rw [HE.out]; rfl), Below.refl _ _⟩
        have hb' : ((t[1].toNat : Int) == 92) = false := by simpa using hb
        by_cases hn : (t[1].toNat : Int) = 110
        · have HE : Hid (ubR t.data.toList = (10, 2)) := by show _ = _; rw [E2.out, u8_eq (n := 110) (by omega) hn]; exact ubR_n
          generalize ubR t.data.toList = R at *
          clear E2
          go_enter Tryd.func51, Tryd.ntmps51
          go_wp2_with (go_at_call 52; refine (isPlain_f _ _ (by first | exact hp' | decide)).mono ?_; rintro e w' ⟨rfl, rfl⟩)
          go_ret2
          exact ⟨ret_u8n (by rw [HE.out]; rfl) (by rw [HE.out]; rfl), Below.refl _ _⟩
        have hn' : ((t[1].toNat : Int) == 110) = false := by simpa using hn
        by_cases hx : (t[1].toNat : Int) = 120
        · have HE : Hid (ubR t.data.toList = hr t.data.toList) := by show _ = _; rw [E2.out, u8_eq (n := 120) (by omega) hx]; exact ubR_x
          generalize ubR t.data.toList = R at *
          generalize hr t.data.toList = Z at *
          clear E2
          go_enter Tryd.func51, Tryd.ntmps51
          go_wp2_with (first
            | (go_at_call 52; refine (isPlain_f _ _ (by first | exact hp' | decide)).mono ?_; rintro e w' ⟨rfl, rfl⟩)
            | (go_at_call 59; refine (HB _ ht').mono ?_; rintro e w' ⟨rfl, hbb⟩))
          go_ret2
          exact ⟨ret_u8n (by rw [HE.out]) (by rw [HE.out]), hbb⟩
        have hx' : ((t[1].toNat : Int) == 120) = false := by simpa using hx
        have HE : Hid (ubR t.data.toList = (0, 0)) := by
          show _ = _; rw [E2.out]
          exact ubR_no (toNat_ne (n := 34) (by omega) hq) (toNat_ne (n := 92) (by omega) hb) (toNat_ne (n := 110) (by omega) hn) (toNat_ne (n := 120) (by omega) hx)
        generalize ubR t.data.toList = R at *
        clear E2 hq hb hn hx
        go_enter Tryd.func51, Tryd.ntmps51
        go_wp2_with (go_at_call 52; refine (isPlain_f _ _ (by first | exact hp' | decide)).mono ?_; rintro e w' ⟨rfl, rfl⟩)
        go_ret2
        exact ⟨ret_u8n (by rw [HE.out]; rfl) (by rw [HE.out]; rfl), Below.refl _ _⟩
      · have HE : Hid (ubR t.data.toList = (0, 0)) := by
          show _ = _; rw [bytes1 h0, e92]
          have : t.data.toList.drop 1 = [] := by rw [List.drop_eq_nil_iff]; simp; omega
          rw [this]; exact ubR_one
        generalize ubR t.data.toList = R at *
        clear e92
        go_enter Tryd.func51, Tryd.ntmps51
        go_wp2_with (go_at_call 52; refine (isPlain_f _ _ (by first | exact hp' | decide)).mono ?_; rintro e w' ⟨rfl, rfl⟩)
        go_ret2
        exact ⟨ret_u8n (by rw [HE.out]; rfl) (by rw [HE.out]; rfl), Below.refl _ _⟩
    · have HE : Hid (ubR t.data.toList = (0, 0)) := by show _ = _; rw [bytes1 h0]; exact ubR_other (by simpa using hp) (toNat_ne (n := 92) (by omega) h92)
      have h92' : ((t[0].toNat : Int) == 92) = false := by simpa using h92
      have h92'' : ((t[0].toNat : Int) != 92) = true := by simpa using h92
      generalize ubR t.data.toList = R at *
      go_enter Tryd.func51, Tryd.ntmps51
      go_wp2_with (go_at_call 52; refine (isPlain_f _ _ hp').mono ?_; rintro e w' ⟨rfl, rfl⟩)
      go_ret2
      exact ⟨ret_u8n (by rw [HE.out]; rfl) (by rw [HE.out]; rfl), Below.refl _ _⟩
end Go.Proofs.YthckmpjokabkcaaDoor
