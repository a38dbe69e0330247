/- The walks of lex.quotedAt and of Unquote: what the quoted text stands for. Asked: the text has room in memory. -/
import Derived.Test.YtahcllncjpaijabDoorPlain4
import Derived.Deep.QuietTactic
import Derived.BigQuiet
namespace Go.Proofs.YtahcllncjpaijabDoor.L1
open Go.RowKit

theorem ret_int' {k : IntKind} {a b : Int} (h : a = b) : Ending.returned (.int k a) = .returned (.int k b) := by rw [h]
theorem firstHex (c : UInt8) : firstIdx ⟨#[48, 49, 50, 51, 52, 53, 54, 55, 56, 57, 97, 98, 99, 100, 101, 102]⟩ c = hexV c := by
  have h : ∀ n : Fin 256, firstIdx ⟨#[48, 49, 50, 51, 52, 53, 54, 55, 56, 57, 97, 98, 99, 100, 101, 102]⟩ (UInt8.ofNat n.val) = hexV (UInt8.ofNat n.val) := by decide +kernel
  have := h ⟨c.toNat, UInt8.toNat_lt c⟩
  simpa using this

set_option maxHeartbeats 400000 in
theorem indexHex_any (c : UInt8) (w : World) :
    Calls Tryd.prog 98 #[.string ⟨#[48, 49, 50, 51, 52, 53, 54, 55, 56, 57, 97, 98, 99, 100, 101, 102]⟩, .int .u8 (c.toNat : Int)] w fun e w' => e = .returned (.int .i64 (hexV c)) ∧ w' = w := by
  have hix : ∀ w : World, (callFunc 100 #[.string ⟨#[48, 49, 50, 51, 52, 53, 54, 55, 56, 57, 97, 98, 99, 100, 101, 102]⟩, .int .u8 (c.toNat : Int)]).run Tryd.prog w = .ok (.value (.int .i64 (hexV c))) w := by
    intro w
    rw [run_callFunc_extern Tryd.func100 (by kernel_rfl) (by kernel_rfl) (by kernel_rfl) (e := Extern.BytealgIndexByte.indexByte) (by kernel_rfl), run_indexByte_string]
    have e : (c.toNat : Int).toNat.toUInt8 = c := by simp
    rw [e, firstHex]; rfl
  go_enter Tryd.func98, Tryd.ntmps98
  go_wp2
  go_ret
  exact ⟨rfl, rfl⟩

/-- What two digits behind a backslash and an x stand for, and how many bytes say so. -/
def hr : List UInt8 → UInt8 × Nat
  | _ :: _ :: e :: f :: _ => match hexB e f with
    | some b => (b, 4)
    | none => (0, 0)
  | _ => (0, 0)
theorem hr_short (t : ByteArray) (h : t.size < 4) : hr t.data.toList = (0, 0) := by
  have hl : t.data.toList.length = t.size := by simp
  match e : t.data.toList, hl with
  | [], _ => rfl
  | [_], _ => rfl
  | [_, _], _ => rfl
  | [_, _, _], _ => rfl
  | _ :: _ :: _ :: _ :: _, hl => simp at hl; omega
theorem hr_long (t : ByteArray) (h : 4 ≤ t.size) : hr t.data.toList = match hexB (t[2]'(by omega)) (t[3]'(by omega)) with
    | some b => (b, 4)
    | none => (0, 0) := by
  have e : t.data.toList = t[0] :: t[1] :: t[2] :: t[3] :: t.data.toList.drop 4 := by
    have d0 := List.drop_eq_getElem_cons (l := t.data.toList) (i := 0) (by simp; omega)
    have d1 := List.drop_eq_getElem_cons (l := t.data.toList) (i := 1) (by simp; omega)
    have d2 := List.drop_eq_getElem_cons (l := t.data.toList) (i := 2) (by simp; omega)
    have d3 := List.drop_eq_getElem_cons (l := t.data.toList) (i := 3) (by simp; omega)
    rw [List.drop_zero] at d0
    rw [d1, d2, d3] at d0
    exact d0
  rw [e]; rfl

theorem hexV_bd (c : UInt8) : -1 ≤ hexV c ∧ hexV c ≤ 15 := by unfold hexV; split; omega; split <;> omega
theorem or16 (h l : Int) (h0 : 0 ≤ h) (h1 : h ≤ 15) (l0 : 0 ≤ l) (l1 : l ≤ 15) : bits BinOp.or IntKind.i64 (h * 16) l = h * 16 + l := by
  have H : ∀ a b : Fin 16, bits BinOp.or IntKind.i64 ((a.val : Int) * 16) (b.val : Int) = (a.val : Int) * 16 + (b.val : Int) := by decide +kernel
  obtain ⟨a, rfl⟩ : ∃ a : Nat, h = a := ⟨h.toNat, by omega⟩
  obtain ⟨b, rfl⟩ : ∃ b : Nat, l = b := ⟨l.toNat, by omega⟩
  exact H ⟨a, by omega⟩ ⟨b, by omega⟩
theorem ret_u8n {a b : Int} {m n : Int} (h : a = b) (h2 : m = n) : Ending.returned (.tuple #[.int .u8 a, .int .i64 m]) = .returned (.tuple #[.int .u8 b, .int .i64 n]) := by rw [h, h2]

set_option maxRecDepth 100000 in
set_option maxHeartbeats 1000000 in
theorem hexByte_any (t : ByteArray) (w : World) (ht : t.size ≤ maxLen) :
    Calls Tryd.prog 95 #[.string t] w fun e w' => e = .returned (.tuple #[.int .u8 ((hr t.data.toList).1.toNat : Int), .int .i64 ((hr t.data.toList).2 : Int)]) ∧ Below w.heap.size w w' := by
  unfold maxLen at ht
  by_cases h4 : 4 ≤ t.size
  · have HR : Hid (hr t.data.toList = match hexB (t[2]'(by omega)) (t[3]'(by omega)) with
      | some b => (b, 4)
      | none => (0, 0)) := hr_long t h4
    have i2 : (2 : Int) < (t.size : Int) := by omega
    have i3 : (3 : Int) < (t.size : Int) := by omega
    have I2 := indexHex_any (t[2]'(by omega))
    have I3 := indexHex_any (t[3]'(by omega))
    obtain ⟨b2, b2'⟩ := hexV_bd (t[2]'(by omega))
    obtain ⟨b3, b3'⟩ := hexV_bd (t[3]'(by omega))
    have HX0 := hexB_def (t[2]'(by omega)) (t[3]'(by omega))
    generalize hr t.data.toList = R at *
    generalize hexB (t[2]'(by omega)) (t[3]'(by omega)) = B at *
    generalize hexV (t[2]'(by omega)) = H at *
    generalize hexV (t[3]'(by omega)) = L at *
    have HX : Hid _ := HX0
    clear HX0
    by_cases hH : H < 0
    · have e : R = (0, 0) := by rw [HR.out, HX.out, if_neg (by omega)]
      have HE : Hid (R = (0, 0)) := e
      clear e HR HX
      go_enter Tryd.func95, Tryd.ntmps95
      go_wp2
      go_quiet ((go_at_call 98; first | exact Calls.quiet_of_same (I2 _) | exact Calls.quiet_of_same (I3 _)))
      go_wp2
      go_ret2
      exact ⟨ret_u8n (by rw [HE.out]; rfl) (by rw [HE.out]; rfl), below_drewN (Below.refl _ _) _⟩
    · by_cases hL : L < 0
      · have e : R = (0, 0) := by rw [HR.out, HX.out, if_neg (by omega)]
        have HE : Hid (R = (0, 0)) := e
        clear e HR HX
        go_enter Tryd.func95, Tryd.ntmps95
        go_wp2
        go_quiet ((go_at_call 98; first | exact Calls.quiet_of_same (I2 _) | exact Calls.quiet_of_same (I3 _)))
        go_wp2
        go_ret2
        exact ⟨ret_u8n (by rw [HE.out]; rfl) (by rw [HE.out]; rfl), below_drewN (Below.refl _ _) _⟩
      · have h0 : 0 ≤ H := by omega
        have l0 : 0 ≤ L := by omega
        have ho := or16 H L h0 (by omega) l0 (by omega)
        by_cases hbad : (32 ≤ 16 * H + L ∧ 16 * H + L ≤ 126) ∨ 16 * H + L = 10
        · have e : R = (0, 0) := by rw [HR.out, HX.out, if_pos (by omega), if_pos hbad]
          have HE : Hid (R = (0, 0)) := e
          have HB : Hid ((32 ≤ 16 * H + L ∧ 16 * H + L ≤ 126) ∨ 16 * H + L = 10) := hbad
          clear e HR HX hbad
          go_enter Tryd.func95, Tryd.ntmps95
          go_wp2
          go_quiet ((go_at_call 98; first | exact Calls.quiet_of_same (I2 _) | exact Calls.quiet_of_same (I3 _)))
          go_wp2_with (go_at_call 72; refine (isPlain_any _ _).mono ?_; rintro e w' ⟨rfl, rfl⟩)
          all_goals first
            | (go_ret2; exact ⟨ret_u8n (by rw [HE.out]; rfl) (by rw [HE.out]; rfl), below_drewN (Below.refl _ _) _⟩)
            | (exfalso; have hb := HB.out; simp only [plB, decide_eq_true_eq, beq_eq_false_iff_ne, ne_eq] at *; omega)
        · have e : R = (UInt8.ofNat (16 * H + L).toNat, 4) := by rw [HR.out, HX.out, if_pos (by omega), if_neg hbad]
          have HE : Hid (R = (UInt8.ofNat (16 * H + L).toNat, 4)) := e
          clear e HR HX
          go_enter Tryd.func95, Tryd.ntmps95
          go_wp2
          go_quiet ((go_at_call 98; first | exact Calls.quiet_of_same (I2 _) | exact Calls.quiet_of_same (I3 _)))
          go_wp2_with (go_at_call 72; refine (isPlain_any _ _).mono ?_; rintro e w' ⟨rfl, rfl⟩)
          all_goals first
            | (go_ret2; exact ⟨ret_u8n (by rw [HE.out]; simp; omega) (by rw [HE.out]; rfl), below_drewN (Below.refl _ _) _⟩)
            | (exfalso; simp only [plB, decide_eq_true_eq, beq_iff_eq, ne_eq] at *; omega)
  · have HR := hr_short t (by omega)
    go_enter Tryd.func95, Tryd.ntmps95
    go_wp2
    go_ret2
    rw [HR]
    exact ⟨rfl, Below.refl _ _⟩
end Go.Proofs.YtahcllncjpaijabDoor.L1
namespace Go.Proofs.YtahcllncjpaijabDoor.L1
open Go.RowKit

def ubR (l : List UInt8) : UInt8 × Nat := (ub l).getD (0, 0)
theorem ubR_plain {c : UInt8} {r : List UInt8} (h : plU c = true) : ubR (c :: r) = (c, 1) := by simp [ubR, ub, h]
theorem ubR_other {c : UInt8} {r : List UInt8} (h : plU c = false) (hc : c ≠ 92) : ubR (c :: r) = (0, 0) := by simp [ubR, ub, h, hc]
theorem pl92 : plU 92 = false := by decide
theorem ubR_one : ubR [92] = (0, 0) := by simp [ubR, ub, pl92]
theorem ubR_esc {d : UInt8} {r : List UInt8} (h : d = 34 ∨ d = 92) : ubR (92 :: d :: r) = (d, 2) := by simp [ubR, ub, pl92, h]
theorem ubR_n {r : List UInt8} : ubR (92 :: 110 :: r) = (10, 2) := by simp [ubR, ub, pl92]
theorem ubR_x {r : List UInt8} : ubR (92 :: 120 :: r) = hr (92 :: 120 :: r) := by
  match r with
  | [] => simp [ubR, ub, pl92, hr]
  | [_] => simp [ubR, ub, pl92, hr]
  | e :: f :: _ => simp [ubR, ub, pl92, hr]; cases hexB e f <;> rfl
theorem ubR_no {d : UInt8} {r : List UInt8} (h1 : d ≠ 34) (h2 : d ≠ 92) (h3 : d ≠ 110) (h4 : d ≠ 120) : ubR (92 :: d :: r) = (0, 0) := by simp [ubR, ub, pl92, h1, h2, h3, h4]
theorem u8_eq {c : UInt8} {n : Nat} (hn : n < 256) (h : (c.toNat : Int) = n) : c = UInt8.ofNat n := by apply UInt8.toNat_inj.1; simp; omega
theorem bytes1 {t : ByteArray} (h : 0 < t.size) : t.data.toList = t[0] :: t.data.toList.drop 1 := by
  have d0 := List.drop_eq_getElem_cons (l := t.data.toList) (i := 0) (by simp; omega)
  rw [List.drop_zero] at d0
  exact d0
theorem bytes2 {t : ByteArray} (h : 1 < t.size) : t.data.toList = t[0] :: t[1] :: t.data.toList.drop 2 := by
  have d0 := List.drop_eq_getElem_cons (l := t.data.toList) (i := 0) (by simp; omega)
  have d1 := List.drop_eq_getElem_cons (l := t.data.toList) (i := 1) (by simp; omega)
  rw [List.drop_zero] at d0
  rw [d1] at d0
  exact d0

set_option maxHeartbeats 1000000 in
theorem quotedByte_any (t : ByteArray) (w : World) (ht : t.size ≤ maxLen) (h0 : 0 < t.size) :
    Calls Tryd.prog 87 #[.string t] w fun e w' => e = .returned (.tuple #[.int .u8 ((ubR t.data.toList).1.toNat : Int), .int .i64 ((ubR t.data.toList).2 : Int)]) ∧ Below w.heap.size w w' := by
  have ht' := ht
  unfold maxLen at ht
  have HB := hexByte_any t
  by_cases hp : plU t[0] = true
  · have HE : Hid (ubR t.data.toList = (t[0], 1)) := by show _ = _; rw [bytes1 h0]; exact ubR_plain hp
    have hp' : plB (t[0].toNat : Int) = true := hp
    generalize ubR t.data.toList = R at *
    go_enter Tryd.func87, Tryd.ntmps87
    go_wp2_with (go_at_call 72; refine (isPlain_t _ _ hp').mono ?_; rintro e w' ⟨rfl, rfl⟩)
    go_ret2
    exact ⟨ret_u8n (by rw [HE.out]) (by rw [HE.out]; rfl), Below.refl _ _⟩
  · have hp' : plB (t[0].toNat : Int) = false := by simpa [plU] using hp
    by_cases h92 : (t[0].toNat : Int) = 92
    · have e92 : t[0] = 92 := u8_eq (n := 92) (by omega) h92
      by_cases h1 : 1 < t.size
      · have E2 : Hid (t.data.toList = (92 : UInt8) :: t[1] :: t.data.toList.drop 2) := by show _ = _; rw [← e92]; exact bytes2 h1
        clear e92
        by_cases hq : (t[1].toNat : Int) = 34
        · have HE : Hid (ubR t.data.toList = (34, 2)) := by show _ = _; rw [E2.out, u8_eq (n := 34) (by omega) hq]; exact ubR_esc (Or.inl rfl)
          generalize ubR t.data.toList = R at *
          clear E2
          go_enter Tryd.func87, Tryd.ntmps87
          go_wp2_with (go_at_call 72; refine (isPlain_f _ _ (by first | exact hp' | decide)).mono ?_; rintro e w' ⟨rfl, rfl⟩)
          go_ret2
          exact ⟨ret_u8n (by rw [HE.out]; rfl) (by rw [HE.out]; rfl), Below.refl _ _⟩
        have hq' : ((t[1].toNat : Int) == 34) = false := by simpa using hq
        by_cases hb : (t[1].toNat : Int) = 92
        · have HE : Hid (ubR t.data.toList = (92, 2)) := by show _ = _; rw [E2.out, u8_eq (n := 92) (by omega) hb]; exact ubR_esc (Or.inr rfl)
          generalize ubR t.data.toList = R at *
          clear E2
          go_enter Tryd.func87, Tryd.ntmps87
          go_wp2_with (go_at_call 72; refine (isPlain_f _ _ (by first | exact hp' | decide)).mono ?_; rintro e w' ⟨rfl, rfl⟩)
          go_ret2
          exact ⟨ret_u8n (by rw [HE.out]; rfl) (by rw [HE.out]; rfl), Below.refl _ _⟩
        have hb' : ((t[1].toNat : Int) == 92) = false := by simpa using hb
        by_cases hn : (t[1].toNat : Int) = 110
        · have HE : Hid (ubR t.data.toList = (10, 2)) := by show _ = _; rw [E2.out, u8_eq (n := 110) (by omega) hn]; exact ubR_n
          generalize ubR t.data.toList = R at *
          clear E2
          go_enter Tryd.func87, Tryd.ntmps87
          go_wp2_with (go_at_call 72; refine (isPlain_f _ _ (by first | exact hp' | decide)).mono ?_; rintro e w' ⟨rfl, rfl⟩)
          go_ret2
          exact ⟨ret_u8n (by rw [HE.out]; rfl) (by rw [HE.out]; rfl), Below.refl _ _⟩
        have hn' : ((t[1].toNat : Int) == 110) = false := by simpa using hn
        by_cases hx : (t[1].toNat : Int) = 120
        · have HE : Hid (ubR t.data.toList = hr t.data.toList) := by show _ = _; rw [E2.out, u8_eq (n := 120) (by omega) hx]; exact ubR_x
          generalize ubR t.data.toList = R at *
          generalize hr t.data.toList = Z at *
          clear E2
          go_enter Tryd.func87, Tryd.ntmps87
          go_wp2_with (first
            | (go_at_call 72; refine (isPlain_f _ _ (by first | exact hp' | decide)).mono ?_; rintro e w' ⟨rfl, rfl⟩)
            | (go_at_call 95; refine (HB _ ht').mono ?_; rintro e w' ⟨rfl, hbb⟩))
          go_ret2
          exact ⟨ret_u8n (by rw [HE.out]) (by rw [HE.out]), hbb⟩
        have hx' : ((t[1].toNat : Int) == 120) = false := by simpa using hx
        have HE : Hid (ubR t.data.toList = (0, 0)) := by
          show _ = _; rw [E2.out]
          exact ubR_no (toNat_ne (n := 34) (by omega) hq) (toNat_ne (n := 92) (by omega) hb) (toNat_ne (n := 110) (by omega) hn) (toNat_ne (n := 120) (by omega) hx)
        generalize ubR t.data.toList = R at *
        clear E2 hq hb hn hx
        go_enter Tryd.func87, Tryd.ntmps87
        go_wp2_with (go_at_call 72; refine (isPlain_f _ _ (by first | exact hp' | decide)).mono ?_; rintro e w' ⟨rfl, rfl⟩)
        go_ret2
        exact ⟨ret_u8n (by rw [HE.out]; rfl) (by rw [HE.out]; rfl), Below.refl _ _⟩
      · have HE : Hid (ubR t.data.toList = (0, 0)) := by
          show _ = _; rw [bytes1 h0, e92]
          have : t.data.toList.drop 1 = [] := by rw [List.drop_eq_nil_iff]; simp; omega
          rw [this]; exact ubR_one
        generalize ubR t.data.toList = R at *
        clear e92
        go_enter Tryd.func87, Tryd.ntmps87
        go_wp2_with (go_at_call 72; refine (isPlain_f _ _ (by first | exact hp' | decide)).mono ?_; rintro e w' ⟨rfl, rfl⟩)
        go_ret2
        exact ⟨ret_u8n (by rw [HE.out]; rfl) (by rw [HE.out]; rfl), Below.refl _ _⟩
    · have HE : Hid (ubR t.data.toList = (0, 0)) := by show _ = _; rw [bytes1 h0]; exact ubR_other (by simpa using hp) (toNat_ne (n := 92) (by omega) h92)
      have h92' : ((t[0].toNat : Int) == 92) = false := by simpa using h92
      have h92'' : ((t[0].toNat : Int) != 92) = true := by simpa using h92
      generalize ubR t.data.toList = R at *
      go_enter Tryd.func87, Tryd.ntmps87
      go_wp2_with (go_at_call 72; refine (isPlain_f _ _ hp').mono ?_; rintro e w' ⟨rfl, rfl⟩)
      go_ret2
      exact ⟨ret_u8n (by rw [HE.out]; rfl) (by rw [HE.out]; rfl), Below.refl _ _⟩
end Go.Proofs.YtahcllncjpaijabDoor.L1
namespace Go.Proofs.YtahcllncjpaijabDoor.L1
open Go.RowKit

/-- What the quoted text at a place stands for, where it ends, whether there is one. -/
def qa (l : List UInt8) (n : Nat) : List UInt8 × Nat × Bool := match uq (l.drop (n + 1)) with
  | some (t, m) => (t, n + 1 + m, true)
  | none => ([], 0, false)
theorem ret_qa {a b : List UInt8} {m n : Int} {p q : Bool} (h : a = b) (h2 : m = n) (h3 : p = q) : Ending.returned (.tuple #[.string ⟨a.toArray⟩, .int .i64 m, .bool p]) = .returned (.tuple #[.string ⟨b.toArray⟩, .int .i64 n, .bool q]) := by rw [h, h2, h3]
/-- Where the reading stands: what is read, and the rest. -/
def QRel (l : List UInt8) (n k : Nat) (done : List UInt8) : Prop := uq (l.drop (n + 1)) = (uq (l.drop k)).map fun z => (done ++ z.1, z.2 + (k - (n + 1)))
theorem QRel.start (l : List UInt8) (n : Nat) : QRel l n (n + 1) [] := by
  unfold QRel; simp
theorem QRel.fail {l : List UInt8} {n k : Nat} {done : List UInt8} (h : QRel l n k done) (h2 : uq (l.drop k) = none) : qa l n = ([], 0, false) := by
  unfold QRel at h; rw [h2] at h; unfold qa; rw [h]; rfl
theorem QRel.stop {l : List UInt8} {n k : Nat} {done : List UInt8} (h : QRel l n k done) (hk : n + 1 ≤ k) (r : List UInt8) (h2 : l.drop k = 34 :: r) : qa l n = (done, k + 1, true) := by
  unfold QRel at h; rw [h2, uq_quote] at h; unfold qa; rw [h]; simp; omega
theorem QRel.step {l : List UInt8} {n k : Nat} {done : List UInt8} (h : QRel l n k done) (hk : n + 1 ≤ k) {c : UInt8} {r : List UInt8} (h2 : l.drop k = c :: r) (hpos : 0 < (ubR (c :: r)).2) :
    QRel l n (k + (ubR (c :: r)).2) (done ++ [(ubR (c :: r)).1]) := by
  have hc : c ≠ 34 := by intro e; subst e; simp [ubR, ub_quote] at hpos
  cases hu : ub (c :: r) with
  | none => simp [ubR, hu] at hpos
  | some x =>
    obtain ⟨b, m⟩ := x
    have e : ubR (c :: r) = (b, m) := by simp [ubR, hu]
    rw [e]
    unfold QRel at h ⊢
    rw [h2, uq_some hc hu] at h
    rw [h, ← List.drop_drop, h2]
    cases uq ((c :: r).drop m) with
    | none => rfl
    | some z => simp; omega
theorem ubR_zero {c : UInt8} {r : List UInt8} (h : ¬ 0 < (ubR (c :: r)).2) : ub (c :: r) = none := by
  cases hu : ub (c :: r) with
  | none => rfl
  | some x => obtain ⟨b, m⟩ := x; have := (ub_len _ _ _ hu).1; simp [ubR, hu] at h; omega
theorem ubR_le (l : List UInt8) : (ubR l).2 ≤ l.length := by
  cases hu : ub l with
  | none => simp [ubR, hu]
  | some x => obtain ⟨b, m⟩ := x; have := (ub_len _ _ _ hu).2; simpa [ubR, hu] using this
theorem drop_cons' (s : ByteArray) (k : Nat) (h : k < s.size) : s.data.toList.drop k = s[k] :: s.data.toList.drop (k + 1) := by
  rw [List.drop_eq_getElem_cons (by simpa using h)]; rfl

theorem extract_drop (s : ByteArray) (k : Nat) : (s.extract k s.size).data.toList = s.data.toList.drop k := by
  rw [ByteArray.data_extract, Array.toList_extract, List.extract_eq_take_drop]
  apply List.take_of_length_le; simp

set_option maxHeartbeats 1000000 in
theorem quotedAt_any (s : ByteArray) (n : Nat) (w : World) (hs : s.size ≤ 140737488351232) (hn : n < s.size) :
    Calls Tryd.prog 77 #[.string s, .int .i64 n] w fun e w' => e = .returned (.tuple #[.string ⟨(qa s.data.toList n).1.toArray⟩, .int .i64 ((qa s.data.toList n).2.1 : Int), .bool (qa s.data.toList n).2.2]) ∧ Below w.heap.size w w' := by
  obtain ⟨base, hbase⟩ : ∃ base, base = w.heap.size := ⟨_, rfl⟩
  have HB : Hid (base = w.heap.size) := hbase
  have hz0 : base ≤ w.heap.size := by omega
  clear hbase
  go_enter Tryd.func77, Tryd.ntmps77
  go_wp2; go_step3; go_wp2; go_step3; go_wp2
  go_loopw [7, 8] (fun x i wr => ∃ (k : Nat) (done : List UInt8), n + 1 ≤ k ∧ k ≤ s.size ∧ i = .int .i64 k ∧ Own wr base x done ∧ done.length ≤ k ∧ Below base w wr ∧ base ≤ wr.heap.size ∧ Hid (QRel s.data.toList n k done)) (fun _ i _ => s.size - (intOf i).toNat)
  case atStart => exact ⟨n + 1, [], Nat.le_refl _, by omega, by go_num, own_nil _ _, by simp, Below.refl _ _, hz0, QRel.start _ _⟩
  case round =>
    obtain ⟨k, done, hk1, hk, rfl, ho, hdl, hb, hz, HR⟩ := hrel
    by_cases hlt : k < s.size
    · have HD : Hid (s.data.toList.drop k = s[k] :: s.data.toList.drop (k + 1)) := drop_cons' s k hlt
      have QB := quotedByte_any (s.extract k s.size) wr (by rw [ByteArray.size_extract]; unfold maxLen; omega) (by rw [ByteArray.size_extract]; omega)
      have HE : Hid (ubR (s.extract k s.size).data.toList = ubR (s[k] :: s.data.toList.drop (k + 1))) := by
        show _ = _; rw [extract_drop, HD.out]
      rw [HE.out] at QB
      have hle : (ubR (s[k] :: s.data.toList.drop (k + 1))).2 ≤ s.size - k := by
        have := ubR_le (s[k] :: s.data.toList.drop (k + 1)); simp at this; omega
      have HST : Hid (0 < (ubR (s[k] :: s.data.toList.drop (k + 1))).2 → QRel s.data.toList n (k + (ubR (s[k] :: s.data.toList.drop (k + 1))).2) (done ++ [(ubR (s[k] :: s.data.toList.drop (k + 1))).1])) := fun hp => HR.out.step hk1 HD.out hp
      have HZ : Hid (¬ 0 < (ubR (s[k] :: s.data.toList.drop (k + 1))).2 → ub (s[k] :: s.data.toList.drop (k + 1)) = none) := fun h => ubR_zero h
      generalize ubR (s[k] :: s.data.toList.drop (k + 1)) = R at *
      obtain ⟨b, m⟩ := R
      simp only at QB hle HST HZ
      clear HE
      have hbb : (b.toNat : Int) ≤ 255 := by have := UInt8.toNat_lt b; omega
      by_cases hm : 0 < m
      · go_wp2_with (first
          | (go_at_call 87; refine QB.mono ?_; rintro e w2 ⟨rfl, hb2⟩; have ho2 := ho.below hb2; have hz2 := hb2.size)
          | (at_builtin; refine append_own_bytes rfl (.tmp 27) (.tmp 29) 72 rfl base Tryd.underlying72 info_u8 _ _ _ _ done [b] _ rfl ho2 rfl rfl (by simp; omega) (by omega) ?_; intro v3 w3 ho3 hb3 hz3 hv3))
        go_roundw
        case rel => exact ⟨k + m, done ++ [b], by omega, by omega, by go_num, ho3, by simp; omega, (hb.trans (hb2.mono hz)).trans hb3, by omega, HST.out hm⟩
        case measure => simp [intOf]; omega
      · have hm0 : m = 0 := by omega
        have HU := HZ.out hm
        subst hm0
        clear HST HZ
        by_cases hq : (s[k].toNat : Int) = 34
        · have HS : Hid (qa s.data.toList n = (done, k + 1, true)) := HR.out.stop hk1 (s.data.toList.drop (k + 1)) (by rw [HD.out, u8_eq (n := 34) (by omega) hq]; rfl)
          go_wp2_with (first
            | (go_at_call 87; refine QB.mono ?_; rintro e w2 ⟨rfl, hb2⟩; have ho2 := ho.below hb2; have hz2 := hb2.size)
            | (refine wpList_own_string rfl (.tmp 39) 72 9 rfl base _ _ rfl ho2 Tryd.underlying72 Tryd.underlying5 Tryd.underlying9 ?_))
          try rw [Exit.noGoto_ret]
          go_ret3
          refine ⟨ret_qa (by rw [HS.out]) (by rw [HS.out]; simp) (by rw [HS.out]), ?_⟩
          rw [← HB.out]; exact hb.trans (hb2.mono hz)
        · have hq' : ((s[k].toNat : Int) == 34) = false := by simpa using hq
          have HS : Hid (qa s.data.toList n = ([], 0, false)) := HR.out.fail (by rw [HD.out]; exact uq_none (toNat_ne (n := 34) (by omega) hq) HU)
          clear HU
          go_wp2_with (first
            | (go_at_call 87; refine QB.mono ?_; rintro e w2 ⟨rfl, hb2⟩; have ho2 := ho.below hb2; have hz2 := hb2.size))
          try rw [Exit.noGoto_ret]
          go_ret3
          refine ⟨ret_qa (by rw [HS.out]) (by rw [HS.out]; rfl) (by rw [HS.out]), ?_⟩
          rw [← HB.out]; exact hb.trans (hb2.mono hz)
    · have HS : Hid (qa s.data.toList n = ([], 0, false)) := HR.out.fail (by
        have : s.data.toList.drop k = [] := by rw [List.drop_eq_nil_iff]; simp; omega
        rw [this, uq_nil])
      go_wp2
      try rw [Exit.noGoto_ret]
      go_ret3
      refine ⟨ret_qa (by rw [HS.out]) (by rw [HS.out]; rfl) (by rw [HS.out]), ?_⟩
      rw [← HB.out]; exact hb
end Go.Proofs.YtahcllncjpaijabDoor.L1
