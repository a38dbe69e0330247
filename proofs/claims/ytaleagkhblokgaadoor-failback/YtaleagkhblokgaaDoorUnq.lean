/- The walks of lex.Unquote and of its reference: both give what the quoted text stands for. -/
import Derived.Test.YtaleagkhblokgaaDoorPlain4
import Derived.Deep.QuietTactic
import Derived.BigQuiet
namespace Go.Proofs.YtaleagkhblokgaaDoor
open Go.RowKit

theorem ret_int' {k : IntKind} {a b : Int} (h : a = b) : Ending.returned (.int k a) = .returned (.int k b) := by rw [h]
theorem firstHex (c : UInt8) : firstIdx ⟨#[48, 49, 50, 51, 52, 53, 54, 55, 56, 57, 97, 98, 99, 100, 101, 102]⟩ c = hexV c := by
  have h : ∀ n : Fin 256, firstIdx ⟨#[48, 49, 50, 51, 52, 53, 54, 55, 56, 57, 97, 98, 99, 100, 101, 102]⟩ (UInt8.ofNat n.val) = hexV (UInt8.ofNat n.val) := by decide +kernel
  have := h ⟨c.toNat, UInt8.toNat_lt c⟩
  simpa using this

set_option maxHeartbeats 400000 in
theorem indexHex_any (c : UInt8) (w : World) :
    Calls Tryd.prog 103 #[.string ⟨#[48, 49, 50, 51, 52, 53, 54, 55, 56, 57, 97, 98, 99, 100, 101, 102]⟩, .int .u8 (c.toNat : Int)] w fun e w' => e = .returned (.int .i64 (hexV c)) ∧ w' = w := by
  have hix : ∀ w : World, (callFunc 105 #[.string ⟨#[48, 49, 50, 51, 52, 53, 54, 55, 56, 57, 97, 98, 99, 100, 101, 102]⟩, .int .u8 (c.toNat : Int)]).run Tryd.prog w = .ok (.value (.int .i64 (hexV c))) w := by
    intro w
    rw [run_callFunc_extern Tryd.func105 (by kernel_rfl) (by kernel_rfl) (by kernel_rfl) (e := Extern.BytealgIndexByte.indexByte) (by kernel_rfl), run_indexByte_string]
    have e : (c.toNat : Int).toNat.toUInt8 = c := by simp
    rw [e, firstHex]; rfl
  go_enter Tryd.func103, Tryd.ntmps103
  go_wp2
  go_ret
  exact ⟨rfl, rfl⟩

set_option maxHeartbeats 400000 in
theorem hex_any (c : UInt8) (w : World) :
    Calls Tryd.prog 100 #[.int .u8 (c.toNat : Int)] w fun e w' => e = .returned (.int .i64 (hexV c)) ∧ w' = w := by
  have hc : (c.toNat : Int) ≤ 255 := by have := UInt8.toNat_lt c; omega
  have HV : Hid (hexV c = if 48 ≤ (c.toNat : Int) ∧ (c.toNat : Int) ≤ 57 then (c.toNat : Int) - 48 else if 97 ≤ (c.toNat : Int) ∧ (c.toNat : Int) ≤ 102 then (c.toNat : Int) - 87 else -1) := rfl
  go_enter Tryd.func100, Tryd.ntmps100
  go_wp2
  all_goals
    go_ret
    refine ⟨ret_int' ?_, rfl⟩
    rw [HV.out]
    first
    | (rw [if_pos (by omega)])
    | (rw [if_neg (by omega), if_pos (by omega)]; omega)
    | (rw [if_neg (by omega), if_neg (by omega)])

/-- What two digits behind a backslash and an x stand for, and how many bytes say so. -/
def hr : List UInt8 → UInt8 × Nat
  | _ :: _ :: e :: f :: _ => match hexB e f with
    | some b => (b, 4)
    | none => (0, 0)
  | _ => (0, 0)
theorem hr_short (t : ByteArray) (h : t.size < 4) : hr t.data.toList = (0, 0) := by
  have hl : t.data.toList.length = t.size := by simp
  match e : t.data.toList, hl with
  | [], _ => rfl
  | [_], _ => rfl
  | [_, _], _ => rfl
  | [_, _, _], _ => rfl
  | _ :: _ :: _ :: _ :: _, hl => simp at hl; omega
theorem hr_long (t : ByteArray) (h : 4 ≤ t.size) : hr t.data.toList = match hexB (t[2]'(by omega)) (t[3]'(by omega)) with
    | some b => (b, 4)
    | none => (0, 0) := by
  have e : t.data.toList = t[0] :: t[1] :: t[2] :: t[3] :: t.data.toList.drop 4 := by
    have d0 := List.drop_eq_getElem_cons (l := t.data.toList) (i := 0) (by simp; omega)
    have d1 := List.drop_eq_getElem_cons (l := t.data.toList) (i := 1) (by simp; omega)
    have d2 := List.drop_eq_getElem_cons (l := t.data.toList) (i := 2) (by simp; omega)
    have d3 := List.drop_eq_getElem_cons (l := t.data.toList) (i := 3) (by simp; omega)
    rw [List.drop_zero] at d0
    rw [d1, d2, d3] at d0
    exact d0
  rw [e]; rfl

theorem hexV_bd (c : UInt8) : -1 ≤ hexV c ∧ hexV c ≤ 15 := by unfold hexV; split; omega; split <;> omega
theorem or16 (h l : Int) (h0 : 0 ≤ h) (h1 : h ≤ 15) (l0 : 0 ≤ l) (l1 : l ≤ 15) : bits BinOp.or IntKind.i64 (h * 16) l = h * 16 + l := by
  have H : ∀ a b : Fin 16, bits BinOp.or IntKind.i64 ((a.val : Int) * 16) (b.val : Int) = (a.val : Int) * 16 + (b.val : Int) := by decide +kernel
  obtain ⟨a, rfl⟩ : ∃ a : Nat, h = a := ⟨h.toNat, by omega⟩
  obtain ⟨b, rfl⟩ : ∃ b : Nat, l = b := ⟨l.toNat, by omega⟩
  exact H ⟨a, by omega⟩ ⟨b, by omega⟩
theorem ret_u8n {a b : Int} {m n : Int} (h : a = b) (h2 : m = n) : Ending.returned (.tuple #[.int .u8 a, .int .i64 m]) = .returned (.tuple #[.int .u8 b, .int .i64 n]) := by rw [h, h2]

set_option maxRecDepth 100000 in
set_option maxHeartbeats 1000000 in
theorem hexByte_any (t : ByteArray) (w : World) (ht : t.size ≤ maxLen) :
    Calls Tryd.prog 102 #[.string t] w fun e w' => e = .returned (.tuple #[.int .u8 ((hr t.data.toList).1.toNat : Int), .int .i64 ((hr t.data.toList).2 : Int)]) ∧ Below w.heap.size w w' := by
  unfold maxLen at ht
  by_cases h4 : 4 ≤ t.size
  · have HR : Hid (hr t.data.toList = match hexB (t[2]'(by omega)) (t[3]'(by omega)) with
      | some b => (b, 4)
      | none => (0, 0)) := hr_long t h4
    have i2 : (2 : Int) < (t.size : Int) := by omega
    have i3 : (3 : Int) < (t.size : Int) := by omega
    have I2 := indexHex_any (t[2]'(by omega))
    have I3 := indexHex_any (t[3]'(by omega))
    obtain ⟨b2, b2'⟩ := hexV_bd (t[2]'(by omega))
    obtain ⟨b3, b3'⟩ := hexV_bd (t[3]'(by omega))
    have HX0 := hexB_def (t[2]'(by omega)) (t[3]'(by omega))
    generalize hr t.data.toList = R at *
    generalize hexB (t[2]'(by omega)) (t[3]'(by omega)) = B at *
    generalize hexV (t[2]'(by omega)) = H at *
    generalize hexV (t[3]'(by omega)) = L at *
    have HX : Hid _ := HX0
    clear HX0
    by_cases hH : H < 0
    · have e : R = (0, 0) := by rw [HR.out, HX.out, if_neg (by omega)]
      have HE : Hid (R = (0, 0)) := e
      clear e HR HX
      go_enter Tryd.func102, Tryd.ntmps102
      go_wp2
      go_quiet ((go_at_call 103; first | exact Calls.quiet_of_same (I2 _) | exact Calls.quiet_of_same (I3 _)))
      go_wp2
      go_ret2
      exact ⟨ret_u8n (by rw [HE.out]; rfl) (by rw [HE.out]; rfl), below_drewN (Below.refl _ _) _⟩
    · by_cases hL : L < 0
      · have e : R = (0, 0) := by rw [HR.out, HX.out, if_neg (by omega)]
        have HE : Hid (R = (0, 0)) := e
        clear e HR HX
        go_enter Tryd.func102, Tryd.ntmps102
        go_wp2
        go_quiet ((go_at_call 103; first | exact Calls.quiet_of_same (I2 _) | exact Calls.quiet_of_same (I3 _)))
        go_wp2
        go_ret2
        exact ⟨ret_u8n (by rw [HE.out]; rfl) (by rw [HE.out]; rfl), below_drewN (Below.refl _ _) _⟩
      · have h0 : 0 ≤ H := by omega
        have l0 : 0 ≤ L := by omega
        have ho := or16 H L h0 (by omega) l0 (by omega)
        by_cases hbad : (32 ≤ 16 * H + L ∧ 16 * H + L ≤ 126) ∨ 16 * H + L = 10
        · have e : R = (0, 0) := by rw [HR.out, HX.out, if_pos (by omega), if_pos hbad]
          have HE : Hid (R = (0, 0)) := e
          have HB : Hid ((32 ≤ 16 * H + L ∧ 16 * H + L ≤ 126) ∨ 16 * H + L = 10) := hbad
          clear e HR HX hbad
          go_enter Tryd.func102, Tryd.ntmps102
          go_wp2
          go_quiet ((go_at_call 103; first | exact Calls.quiet_of_same (I2 _) | exact Calls.quiet_of_same (I3 _)))
          go_wp2_with (go_at_call 88; refine (isPlain_any _ _).mono ?_; rintro e w' ⟨rfl, rfl⟩)
          all_goals first
            | (go_ret2; exact ⟨ret_u8n (by rw [HE.out]; rfl) (by rw [HE.out]; rfl), below_drewN (Below.refl _ _) _⟩)
            | (exfalso; have hb := HB.out; simp only [plB, decide_eq_true_eq, beq_eq_false_iff_ne, ne_eq] at *; omega)
        · have e : R = (UInt8.ofNat (16 * H + L).toNat, 4) := by rw [HR.out, HX.out, if_pos (by omega), if_neg hbad]
          have HE : Hid (R = (UInt8.ofNat (16 * H + L).toNat, 4)) := e
          clear e HR HX
          go_enter Tryd.func102, Tryd.ntmps102
          go_wp2
          go_quiet ((go_at_call 103; first | exact Calls.quiet_of_same (I2 _) | exact Calls.quiet_of_same (I3 _)))
          go_wp2_with (go_at_call 88; refine (isPlain_any _ _).mono ?_; rintro e w' ⟨rfl, rfl⟩)
          all_goals first
            | (go_ret2; exact ⟨ret_u8n (by rw [HE.out]; simp; omega) (by rw [HE.out]; rfl), below_drewN (Below.refl _ _) _⟩)
            | (exfalso; simp only [plB, decide_eq_true_eq, beq_iff_eq, ne_eq] at *; omega)
  · have HR := hr_short t (by omega)
    go_enter Tryd.func102, Tryd.ntmps102
    go_wp2
    go_ret2
    rw [HR]
    exact ⟨rfl, Below.refl _ _⟩
end Go.Proofs.YtaleagkhblokgaaDoor
