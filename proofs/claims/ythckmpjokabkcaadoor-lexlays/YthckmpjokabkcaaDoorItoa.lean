/- The walk of the reference's Itoa: the decimal digits of a number that is not negative. -/
import Derived.Test.YthckmpjokabkcaaDoorBytes
import Derived.Lib.ItoaNum
import Derived.Lib.ItoaLen
import Derived.Lib.ItoaMem
namespace Go.Proofs.YthckmpjokabkcaaDoor
open Go.RowKit

/-- The digits of a number; none of nought. -/
def dd (u : Nat) : List UInt8 := if u = 0 then [] else Lib.decDigits u
theorem dd_step {u : Nat} (h : 0 < u) : dd u = dd (u / 10) ++ [UInt8.ofNat (48 + u % 10)] := by
  unfold dd
  rw [if_neg (by omega)]
  rw [Lib.decDigits]
  split
  · rename_i h10
    rw [if_pos (by omega), show u % 10 = u by omega]; rfl
  · rename_i h10
    rw [if_neg (by omega)]
theorem own_lit (w0 : World) (b : UInt8) : Own (w0.alloc (.cells #[.int .u8 (b.toNat : Int)] 5)) w0.heap.size (.slice (some ⟨w0.heap.size, 0, none⟩) 1 1) [b] := by
  refine ⟨rfl, Or.inr ⟨w0.heap.size, 1, #[.int .u8 (b.toNat : Int)], rfl, Nat.le_refl _, heap_alloc_new w0 _, Nat.le_refl _, by unfold maxLen; omega, rfl, rfl⟩⟩
theorem str_cons (b : UInt8) (acc : List UInt8) : Value.string (⟨#[b]⟩ ++ ⟨acc.toArray⟩) = .string ⟨(b :: acc).toArray⟩ := by
  congr 1
set_option maxHeartbeats 2000000 in
theorem itoa_any (n : Nat) (w : World) (hn : n ≤ 9223372036854775807) :
    Calls Tryd.prog 35 #[.int .i64 n] w fun e w' => e = .returned (.string ⟨(Lib.decDigits n).toArray⟩) ∧ Below w.heap.size w w' := by
  by_cases h0 : n = 0
  · subst h0
    go_enter Tryd.func35, Tryd.ntmps35
    go_wp2
    go_ret
    refine ⟨?_, Below.refl _ _⟩
    rw [Lib.decDigits, dif_pos (by omega)]; rfl
  · have hb : ((n : Int) == 0) = false := by simp; omega
    have HD : Hid (Lib.decDigits n = dd n ++ []) := by show _ = _; unfold dd; rw [if_neg h0, List.append_nil]
    go_enter Tryd.func35, Tryd.ntmps35
    go_wp2
    go_loopw [3, 4] (fun u s wr => ∃ (k : Nat) (acc : List UInt8) (w2 : World), w2 = wr ∧ u = .int .u64 k ∧ s = .string ⟨acc.toArray⟩ ∧ k ≤ n ∧ Hid (Lib.decDigits n = dd k ++ acc) ∧ Hid (Below w.heap.size w w2)) (fun u _ _ => (intOf u).toNat)
    case atStart => exact ⟨n, [], _, rfl, rfl, rfl, Nat.le_refl _, HD, Below.refl _ _⟩
    case round =>
      clear HD
      obtain ⟨k, acc, w2, rfl, rfl, rfl, hkn, HD, HB⟩ := hrel
      by_cases hk : 0 < k
      · have hk' : (0 : Int) < (k : Int) := by omega
        obtain ⟨b, hbd⟩ : ∃ b : UInt8, b = UInt8.ofNat (48 + k % 10) := ⟨_, rfl⟩
        have hbv : (b.toNat : Int) = 48 + (k : Int) % 10 := by rw [hbd]; simp; omega
        have hcv : (convert 43 9 (.slice (some ⟨w2.heap.size, 0, none⟩) 1 1)).run Tryd.prog (w2.alloc (.cells #[.int .u8 (48 + (k : Int) % 10)] 5)) = .ok (.string ⟨#[b]⟩) (w2.alloc (.cells #[.int .u8 (48 + (k : Int) % 10)] 5)) := by
          have := run_own_string (P := Tryd.prog) (own_lit w2 b) 43 9 Tryd.underlying43 Tryd.underlying5 Tryd.underlying9
          rw [hbv] at this; exact this
        have HX : Hid (Lib.decDigits n = dd (k / 10) ++ (b :: acc)) := by
          show _ = _
          rw [HD.out, dd_step hk, hbd, List.append_assoc]; rfl
        have hal : acc.length ≤ 21 := by
          have h1 := congrArg List.length HD.out
          rw [List.length_append] at h1
          have h2 := Lib.itoa_length_le (n : Int) (by omega) (by omega)
          rw [Lib.itoa_nonneg] at h2
          omega
        have hal2 : (ByteArray.mk acc.toArray).size ≤ 21 := by simpa [ByteArray.size] using hal
        clear HD hbd
        go_wp2
        go_roundw
        case rel => exact ⟨k / 10, b :: acc, _, rfl, by go_num, str_cons b acc, by omega, HX, HB.out.alloc HB.out.size _⟩
        case measure => simp [intOf]; omega
      · have hk0 : k = 0 := by omega
        subst hk0
        have HX : Hid (Lib.decDigits n = acc) := HD.out
        go_wp2
        go_ret
        exact ⟨by rw [HX.out]; rfl, HB.out⟩
end Go.Proofs.YthckmpjokabkcaaDoor
