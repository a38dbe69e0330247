/- The base's Itoa of any number. -/
import Derived.Test.YtahcllncjpaijaaDoorVr2
import Derived.Test.YtahcllncjpaijaaDoorVc0
import Derived.Test.YtahcllncjpaijaaDoorVr6
import Derived.Test.YtahcllncjpaijaaDoorPlain3
import Derived.Lib.ItoaNum
import Derived.Lib.ItoaLen
import Derived.Lib.ItoaMem
namespace Go.Proofs.YtahcllncjpaijaaDoor
open Go.RowKit

theorem rparse_any (s : ByteArray) (hs : s.size ≤ 100000) : ∀ (d deep a : Nat) (w : World), deep + d = 33 → a ≤ s.size →
    Calls Tryd.prog 35 #[.string s, .int .i64 a, .int .i64 deep] w fun e w' => PO w' a (rpV d (s.data.toList.drop a)) e ∧ Below w.heap.size w w'
  | 0, deep, a, w, hd, ha => rparse_end s a deep 0 w ha hd (Or.inr rfl)
  | d + 1, deep, a, w, hd, ha => by
    by_cases hlt : a < s.size
    · by_cases h34 : (s[a].toNat : Int) = 34
      · exact rparse_quo s a deep d w hs hlt (by omega) h34
      · by_cases h91 : (s[a].toNat : Int) = 91
        · refine rparse_list s a deep d w hs hlt (by omega) h91 (fun b w' hb => ?_)
          exact rparse_any s hs d (deep + 1) b w' (by omega) hb
        · by_cases h45 : (s[a].toNat : Int) = 45
          · exact rparse_neg s a deep d w hs hlt (by omega) h45
          · exact rparse_num s a deep d w hs hlt (by omega) h34 h91 h45
    · exact rparse_end s a deep (d + 1) w ha hd (Or.inl (by omega))
/-- What the reference's Parse answers is what the program's does. -/
theorem psE_ref {s : List UInt8} (hl : ¬ 65536 < s.length) : (∀ m x, rpV 32 s = some (m, x) → x = s.length → chkV m = 0 → psE s = 0 ∧ psA s = m) ∧ ((∀ m, rpV 32 s = some (m, s.length) → chkV m ≠ 0) → psE s = 2 ∧ psA s = []) := by
  have hi := parse_iff (s := s) (by omega)
  constructor
  · intro m x h1 h2 h3
    subst h2
    obtain ⟨t, hr, ht⟩ := (rparse_iff s).2 ⟨m, h1, h3⟩
    obtain ⟨e1, e2⟩ := psE_good hl (hi.1 ⟨t, hr, ht⟩)
    exact ⟨e1, by rw [e2, parse_is (by omega) hr ht, (rparse_is hr ht h1).1]⟩
  · intro h
    refine psE_bad hl (fun hc => ?_)
    obtain ⟨t, hr, ht⟩ := hi.2 hc
    obtain ⟨m, h1, h2⟩ := (rparse_iff s).1 ⟨t, hr, ht⟩
    exact h m h1 h2
set_option maxHeartbeats 4000000 in
set_option maxRecDepth 100000 in
theorem rvparse_any (s : ByteArray) (w : World) (hmax : s.size ≤ maxLen) :
    Calls Tryd.prog 19 #[.string s] w fun e w' => ∃ v, e = .returned (.tuple #[v, .int .i64 (psE s.data.toList)]) ∧ AS w' v (psA s.data.toList) ∧ Below w.heap.size w w' := by
  have hsz : s.data.toList.length = s.size := by simp
  by_cases hl : 65536 < s.data.toList.length
  · have e1 : psE s.data.toList = 3 := by unfold psE; rw [if_pos hl]
    have e2 : psA s.data.toList = [] := by unfold psA; rw [e1, if_neg (by decide)]
    rw [e1, e2]
    have hl' : 65536 < s.size := by omega
    unfold maxLen at hmax
    clear e1 e2 hl hsz
    go_enter Tryd.func19, Tryd.ntmps19
    go_wp2_with fail
    exact bodyPost_ret (v := .tuple #[.slice none 0 0, .int .i64 3]) (by simp [results, Tryd.results19, go_sem]) rfl ⟨_, rfl, as_nil _, Below.refl _ _⟩
  · obtain ⟨p1, p2⟩ := psE_ref hl
    have hl' : ¬ 65536 < s.size := by omega
    have PA := rparse_any s (by omega) 32 1 0 w (by omega) (by omega)
    rw [List.drop_zero] at PA
    cases hf : rpV 32 s.data.toList with
    | none =>
      obtain ⟨e1, e2⟩ := p2 (fun m h => by rw [hf] at h; cases h)
      rw [e1, e2]
      rw [hf] at PA
      have CA : Hid (Calls Tryd.prog 35 #[.string s, .int .i64 0, .int .i64 1] w fun e w' => PO w' 0 none e ∧ Below w.heap.size w w') := PA
      clear PA p1 p2 e1 e2 hf hl hsz hmax
      go_enter Tryd.func19, Tryd.ntmps19
      go_wp2_with (go_at_call 35; refine CA.out.mono ?_; rintro e w1 ⟨hp, hb⟩; obtain ⟨v1, y1, rfl⟩ := po_of_none hp; have B1 : Hid (Below w.heap.size w w1) := hb; clear hp hb)
      exact bodyPost_ret (v := .tuple #[.slice none 0 0, .int .i64 2]) (by simp [results, Tryd.results19, go_sem]) rfl ⟨_, rfl, as_nil _, B1.out⟩
    | some mx =>
      obtain ⟨m, x⟩ := mx
      rw [hf] at PA
      obtain ⟨l1, l2, l3, l4⟩ := rpV_len 32 _ m x hf
      have hat : AT m := fun c hc => by have := l4 c hc; unfold maxLen; omega
      have CK : Hid (∀ v w1, AS w1 v m → Calls Tryd.prog 31 #[v] w1 fun e w' => e = .returned (.int .i64 (chkV m)) ∧ Below w1.heap.size w1 w') := fun v w1 h => rvcheck_any v m w1 h hat (by omega)
      have CA : Hid (Calls Tryd.prog 35 #[.string s, .int .i64 0, .int .i64 1] w fun e w' => PO w' 0 (some (m, x)) e ∧ Below w.heap.size w w') := PA
      have hx : x ≤ s.size := by omega
      by_cases hxe : x = s.size
      · by_cases hc : chkV m = 0
        · obtain ⟨e1, e2⟩ := p1 m x hf (by omega) hc
          rw [e1, e2]
          rw [hc] at CK
          subst hxe
          clear PA p1 p2 e1 e2 hf hl hsz hmax l1 l2 l3 l4 hat hc
          go_enter Tryd.func19, Tryd.ntmps19
          go_wp2_with (first
            | (go_at_call 35; refine CA.out.mono ?_; rintro e w1 ⟨hp, hb⟩; obtain ⟨v1, rfl, hv1⟩ := po_of_some hp; rw [Nat.zero_add]; have B1 : Hid (Below w.heap.size w w1) := hb; have V1 : Hid (AS w1 v1 m) := hv1; clear hp hb hv1)
            | (go_at_call 31; refine (CK.out _ _ V1.out).mono ?_; rintro e w2 ⟨rfl, hb⟩; have B2 : Hid (Below w.heap.size w w2) := B1.out.trans (hb.mono B1.out.size); have V2 : Hid (AS w2 v1 m) := GS.below V1.out hb; clear hb V1 B1))
          exact bodyPost_ret (v := .tuple #[v1, .int .i64 0]) (by simp [results, Tryd.results19, go_sem]) rfl ⟨_, rfl, V2.out, B2.out⟩
        · obtain ⟨e1, e2⟩ := p2 (fun m' h => by rw [hf] at h; injection h with h; injection h with h _; rw [← h]; exact hc)
          rw [e1, e2]
          generalize chkV m = ck at *
          have hcb : (ck != 0) = true := by simpa using hc
          subst hxe
          clear PA p1 p2 e1 e2 hf hl hsz hmax l1 l2 l3 l4 hat
          go_enter Tryd.func19, Tryd.ntmps19
          go_wp2_with (first
            | (go_at_call 35; refine CA.out.mono ?_; rintro e w1 ⟨hp, hb⟩; obtain ⟨v1, rfl, hv1⟩ := po_of_some hp; rw [Nat.zero_add]; have B1 : Hid (Below w.heap.size w w1) := hb; have V1 : Hid (AS w1 v1 m) := hv1; clear hp hb hv1)
            | (go_at_call 31; refine (CK.out _ _ V1.out).mono ?_; rintro e w2 ⟨rfl, hb⟩; have B2 : Hid (Below w.heap.size w w2) := B1.out.trans (hb.mono B1.out.size); clear hb V1 B1))
          exact bodyPost_ret (v := .tuple #[.slice none 0 0, .int .i64 2]) (by simp [results, Tryd.results19, go_sem]) rfl ⟨_, rfl, as_nil _, B2.out⟩
      · obtain ⟨e1, e2⟩ := p2 (fun m' h => by rw [hf] at h; injection h with h; injection h with _ h; omega)
        rw [e1, e2]
        have hxb : ((x : Int) != (s.size : Int)) = true := by simpa using fun e => hxe (by omega)
        clear PA p1 p2 e1 e2 hf hl hsz hmax l1 l2 l3 l4 hat CK
        go_enter Tryd.func19, Tryd.ntmps19
        go_wp2_with (go_at_call 35; refine CA.out.mono ?_; rintro e w1 ⟨hp, hb⟩; obtain ⟨v1, rfl, hv1⟩ := po_of_some hp; rw [Nat.zero_add]; have B1 : Hid (Below w.heap.size w w1) := hb; clear hp hb hv1)
        exact bodyPost_ret (v := .tuple #[.slice none 0 0, .int .i64 2]) (by simp [results, Tryd.results19, go_sem]) rfl ⟨_, rfl, as_nil _, B1.out⟩
end Go.Proofs.YtahcllncjpaijaaDoor
namespace Go.Proofs.YtahcllncjpaijaaDoor
open Go.RowKit

/-- The digits of a number; none of nought. -/
def dd (u : Nat) : List UInt8 := if u = 0 then [] else Lib.decDigits u
theorem dd_step {u : Nat} (h : 0 < u) : dd u = dd (u / 10) ++ [UInt8.ofNat (48 + u % 10)] := by
  unfold dd
  rw [if_neg (by omega)]
  rw [Lib.decDigits]
  split
  · rename_i h10
    rw [if_pos (by omega), show u % 10 = u by omega]; rfl
  · rename_i h10
    rw [if_neg (by omega)]
theorem own_lit (w0 : World) (b : UInt8) : Own (w0.alloc (.cells #[.int .u8 (b.toNat : Int)] 5)) w0.heap.size (.slice (some ⟨w0.heap.size, 0, none⟩) 1 1) [b] := by
  refine ⟨rfl, Or.inr ⟨w0.heap.size, 1, #[.int .u8 (b.toNat : Int)], rfl, Nat.le_refl _, heap_alloc_new w0 _, Nat.le_refl _, by unfold maxLen; omega, rfl, rfl⟩⟩
theorem str_cons (b : UInt8) (acc : List UInt8) : Value.string (⟨#[b]⟩ ++ ⟨acc.toArray⟩) = .string ⟨(b :: acc).toArray⟩ := by
  congr 1
set_option maxHeartbeats 2000000 in
theorem itoa_any (n : Nat) (w : World) (hn : n ≤ 9223372036854775807) :
    Calls Tryd.prog 59 #[.int .i64 n] w fun e w' => e = .returned (.string ⟨(Lib.decDigits n).toArray⟩) ∧ Below w.heap.size w w' := by
  by_cases h0 : n = 0
  · subst h0
    go_enter Tryd.func59, Tryd.ntmps59
    go_wp2
    go_ret
    refine ⟨?_, Below.refl _ _⟩
    rw [Lib.decDigits, dif_pos (by omega)]; rfl
  · have hb : ((n : Int) == 0) = false := by simp; omega
    have HD : Hid (Lib.decDigits n = dd n ++ []) := by show _ = _; unfold dd; rw [if_neg h0, List.append_nil]
    go_enter Tryd.func59, Tryd.ntmps59
    go_wp2
    go_loopw [3, 4] (fun u s wr => ∃ (k : Nat) (acc : List UInt8) (w2 : World), w2 = wr ∧ u = .int .u64 k ∧ s = .string ⟨acc.toArray⟩ ∧ k ≤ n ∧ Hid (Lib.decDigits n = dd k ++ acc) ∧ Hid (Below w.heap.size w w2)) (fun u _ _ => (intOf u).toNat)
    case atStart => exact ⟨n, [], _, rfl, rfl, rfl, Nat.le_refl _, HD, Below.refl _ _⟩
    case round =>
      clear HD
      obtain ⟨k, acc, w2, rfl, rfl, rfl, hkn, HD, HB⟩ := hrel
      by_cases hk : 0 < k
      · have hk' : (0 : Int) < (k : Int) := by omega
        obtain ⟨b, hbd⟩ : ∃ b : UInt8, b = UInt8.ofNat (48 + k % 10) := ⟨_, rfl⟩
        have hbv : (b.toNat : Int) = 48 + (k : Int) % 10 := by rw [hbd]; simp; omega
        have hcv : (convert 79 9 (.slice (some ⟨w2.heap.size, 0, none⟩) 1 1)).run Tryd.prog (w2.alloc (.cells #[.int .u8 (48 + (k : Int) % 10)] 5)) = .ok (.string ⟨#[b]⟩) (w2.alloc (.cells #[.int .u8 (48 + (k : Int) % 10)] 5)) := by
          have := run_own_string (P := Tryd.prog) (own_lit w2 b) 79 9 Tryd.underlying79 Tryd.underlying5 Tryd.underlying9
          rw [hbv] at this; exact this
        have HX : Hid (Lib.decDigits n = dd (k / 10) ++ (b :: acc)) := by
          show _ = _
          rw [HD.out, dd_step hk, hbd, List.append_assoc]; rfl
        have hal : acc.length ≤ 21 := by
          have h1 := congrArg List.length HD.out
          rw [List.length_append] at h1
          have h2 := Lib.itoa_length_le (n : Int) (by omega) (by omega)
          rw [Lib.itoa_nonneg] at h2
          omega
        have hal2 : (ByteArray.mk acc.toArray).size ≤ 21 := by simpa [ByteArray.size] using hal
        clear HD hbd
        go_wp2
        go_roundw
        case rel => exact ⟨k / 10, b :: acc, _, rfl, by go_num, str_cons b acc, by omega, HX, HB.out.alloc HB.out.size _⟩
        case measure => simp [intOf]; omega
      · have hk0 : k = 0 := by omega
        subst hk0
        have HX : Hid (Lib.decDigits n = acc) := HD.out
        go_wp2
        go_ret
        exact ⟨by rw [HX.out]; rfl, HB.out⟩
end Go.Proofs.YtahcllncjpaijaaDoor
namespace Go.Proofs.YtahcllncjpaijaaDoor
open Go.RowKit

theorem wrap_neg (u : Nat) (h : u ≤ 9223372036854775807) : IntKind.u64.wrap (-IntKind.u64.wrap (-(u : Int))) = (u : Int) := by
  simp only [IntKind.wrap, IntKind.signed, IntKind.bits]
  by_cases h0 : u = 0
  · subst h0; rfl
  · simp
    omega
set_option maxHeartbeats 2000000 in
theorem ritoa_neg (u : Nat) (w : World) (h1 : 1 ≤ u) (hn : u ≤ 9223372036854775807) :
    Calls Tryd.prog 59 #[.int .i64 (-(u : Int))] w fun e w' => e = .returned (.string ⟨(45 :: Lib.decDigits u).toArray⟩) ∧ Below w.heap.size w w' := by
  have hb : ((-(u : Int)) == 0) = false := by simp; omega
  have hl : (-(u : Int)) < 0 := by omega
  have HW : Hid (IntKind.u64.wrap (-IntKind.u64.wrap (-(u : Int))) = (u : Int)) := wrap_neg u hn
  have HD : Hid (Lib.decDigits u = dd u ++ []) := by show _ = _; unfold dd; rw [if_neg (by omega), List.append_nil]
  go_enter Tryd.func59, Tryd.ntmps59
  go_wp2
  go_loopw [3, 4] (fun x s wr => ∃ (k : Nat) (acc : List UInt8) (w2 : World), w2 = wr ∧ x = .int .u64 k ∧ s = .string ⟨acc.toArray⟩ ∧ k ≤ u ∧ Hid (Lib.decDigits u = dd k ++ acc) ∧ Hid (Below w.heap.size w w2)) (fun x _ _ => (intOf x).toNat)
  case atStart => exact ⟨u, [], _, rfl, by rw [HW.out], rfl, Nat.le_refl _, HD, Below.refl _ _⟩
  case round =>
    clear HD
    obtain ⟨k, acc, w2, rfl, rfl, rfl, hkn, HD, HB⟩ := hrel
    have hal : acc.length ≤ 21 := by
      have h1 := congrArg List.length HD.out
      rw [List.length_append] at h1
      have h2 := Lib.itoa_length_le (u : Int) (by omega) (by omega)
      rw [Lib.itoa_nonneg] at h2
      omega
    have hal2 : (ByteArray.mk acc.toArray).size ≤ 21 := by simpa [ByteArray.size] using hal
    by_cases hk : 0 < k
    · have hk' : (0 : Int) < (k : Int) := by omega
      obtain ⟨b, hbd⟩ : ∃ b : UInt8, b = UInt8.ofNat (48 + k % 10) := ⟨_, rfl⟩
      have hbv : (b.toNat : Int) = 48 + (k : Int) % 10 := by rw [hbd]; simp; omega
      have hcv : (convert 79 9 (.slice (some ⟨w2.heap.size, 0, none⟩) 1 1)).run Tryd.prog (w2.alloc (.cells #[.int .u8 (48 + (k : Int) % 10)] 5)) = .ok (.string ⟨#[b]⟩) (w2.alloc (.cells #[.int .u8 (48 + (k : Int) % 10)] 5)) := by
        have := run_own_string (P := Tryd.prog) (own_lit w2 b) 79 9 Tryd.underlying79 Tryd.underlying5 Tryd.underlying9
        rw [hbv] at this; exact this
      have HX : Hid (Lib.decDigits u = dd (k / 10) ++ (b :: acc)) := by
        show _ = _
        rw [HD.out, dd_step hk, hbd, List.append_assoc]; rfl
      clear HD hbd HW
      go_wp2
      go_roundw
      case rel => exact ⟨k / 10, b :: acc, _, rfl, by go_num, str_cons b acc, by omega, HX, HB.out.alloc HB.out.size _⟩
      case measure => simp [intOf]; omega
    · have hk0 : k = 0 := by omega
      subst hk0
      have HX : Hid (Lib.decDigits u = acc) := HD.out
      clear HD HW
      go_wp2
      go_ret
      refine ⟨?_, HB.out⟩
      rw [HX.out]
      exact congrArg Ending.returned (str_cons 45 acc)
theorem ritoa_any (n : Int) (w : World) (h0 : -9007199254740992 ≤ n) (h1 : n ≤ 9007199254740992) :
    Calls Tryd.prog 59 #[.int .i64 n] w fun e w' => e = .returned (.string ⟨(Lib.itoa n).toArray⟩) ∧ Below w.heap.size w w' := by
  by_cases h : n < 0
  · obtain ⟨u, rfl⟩ : ∃ u : Nat, n = -(u : Int) := ⟨n.natAbs, by omega⟩
    rw [Lib.itoa_neg u (by omega)]
    exact ritoa_neg u w (by omega) (by omega)
  · obtain ⟨u, rfl⟩ : ∃ u : Nat, n = (u : Int) := ⟨n.toNat, by omega⟩
    rw [Lib.itoa_nonneg]
    exact itoa_any u w (by omega)
end Go.Proofs.YtahcllncjpaijaaDoor
