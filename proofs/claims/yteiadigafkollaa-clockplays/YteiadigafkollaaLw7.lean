/- The law ClockNumbers, walked. -/
import Derived.Test.YteiadigafkollaaLw6
namespace Go.Proofs.Yteiadigafkollaa
open Go.RowKit Go.Sort Go.Shelf

theorem below_then {w u v : World} (h : Below w.heap.size w u) (k : Below u.heap.size u v) : Below w.heap.size w v := h.trans (k.mono h.size)
/-- What the two new timers are. -/
theorem two_new {now A : Int} {L : List Tm} (h : Ok now A L) (t : Tm) (ht : t ∈ del (A + 1) (ins ⟨A + 1 + 1, now + 0, 0⟩ (ins ⟨A + 1, now + 0, 0⟩ L))) : t.num ≤ A + 1 + 1 ∧ t.num ≠ A + 1 := by
  obtain ⟨h1, h2⟩ := mem_del.1 ht
  refine ⟨?_, h2⟩
  rcases mem_ins.1 h1 with rfl | h1
  · simp only; omega
  · rcases mem_ins.1 h1 with rfl | h1
    · simp only; omega
    · have := h.rng t h1; omega
/-- What time tells, whatever comes of it. -/
theorem adv_num {w0 w : World} {b : Nat} {xo : Option Nat} {now given : Int} {L : List Tm} (h : ST w0 w b xo now given L) (x : Int) :
    Calls Try.prog 15 #[.pointer (some ⟨b, 0, none⟩), .int .i64 x] w fun e w' => ∃ (p : Option Addr) (cap : Nat) (l : List (Int × Int)) (c : Int), e = .returned (.tuple #[.slice p l.length cap, .int .i64 c]) ∧ l.length ≤ 4096 ∧ FS w' (.slice p l.length cap) l ∧ (∀ f ∈ l, ∃ s ∈ L, s.num = f.1) ∧ Below w0.heap.size w0 w' := by
  by_cases hx : 0 ≤ x ∧ x ≤ 1099511627776 - now
  · have hnn := due_nn (now + x) L (fun t ht => (h.ok.rng t ht).2.2.2.2.1)
    by_cases hd : 4096 < dueL (now + x) L
    · exact (adv_long h x hx hd).mono fun e w' ⟨he, hs, _⟩ => ⟨none, 0, [], 3, he, by simp, FS.nil _, fun f hf => by simp at hf, hs.bl⟩
    · have hn : ((dueL (now + x) L).toNat : Int) = dueL (now + x) L := by omega
      refine (adv_ok h x hx _ hn (by omega)).mono fun e w' ⟨p, cap, he, hf, _, hs, _⟩ => ?_
      have hlen := told_len (dueL (now + x) L).toNat L
      rw [← hlen] at he hf
      have e2 : told (told (dueL (now + x) L).toNat L).length L = told (dueL (now + x) L).toNat L := by rw [hlen]
      rw [e2] at hf
      exact ⟨p, cap, _, 0, he, by rw [hlen]; omega, hf, fun f hf => told_num (u := now + x) h.ok (by omega) (by omega) hf, hs.bl⟩
  · exact (adv_range h x hx).mono fun e w' ⟨he, hs, _⟩ => ⟨none, 0, [], 1, he, by simp, FS.nil _, fun f hf => by simp at hf, hs.bl⟩
set_option maxHeartbeats 16000000 in
set_option maxRecDepth 100000 in
theorem clockNumbers_any (w : World) (p : Option Addr) (cap : Nat) (cs : List (Int × Int × Int)) (ticks : Int) (h : ArgC w p cs) (hl : cs.length ≤ 100000000000000000) :
    Calls Try.prog 7 #[.slice p cs.length cap, .int .i64 ticks] w fun e w' => e = .returned (.bool true) ∧ Below w.heap.size w w' := by
  have HA : Hid (ArgC w p cs) := h
  have WK := works_any w
  clear h
  go_enter Try.func7, Try.ntmps7
  go_wp2_with (first | (go_at_call 8; refine WK.mono ?_; rintro e w1 ⟨rfl, hb1⟩; have HB1 : Hid (Below w.heap.size w w1) := hb1; clear hb1) | (go_at_call 12; refine (played_any _ _ _ _ (HA.out.below HB1.out) hl).mono ?_; rintro e w2 ⟨b, rfl, hpr⟩; obtain ⟨xo, now, given, L, hst, hgm⟩ := hpr.st HB1.out; have HS : Hid (ST w w2 b xo now given L) := hst; have hg0 := hst.ok.giv; have hn0 := hst.ok.now0.1; have hn1 := hst.ok.now0.2; clear hst hpr))
  clear WK HB1
  have HO : Hid (Ok now given L) := HS.out.ok
  by_cases h1 : 1024 ≤ L.length
  · refine (after_full HS.out (by omega) 0 (by omega) h1).mono ?_
    rintro e w3 ⟨rfl, xo3, hs3⟩
    have HS3 : Hid (ST w w3 b xo3 now given L) := hs3
    clear hs3
    go_wp2_with (go_at_call 21; refine (after_full HS3.out (by omega) 0 (by omega) h1).mono ?_; rintro e w4 ⟨rfl, xo4, hs4⟩; have HS4 : Hid (ST w w4 b xo4 now given L) := hs4; clear hs4)
    go_ret
    exact ⟨rfl, HS4.out.bl⟩
  · refine (after_ok HS.out (by omega) 0 (by omega) (by omega)).mono ?_
    rintro e w3 ⟨rfl, xo3, hs3⟩
    have HS3 : Hid (ST w w3 b xo3 now (given + 1) (ins ⟨given + 1, now + 0, 0⟩ L)) := hs3
    clear hs3
    by_cases h2 : L.length = 1023
    · go_wp2_with (go_at_call 21; refine (after_full HS3.out (by omega) 0 (by omega) (by rw [ins_len]; omega)).mono ?_; rintro e w4 ⟨rfl, xo4, hs4⟩; have HS4 : Hid (ST w w4 b xo4 now (given + 1) (ins ⟨given + 1, now + 0, 0⟩ L)) := hs4; clear hs4)
      go_ret
      exact ⟨rfl, HS4.out.bl⟩
    · obtain ⟨A, hA⟩ : ∃ A, A = given + 1 := ⟨_, rfl⟩
      rw [← hA] at HS3
      have hA1 : A ≤ 100000000000000001 := by omega
      have hA0 : 1 ≤ A := by omega
      have TN : Hid (∀ t ∈ del A (ins ⟨A + 1, now + 0, 0⟩ (ins ⟨A, now + 0, 0⟩ L)), t.num ≤ A + 1 ∧ t.num ≠ A) := fun t ht => by
        rw [hA] at ht ⊢; exact two_new HO.out t ht
      have IN : Hid (∃ t ∈ ins ⟨A + 1, now + 0, 0⟩ (ins ⟨A, now + 0, 0⟩ L), t.num = A) := ⟨⟨A, now + 0, 0⟩, mem_ins.2 (Or.inr (mem_ins.2 (Or.inl rfl))), rfl⟩
      rw [← hA]
      have hin : (ins ⟨A, now + 0, 0⟩ L).length < 1024 := by rw [ins_len]; omega
      clear hA hgm hg0 HS HO h1
      obtain ⟨L1, hL1⟩ : ∃ L1, L1 = ins ⟨A, now + 0, 0⟩ L := ⟨_, rfl⟩
      rw [← hL1] at HS3 TN IN hin
      obtain ⟨L2, hL2⟩ : ∃ L2, L2 = ins ⟨A + 1, now + 0, 0⟩ L1 := ⟨_, rfl⟩
      have AF := after_ok HS3.out (by omega) 0 (by omega) hin
      rw [← hL2] at TN IN AF
      clear hL1 hL2 h2 hin HS3
      obtain ⟨L3, hL3⟩ : ∃ L3, L3 = del A L2 := ⟨_, rfl⟩
      have H3 : Hid (L3 = del A L2) := hL3
      rw [← hL3] at TN
      clear hL3
      go_wp2_with (go_at_call 21; refine AF.mono ?_; rintro e w4 ⟨rfl, xo4, hs4⟩; have HS4 : Hid (ST w w4 b xo4 now (A + 1) L2) := hs4; clear hs4)
      clear AF
      refine (stop_ok HS4.out A IN.out).mono ?_
      rintro e w5 ⟨rfl, hs5⟩
      have HS5 : Hid (ST w w5 b xo4 now (A + 1) L3) := H3.out ▸ hs5
      have NO : Hid (∀ t ∈ L3, t.num ≠ A) := fun t ht => (TN.out t ht).2
      have hL : L3.length ≤ 1024 := HS5.out.ok.len
      clear hs5 HS4 IN H3
      go_wp2_with (first | (go_at_call 22; refine (stop_no HS5.out A NO.out).mono ?_; rintro e w6 ⟨rfl, hs6⟩; have HS6 : Hid (ST w w6 b xo4 now (A + 1) L3) := hs6; clear hs6) | (go_at_call 17; refine (now_st HS6.out).mono ?_; rintro e w7 ⟨rfl, rfl⟩) | (go_at_call 23; refine (move_no HS6.out A now NO.out).mono ?_; rintro e w7 ⟨rfl, hs7⟩; have HS7 : Hid (ST w w7 b xo4 now (A + 1) L3) := hs7; clear hs7) | (go_at_call 19; refine (pending_st HS7.out).mono ?_; rintro e w8 ⟨p8, c8, rfl, ht8, hb8⟩; have HT : Hid (TS w8 (.slice p8 L3.length c8) L3) := ht8; have HS8 : Hid (ST w w8 b xo4 now (A + 1) L3) := HS7.out.below hb8; clear ht8 hb8))
      clear HS5 HS6 HS7
      go_loopw [71] (fun v71 wr => ∃ (k : Nat) (wk : World), v71 = .int .i64 k ∧ wk = wr ∧ k ≤ L3.length ∧ Hid (Below w8.heap.size w8 wk)) (fun v71 _ => L3.length - (intOf v71).toNat)
      case atStart => exact ⟨0, _, rfl, rfl, Nat.zero_le _, Below.refl _ _⟩
      case round =>
        obtain ⟨k, wr, rfl, rfl, hk, HB⟩ := hrel
        by_cases hlt : k < L3.length
        · obtain ⟨p1, cap1, hv1, hc1⟩ := HT.out.below HB.out
          injection hv1 with e1 e2 e3
          subst e1
          obtain ⟨X, rfl, x1, x2, x3⟩ := hc1 k hlt
          obtain ⟨hn1, hn2⟩ := TN.out _ (List.getElem_mem hlt)
          obtain ⟨t, ht⟩ : ∃ t, t = L3[k] := ⟨_, rfl⟩
          rw [← ht] at x1 x2 x3 hn1 hn2
          have hn3 : (t.num == A) = false := by simpa using hn2
          have hn4 : ¬ t.num > A + 1 := by omega
          clear ht hc1 hn2 hn1 e2 e3
          go_wp2
          go_roundw
          case rel => exact ⟨k + 1, _, by go_num, rfl, by omega, HB.out.alloc HB.out.size _⟩
          case measure => simp [intOf]; omega
        · have HS9 : Hid (ST w wr b xo4 now (A + 1) L3) := HS8.out.below HB.out
          clear HS8 HB HT TN
          go_wp2_with (first | (go_at_call 13; refine (among_any _ ticks 1000 (by omega) (by omega)).mono ?_; rintro e w9 ⟨rfl, rfl⟩) | (go_at_call 15; refine (adv_num HS9.out _).mono ?_; rintro e w10 ⟨p10, c10, l, c, rfl, hl10, hf10, hn10, hb10⟩; have HF : Hid (FS w10 (.slice p10 l.length c10) l) := hf10; have HN : Hid (∀ f ∈ l, ∃ s ∈ L3, s.num = f.1) := hn10; have HB0 : Hid (Below w.heap.size w w10) := hb10; clear hf10 hn10 hb10))
          go_loopw [95] (fun v95 wr => ∃ (k : Nat) (wk : World), v95 = .int .i64 k ∧ wk = wr ∧ k ≤ l.length ∧ Hid (Below w10.heap.size w10 wk)) (fun v95 _ => l.length - (intOf v95).toNat)
          case atStart => exact ⟨0, _, rfl, rfl, Nat.zero_le _, Below.refl _ _⟩
          case round =>
            obtain ⟨j, wr, rfl, rfl, hj, HB⟩ := hrel
            by_cases hjl : j < l.length
            · obtain ⟨p1, cap1, hv1, hc1⟩ := HF.out.below HB.out
              injection hv1 with e1 e2 e3
              subst e1
              obtain ⟨X, rfl, x1, x2⟩ := hc1 j hjl
              obtain ⟨s, hs1, hs2⟩ := HN.out _ (List.getElem_mem hjl)
              have hne := NO.out s hs1
              rw [hs2] at hne
              obtain ⟨f, hf⟩ : ∃ f, f = l[j] := ⟨_, rfl⟩
              rw [← hf] at x1 x2 hne
              have hn3 : (f.1 == A) = false := by simpa using hne
              clear hf hc1 hs1 hs2 hne e2 e3
              go_wp2
              go_roundw
              case rel => exact ⟨j + 1, _, by go_num, rfl, by omega, HB.out.alloc HB.out.size _⟩
              case measure => simp [intOf]; omega
            · go_wp2
              go_ret
              exact ⟨rfl, below_then HB0.out HB.out⟩
end Go.Proofs.Yteiadigafkollaa
