/- Retry: the law RetryTrips. -/
import Derived.Test.YtgoffnagdpmpnaaXe2
namespace Go.Proofs.Ytgoffnagdpmpnaa
open Go.RowKit Go.Maps

/-- All that a round of failures does. -/
structure RD1 (w1 : World) (b m b' m' : Nat) (L R : Int) (s' : Bk) (k : Nat) (a : Int) (wr : World) : Prop where
  ask : Calls Try.prog 26 #[.pointer (some ⟨b, 0, none⟩), .int .i64 a] wr fun e w2 => e = .returned (.tuple #[.int .i64 ((k : Int) + 1), .bool true, .int .i64 0]) ∧
    Calls Try.prog 28 #[.pointer (some ⟨b, 0, none⟩), .int .i64 ((k : Int) + 1), .bool false, .int .i64 a] w2 fun e w3 => e = .returned (.int .i64 0) ∧
      Calls Try.prog 30 #[.pointer (some ⟨b, 0, none⟩)] w3 fun e w4 =>
        ((k : Int) + 1 < L → e = .returned (.tuple #[.int .i64 1, .int .i64 ((k : Int) + 1), .int .i64 0]) ∧ ∃ s2, TS L R (k + 1) a s2 ∧ KI2 (6 * ((k + 1 : Nat) : Int)) s2 ∧ TW w1 b m b' m' s2 s' w4) ∧
        (¬ (k : Int) + 1 < L → e = .returned (.tuple #[.int .i64 2, .int .i64 0, .int .i64 (a + R)]) ∧
          Calls Try.prog 26 #[.pointer (some ⟨b, 0, none⟩), .int .i64 (a + R - 1)] w4 fun e w5 => e = .returned (.tuple #[.int .i64 0, .bool false, .int .i64 0]) ∧ ∃ s2, TS L R (k + 1) (a + R) s2 ∧ KI2 (6 * ((k + 1 : Nat) : Int)) s2 ∧ TW w1 b m b' m' s2 s' w5)
theorem rd1 {w1 wr : World} {b m b' m' : Nat} {L R : Int} {s s' : Bk} {k : Nat} {a : Int} (hk : k < 40) (hL : 1 ≤ L ∧ L ≤ 12) (hR : 1 ≤ R ∧ R ≤ 1000) (ht : TS L R k a s) (hi : KI2 (6 * (k : Int)) s) (hw : TW w1 b m b' m' s s' wr) : RD1 w1 b m b' m' L R s' k a wr := by
  obtain ⟨a1, a2, a3, _⟩ := ts_ask ht hk
  obtain ⟨b1, b2, b3⟩ := ts_tell ht hk hL hR
  have i1 := ask_ki hi a
  have i2 := tel_ki i1 ((k : Int) + 1) false a
  refine ⟨(tw_ask1 hw hi (by omega) a).mono ?_⟩
  rintro e w2 ⟨rfl, q2⟩
  refine ⟨by rw [a1, a2, a3], (tw_tell1 q2 i1 (by omega) ((k : Int) + 1) (wfI (by omega)) false a).mono ?_⟩
  rintro e w3 ⟨rfl, q3⟩
  refine ⟨by rw [b1], (tw_state1 q3).mono ?_⟩
  rintro e w4 ⟨rfl, q4⟩
  refine ⟨fun h => ?_, fun h => ?_⟩
  · obtain ⟨c1, c2, c3, c4⟩ := b2 h
    exact ⟨by rw [c1, c2, c3], _, c4, i2.mono (by omega), q4⟩
  · obtain ⟨c1, c2, c3, ⟨c4, c5, c6⟩, c7⟩ := b3 h
    refine ⟨by rw [c1, c2, c3], (tw_ask1 q4 i2 (by omega) (a + R - 1)).mono ?_⟩
    rintro e w5 ⟨rfl, q5⟩
    exact ⟨by rw [c4, c5, c6], _, c7, (ask_ki i2 _).mono (by omega), q5⟩
/-- All that a round of fine tries does. -/
theorem rd2 {w1 wr : World} {b m b' m' : Nat} {s s' : Bk} {k : Nat} (hk : k < 40) (ht : FS k s') (hi : KI2 (6 * (k : Int)) s') (hw : TW w1 b m b' m' s s' wr) :
    ∃ n, Calls Try.prog 26 #[.pointer (some ⟨b', 0, none⟩), .int .i64 k] wr fun e w2 => e = .returned (.tuple #[.int .i64 n, .bool true, .int .i64 0]) ∧
    Calls Try.prog 28 #[.pointer (some ⟨b', 0, none⟩), .int .i64 n, .bool true, .int .i64 k] w2 fun e w3 => e = .returned (.int .i64 0) ∧
      Calls Try.prog 30 #[.pointer (some ⟨b', 0, none⟩)] w3 fun e w4 => ∃ u, e = .returned (.tuple #[.int .i64 1, .int .i64 0, .int .i64 u]) ∧ ∃ s2, FS (k + 1) s2 ∧ KI2 (6 * ((k + 1 : Nat) : Int)) s2 ∧ TW w1 b m b' m' s s2 w4 := by
  obtain ⟨a1, a2, a3, a4, a5, a6⟩ := fs_step ht hk
  have i1 := ask_ki hi k
  have i2 := tel_ki i1 (askN s' k) true k
  have htr := hi.trs
  have hwf : (Lit.int .i64 (askN s' k)).wf = true := by
    refine wfI ?_
    unfold askN
    rw [a1, if_pos rfl]
    omega
  refine ⟨askN s' k, (tw_ask2 hw hi (by omega) k).mono ?_⟩
  rintro e w2 ⟨rfl, q2⟩
  refine ⟨by rw [a1, a2], (tw_tell2 q2 i1 (by omega) _ hwf true k).mono ?_⟩
  rintro e w3 ⟨rfl, q3⟩
  refine ⟨by rw [a3], (tw_state2 q3).mono ?_⟩
  rintro e w4 ⟨rfl, q4⟩
  exact ⟨_, by rw [a4, a5], _, a6, i2.mono (by omega), q4⟩
set_option maxHeartbeats 8000000 in
set_option maxRecDepth 100000 in
theorem retryTrips_any (x y z : Int) (w : World) : Calls Try.prog 8 #[.int .i64 x, .int .i64 y, .int .i64 z] w fun e w' => e = .returned (.bool true) ∧ Below w.heap.size w w' := by
  have WK := hid works_any
  have A1 := hid (fun w' => among_any x 12 (by decide) w')
  have A2 := hid (fun w' => among_any y 1000 (by decide) w')
  have A3 := hid (fun w' => among_any z 40 (by decide) w')
  have d1 := amF_bd x 12 (by decide)
  have d2 := amF_bd y 1000 (by decide)
  have d3 := amF_bd z 40 (by decide)
  generalize amF x 12 = l0 at *
  generalize amF y 1000 = r0 at *
  generalize amF z 40 = n0 at *
  obtain ⟨n, hn⟩ : ∃ n : Nat, n0 = (n : Int) := ⟨n0.toNat, by omega⟩
  subst hn
  have hNB : nwkB (1 + l0) (1 + r0) = true := by unfold nwkB; simp; omega
  have NB := hid (fun w' => newBreaker_ok (1 + l0) (1 + r0) w' hNB)
  have T0 : Hid (TS (1 + l0) (1 + r0) 0 0 (newK (1 + l0) (1 + r0))) := ts_new (by omega)
  have F0 := hid (fs_new (1 + l0) (1 + r0))
  have K0 := hid (new_ki hNB)
  clear hNB
  generalize newK (1 + l0) (1 + r0) = s0 at *
  go_enter Try.func8, Try.ntmps8
  go_wp2_with (first | (go_at_call 17; refine (WK.out _).mono ?_; rintro e w1 ⟨rfl, hb⟩; have B1 := hid hb; clear hb WK) | (go_at_call 25; first | (refine (A1.out _).mono ?_; rintro e w2 ⟨rfl, hw⟩; rw [hw]; clear hw A1) | (refine (A2.out _).mono ?_; rintro e w2 ⟨rfl, hw⟩; rw [hw]; clear hw A2) | (refine (A3.out _).mono ?_; rintro e w2 ⟨rfl, hw⟩; rw [hw]; clear hw A3)) | (go_at_call 23; first | (refine (NB.out _).mono ?_; rintro e w3 ⟨rfl, hx, hb⟩; have T3 := hid (tw_new X2.out B2.out hx hb); clear hx hb X2 B2) | (refine (NB.out _).mono ?_; rintro e w2 ⟨rfl, hx, hb⟩; have X2 := hid hx; have B2 := hid hb; clear hx hb)))
  clear NB
  have hb1 : w1.heap.size + 1 ≠ w1.heap.size := by omega
  generalize w1.heap.size + 1 = b at *
  generalize w2.heap.size + 1 = b' at *
  generalize hm : w1.heap.size = m at T3
  generalize w2.heap.size = m' at *
  clear hb1 hm
  obtain ⟨L, hL⟩ : ∃ L, L = 1 + l0 := ⟨_, rfl⟩
  obtain ⟨R, hR⟩ : ∃ R, R = 1 + r0 := ⟨_, rfl⟩
  rw [← hL, ← hR] at T0
  rw [← hL, ← hR]
  have hL2 : 1 ≤ L ∧ L ≤ 12 := by omega
  have hR2 : 1 ≤ R ∧ R ≤ 1000 := by omega
  clear hL hR d1 d2
  go_loopw [11, 63] (fun v11 v63 wr => ∃ (k : Nat) (a : Int) (s : Bk) (wk : World), v63 = .int .i64 k ∧ v11 = .int .i64 a ∧ wk = wr ∧ k ≤ n ∧ (0 ≤ a ∧ a ≤ 40000) ∧ Hid (TS L R k a s ∧ KI2 (6 * (k : Int)) s ∧ TW w1 b m b' m' s s0 wk)) (fun _ v63 _ => n - (intOf v63).toNat)
  case atStart => exact ⟨0, 0, s0, _, rfl, rfl, rfl, Nat.zero_le _, ⟨by omega, by omega⟩, T0.out, K0.out, T3.out⟩
  case round =>
    obtain ⟨k, a, s, wr, rfl, rfl, rfl, hk, ⟨a0, a1⟩, HS⟩ := hrel
    by_cases hlt : k < n
    · have RD := hid (rd1 (w1 := w1) (by omega) hL2 hR2 HS.out.1 HS.out.2.1 HS.out.2.2)
      have RA := hid RD.out.ask
      have ab := HS.out.1.ab
      clear RD HS
      by_cases hkl : (k : Int) + 1 < L
      · go_wp2_with (first | (go_at_call 26; refine RA.out.mono ?_; rintro e w4 ⟨rfl, hq⟩; have RB := hid hq; clear hq RA) | (go_at_call 28; refine RB.out.mono ?_; rintro e w5 ⟨rfl, hq⟩; have RC := hid hq; clear hq RB) | (go_at_call 30; refine RC.out.mono ?_; rintro e w6 ⟨hp, _⟩; obtain ⟨rfl, hq⟩ := hp hkl; have RE := hid hq; clear hq hp RC))
        obtain ⟨s2, hs2⟩ := RE.out
        have HN := hid hs2
        clear hs2 RE
        go_roundw
        case rel => exact ⟨k + 1, a, s2, _, by go_num, rfl, rfl, by omega, ⟨by omega, by omega⟩, HN⟩
        case measure => simp [intOf]; omega
      · go_wp2_with (first | (go_at_call 26; first | (refine RE.out.mono ?_; rintro e w7 ⟨rfl, hq⟩; have RF := hid hq; clear hq RE) | (refine RA.out.mono ?_; rintro e w4 ⟨rfl, hq⟩; have RB := hid hq; clear hq RA)) | (go_at_call 28; refine RB.out.mono ?_; rintro e w5 ⟨rfl, hq⟩; have RC := hid hq; clear hq RB) | (go_at_call 30; refine RC.out.mono ?_; rintro e w6 ⟨_, hp⟩; obtain ⟨rfl, hq⟩ := hp hkl; have RE := hid hq; clear hq hp RC))
        obtain ⟨s2, hs2⟩ := RF.out
        have HN := hid hs2
        have ab2 := HN.out.1.ab
        clear hs2 RF
        go_roundw
        case rel => exact ⟨k + 1, a + R, s2, _, by go_num, rfl, rfl, by omega, ⟨by omega, by omega⟩, HN⟩
        case measure => simp [intOf]; omega
    · obtain rfl : k = n := by omega
      go_wp2_with fail
      go_loopw [147] (fun v147 wr2 => ∃ (j : Nat) (s' : Bk) (wk : World), v147 = .int .i64 j ∧ wk = wr2 ∧ j ≤ k ∧ Hid (FS j s' ∧ KI2 (6 * (j : Int)) s' ∧ TW w1 b m b' m' s s' wk)) (fun v147 _ => k - (intOf v147).toNat)
      case atStart => exact ⟨0, s0, _, rfl, rfl, Nat.zero_le _, F0.out, K0.out, HS.out.2.2⟩
      case round =>
        obtain ⟨j, s', wr2, rfl, rfl, hj, HF⟩ := hrel
        by_cases hlt2 : j < k
        · obtain ⟨nn, hnn⟩ := rd2 (w1 := w1) (by omega) HF.out.1 HF.out.2.1 HF.out.2.2
          have RA := hid hnn
          clear hnn
          go_wp2_with (first | (go_at_call 26; refine RA.out.mono ?_; rintro e w5 ⟨rfl, hq⟩; have RB := hid hq; clear hq RA) | (go_at_call 28; refine RB.out.mono ?_; rintro e w6 ⟨rfl, hq⟩; have RC := hid hq; clear hq RB) | (go_at_call 30; refine RC.out.mono ?_; rintro e w7 ⟨u, rfl, hq⟩; have RE := hid hq; clear hq RC))
          obtain ⟨s2, hs2⟩ := RE.out
          have HN := hid hs2
          clear hs2 RE
          go_roundw
          case rel => exact ⟨j + 1, s2, _, by go_num, rfl, by omega, HN⟩
          case measure => simp [intOf]; omega
        · obtain rfl : j = k := by omega
          go_wp2_with fail
          go_ret
          exact ⟨rfl, bl3 B1.out HF.out.2.2.bel⟩
end Go.Proofs.Ytgoffnagdpmpnaa
