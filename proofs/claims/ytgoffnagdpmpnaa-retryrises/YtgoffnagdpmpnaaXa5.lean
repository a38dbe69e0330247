/- Retry, the document's side: wait, Wait, Due, May. -/
import Derived.Test.YtgoffnagdpmpnaaXa4
namespace Go.Proofs.Ytgoffnagdpmpnaa
open Go.RowKit

theorem wt_grow {p : Pol} {k : Nat} (h : wtP p k * p.f ≤ p.c) : wtP p (k + 1) = wtP p k * p.f := by rw [wtP]; omega
theorem wt_stop {p : Pol} {k : Nat} (h : p.c < wtP p k * p.f) : wtP p (k + 1) = p.c := by rw [wtP]; omega
set_option maxHeartbeats 4000000 in
theorem rwt_any (p : Pol) (n : Int) (w : World) (hp : polB p = true) (hn : 1 ≤ n ∧ n ≤ 1000) : Calls Try.prog 39 #[polV p, .int .i64 n] w fun e w' => e = .returned (.int .i64 (wtP p (n - 1).toNat)) ∧ Below w.heap.size w w' := by
  have GR : Hid (∀ k, wtP p k * p.f ≤ p.c → wtP p (k + 1) = wtP p k * p.f) := fun k => wt_grow
  have SP : Hid (∀ k, p.c < wtP p k * p.f → wtP p (k + 1) = p.c) := fun k => wt_stop
  have CA : Hid (∀ k, wtP p k = p.c → ∀ j, wtP p (k + j) = p.c) := fun k hk => wt_cap hp hk
  have WB : Hid (∀ k, 0 ≤ wtP p k ∧ wtP p k ≤ p.c) := wt_bd hp
  have W0 : Hid (wtP p 0 = p.b) := rfl
  have BX := hid (box4 w p 23)
  obtain ⟨_, _, b0, b1, f0, f1, hbc, hpc⟩ := pol_bd hp
  generalize wtP p = wt at *
  obtain ⟨pt, pb, pf, pc⟩ := p
  simp only [polV] at *
  clear hp
  go_enter Try.func39, Try.ntmps39
  go_wp2
  generalize hW : w.alloc _ = W
  rw [hW] at BX
  have q2 := BX.out.2.2.1
  have q3 := BX.out.2.2.2
  have BW : Hid (Below w.heap.size w W) := by rw [← hW]; exact (Below.refl _ _).alloc (Nat.le_refl _) _
  clear hW BX
  go_loopw [5, 6] (fun v5 v6 wr => ∃ (k : Nat), v6 = .int .i64 ((k : Int) + 1) ∧ v5 = .int .i64 (wt k) ∧ (k : Int) + 1 ≤ n ∧ wr = W) (fun _ v6 _ => (n - intOf v6).toNat)
  case atStart => exact ⟨0, rfl, by rw [W0.out], by omega, rfl⟩
  case round =>
    obtain ⟨k, rfl, rfl, hk, rfl⟩ := hrel
    obtain ⟨y0, y1⟩ := WB.out k
    by_cases hlt : (k : Int) + 1 < n
    · obtain ⟨z0, z1⟩ := mul_bd y0 (by omega) f0 f1
      by_cases hc : pc < wt k * pf
      · have HE : Hid (wt (n - 1).toNat = pc) := by
          have h2 := CA.out (k + 1) (SP.out k hc) ((n - 1).toNat - (k + 1))
          rw [Nat.add_sub_cancel' (by omega)] at h2
          exact h2
        generalize wt k = u at *
        go_wp2
        go_ret
        exact ⟨ret_int (by first | (exact HE.out.symm) | (rw [show n.toNat - 1 = (n - 1).toNat by omega, HE.out])), BW.out⟩
      · have HS := hid (GR.out k (by omega))
        generalize wt k = u at *
        go_wp2
        go_roundw
        case rel => exact ⟨k + 1, by go_num, by rw [HS.out], by omega, by first | rfl | trivial⟩
        case measure => simp [intOf]; omega
    · have HE : Hid (wt k = wt (n - 1).toNat) := by show _ = _; congr 1; omega
      generalize wt k = u at *
      have hm3 : ¬ pc < u := by omega
      go_wp2
      all_goals
        go_ret
        exact ⟨ret_int (by first | (rw [← HE.out]) | (rw [show n.toNat - 1 = (n - 1).toNat by omega, ← HE.out])), BW.out⟩
set_option maxHeartbeats 4000000 in
theorem rwait_any (p : Pol) (k : Int) (w : World) : Calls Try.prog 10 #[polV p, .int .i64 k] w fun e w' => e = .returned (.tuple #[.int .i64 (watN p k), .int .i64 (watE p k)]) ∧ Below w.heap.size w w' := by
  have CK := fun w' => rcheck_any p w'
  have BXC := hid (box4 w p 23)
  cases hp : polB p with
  | false =>
    have E := hid (watE_no hp k)
    generalize watE p k = er at *
    generalize watN p k = nr at *
    rw [chk_no hp] at CK
    obtain ⟨pt, pb, pf, pc⟩ := p
    simp only [polV] at *
    clear hp
    go_enter Try.func10, Try.ntmps10
    go_wp2_with (go_at_call 16; refine (CK _).mono ?_; rintro e w1 ⟨rfl, hb⟩; have B1 := hid hb; clear hb)
    go_ret2
    exact ⟨ret_two E.out.2.symm E.out.1.symm, bl2 B1.out⟩
  | true =>
    rw [chk_ok hp] at CK
    by_cases hk : k < 1
    · have E := hid (watE_low hp hk)
      generalize watE p k = er at *
      generalize watN p k = nr at *
      obtain ⟨pt, pb, pf, pc⟩ := p
      simp only [polV] at *
      clear hp
      go_enter Try.func10, Try.ntmps10
      go_wp2_with (go_at_call 16; refine (CK _).mono ?_; rintro e w1 ⟨rfl, hb⟩; have B1 := hid hb; clear hb)
      go_ret2
      exact ⟨ret_two E.out.2.symm E.out.1.symm, bl2 B1.out⟩
    · have PB := pol_bd hp
      have HM : nwt p = (p.t - 1).toNat := rfl
      by_cases hn : (nwt p : Int) < k
      · have E := hid (watE_none hp hk hn)
        generalize watE p k = er at *
        generalize watN p k = nr at *
        clear hp
        obtain ⟨pt, pb, pf, pc⟩ := p
        simp only [polV] at *
        by_cases ht : pt < 1
        · have h1 : ¬ 1 < pt := by omega
          have h2 : (1 : Int) ≤ k := by omega
          go_enter Try.func10, Try.ntmps10
          go_wp2_with (go_at_call 16; refine (CK _).mono ?_; rintro e w1 ⟨rfl, hb⟩; have B1 := hid hb; have C0 := (hb.cell (p := ⟨w.heap.size, 0, none⟩) (by simp)).trans BXC.out.1; have C1 := (hb.cell (p := ⟨w.heap.size, 1, none⟩) (by simp)).trans BXC.out.2.1; have C2 := (hb.cell (p := ⟨w.heap.size, 2, none⟩) (by simp)).trans BXC.out.2.2.1; have C3 := (hb.cell (p := ⟨w.heap.size, 3, none⟩) (by simp)).trans BXC.out.2.2.2; clear hb)
          go_ret2
          exact ⟨ret_two E.out.2.symm E.out.1.symm, bl2 B1.out⟩
        · have h2 : pt ≤ k := by omega
          go_enter Try.func10, Try.ntmps10
          go_wp2_with (go_at_call 16; refine (CK _).mono ?_; rintro e w1 ⟨rfl, hb⟩; have B1 := hid hb; have C0 := (hb.cell (p := ⟨w.heap.size, 0, none⟩) (by simp)).trans BXC.out.1; have C1 := (hb.cell (p := ⟨w.heap.size, 1, none⟩) (by simp)).trans BXC.out.2.1; have C2 := (hb.cell (p := ⟨w.heap.size, 2, none⟩) (by simp)).trans BXC.out.2.2.1; have C3 := (hb.cell (p := ⟨w.heap.size, 3, none⟩) (by simp)).trans BXC.out.2.2.2; clear hb)
          go_ret2
          exact ⟨ret_two E.out.2.symm E.out.1.symm, bl2 B1.out⟩
      · have E := hid (watE_ok hp hk hn)
        have WT := hid (fun w' => rwt_any p k w' hp ⟨by omega, by omega⟩)
        generalize watE p k = er at *
        generalize watN p k = nr at *
        generalize wtP p (k - 1).toNat = x at *
        clear hp
        obtain ⟨pt, pb, pf, pc⟩ := p
        simp only [polV] at *
        have h2 : ¬ pt ≤ k := by omega
        have h3 : ¬ pt < 1 := by omega
        go_enter Try.func10, Try.ntmps10
        go_wp2_with (first | (go_at_call 16; refine (CK _).mono ?_; rintro e w1 ⟨rfl, hb⟩; have B1 := hid hb; have C0 := (hb.cell (p := ⟨w.heap.size, 0, none⟩) (by simp)).trans BXC.out.1; have C1 := (hb.cell (p := ⟨w.heap.size, 1, none⟩) (by simp)).trans BXC.out.2.1; have C2 := (hb.cell (p := ⟨w.heap.size, 2, none⟩) (by simp)).trans BXC.out.2.2.1; have C3 := (hb.cell (p := ⟨w.heap.size, 3, none⟩) (by simp)).trans BXC.out.2.2.2; clear hb) | (go_at_call 39; refine (WT.out _).mono ?_; rintro e w2 ⟨rfl, hb⟩; have B2 := hid hb; clear hb))
        go_ret2
        exact ⟨ret_two E.out.2.symm E.out.1.symm, bl3 (bl2 B1.out) B2.out⟩
set_option maxHeartbeats 4000000 in
theorem rdue_any (p : Pol) (k a : Int) (w : World) : Calls Try.prog 12 #[polV p, .int .i64 k, .int .i64 a] w fun e w' => e = .returned (.tuple #[.int .i64 (dueN p k a), .int .i64 (dueE p k a)]) ∧ Below w.heap.size w w' := by
  have WT := fun w' => rwait_any p k w'
  have WB := wat_bd (p := p) k
  by_cases hE : watE p k = 0
  · rw [hE] at WT
    cases ht : timB a with
    | false =>
      have hq := timB_f ht
      have E := hid (dueE_rng hE ht)
      generalize dueE p k a = er at *
      generalize dueN p k a = nr at *
      generalize watN p k = x at *
      clear hE ht
      obtain ⟨pt, pb, pf, pc⟩ := p
      simp only [polV] at *
      rcases hq with hq | hq
      all_goals
        first | have hq0 : ¬ (a : Int) < 0 := by omega | skip
        go_enter Try.func12, Try.ntmps12
        go_wp2_with ((go_at_call 10; refine (WT _).mono ?_; rintro e w1 ⟨rfl, hb⟩; have B1 := hid hb; clear hb))
        go_ret2
        exact ⟨ret_two E.out.2.symm E.out.1.symm, bl2 B1.out⟩
    | true =>
      obtain ⟨t0, t1⟩ := timB_t ht
      by_cases hl : 1099511627776 < a + watN p k
      · have E := hid (dueE_long hE ht hl)
        generalize dueE p k a = er at *
        generalize dueN p k a = nr at *
        generalize watN p k = x at *
        clear hE ht
        obtain ⟨pt, pb, pf, pc⟩ := p
        simp only [polV] at *
        go_enter Try.func12, Try.ntmps12
        go_wp2_with ((go_at_call 10; refine (WT _).mono ?_; rintro e w1 ⟨rfl, hb⟩; have B1 := hid hb; clear hb))
        go_ret2
        exact ⟨ret_two E.out.2.symm E.out.1.symm, bl2 B1.out⟩
      · have E := hid (dueE_ok hE ht hl)
        generalize dueE p k a = er at *
        generalize dueN p k a = nr at *
        generalize watN p k = x at *
        clear hE ht
        obtain ⟨pt, pb, pf, pc⟩ := p
        simp only [polV] at *
        go_enter Try.func12, Try.ntmps12
        go_wp2_with ((go_at_call 10; refine (WT _).mono ?_; rintro e w1 ⟨rfl, hb⟩; have B1 := hid hb; clear hb))
        go_ret2
        exact ⟨ret_two E.out.2.symm E.out.1.symm, bl2 B1.out⟩
  · have E := hid (dueE_pass hE a)
    have hE2 : (watE p k == 0) = false := by simpa using hE
    have hE3 : (watE p k != 0) = true := by simpa using hE
    generalize dueE p k a = er at *
    generalize dueN p k a = nr at *
    generalize watN p k = x at *
    generalize watE p k = y at *
    obtain ⟨pt, pb, pf, pc⟩ := p
    simp only [polV] at *
    go_enter Try.func12, Try.ntmps12
    go_wp2_with ((go_at_call 10; refine (WT _).mono ?_; rintro e w1 ⟨rfl, hb⟩; have B1 := hid hb; clear hb))
    go_ret2
    exact ⟨ret_two E.out.2.symm E.out.1.symm, bl2 B1.out⟩
set_option maxHeartbeats 4000000 in
theorem rmay_any (p : Pol) (k a n : Int) (w : World) : Calls Try.prog 14 #[polV p, .int .i64 k, .int .i64 a, .int .i64 n] w fun e w' => e = .returned (.tuple #[.bool (mayB p k a n), .int .i64 (mayE p k a n)]) ∧ Below w.heap.size w w' := by
  have DT := fun w' => rdue_any p k a w'
  by_cases hE : dueE p k a = 0
  · rw [hE] at DT
    cases ht : timB n with
    | false =>
      have hq := timB_f ht
      have E := hid (mayE_rng hE ht)
      generalize mayE p k a n = er at *
      generalize mayB p k a n = nr at *
      generalize dueN p k a = x at *
      clear hE ht
      obtain ⟨pt, pb, pf, pc⟩ := p
      simp only [polV] at *
      rcases hq with hq | hq
      all_goals
        first | have hq0 : ¬ (n : Int) < 0 := by omega | skip
        go_enter Try.func14, Try.ntmps14
        go_wp2_with ((go_at_call 12; refine (DT _).mono ?_; rintro e w1 ⟨rfl, hb⟩; have B1 := hid hb; clear hb))
        go_ret2
        exact ⟨ret_bi E.out.2.symm E.out.1.symm, bl2 B1.out⟩
    | true =>
      obtain ⟨t0, t1⟩ := timB_t ht
      have E := hid (mayE_ok hE ht)
      generalize mayE p k a n = er at *
      generalize mayB p k a n = nr at *
      generalize dueN p k a = x at *
      clear hE ht
      obtain ⟨pt, pb, pf, pc⟩ := p
      simp only [polV] at *
      go_enter Try.func14, Try.ntmps14
      go_wp2_with ((go_at_call 12; refine (DT _).mono ?_; rintro e w1 ⟨rfl, hb⟩; have B1 := hid hb; clear hb))
      go_ret2
      exact ⟨ret_bi (by rw [E.out.2]) E.out.1.symm, bl2 B1.out⟩
  · have E := hid (mayE_pass hE n)
    have hE2 : (dueE p k a == 0) = false := by simpa using hE
    have hE3 : (dueE p k a != 0) = true := by simpa using hE
    generalize mayE p k a n = er at *
    generalize mayB p k a n = nr at *
    generalize dueN p k a = x at *
    generalize dueE p k a = y at *
    obtain ⟨pt, pb, pf, pc⟩ := p
    simp only [polV] at *
    go_enter Try.func14, Try.ntmps14
    go_wp2_with ((go_at_call 12; refine (DT _).mono ?_; rintro e w1 ⟨rfl, hb⟩; have B1 := hid hb; clear hb))
    go_ret2
    exact ⟨ret_bi E.out.2.symm E.out.1.symm, bl2 B1.out⟩
end Go.Proofs.Ytgoffnagdpmpnaa
