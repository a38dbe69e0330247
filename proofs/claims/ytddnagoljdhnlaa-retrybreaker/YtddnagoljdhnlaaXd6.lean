/- Retry: the law RetryBreaker. -/
import Derived.Test.YtddnagoljdhnlaaXr9
import Derived.Test.YtddnagoljdhnlaaXo2
namespace Go.Proofs.Ytddnagoljdhnlaa
open Go.RowKit Go.Maps

set_option maxHeartbeats 16000000 in
set_option maxRecDepth 100000 in
theorem retryBreaker_any (m c : Int) (v : Value) (l : List Cl) (w : World) (hl : GS KL w v l) (hpr : ∀ x ∈ l, (Lit.int .i64 x.try_).wf = true) (hn : l.length ≤ 140737488355328) : Calls Try.prog 3 #[.int .i64 m, .int .i64 c, v] w fun e w' => e = .returned (.bool true) ∧ Below w.heap.size w w' := by
  have WK := hid works_any
  have RN := hid (fun w' => rnewBreaker_any m c w')
  cases hB : nwkB m c with
  | false =>
    have NB := hid (fun w' => newBreaker_no m c w' hB)
    rw [hB] at RN
    simp only [zB, Bool.false_eq_true, if_false] at RN
    clear hB
    go_enter Try.func3, Try.ntmps3
    go_wp2_with (first | (go_at_call 4; refine (WK.out _).mono ?_; rintro e w1 ⟨rfl, hb⟩; have B1 := hid hb; clear hb) | (go_at_call 5; refine (NB.out _).mono ?_; rintro e w2 ⟨rfl, hw⟩; rw [hw]; clear hw) | (go_at_call 6; refine (RN.out _).mono ?_; rintro e w3 ⟨rfl, hb⟩; have B3 := hid hb; clear hb))
    go_ret
    exact ⟨rfl, (bl3 B1.out B3.out).alloc (bl3 B1.out B3.out).size _⟩
  | true =>
    have NB := hid (fun w' => newBreaker_ok m c w' hB)
    rw [hB] at RN
    simp only [rbV, rbA, newK, if_true] at RN
    have K0 := hid (new_ki hB)
    obtain ⟨p, cp, rfl⟩ := hl.form
    have AT := hid (fun w' (hb : Below w.heap.size w w') k (hk : k < l.length) => GS.atL (hl.below hb) hk)
    have PR := hid hpr
    obtain ⟨n, hnl⟩ : ∃ n, n = l.length := ⟨_, rfl⟩
    rw [← hnl] at hn
    rw [← hnl]
    have NL : Hid (l.length = n) := hnl.symm
    clear hB hl hnl hpr
    go_enter Try.func3, Try.ntmps3
    go_wp2_with (first | (go_at_call 4; refine (WK.out _).mono ?_; rintro e w1 ⟨rfl, hb⟩; have B1 := hid hb; clear hb) | (go_at_call 5; refine (NB.out _).mono ?_; rintro e w2 ⟨rfl, hx, hb⟩; have B2 := hid hb; have X2 := hid hx; clear hx hb) | (go_at_call 6; refine (RN.out _).mono ?_; rintro e w3 ⟨rfl, hb⟩; have B3 := hid hb; clear hb))
    generalize hW : w3.alloc _ = W
    have H0 : Hid (LB w1 (w1.heap.size + 1) w1.heap.size w3.heap.size (newK m c) (newK m c) none 0 0 W) := by
      have hs := B2.out.size
      have hs3 := B3.out.size
      have hx2 := X2.out.lt
      show LB _ _ _ _ _ _ _ _ _ _
      rw [← hW]
      exact ⟨(X2.out.below B3.out).below (bal w3 _), heap_alloc_new w3 _, ⟨rfl, Or.inl ⟨Or.inl rfl, rfl⟩, fun g hg => by cases hg⟩, by omega, by omega, bl3 (bl3 B2.out B3.out) (bal w3 _), by omega, Nat.le_refl _, by omega⟩
    clear hW B2 B3 X2 NB RN WK
    go_loopw [54] (fun v54 wr => ∃ (j : Nat) (s : Bk) (q : Option Addr) (ql qc : Nat) (wk : World), v54 = .int .i64 j ∧ wk = wr ∧ j ≤ n ∧ Hid (KI2 (2 * (j : Int)) s) ∧ Hid (LB w1 (w1.heap.size + 1) w1.heap.size w3.heap.size s s q ql qc wk)) (fun v54 _ => n - (intOf v54).toNat)
    case atStart => exact ⟨0, _, _, _, _, _, rfl, rfl, Nat.zero_le _, K0, H0⟩
    case round =>
      clear K0 H0
      obtain ⟨j, s, q, ql, qc, wr, rfl, rfl, hj, HI, HB⟩ := hrel
      by_cases hlt : j < n
      · have hj2 : j < l.length := by have := NL.out; omega
        obtain ⟨X, o, hp, x0, x1, x2, x3⟩ := AT.out wr (bl3 B1.out HB.out.bel) j hj2
        subst hp
        have WT := hid (PR.out _ (List.getElem_mem hj2))
        have CJ : 2 * (j : Int) ≤ 1000000000000000000 := by omega
        generalize l[j] = x at *
        obtain ⟨xk, xt, xa, xf⟩ := x
        simp only at *
        have AM := hid (fun w' => among_any xk 2 ⟨by decide, by decide⟩ w')
        go_upto_region 12 with fail
        generalize hS : wr.alloc _ = w4
        have XB : Hid (w4.heap[wr.heap.size]? = some (.cells #[.int .i64 xk, .int .i64 xt, .int .i64 xa, .bool xf] 34)) := by rw [← hS]; exact heap_alloc_new wr _
        have HB4 : Hid (LB w1 (w1.heap.size + 1) w1.heap.size w3.heap.size s s q ql qc w4) := by rw [← hS]; exact HB.out.below (bal wr _)
        have NE : Hid (wr.heap.size ≠ w1.heap.size + 1 ∧ wr.heap.size ≠ w1.heap.size) := ⟨(HB.out.clear (Nat.le_refl _)).1, (HB.out.clear (Nat.le_refl _)).2.1⟩
        clear hS x0 x1 x2 x3
        generalize amF xk 2 = am at *
        by_cases hk : am = 0
        · skip
          have b1 : (am == 0) = true := by simpa using hk
          have KN := hid ((ask_ki HI.out xa).mono (show 2 * (j : Int) + 2 ≤ 2 * ((j + 1 : Nat) : Int) by omega))
          have A1 : Hid (∀ w', LB w1 (w1.heap.size + 1) w1.heap.size w3.heap.size s s q ql qc w' → ∀ ob, w'.heap[wr.heap.size]? = some ob → Calls Try.prog 8 #[.pointer (some ⟨w1.heap.size + 1, 0, none⟩), .int .i64 xa] w' fun e w'' => e = .returned (.tuple #[.int .i64 (askN s xa), .bool (askB s xa), .int .i64 (askE s xa)]) ∧ LB w1 (w1.heap.size + 1) w1.heap.size w3.heap.size (askX s xa) s q ql qc w'' ∧ w''.heap[wr.heap.size]? = some ob) := fun w' h ob hy => lx_ask1 h HI.out CJ xa hy NE.out.1 NE.out.2
          have A2 : Hid (∀ w', LB w1 (w1.heap.size + 1) w1.heap.size w3.heap.size (askX s xa) s q ql qc w' → Calls Try.prog 9 #[.agg #[.int .i64 s.lim, .int .i64 s.rst, .int .i64 s.st, .int .i64 s.trn, .int .i64 s.row, .int .i64 s.unt, .int .i64 s.lst, .int .i64 s.trs, .slice q ql qc], .int .i64 xa] w' fun e w'' => ∃ p' n' c', e = .returned (.tuple #[.agg #[.int .i64 (askX s xa).lim, .int .i64 (askX s xa).rst, .int .i64 (askX s xa).st, .int .i64 (askX s xa).trn, .int .i64 (askX s xa).row, .int .i64 (askX s xa).unt, .int .i64 (askX s xa).lst, .int .i64 (askX s xa).trs, .slice p' n' c'], .int .i64 (askN s xa), .bool (askB s xa), .int .i64 (askE s xa)]) ∧ LB w1 (w1.heap.size + 1) w1.heap.size w3.heap.size (askX s xa) s q ql qc w'' ∧ NX (w1.heap.size + 1) w1.heap.size w3.heap.size (askX s xa) p' n' c' w'') := fun w' h => lb_ask2 h HI.out CJ xa
          generalize askX s xa = s3 at *
          generalize askN s xa = rn at *
          generalize askB s xa = rb at *
          generalize askE s xa = re at *
          clear HI hk WT HB
          obtain ⟨e0, e1, e2, e3⟩ := cells4 XB.out
          go_upto_region 15 with (first | (go_at_call 7; refine (AM.out _).mono ?_; rintro e w5 ⟨rfl, hw⟩; rw [hw]; clear hw) | (go_at_call 8; refine (A1.out _ HB4.out _ XB.out).mono ?_; rintro e w6 ⟨rfl, hq, hx⟩; have H6 := hid hq; obtain ⟨f0, f1, f2, f3⟩ := cells4 hx; obtain ⟨g0, g1, g2, g3, g4, g5, g6, g7, g8⟩ := cells9 (show w6.heap[w3.heap.size]? = some (.cells #[_, _, _, _, _, _, _, _, _] _) from H6.out.cb); clear hq hx) | (go_at_call 9; refine (A2.out _ H6.out).mono ?_; rintro e w7 ⟨p7, n7, c7, rfl, hq, hx⟩; have H7 := hid hq; have N7 := hid hx; clear hq hx g0 g1 g2 g3 g4 g5 g6 g7 g8))
          generalize hS : w7.alloc _ = w8
          have D8 : Hid (w8.heap[w7.heap.size]? = some (.cells #[.int .i64 s3.lim, .int .i64 s3.rst, .int .i64 s3.st, .int .i64 s3.trn, .int .i64 s3.row, .int .i64 s3.unt, .int .i64 s3.lst, .int .i64 s3.trs, .slice p7 n7 c7] 30)) := by rw [← hS]; exact heap_alloc_new w7 _
          have H8 : Hid (LB w1 (w1.heap.size + 1) w1.heap.size w3.heap.size s3 s q ql qc w8) := by rw [← hS]; exact H7.out.below (bal w7 _)
          have N8 : Hid (NX (w1.heap.size + 1) w1.heap.size w3.heap.size s3 p7 n7 c7 w8) := by rw [← hS]; exact N7.out.below (bal w7 _)
          have H9 := hid (H8.out.store N8.out)
          clear hS H7 N7 A1 A2 AM
          obtain ⟨y0, y1, y2, y3, y4, y5, y6, y7, y8⟩ := cells9 D8.out
          obtain ⟨g0, g1, g2, g3, g4, g5, g6, g7, g8⟩ := cells9 (show w8.heap[w3.heap.size]? = some (.cells #[_, _, _, _, _, _, _, _, _] _) from H8.out.cb)
          have fq := frz H8.out.cb
          go_upto_region 16 with fail
          generalize hS : World.setCell _ ⟨_, 8, none⟩ _ = w9 at H9 ⊢
          clear hS y0 y1 y2 y3 y4 y5 y6 y7 y8 g0 g1 g2 g3 g4 g5 g6 g7 g8 fq H8 N8 D8
          have ST : Hid (∀ w', LB w1 (w1.heap.size + 1) w1.heap.size w3.heap.size s3 s3 p7 n7 c7 w' → Calls Try.prog 12 #[.pointer (some ⟨w1.heap.size + 1, 0, none⟩)] w' fun e w'' => e = .returned (.tuple #[.int .i64 s3.st, .int .i64 s3.row, .int .i64 s3.unt]) ∧ LB w1 (w1.heap.size + 1) w1.heap.size w3.heap.size s3 s3 p7 n7 c7 w'') := fun w' h => lb_state h
          go_wp2_with (go_at_call 12; refine (ST.out _ H9.out).mono ?_; rintro e wA ⟨rfl, hq⟩; have HA := hid hq; obtain ⟨g0, g1, g2, g3, g4, g5, g6, g7, g8⟩ := cells9 (show wA.heap[w3.heap.size]? = some (.cells #[_, _, _, _, _, _, _, _, _] _) from HA.out.cb); clear hq)
          go_roundw
          case rel => exact ⟨j + 1, s3, p7, n7, c7, _, by go_num, rfl, by omega, KN, HA⟩
          case measure => simp [intOf]; omega
        · skip
          have b1 : (am == 0) = false := by simpa using hk
          have KN := hid ((tel_ki HI.out xt xf xa).mono (show 2 * (j : Int) + 2 ≤ 2 * ((j + 1 : Nat) : Int) by omega))
          have A1 : Hid (∀ w', LB w1 (w1.heap.size + 1) w1.heap.size w3.heap.size s s q ql qc w' → ∀ ob, w'.heap[wr.heap.size]? = some ob → Calls Try.prog 10 #[.pointer (some ⟨w1.heap.size + 1, 0, none⟩), .int .i64 xt, .bool xf, .int .i64 xa] w' fun e w'' => e = .returned (.int .i64 (telE s xt xa)) ∧ LB w1 (w1.heap.size + 1) w1.heap.size w3.heap.size (telX s xt xf xa) s q ql qc w'' ∧ w''.heap[wr.heap.size]? = some ob) := fun w' h ob hy => lx_tell1 h HI.out CJ xt WT.out xf xa hy NE.out.1 NE.out.2
          have A2 : Hid (∀ w', LB w1 (w1.heap.size + 1) w1.heap.size w3.heap.size (telX s xt xf xa) s q ql qc w' → Calls Try.prog 11 #[.agg #[.int .i64 s.lim, .int .i64 s.rst, .int .i64 s.st, .int .i64 s.trn, .int .i64 s.row, .int .i64 s.unt, .int .i64 s.lst, .int .i64 s.trs, .slice q ql qc], .int .i64 xt, .bool xf, .int .i64 xa] w' fun e w'' => ∃ p' n' c', e = .returned (.tuple #[.agg #[.int .i64 (telX s xt xf xa).lim, .int .i64 (telX s xt xf xa).rst, .int .i64 (telX s xt xf xa).st, .int .i64 (telX s xt xf xa).trn, .int .i64 (telX s xt xf xa).row, .int .i64 (telX s xt xf xa).unt, .int .i64 (telX s xt xf xa).lst, .int .i64 (telX s xt xf xa).trs, .slice p' n' c'], .int .i64 (telE s xt xa)]) ∧ LB w1 (w1.heap.size + 1) w1.heap.size w3.heap.size (telX s xt xf xa) s q ql qc w'' ∧ NX (w1.heap.size + 1) w1.heap.size w3.heap.size (telX s xt xf xa) p' n' c' w'') := fun w' h => lb_tell2 h HI.out CJ xt xf xa
          generalize telX s xt xf xa = s3 at *
          generalize telE s xt xa = re at *
          clear HI hk WT HB
          obtain ⟨e0, e1, e2, e3⟩ := cells4 XB.out
          go_upto_region 20 with (first | (go_at_call 7; refine (AM.out _).mono ?_; rintro e w5 ⟨rfl, hw⟩; rw [hw]; clear hw) | (go_at_call 10; refine (A1.out _ HB4.out _ XB.out).mono ?_; rintro e w6 ⟨rfl, hq, hx⟩; have H6 := hid hq; obtain ⟨f0, f1, f2, f3⟩ := cells4 hx; obtain ⟨g0, g1, g2, g3, g4, g5, g6, g7, g8⟩ := cells9 (show w6.heap[w3.heap.size]? = some (.cells #[_, _, _, _, _, _, _, _, _] _) from H6.out.cb); clear hq hx) | (go_at_call 11; refine (A2.out _ H6.out).mono ?_; rintro e w7 ⟨p7, n7, c7, rfl, hq, hx⟩; have H7 := hid hq; have N7 := hid hx; clear hq hx g0 g1 g2 g3 g4 g5 g6 g7 g8))
          generalize hS : w7.alloc _ = w8
          have D8 : Hid (w8.heap[w7.heap.size]? = some (.cells #[.int .i64 s3.lim, .int .i64 s3.rst, .int .i64 s3.st, .int .i64 s3.trn, .int .i64 s3.row, .int .i64 s3.unt, .int .i64 s3.lst, .int .i64 s3.trs, .slice p7 n7 c7] 30)) := by rw [← hS]; exact heap_alloc_new w7 _
          have H8 : Hid (LB w1 (w1.heap.size + 1) w1.heap.size w3.heap.size s3 s q ql qc w8) := by rw [← hS]; exact H7.out.below (bal w7 _)
          have N8 : Hid (NX (w1.heap.size + 1) w1.heap.size w3.heap.size s3 p7 n7 c7 w8) := by rw [← hS]; exact N7.out.below (bal w7 _)
          have H9 := hid (H8.out.store N8.out)
          clear hS H7 N7 A1 A2 AM
          obtain ⟨y0, y1, y2, y3, y4, y5, y6, y7, y8⟩ := cells9 D8.out
          obtain ⟨g0, g1, g2, g3, g4, g5, g6, g7, g8⟩ := cells9 (show w8.heap[w3.heap.size]? = some (.cells #[_, _, _, _, _, _, _, _, _] _) from H8.out.cb)
          have fq := frz H8.out.cb
          go_upto_region 21 with fail
          generalize hS : World.setCell _ ⟨_, 8, none⟩ _ = w9 at H9 ⊢
          clear hS y0 y1 y2 y3 y4 y5 y6 y7 y8 g0 g1 g2 g3 g4 g5 g6 g7 g8 fq H8 N8 D8
          have ST : Hid (∀ w', LB w1 (w1.heap.size + 1) w1.heap.size w3.heap.size s3 s3 p7 n7 c7 w' → Calls Try.prog 12 #[.pointer (some ⟨w1.heap.size + 1, 0, none⟩)] w' fun e w'' => e = .returned (.tuple #[.int .i64 s3.st, .int .i64 s3.row, .int .i64 s3.unt]) ∧ LB w1 (w1.heap.size + 1) w1.heap.size w3.heap.size s3 s3 p7 n7 c7 w'') := fun w' h => lb_state h
          go_wp2_with (go_at_call 12; refine (ST.out _ H9.out).mono ?_; rintro e wA ⟨rfl, hq⟩; have HA := hid hq; obtain ⟨g0, g1, g2, g3, g4, g5, g6, g7, g8⟩ := cells9 (show wA.heap[w3.heap.size]? = some (.cells #[_, _, _, _, _, _, _, _, _] _) from HA.out.cb); clear hq)
          go_roundw
          case rel => exact ⟨j + 1, s3, p7, n7, c7, _, by go_num, rfl, by omega, KN, HA⟩
          case measure => simp [intOf]; omega
      · obtain rfl : j = n := by omega
        have BF := hid (bl3 B1.out HB.out.bel)
        go_wp2_with fail
        go_ret
        exact ⟨rfl, BF.out⟩
end Go.Proofs.Ytddnagoljdhnlaa
