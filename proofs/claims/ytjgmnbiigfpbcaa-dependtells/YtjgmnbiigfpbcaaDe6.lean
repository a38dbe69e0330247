/- Depend: the law DependTells. -/
import Derived.Test.YtjgmnbiigfpbcaaDe6p
namespace Go.Proofs.Ytjgmnbiigfpbcaa
open Go.RowKit

set_option maxRecDepth 100000 in
set_option maxHeartbeats 32000000 in
theorem dependTells_any (v : Value) (L : List Ca) (n1 n2 : Int) (w : World) (hl : GS KCa w v L) (hn : L.length ≤ 140737488355328) : Calls Try.prog 6 #[v, .int .i64 n1, .int .i64 n2] w fun e w' => e = .returned (.bool true) ∧ Below w.heap.size w w' := by
  obtain ⟨p, c0, hv⟩ := hl.form
  subst hv
  have WK := hid (works_any w)
  have PL : Hid (∀ W, Below w.heap.size w W → Calls Try.prog 16 #[.slice p L.length c0] W fun e w' => ∃ b X, e = .returned (.pointer (some ⟨b, 0, none⟩)) ∧ PW W w' b X L.length) := fun W hb => played_any _ L W (hl.below hb) hn
  obtain ⟨t, ht1, ht2⟩ := am_nat n1 128 (by omega)
  obtain ⟨c, hc1, hc2⟩ := am_nat n2 256 (by omega)
  have ht : t < 128 := by omega
  have hc : c < 256 := by omega
  have AM1 : Hid (∀ W, Calls Try.prog 19 #[.int .i64 n1, .int .i64 128] W fun e w' => e = .returned (.int .i64 t) ∧ w' = W) := fun W => by have := among_any n1 128 (by omega) W; rw [ht1] at this; exact this
  have AM2 : Hid (∀ W, Calls Try.prog 19 #[.int .i64 n2, .int .i64 256] W fun e w' => e = .returned (.int .i64 c) ∧ w' = W) := fun W => by have := among_any n2 256 (by omega) W; rw [hc1] at this; exact this
  generalize L.length = n at *
  clear hl ht1 hc1 ht2 hc2
  go_enter Try.func6, Try.ntmps6
  go_upto_region 7 with (first | (go_at_call 9; refine WK.out.mono ?_; rintro e w1 ⟨rfl, hb1⟩; have B1 := hid hb1; clear hb1) | (go_at_call 16; refine (PL.out _ B1.out).mono ?_; rintro e w2 ⟨b, X, rfl, h2⟩; have P := hid h2; clear h2) | (go_at_call 19; refine (AM1.out _).mono ?_; clear AM1; rintro e w' ⟨rfl, hw⟩; rw [hw]; clear hw) | (go_at_call 19; refine (AM2.out _).mono ?_; clear AM2; rintro e w' ⟨rfl, hw⟩; rw [hw]; clear hw))
  have HI := hid P.out.wi
  have SL := stk_len HI.out t
  have WL := wai_len HI.out c
  clear WK PL
  have SK0 : Hid (∀ W, PW w1 W b X n → Calls Try.prog 20 #[.pointer (some ⟨b, 0, none⟩), .int .i64 t] W fun e w' => ∃ q cc, e = .returned (.tuple #[.slice q (stk X t).length cc, .int .i64 0]) ∧ OB w' b (.slice q (stk X t).length cc) (stk X t) ∧ PW w1 w' b X n ∧ Kp b W w') := fun W h => stack_k h ht
  cases hw : (X.w t).is with
  | true =>
    obtain ⟨a1, a2, a3, a4, a5⟩ := tel_w ht hc hw
    have WT0 : Hid (∀ W, PW w1 W b X n → Calls Try.prog 17 #[.pointer (some ⟨b, 0, none⟩), .int .i64 t] W fun e w' => (∃ z : Int, e = .returned (.tuple #[.int .i64 z, .bool true, .int .i64 0])) ∧ PW w1 w' b X n ∧ Kp b W w') := fun W h => by have := waiting_k h ht; rw [hw] at this; exact this.mono fun _ _ ⟨h0, h2, h3⟩ => ⟨⟨_, h0⟩, h2, h3⟩
    have RN0 : Hid (∀ W, PW w1 W b X n → Calls Try.prog 18 #[.pointer (some ⟨b, 0, none⟩), .int .i64 c] W fun e w' => (∃ (z : Int) (y : Bool), e = .returned (.tuple #[.int .i64 z, .bool y, .int .i64 0])) ∧ PW w1 w' b X n ∧ Kp b W w') := fun W h => by exact (runner_k h hc).mono fun _ _ ⟨h0, h2, h3⟩ => ⟨⟨_, _, h0⟩, h2, h3⟩
    have AS : Hid (∀ W, PW w1 W b X n → Calls Try.prog 21 #[.pointer (some ⟨b, 0, none⟩), .int .i64 t, .int .i64 c] W fun e w' => (∃ q cc, e = .returned (.tuple #[.slice q 0 cc, .int .i64 7])) ∧ PW w1 w' b X n ∧ Kp b W w') := fun W h => by have := ask_k h t c; rw [a1, a2] at this; exact this.mono fun _ _ ⟨q, cc, h0, _, h2, h3⟩ => ⟨⟨q, cc, h0⟩, h2, h3⟩
    have WT : Hid (∀ W, PW w1 W b X n → Calls Try.prog 22 #[.pointer (some ⟨b, 0, none⟩), .int .i64 t, .int .i64 c] W fun e w' => (∃ q cc, e = .returned (.tuple #[.slice q 0 cc, .int .i64 7])) ∧ PW w1 w' b X (n + 1) ∧ Kp b W w') := fun W h => by have := wait_k h (by omega) t c; rw [a3, a4, a5] at this; exact this.mono fun _ _ ⟨q, cc, h0, _, h2, h3⟩ => ⟨⟨q, cc, h0⟩, h2, h3⟩
    generalize stk X t = S0 at *
    generalize S0.length = s0 at *
    clear a1 a2 a3 a4 a5 hw HI
    go_wp2_with (first | (go_at_call 20; refine (SK0.out _ P.out).mono ?_; clear SK0; rintro e w' ⟨q3, cc3, rfl, o3, p9, k9⟩; replace P := hid p9; have O3 := hid o3; clear p9 k9 o3) | (go_at_call 17; refine (WT0.out _ P.out).mono ?_; clear WT0; rintro e w' ⟨⟨z4, rfl⟩, p9, k9⟩; replace P := hid p9; clear p9 k9) | (go_at_call 18; refine (RN0.out _ P.out).mono ?_; clear RN0; rintro e w' ⟨⟨z5, y5, rfl⟩, p9, k9⟩; replace P := hid p9; clear p9 k9) | (go_at_call 21; refine (AS.out _ P.out).mono ?_; clear AS; rintro e w' ⟨⟨q6, cc6, rfl⟩, p9, k9⟩; replace P := hid p9; clear p9 k9) | (go_at_call 22; refine (WT.out _ P.out).mono ?_; clear WT; rintro e w' ⟨⟨q7, cc7, rfl⟩, p9, k9⟩; replace P := hid p9; clear p9 k9))
    go_ret
    exact ⟨rfl, bl3 B1.out P.out.bl⟩
  | false =>
    obtain ⟨a1, a2⟩ := tel_a (X := X) ht hc hw
    have WT0 : Hid (∀ W, PW w1 W b X n → Calls Try.prog 17 #[.pointer (some ⟨b, 0, none⟩), .int .i64 t] W fun e w' => (∃ z : Int, e = .returned (.tuple #[.int .i64 z, .bool false, .int .i64 0])) ∧ PW w1 w' b X n ∧ Kp b W w') := fun W h => by have := waiting_k h ht; rw [hw] at this; exact this.mono fun _ _ ⟨h0, h2, h3⟩ => ⟨⟨_, h0⟩, h2, h3⟩
    have WA0 : Hid (∀ W, PW w1 W b X n → Calls Try.prog 23 #[.pointer (some ⟨b, 0, none⟩), .int .i64 c] W fun e w' => ∃ q cc, e = .returned (.tuple #[.slice q (wai X c).length cc, .int .i64 0]) ∧ OB w' b (.slice q (wai X c).length cc) (wai X c) ∧ PW w1 w' b X n ∧ Kp b W w') := fun W h => waiters_k h hc
    cases hr : (X.r c).is with
    | false =>
      obtain ⟨c1, c2, c3, c4⟩ := tel_n HI.out ht hc hw hr
      have RN0 : Hid (∀ W, PW w1 W b X n → Calls Try.prog 18 #[.pointer (some ⟨b, 0, none⟩), .int .i64 c] W fun e w' => (∃ z : Int, e = .returned (.tuple #[.int .i64 z, .bool false, .int .i64 0])) ∧ PW w1 w' b X n ∧ Kp b W w') := fun W h => by have := runner_k h hc; rw [hr] at this; exact this.mono fun _ _ ⟨h0, h2, h3⟩ => ⟨⟨_, h0⟩, h2, h3⟩
      have AS : Hid (∀ W, PW w1 W b X n → Calls Try.prog 21 #[.pointer (some ⟨b, 0, none⟩), .int .i64 t, .int .i64 c] W fun e w' => (∃ q cc, e = .returned (.tuple #[.slice q 0 cc, .int .i64 0]) ∧ OB w' b (.slice q 0 cc) []) ∧ PW w1 w' b X n ∧ Kp b W w') := fun W h => by have := ask_k h t c; rw [a1, a2, c1] at this; exact this.mono fun _ _ ⟨q, cc, h0, ho, h2, h3⟩ => ⟨⟨q, cc, h0, ho⟩, h2, h3⟩
      have WT : Hid (∀ W, PW w1 W b X n → Calls Try.prog 22 #[.pointer (some ⟨b, 0, none⟩), .int .i64 t, .int .i64 c] W fun e w' => (∃ q cc, e = .returned (.tuple #[.slice q 0 cc, .int .i64 4]) ∧ OB w' b (.slice q 0 cc) []) ∧ PW w1 w' b X (n + 1) ∧ Kp b W w') := fun W h => by have := wait_k h (by omega) t c; rw [c2, c3, c4] at this; exact this.mono fun _ _ ⟨q, cc, h0, ho, h2, h3⟩ => ⟨⟨q, cc, h0, ho⟩, h2, h3⟩
      have IN : Hid (∀ W v u, PW w1 W b X (n + 1) → OB W b v [] → OB W b u [] → Calls Try.prog 15 #[v, u] W fun e w' => e = .returned (.bool true) ∧ PW w1 w' b X (n + 1) ∧ Kp b W w') := fun W v u h hv hu => by have := ints_k h hv hu (by simp); rw [decide_eq_true rfl] at this; exact this
      generalize stk X t = S0 at *
      generalize S0.length = s0 at *
      generalize wai X c = S1 at *
      generalize S1.length = s1 at *
      clear a1 a2 c1 c2 c3 c4 hw hr HI
      go_wp2_with (first | (go_at_call 20; refine (SK0.out _ P.out).mono ?_; clear SK0; rintro e w' ⟨q3, cc3, rfl, o3, p9, k9⟩; replace P := hid p9; have O3 := hid o3; clear p9 k9 o3) | (go_at_call 17; refine (WT0.out _ P.out).mono ?_; clear WT0; rintro e w' ⟨⟨z4, rfl⟩, p9, k9⟩; replace P := hid p9; clear p9 k9) | (go_at_call 18; refine (RN0.out _ P.out).mono ?_; clear RN0; rintro e w' ⟨⟨z5, rfl⟩, p9, k9⟩; replace P := hid p9; clear p9 k9) | (go_at_call 21; refine (AS.out _ P.out).mono ?_; clear AS; rintro e w' ⟨⟨q6, cc6, rfl, o6⟩, p9, k9⟩; replace P := hid p9; have O6 := hid o6; clear p9 k9 o6) | (go_at_call 23; refine (WA0.out _ P.out).mono ?_; clear WA0; rintro e w' ⟨q7, cc7, rfl, o7, p9, k9⟩; replace P := hid p9; replace O6 := hid (k9 _ _ O6.out); have O7 := hid o7; clear p9 k9 o7) | (go_at_call 22; refine (WT.out _ P.out).mono ?_; clear WT; rintro e w' ⟨⟨q8, cc8, rfl, o8⟩, p9, k9⟩; replace P := hid p9; replace O6 := hid (k9 _ _ O6.out); have O8 := hid o8; clear p9 k9 o8) | (go_at_call 15; refine (IN.out _ _ _ P.out O6.out O8.out).mono ?_; clear IN; rintro e w' ⟨rfl, p9, k9⟩; replace P := hid p9; clear p9 k9))
      go_ret
      exact ⟨rfl, bl3 B1.out P.out.bl⟩
    | true =>
      have RN0 : Hid (∀ W, PW w1 W b X n → Calls Try.prog 18 #[.pointer (some ⟨b, 0, none⟩), .int .i64 c] W fun e w' => e = .returned (.tuple #[.int .i64 (X.r c).to, .bool true, .int .i64 0]) ∧ PW w1 w' b X n ∧ Kp b W w') := fun W h => by have := runner_k h hc; rw [hr] at this; exact this
      by_cases hcl : cirW X t c = []
      · obtain ⟨c1, c2, c3⟩ := tel_o ht hc hw hr hcl
        have AS : Hid (∀ W, PW w1 W b X n → Calls Try.prog 21 #[.pointer (some ⟨b, 0, none⟩), .int .i64 t, .int .i64 c] W fun e w' => (∃ q cc, e = .returned (.tuple #[.slice q 0 cc, .int .i64 0]) ∧ OB w' b (.slice q 0 cc) []) ∧ PW w1 w' b X n ∧ Kp b W w') := fun W h => by have := ask_k h t c; rw [a1, a2, hcl] at this; exact this.mono fun _ _ ⟨q, cc, h0, ho, h2, h3⟩ => ⟨⟨q, cc, h0, ho⟩, h2, h3⟩
        have WT : Hid (∀ W, PW w1 W b X n → Calls Try.prog 22 #[.pointer (some ⟨b, 0, none⟩), .int .i64 t, .int .i64 c] W fun e w' => (∃ q cc, e = .returned (.tuple #[.slice q 0 cc, .int .i64 0]) ∧ OB w' b (.slice q 0 cc) []) ∧ PW w1 w' b (waiW X t c) (n + 1) ∧ Kp b W w') := fun W h => by have := wait_k h (by omega) t c; rw [c1, c2, c3] at this; exact this.mono fun _ _ ⟨q, cc, h0, ho, h2, h3⟩ => ⟨⟨q, cc, h0, ho⟩, h2, h3⟩
        have HIY : Hid (WI (waiW X t c)) := by have := wtX_ok HI.out (t : Int) (c : Int); rw [c3] at this; exact this
        have hyw : (waiW X t c).w t = ⟨c, X.made + 1, true⟩ := by rw [waiW_w HI.out ht, if_pos rfl]
        have hya : wai (waiW X t c) c = wai X c ++ [t] := by rw [waiW_wai HI.out ht hw, if_pos rfl]
        have hyr : ∀ z, (waiW X t c).r z = X.r z := fun _ => rfl
        have hyt : ((waiW X t c).w t).to = c := by rw [hyw]
        have hyi : ((waiW X t c).w t).is = true := by rw [hyw]
        have FAR : Hid (∀ m j, itn (tn (waiW X t c)) m (X.r c).to = some j → j ≠ t ∧ j < 128 ∧ m ≤ 128) := fun m j hj => by have := tel_far HIY.out (t := t) hyi (m := m) (j := j); rw [hyt, hyr] at this; exact this hj
        clear c3 hyw hyr
        generalize waiW X t c = Y at *
        generalize (X.r c).to = r0 at *
        have NE := (FAR.out 0 _ rfl).1
        have WTY : Hid (∀ W, PW w1 W b Y (n + 1) → Calls Try.prog 17 #[.pointer (some ⟨b, 0, none⟩), .int .i64 t] W fun e w' => e = .returned (.tuple #[.int .i64 c, .bool true, .int .i64 0]) ∧ PW w1 w' b Y (n + 1) ∧ Kp b W w') := fun W h => by have := waiting_k h ht; rw [hyt, hyi] at this; exact this
        have WAY : Hid (∀ W, PW w1 W b Y (n + 1) → Calls Try.prog 23 #[.pointer (some ⟨b, 0, none⟩), .int .i64 c] W fun e w' => ∃ g cc, e = .returned (.tuple #[.slice (some ⟨g, 0, none⟩) ((wai X c).length + 1) cc, .int .i64 0]) ∧ w'.cell? ⟨g, (wai X c).length, none⟩ = some (.int .i64 t) ∧ PW w1 w' b Y (n + 1) ∧ Kp b W w') := fun W h => by
            have := waiters_k h hc
            rw [hya] at this
            refine this.mono ?_
            rintro e w' ⟨q, cc, rfl, ho, h2, h3⟩
            obtain ⟨g, cp, e⟩ := ho.form (by simp)
            injection e with e1 _ _
            subst e1
            have hcc := ho.at (k := (wai X c).length) (by simp)
            rw [getD_snoc] at hcc
            exact ⟨g, cc, by rw [List.length_append]; rfl, hcc, h2, h3⟩
        have IN : Hid (∀ W v u, PW w1 W b Y (n + 1) → OB W b v [] → OB W b u [] → Calls Try.prog 15 #[v, u] W fun e w' => e = .returned (.bool true) ∧ PW w1 w' b Y (n + 1) ∧ Kp b W w') := fun W v u h hv hu => by have := ints_k h hv hu (by simp); rw [decide_eq_true rfl] at this; exact this
        have WTJ : Hid (∀ (W : World) (j : Nat), j < 128 → PW w1 W b Y (n + 1) → Calls Try.prog 17 #[.pointer (some ⟨b, 0, none⟩), .int .i64 j] W fun e w' => e = .returned (.tuple #[.int .i64 (Y.w j).to, .bool (Y.w j).is, .int .i64 0]) ∧ PW w1 w' b Y (n + 1) ∧ Kp b W w') := fun W j hj h => waiting_k h hj
        have RNJ : Hid (∀ (W : World) (j : Nat), (Y.w j).is = true → PW w1 W b Y (n + 1) → Calls Try.prog 18 #[.pointer (some ⟨b, 0, none⟩), .int .i64 (Y.w j).to] W fun e w' => e = .returned (.tuple #[.int .i64 (Y.r (Y.w j).to).to, .bool true, .int .i64 0]) ∧ PW w1 w' b Y (n + 1) ∧ Kp b W w') := fun W j hj h => by have := runner_k h (HIY.out.wm j hj).2.1; rw [(HIY.out.wm j hj).2.2] at this; exact this
        generalize stk X t = S0 at *
        generalize S0.length = s0 at *
        generalize wai X c = S1 at *
        generalize S1.length = s1 at *
        have hnr : ¬ (r0 : Int) = t := by omega
        have hnb : ((r0 : Int) == t) = false := by simpa using hnr
        clear a1 a2 c1 c2 hw hr HI hcl hya HIY hyt hyi
        go_wp2_with (first | (go_at_call 20; refine (SK0.out _ P.out).mono ?_; clear SK0; rintro e w' ⟨q3, cc3, rfl, o3, p9, k9⟩; replace P := hid p9; have O3 := hid o3; clear p9 k9 o3) | (go_at_call 17; refine (WT0.out _ P.out).mono ?_; clear WT0; rintro e w' ⟨⟨z4, rfl⟩, p9, k9⟩; replace P := hid p9; clear p9 k9) | (go_at_call 18; refine (RN0.out _ P.out).mono ?_; clear RN0; rintro e w' ⟨rfl, p9, k9⟩; replace P := hid p9; clear p9 k9) | (go_at_call 21; refine (AS.out _ P.out).mono ?_; clear AS; rintro e w' ⟨⟨q6, cc6, rfl, o6⟩, p9, k9⟩; replace P := hid p9; have O6 := hid o6; clear p9 k9 o6) | (go_at_call 23; refine (WA0.out _ P.out).mono ?_; clear WA0; rintro e w' ⟨q7, cc7, rfl, o7, p9, k9⟩; replace P := hid p9; replace O6 := hid (k9 _ _ O6.out); have O7 := hid o7; clear p9 k9 o7) | (go_at_call 22; refine (WT.out _ P.out).mono ?_; clear WT; rintro e w' ⟨⟨q8, cc8, rfl, o8⟩, p9, k9⟩; replace P := hid p9; replace O6 := hid (k9 _ _ O6.out); have O8 := hid o8; clear p9 k9 o8) | (go_at_call 15; refine (IN.out _ _ _ P.out O6.out O8.out).mono ?_; clear IN; rintro e w' ⟨rfl, p9, k9⟩; replace P := hid p9; clear p9 k9) | (go_at_call 17; refine (WTY.out _ P.out).mono ?_; clear WTY; rintro e w' ⟨rfl, p9, k9⟩; replace P := hid p9; clear p9 k9) | (go_at_call 23; refine (WAY.out _ P.out).mono ?_; clear WAY; rintro e w' ⟨g9, cc9, rfl, hc9, p9, k9⟩; replace P := hid p9; clear p9 k9))
        go_loopw [13, 33] (fun v13 v33 wr => ∃ (m j : Nat) (wk : World), v33 = .int .i64 m ∧ v13 = .int .i64 j ∧ wk = wr ∧ m ≤ 128 ∧ Hid (itn (tn Y) m r0 = some j) ∧ Hid (PW w1 wk b Y (n + 1))) (fun _ v33 _ => 129 - (intOf v33).toNat)
        case atStart => exact ⟨0, r0, _, rfl, rfl, rfl, by omega, rfl, P⟩
        case round =>
          obtain ⟨m, j, wr, rfl, rfl, rfl, hm, HJ, HP⟩ := hrel
          clear P O3 O7 hc9
          obtain ⟨hj1, hj2, _⟩ := FAR.out m j HJ.out
          have hji : ¬ (j : Int) = t := by omega
          have hjb : ((j : Int) == t) = false := by simpa using hji
          have hmi : (m : Int) ≤ 128 := by omega
          cases hjw : (Y.w j).is with
          | false =>
            have WJ := hid (WTJ.out wr j hj2 HP.out)
            rw [hjw] at WJ
            go_wp2_with (go_at_call 17; refine WJ.out.mono ?_; rintro e w' ⟨rfl, p9, k9⟩; have P9 := hid p9; clear p9 k9)
            go_ret
            exact ⟨rfl, bl3 B1.out P9.out.bl⟩
          | true =>
            have WJ := hid (WTJ.out wr j hj2 HP.out)
            rw [hjw] at WJ
            have RJ := hid (fun W (h : PW w1 W b Y (n + 1)) => RNJ.out W j hjw h)
            have HJ2 : Hid (itn (tn Y) (m + 1) r0 = some (Y.r (Y.w j).to).to) := by show _ = _; rw [it_last, HJ.out]; exact tn_some hjw
            have hm2 := (FAR.out _ _ HJ2.out).2.2
            generalize (Y.r (Y.w j).to).to = j2 at *
            generalize (Y.w j).to = cj at *
            clear hjw
            go_wp2_with (first | (go_at_call 17; refine WJ.out.mono ?_; rintro e w' ⟨rfl, p9, k9⟩; have P9 := hid p9; clear p9 k9) | (go_at_call 18; refine (RJ.out _ P9.out).mono ?_; rintro e w8 ⟨rfl, p8, k8⟩; have P8 := hid p8; clear p8 k8))
            go_roundw
            case rel => exact ⟨m + 1, j2, _, by go_num, rfl, rfl, by omega, HJ2, P8⟩
            case measure => simp [intOf]; omega
      · obtain ⟨c1, c2, c3⟩ := tel_c ht hc hw hr hcl
        obtain ⟨M, N, z, e1, e2, ⟨R, e3⟩, e4⟩ := cir_parts (cirW_some HI.out hcl)
        have hcn := cirW_len HI.out (t := t) hc
        have AS : Hid (∀ W, PW w1 W b X n → Calls Try.prog 21 #[.pointer (some ⟨b, 0, none⟩), .int .i64 t, .int .i64 c] W fun e w' => (∃ q cc, e = .returned (.tuple #[.slice q (cirW X t c).length cc, .int .i64 0]) ∧ OB w' b (.slice q (cirW X t c).length cc) (cirW X t c)) ∧ PW w1 w' b X n ∧ Kp b W w') := fun W h => by have := ask_k h t c; rw [a1, a2] at this; exact this.mono fun _ _ ⟨q, cc, h0, ho, h2, h3⟩ => ⟨⟨q, cc, h0, ho⟩, h2, h3⟩
        have WT : Hid (∀ W, PW w1 W b X n → Calls Try.prog 22 #[.pointer (some ⟨b, 0, none⟩), .int .i64 t, .int .i64 c] W fun e w' => (∃ q cc, e = .returned (.tuple #[.slice q (cirW X t c).length cc, .int .i64 140]) ∧ OB w' b (.slice q (cirW X t c).length cc) (cirW X t c)) ∧ PW w1 w' b X (n + 1) ∧ Kp b W w') := fun W h => by have := wait_k h (by omega) t c; rw [c1, c2, c3] at this; exact this.mono fun _ _ ⟨q, cc, h0, ho, h2, h3⟩ => ⟨⟨q, cc, h0, ho⟩, h2, h3⟩
        have IN : Hid (∀ W v u, PW w1 W b X (n + 1) → OB W b v (cirW X t c) → OB W b u (cirW X t c) → Calls Try.prog 15 #[v, u] W fun e w' => e = .returned (.bool true) ∧ PW w1 w' b X (n + 1) ∧ Kp b W w') := fun W v u h hv hu => by have := ints_k h hv hu (by omega); rw [decide_eq_true rfl] at this; exact this
        have WT2 : Hid (∀ W, PW w1 W b X (n + 1) → Calls Try.prog 17 #[.pointer (some ⟨b, 0, none⟩), .int .i64 t] W fun e w' => (∃ z : Int, e = .returned (.tuple #[.int .i64 z, .bool false, .int .i64 0])) ∧ PW w1 w' b X (n + 1) ∧ Kp b W w') := fun W h => by have := waiting_k h ht; rw [hw] at this; exact this.mono fun _ _ ⟨h0, h2, h3⟩ => ⟨⟨_, h0⟩, h2, h3⟩
        generalize hcr : cirW X t c = C at *
        have LD : Hid (∀ W k (hk : k + 1 < C.length), PW w1 W b X (n + 1) → Calls Try.prog 24 #[.pointer (some ⟨b, 0, none⟩), .int .i64 C[k], .int .i64 C[k + 1]] W fun e w' => e = .returned (.bool true) ∧ PW w1 w' b X (n + 1) ∧ Kp b W w') := fun W k hk h => leads_k h (e4 k hk)
        have CF : Hid (∀ W q cc, OB W b (.slice q C.length cc) C → ∃ g, q = some ⟨g, 0, none⟩) := fun W q cc ho => by obtain ⟨g, cp, e⟩ := ho.form (by rw [e1]; simp); injection e with e _ _; exact ⟨g, e⟩
        have SF : Hid (∀ W q cc, OB W b (.slice q (stk X t).length cc) (stk X t) → ∃ g, q = some ⟨g, 0, none⟩) := fun W q cc ho => by obtain ⟨g, cp, e⟩ := ho.form (by rw [e2]; simp); injection e with e _ _; exact ⟨g, e⟩
        have CL : Hid (C.length = M.length + 1) := by show _ = _; rw [e1]; simp
        have SLn : Hid ((stk X t).length = N.length + 1) := by show _ = _; rw [e2]; simp
        have CA : Hid (∀ W g cc, OB W b (.slice (some ⟨g, 0, none⟩) C.length cc) C → W.cell? ⟨g, 0, none⟩ = some (.int .i64 c) ∧ W.cell? ⟨g, M.length, none⟩ = some (.int .i64 z)) := fun W g cc ho => by
            refine ⟨?_, ?_⟩
            · have := ho.at (k := 0) (by rw [e1]; simp)
              rw [this]; subst e3; rfl
            · have := ho.at (k := M.length) (by rw [e1]; simp)
              rw [this]; subst e1; rw [getD_snoc]
        have SA : Hid (∀ W g cc, OB W b (.slice (some ⟨g, 0, none⟩) (stk X t).length cc) (stk X t) → W.cell? ⟨g, N.length, none⟩ = some (.int .i64 z)) := fun W g cc ho => by
            rw [e2] at ho
            have := ho.at (k := N.length) (by simp)
            rw [this, getD_snoc]
        generalize stk X t = S0 at *
        generalize wai X c = S1 at *
        generalize S1.length = s1 at *
        generalize (X.r c).to = r0 at *
        have hcn2 : M.length + 1 ≤ 256 := by rw [← CL.out]; exact hcn
        have hsn2 : N.length + 1 ≤ 256 := by rw [← SLn.out]; exact SL
        clear a1 a2 c1 c2 c3 hw hr HI hcl e1 e2 e3 e4 hcr hcn SL
        have hc0 : (0 : Int) < C.length := by have := CL.out; omega
        go_upto_region 25 with (first | (go_at_call 20; refine (SK0.out _ P.out).mono ?_; clear SK0; rintro e w' ⟨q3, cc3, rfl, o3, p9, k9⟩; replace P := hid p9; have O3 := hid o3; clear p9 k9 o3) | (go_at_call 17; refine (WT0.out _ P.out).mono ?_; clear WT0; rintro e w' ⟨⟨z4, rfl⟩, p9, k9⟩; replace P := hid p9; replace O3 := hid (k9 _ _ O3.out); clear p9 k9) | (go_at_call 18; refine (RN0.out _ P.out).mono ?_; clear RN0; rintro e w' ⟨rfl, p9, k9⟩; replace P := hid p9; replace O3 := hid (k9 _ _ O3.out); clear p9 k9) | (go_at_call 21; refine (AS.out _ P.out).mono ?_; clear AS; rintro e w' ⟨⟨q6, cc6, rfl, o6⟩, p9, k9⟩; replace P := hid p9; replace O3 := hid (k9 _ _ O3.out); have O6 := hid o6; clear p9 k9 o6) | (go_at_call 23; refine (WA0.out _ P.out).mono ?_; clear WA0; rintro e w' ⟨q7, cc7, rfl, o7, p9, k9⟩; replace P := hid p9; replace O3 := hid (k9 _ _ O3.out); replace O6 := hid (k9 _ _ O6.out); have O7 := hid o7; clear p9 k9 o7) | (go_at_call 22; refine (WT.out _ P.out).mono ?_; clear WT; rintro e w' ⟨⟨q8, cc8, rfl, o8⟩, p9, k9⟩; replace P := hid p9; replace O3 := hid (k9 _ _ O3.out); replace O6 := hid (k9 _ _ O6.out); have O8 := hid o8; clear p9 k9 o8) | (go_at_call 15; refine (IN.out _ _ _ P.out O6.out O8.out).mono ?_; clear IN; rintro e w' ⟨rfl, p9, k9⟩; replace P := hid p9; replace O3 := hid (k9 _ _ O3.out); replace O6 := hid (k9 _ _ O6.out); clear p9 k9))
        obtain ⟨g6, hg6⟩ := CF.out _ _ _ O6.out
        obtain ⟨g3, hg3⟩ := SF.out _ _ _ O3.out
        subst hg6 hg3
        obtain ⟨d1, d2⟩ := CA.out _ _ _ O6.out
        have d3 := SA.out _ _ _ O3.out
        rw [CL.out, SLn.out]
        generalize N.length = nl at *
        have LD2 : Hid (∀ W k cc, k < M.length → PW w1 W b X (n + 1) → OB W b (.slice (some ⟨g6, 0, none⟩) (M.length + 1) cc) C → ∃ x y : Nat, (∀ V, OB V b (.slice (some ⟨g6, 0, none⟩) (M.length + 1) cc) C → V.cell? ⟨g6, k, none⟩ = some (.int .i64 x) ∧ V.cell? ⟨g6, k + 1, none⟩ = some (.int .i64 y)) ∧ Calls Try.prog 24 #[.pointer (some ⟨b, 0, none⟩), .int .i64 x, .int .i64 y] W fun e w' => e = .returned (.bool true) ∧ PW w1 w' b X (n + 1) ∧ Kp b W w') := fun W k cc hk h ho => by
          have k1 : k < C.length := by have := CL.out; omega
          have k2 : k + 1 < C.length := by have := CL.out; omega
          exact ⟨C[k], C[k + 1], fun V hV => ⟨hV.at k1, hV.at k2⟩, LD.out W k k2 h⟩
        rw [CL.out] at O6 hc0
        generalize M.length = ml at *
        have hz1 : ¬ ((nl : Int) + 1) = 0 := by omega
        have hz2 : (((nl : Int) + 1) == 0) = false := by simpa using hz1
        have hz3 : ((c : Int) != c) = false := by simp
        have hz4 : ((z : Int) != z) = false := by simp
        have OL := hid O6.out
        have PL := hid P.out
        clear LD CF SF CL SLn CA SA O3 O6 P O7
        go_quiet (fail)
        go_wp2
        obtain ⟨cl, hcl2⟩ : ∃ cl, cl = ml + 1 := ⟨_, rfl⟩
        rw [← hcl2] at OL LD2 ⊢
        have HCL := hid hcl2
        clear hcl2
        go_loopw [24] (fun v24 wr => ∃ (k : Nat) (wk : World), k ≤ ml ∧ v24 = .int .i64 k ∧ wk = wr ∧ Hid (PW w1 wk b X (n + 1)) ∧ Hid (OB wk b (.slice (some ⟨g6, 0, none⟩) cl cc6) C)) (fun v24 _ => ml - (intOf v24).toNat)
        case atStart => exact ⟨0, _, Nat.zero_le _, rfl, rfl, PL.out.below (drew_below _ _), Kp.of_below (drew_below _ _) _ _ OL.out⟩
        case round =>
          obtain ⟨k, wr, hk, rfl, rfl, HP, HO⟩ := hrel
          clear PL OL d1 d2 d3
          by_cases hlt : k < ml
          · have BD : Below wr.heap.size wr wr.drew := drew_below wr 1
            obtain ⟨x, y, k12, hcall⟩ := LD2.out wr.drew k cc6 hlt (HP.out.below BD) (Kp.of_below BD _ _ HO.out)
            have HC := hid hcall
            have KD : Hid (Kp b wr wr.drew) := Kp.of_below BD
            have hki : (k : Int) < ml := by omega
            obtain ⟨kj, hkj0⟩ : ∃ kj, kj = k + 1 := ⟨_, rfl⟩
            rw [← hkj0] at k12
            have CX := hid k12
            obtain ⟨k1', k2'⟩ := k12 _ HO.out
            have hkr : (k : Int) + 1 = kj := by omega
            have hkw : IntKind.i64.wrap (kj : Int) = kj := by simp [IntKind.wrap, IntKind.bits, IntKind.signed]; omega
            have hkv : IntKind.i64.wrap ((k : Int) + 1) = kj := by rw [hkr]; exact hkw
            have hkj : (kj : Int) < cl := by have := HCL.out; omega
            have hkk : (k : Int) < cl := by have := HCL.out; omega
            have hkl : kj ≤ ml := by omega
            have HKJ := hid hkj0
            clear hkj0 k12
            clear hcall BD
            go_wp2
            go_region_held3 (fun w' => w'.cell? ⟨g6, k, none⟩ = some (.int .i64 x) ∧ w'.cell? ⟨g6, kj, none⟩ = some (.int .i64 y)) (go_keep) (first | (go_at_call 24; refine HC.out.mono ?_; rintro e w8 ⟨rfl, p8, k8⟩; have P8 := hid p8; have K8 := hid k8; obtain ⟨f1, f2⟩ := CX.out _ (k8 _ _ (KD.out _ _ HO.out)); clear p8 k8))
            all_goals
              go_wp2
              go_roundw
              case rel => exact ⟨kj, _, hkl, rfl, rfl, P8, K8.out _ _ (KD.out _ _ HO.out)⟩
              case measure => have := HKJ.out; simp [intOf]; omega
          · have hkj : ¬ (k : Int) + 1 < cl := by have := HCL.out; omega
            have hki : ¬ (k : Int) < ml := by omega
            go_wp2_with (go_at_call 17; refine (WT2.out _ HP.out).mono ?_; rintro e w8 ⟨⟨z8, rfl⟩, p8, k8⟩; have P8 := hid p8; clear p8 k8)
            go_ret
            exact ⟨rfl, bl3 B1.out P8.out.bl⟩
end Go.Proofs.Ytjgmnbiigfpbcaa
