/- Depend: the law DependUndone. -/
import Derived.Test.YtjgmnbiigfpbcaaDd3
namespace Go.Proofs.Ytjgmnbiigfpbcaa
open Go.RowKit

theorem no_wait {X : Wb} (h : WI X) {c : Nat} (hf : (X.r c).is = false) : wai X c = [] := by
  rw [List.eq_nil_iff_forall_not_mem]
  intro t ht
  obtain ⟨h1, h2⟩ := wai_mem.1 ht
  have := (h.wm t h1).2.2
  rw [h2, hf] at this; cases this
/-- What was begun last is ended. -/
theorem und1 {X : Wb} (h : WI X) {t c : Nat} (h0 : begE X t c = 0) : endE (begX X t c) t = 0 ∧ endC (begX X t c) t = c ∧ endL (begX X t c) t = [] ∧ stk (endX (begX X t c) t) t = stk X t ∧ (∀ c', wai (endX (begX X t c) t) c' = wai X c') ∧ ((endX (begX X t c) t).r c).is = false := by
  obtain ⟨h1, h2, h3, h4, _⟩ := begE_ok h0
  have e1 : ((t : Int)).toNat = t := rfl
  have e2 : ((c : Int)).toNat = c := rfl
  rw [e1] at h3
  rw [e2] at h4
  have hc : c < 256 := by have := cl_lt h2; exact this
  have ht : t < 128 := by have := tk_lt h1; exact this
  have eX : begX X t c = begW X t c := by unfold begX; rw [if_pos h0]; rfl
  rw [eX]
  have hi := begW_ok h ht hc h3 h4
  have hs : stk (begW X t c) t = stk X t ++ [c] := by rw [begW_stk h hc h4, if_pos rfl]
  have hl : (stk (begW X t c) t).getLast? = some c := by rw [hs]; simp
  have hw : ∀ c', wai (begW X t c) c' = wai X c' := fun _ => rfl
  have hE : endE (begW X t c) t = 0 := by
    unfold endE
    rw [h1, e1]
    have : ((begW X t c).w t).is = false := h3
    rw [this, hs]
    simp
  have hC : endC (begW X t c) t = c := by
    unfold endC
    rw [if_pos hE, e1, hl]; rfl
  have hW : wai (begW X t c) c = [] := by rw [hw]; exact no_wait h h4
  have hX : endX (begW X t c) t = endW (begW X t c) c := by
    unfold endX
    rw [if_pos hE, hC, hW]; rfl
  refine ⟨hE, hC, by unfold endL; rw [if_pos hE, hC]; exact hW, ?_, ?_, ?_⟩
  · rw [hX, endW_stk2 hi hl, if_pos rfl, hs]; simp
  · intro c'; rw [hX]; exact hw c'
  · rw [hX, endW_r hi hc, if_pos rfl]; rfl
/-- A wait that is taken back. -/
theorem und2 {X : Wb} (h : WI X) {t c : Nat} (h0 : wtE X t c = 0) : wakE (wtX X t c) t = 0 ∧ wakE (wakX (wtX X t c) t) t = 4 ∧ stk (wakX (wakX (wtX X t c) t) t) t = stk X t ∧ (∀ c', wai (wakX (wakX (wtX X t c) t) t) c' = wai X c') := by
  obtain ⟨h1, h2, h3, h4, h5⟩ := wtE_ok h h0
  have e1 : ((t : Int)).toNat = t := rfl
  have e2 : ((c : Int)).toNat = c := rfl
  rw [e1] at h3 h5
  rw [e2] at h4 h5
  have ht : t < 128 := by have := tk_lt h1; exact this
  have eX : wtX X t c = waiW X t c := by unfold wtX; rw [if_pos h0]; rfl
  rw [eX]
  have hi := waiW_ok h ht h3 h4 h5
  have hw := waiW_w h (c := c) ht t
  rw [if_pos rfl] at hw
  have hE : wakE (waiW X t c) t = 0 := by unfold wakE; rw [h1, e1, hw]; rfl
  have hX : wakX (waiW X t c) t = wakW (waiW X t c) t := by unfold wakX; rw [if_pos hE]; rfl
  have hi2 := wakW_ok hi ht
  have hw2 := wakW_w hi ht t
  rw [if_pos rfl] at hw2
  have hE2 : wakE (wakW (waiW X t c) t) t = 4 := by unfold wakE; rw [h1, e1, hw2]; rfl
  have hX2 : wakX (wakW (waiW X t c) t) t = wakW (waiW X t c) t := by unfold wakX; rw [hE2]; rfl
  rw [hX]
  refine ⟨hE, hE2, by rw [hX2]; rfl, fun c' => ?_⟩
  rw [hX2, wakW_wai hi ht, waiW_wai h ht h3]
  have hn : ∀ c'', t ∉ wai X c'' := fun c'' hm => by rw [(wai_mem.1 hm).1] at h3; cases h3
  by_cases e : c' = c
  · subst e
    rw [if_pos rfl, List.filter_append, filter_ne (hn _)]
    simp
  · rw [if_neg e, filter_ne (hn _)]
set_option maxRecDepth 100000 in
set_option maxHeartbeats 16000000 in
theorem dependUndone_any (v : Value) (L : List Ca) (n1 n2 : Int) (w : World) (hl : GS KCa w v L) (hn : L.length ≤ 140737488355328) : Calls Try.prog 7 #[v, .int .i64 n1, .int .i64 n2] w fun e w' => e = .returned (.bool true) ∧ Below w.heap.size w w' := by
  obtain ⟨p, c0, hv⟩ := hl.form
  subst hv
  have WK := hid (works_any w)
  have PL : Hid (∀ W, Below w.heap.size w W → Calls Try.prog 16 #[.slice p L.length c0] W fun e w' => ∃ b X, e = .returned (.pointer (some ⟨b, 0, none⟩)) ∧ PW W w' b X L.length) := fun W hb => played_any _ L W (hl.below hb) hn
  obtain ⟨t, ht1, ht2⟩ := am_nat n1 128 (by omega)
  obtain ⟨c, hc1, hc2⟩ := am_nat n2 256 (by omega)
  have ht : t < 128 := by omega
  have hc : c < 256 := by omega
  have AM1 : Hid (∀ W, Calls Try.prog 19 #[.int .i64 n1, .int .i64 128] W fun e w' => e = .returned (.int .i64 t) ∧ w' = W) := fun W => by have := among_any n1 128 (by omega) W; rw [ht1] at this; exact this
  have AM2 : Hid (∀ W, Calls Try.prog 19 #[.int .i64 n2, .int .i64 256] W fun e w' => e = .returned (.int .i64 c) ∧ w' = W) := fun W => by have := among_any n2 256 (by omega) W; rw [hc1] at this; exact this
  generalize L.length = n at *
  clear hl ht1 hc1 ht2 hc2
  go_enter Try.func7, Try.ntmps7
  go_upto_region 7 with (first | (go_at_call 9; refine WK.out.mono ?_; rintro e w1 ⟨rfl, hb1⟩; have B1 := hid hb1; clear hb1) | (go_at_call 16; refine (PL.out _ B1.out).mono ?_; rintro e w2 ⟨b, X, rfl, h2⟩; have P := hid h2; clear h2) | (go_at_call 19; refine (AM1.out _).mono ?_; clear AM1; rintro e w' ⟨rfl, hw⟩; rw [hw]; clear hw) | (go_at_call 19; refine (AM2.out _).mono ?_; clear AM2; rintro e w' ⟨rfl, hw⟩; rw [hw]; clear hw))
  have HI := hid P.out.wi
  have SL := stk_len HI.out t
  have WL := wai_len HI.out c
  have SK0 : Hid (∀ W, PW w1 W b X n → Calls Try.prog 20 #[.pointer (some ⟨b, 0, none⟩), .int .i64 t] W fun e w' => ∃ q cc, e = .returned (.tuple #[.slice q (stk X t).length cc, .int .i64 0]) ∧ OB w' b (.slice q (stk X t).length cc) (stk X t) ∧ PW w1 w' b X n ∧ Kp b W w') := fun W h => stack_k h ht
  have WA0 : Hid (∀ W, PW w1 W b X n → Calls Try.prog 23 #[.pointer (some ⟨b, 0, none⟩), .int .i64 c] W fun e w' => ∃ q cc, e = .returned (.tuple #[.slice q (wai X c).length cc, .int .i64 0]) ∧ OB w' b (.slice q (wai X c).length cc) (wai X c) ∧ PW w1 w' b X n ∧ Kp b W w') := fun W h => waiters_k h hc
  by_cases hbg : begE X t c = 0
  · obtain ⟨u1, u2, u3, u4, u5, u6⟩ := und1 HI.out hbg
    have BG : Hid (∀ W, PW w1 W b X n → Calls Try.prog 25 #[.pointer (some ⟨b, 0, none⟩), .int .i64 t, .int .i64 c] W fun e w' => e = .returned (.int .i64 0) ∧ PW w1 w' b (begX X t c) (n + 1) ∧ Kp b W w') := fun W h => by have := begin_k h (by omega) t c; rw [hbg] at this; exact this
    have EN : Hid (∀ W, PW w1 W b (begX X t c) (n + 1) → Calls Try.prog 26 #[.pointer (some ⟨b, 0, none⟩), .int .i64 t] W fun e w' => (∃ q cc, e = .returned (.tuple #[.int .i64 c, .slice q 0 cc, .int .i64 0])) ∧ PW w1 w' b (endX (begX X t c) t) (n + 1) ∧ Kp b W w') := fun W h => by have := end_k h t; rw [u1, u2, u3] at this; exact this.mono fun _ _ ⟨q, cc, h0, _, h2, h3⟩ => ⟨⟨q, cc, h0⟩, h2, h3⟩
    have SK1 : Hid (∀ W, PW w1 W b (endX (begX X t c) t) (n + 1) → Calls Try.prog 20 #[.pointer (some ⟨b, 0, none⟩), .int .i64 t] W fun e w' => ∃ q cc, e = .returned (.tuple #[.slice q (stk X t).length cc, .int .i64 0]) ∧ OB w' b (.slice q (stk X t).length cc) (stk X t) ∧ PW w1 w' b (endX (begX X t c) t) (n + 1) ∧ Kp b W w') := fun W h => by have := stack_k h ht; rw [u4] at this; exact this
    have RN1 : Hid (∀ W, PW w1 W b (endX (begX X t c) t) (n + 1) → Calls Try.prog 18 #[.pointer (some ⟨b, 0, none⟩), .int .i64 c] W fun e w' => (∃ z : Int, e = .returned (.tuple #[.int .i64 z, .bool false, .int .i64 0])) ∧ PW w1 w' b (endX (begX X t c) t) (n + 1) ∧ Kp b W w') := fun W h => by have := runner_k h hc; rw [u6] at this; exact this.mono fun _ _ ⟨h0, h2, h3⟩ => ⟨⟨_, h0⟩, h2, h3⟩
    have IN1 : Hid (∀ W v u, PW w1 W b (endX (begX X t c) t) (n + 1) → OB W b v (stk X t) → OB W b u (stk X t) → Calls Try.prog 15 #[v, u] W fun e w' => e = .returned (.bool true) ∧ PW w1 w' b (endX (begX X t c) t) (n + 1) ∧ Kp b W w') := fun W v u h hv hu => by have := ints_k h hv hu (by omega); rw [decide_eq_true rfl] at this; exact this
    have HI2 : Hid (WI (endX (begX X t c) t)) := endX_ok (begX_ok HI.out t c) t
    have HS2 := hid u4
    have HW2 := hid u5
    generalize endX (begX X t c) t = X2 at *
    generalize begX X t c = X1 at *
    clear u1 u2 u3 u4 u5 u6
    by_cases hwt : wtE X2 t c = 0
    · obtain ⟨y1, y2, y3, y4⟩ := und2 HI2.out hwt
      have WT : Hid (∀ W, PW w1 W b X2 (n + 1) → Calls Try.prog 22 #[.pointer (some ⟨b, 0, none⟩), .int .i64 t, .int .i64 c] W fun e w' => (∃ q k cc, e = .returned (.tuple #[.slice q k cc, .int .i64 0])) ∧ PW w1 w' b (wtX X2 t c) (n + 1 + 1) ∧ Kp b W w') := fun W h => by have := wait_k h (by omega) t c; rw [hwt] at this; exact this.mono fun _ _ ⟨q, cc, h0, _, h2, h3⟩ => ⟨⟨q, _, cc, h0⟩, h2, h3⟩
      have WK1 : Hid (∀ W, PW w1 W b (wtX X2 t c) (n + 1 + 1) → Calls Try.prog 27 #[.pointer (some ⟨b, 0, none⟩), .int .i64 t] W fun e w' => e = .returned (.int .i64 0) ∧ PW w1 w' b (wakX (wtX X2 t c) t) (n + 1 + 1) ∧ Kp b W w') := fun W h => by have := wake_k h t; rw [y1] at this; exact this
      have WK2 : Hid (∀ W, PW w1 W b (wakX (wtX X2 t c) t) (n + 1 + 1) → Calls Try.prog 27 #[.pointer (some ⟨b, 0, none⟩), .int .i64 t] W fun e w' => e = .returned (.int .i64 4) ∧ PW w1 w' b (wakX (wakX (wtX X2 t c) t) t) (n + 1 + 1) ∧ Kp b W w') := fun W h => by have := wake_k h t; rw [y2] at this; exact this
      have HS5 : Hid (stk (wakX (wakX (wtX X2 t c) t) t) t = stk X t) := y3.trans HS2.out
      have HW5 : Hid (wai (wakX (wakX (wtX X2 t c) t) t) c = wai X c) := (y4 c).trans (HW2.out c)
      generalize wakX (wakX (wtX X2 t c) t) t = X5 at *
      generalize wakX (wtX X2 t c) t = X4 at *
      generalize wtX X2 t c = X3 at *
      clear y1 y2 y3 y4 hwt
      have WA5 : Hid (∀ W, PW w1 W b X5 (n + 1 + 1) → Calls Try.prog 23 #[.pointer (some ⟨b, 0, none⟩), .int .i64 c] W fun e w' => ∃ q cc, e = .returned (.tuple #[.slice q (wai X c).length cc, .int .i64 0]) ∧ OB w' b (.slice q (wai X c).length cc) (wai X c) ∧ PW w1 w' b X5 (n + 1 + 1) ∧ Kp b W w') := fun W h => by have := waiters_k h hc; rw [HW5.out] at this; exact this
      have SK5 : Hid (∀ W, PW w1 W b X5 (n + 1 + 1) → Calls Try.prog 20 #[.pointer (some ⟨b, 0, none⟩), .int .i64 t] W fun e w' => ∃ q cc, e = .returned (.tuple #[.slice q (stk X t).length cc, .int .i64 0]) ∧ OB w' b (.slice q (stk X t).length cc) (stk X t) ∧ PW w1 w' b X5 (n + 1 + 1) ∧ Kp b W w') := fun W h => by have := stack_k h ht; rw [HS5.out] at this; exact this
      have IN5 : Hid (∀ W v u, PW w1 W b X5 (n + 1 + 1) → OB W b v (wai X c) → OB W b u (wai X c) → Calls Try.prog 15 #[v, u] W fun e w' => e = .returned (.bool true) ∧ PW w1 w' b X5 (n + 1 + 1) ∧ Kp b W w') := fun W v u h hv hu => by have := ints_k h hv hu (by omega); rw [decide_eq_true rfl] at this; exact this
      have IN6 : Hid (∀ W v u, PW w1 W b X5 (n + 1 + 1) → OB W b v (stk X t) → OB W b u (stk X t) → Calls Try.prog 15 #[v, u] W fun e w' => e = .returned (.bool true) ∧ PW w1 w' b X5 (n + 1 + 1) ∧ Kp b W w') := fun W v u h hv hu => by have := ints_k h hv hu (by omega); rw [decide_eq_true rfl] at this; exact this
      generalize stk X t = S0 at *
      generalize wai X c = S1 at *
      generalize S0.length = s0 at *
      generalize S1.length = s1 at *
      clear HS5 HW5 HS2 HW2 HI2 HI
      go_wp2_with (first | (go_at_call 20; refine (SK0.out _ P.out).mono ?_; clear SK0; rintro e w' ⟨q3, cc3, rfl, o3, p9, k9⟩; replace P := hid p9; have O3 := hid o3; clear p9 k9 o3) | (go_at_call 23; refine (WA0.out _ P.out).mono ?_; clear WA0; rintro e w' ⟨q4, cc4, rfl, o4, p9, k9⟩; replace P := hid p9; replace O3 := hid (k9 _ _ O3.out); have O4 := hid o4; clear p9 k9 o4) | (go_at_call 25; refine (BG.out _ P.out).mono ?_; clear BG; rintro e w' ⟨rfl, p9, k9⟩; replace P := hid p9; replace O3 := hid (k9 _ _ O3.out); replace O4 := hid (k9 _ _ O4.out); clear p9 k9) | (go_at_call 26; refine (EN.out _ P.out).mono ?_; clear EN; rintro e w' ⟨⟨q5, cc5, rfl⟩, p9, k9⟩; replace P := hid p9; replace O3 := hid (k9 _ _ O3.out); replace O4 := hid (k9 _ _ O4.out); clear p9 k9) | (go_at_call 20; refine (SK1.out _ P.out).mono ?_; clear SK1; rintro e w' ⟨q6, cc6, rfl, o6, p9, k9⟩; replace P := hid p9; replace O3 := hid (k9 _ _ O3.out); replace O4 := hid (k9 _ _ O4.out); have O6 := hid o6; clear p9 k9 o6) | (go_at_call 18; refine (RN1.out _ P.out).mono ?_; clear RN1; rintro e w' ⟨⟨z7, rfl⟩, p9, k9⟩; replace P := hid p9; replace O3 := hid (k9 _ _ O3.out); replace O4 := hid (k9 _ _ O4.out); replace O6 := hid (k9 _ _ O6.out); clear p9 k9) | (go_at_call 15; refine (IN1.out _ _ _ P.out O6.out O3.out).mono ?_; clear IN1; rintro e w' ⟨rfl, p9, k9⟩; replace P := hid p9; replace O3 := hid (k9 _ _ O3.out); replace O4 := hid (k9 _ _ O4.out); clear p9 k9) | (go_at_call 22; refine (WT.out _ P.out).mono ?_; clear WT; rintro e w' ⟨⟨q8, k8, cc8, rfl⟩, p9, k9⟩; replace P := hid p9; replace O3 := hid (k9 _ _ O3.out); replace O4 := hid (k9 _ _ O4.out); clear p9 k9) | (go_at_call 27; refine (WK1.out _ P.out).mono ?_; clear WK1; rintro e w' ⟨rfl, p9, k9⟩; replace P := hid p9; replace O3 := hid (k9 _ _ O3.out); replace O4 := hid (k9 _ _ O4.out); clear p9 k9) | (go_at_call 27; refine (WK2.out _ P.out).mono ?_; clear WK2; rintro e w' ⟨rfl, p9, k9⟩; replace P := hid p9; replace O3 := hid (k9 _ _ O3.out); replace O4 := hid (k9 _ _ O4.out); clear p9 k9) | (go_at_call 23; refine (WA5.out _ P.out).mono ?_; clear WA5; rintro e w' ⟨qa, cca, rfl, oa, p9, k9⟩; replace P := hid p9; replace O3 := hid (k9 _ _ O3.out); replace O4 := hid (k9 _ _ O4.out); have OA := hid oa; clear p9 k9 oa) | (go_at_call 20; refine (SK5.out _ P.out).mono ?_; clear SK5; rintro e w' ⟨qb, ccb, rfl, ob, p9, k9⟩; replace P := hid p9; replace O3 := hid (k9 _ _ O3.out); replace O4 := hid (k9 _ _ O4.out); replace OA := hid (k9 _ _ OA.out); have OBB := hid ob; clear p9 k9 ob) | (go_at_call 15; refine (IN5.out _ _ _ P.out OA.out O4.out).mono ?_; clear IN5; rintro e w' ⟨rfl, p9, k9⟩; replace P := hid p9; replace O3 := hid (k9 _ _ O3.out); replace OBB := hid (k9 _ _ OBB.out); clear p9 k9) | (go_at_call 15; refine (IN6.out _ _ _ P.out OBB.out O3.out).mono ?_; clear IN6; rintro e w' ⟨rfl, p9, k9⟩; replace P := hid p9; clear p9 k9))
      go_ret
      exact ⟨rfl, bl3 B1.out P.out.bl⟩
    · have WT : Hid (∀ W, PW w1 W b X2 (n + 1) → Calls Try.prog 22 #[.pointer (some ⟨b, 0, none⟩), .int .i64 t, .int .i64 c] W fun e w' => (∃ q k cc, e = .returned (.tuple #[.slice q k cc, .int .i64 (wtE X2 t c)])) ∧ PW w1 w' b X2 (n + 1 + 1) ∧ Kp b W w') := fun W h => by have := wait_k h (by omega) t c; rw [show wtX X2 t c = X2 by unfold wtX; rw [if_neg hwt]] at this; exact this.mono fun _ _ ⟨q, cc, h0, _, h2, h3⟩ => ⟨⟨q, _, cc, h0⟩, h2, h3⟩
      have hwb : (wtE X2 t c == 0) = false := by simpa using hwt
      have hwn : ¬ wtE X2 t c = 0 := hwt
      generalize wtE X2 t c = we at *
      have HS5 : Hid (stk X2 t = stk X t) := HS2
      have HW5 : Hid (wai X2 c = wai X c) := HW2.out c
      have WA5 : Hid (∀ W, PW w1 W b X2 (n + 1 + 1) → Calls Try.prog 23 #[.pointer (some ⟨b, 0, none⟩), .int .i64 c] W fun e w' => ∃ q cc, e = .returned (.tuple #[.slice q (wai X c).length cc, .int .i64 0]) ∧ OB w' b (.slice q (wai X c).length cc) (wai X c) ∧ PW w1 w' b X2 (n + 1 + 1) ∧ Kp b W w') := fun W h => by have := waiters_k h hc; rw [HW5.out] at this; exact this
      have SK5 : Hid (∀ W, PW w1 W b X2 (n + 1 + 1) → Calls Try.prog 20 #[.pointer (some ⟨b, 0, none⟩), .int .i64 t] W fun e w' => ∃ q cc, e = .returned (.tuple #[.slice q (stk X t).length cc, .int .i64 0]) ∧ OB w' b (.slice q (stk X t).length cc) (stk X t) ∧ PW w1 w' b X2 (n + 1 + 1) ∧ Kp b W w') := fun W h => by have := stack_k h ht; rw [HS5.out] at this; exact this
      have IN5 : Hid (∀ W v u, PW w1 W b X2 (n + 1 + 1) → OB W b v (wai X c) → OB W b u (wai X c) → Calls Try.prog 15 #[v, u] W fun e w' => e = .returned (.bool true) ∧ PW w1 w' b X2 (n + 1 + 1) ∧ Kp b W w') := fun W v u h hv hu => by have := ints_k h hv hu (by omega); rw [decide_eq_true rfl] at this; exact this
      have IN6 : Hid (∀ W v u, PW w1 W b X2 (n + 1 + 1) → OB W b v (stk X t) → OB W b u (stk X t) → Calls Try.prog 15 #[v, u] W fun e w' => e = .returned (.bool true) ∧ PW w1 w' b X2 (n + 1 + 1) ∧ Kp b W w') := fun W v u h hv hu => by have := ints_k h hv hu (by omega); rw [decide_eq_true rfl] at this; exact this
      generalize stk X t = S0 at *
      generalize wai X c = S1 at *
      generalize S0.length = s0 at *
      generalize S1.length = s1 at *
      clear HS5 HW5 HS2 HW2 HI2 HI
      go_wp2_with (first | (go_at_call 20; refine (SK0.out _ P.out).mono ?_; clear SK0; rintro e w' ⟨q3, cc3, rfl, o3, p9, k9⟩; replace P := hid p9; have O3 := hid o3; clear p9 k9 o3) | (go_at_call 23; refine (WA0.out _ P.out).mono ?_; clear WA0; rintro e w' ⟨q4, cc4, rfl, o4, p9, k9⟩; replace P := hid p9; replace O3 := hid (k9 _ _ O3.out); have O4 := hid o4; clear p9 k9 o4) | (go_at_call 25; refine (BG.out _ P.out).mono ?_; clear BG; rintro e w' ⟨rfl, p9, k9⟩; replace P := hid p9; replace O3 := hid (k9 _ _ O3.out); replace O4 := hid (k9 _ _ O4.out); clear p9 k9) | (go_at_call 26; refine (EN.out _ P.out).mono ?_; clear EN; rintro e w' ⟨⟨q5, cc5, rfl⟩, p9, k9⟩; replace P := hid p9; replace O3 := hid (k9 _ _ O3.out); replace O4 := hid (k9 _ _ O4.out); clear p9 k9) | (go_at_call 20; refine (SK1.out _ P.out).mono ?_; clear SK1; rintro e w' ⟨q6, cc6, rfl, o6, p9, k9⟩; replace P := hid p9; replace O3 := hid (k9 _ _ O3.out); replace O4 := hid (k9 _ _ O4.out); have O6 := hid o6; clear p9 k9 o6) | (go_at_call 18; refine (RN1.out _ P.out).mono ?_; clear RN1; rintro e w' ⟨⟨z7, rfl⟩, p9, k9⟩; replace P := hid p9; replace O3 := hid (k9 _ _ O3.out); replace O4 := hid (k9 _ _ O4.out); replace O6 := hid (k9 _ _ O6.out); clear p9 k9) | (go_at_call 15; refine (IN1.out _ _ _ P.out O6.out O3.out).mono ?_; clear IN1; rintro e w' ⟨rfl, p9, k9⟩; replace P := hid p9; replace O3 := hid (k9 _ _ O3.out); replace O4 := hid (k9 _ _ O4.out); clear p9 k9) | (go_at_call 22; refine (WT.out _ P.out).mono ?_; clear WT; rintro e w' ⟨⟨q8, k8, cc8, rfl⟩, p9, k9⟩; replace P := hid p9; replace O3 := hid (k9 _ _ O3.out); replace O4 := hid (k9 _ _ O4.out); clear p9 k9) | (go_at_call 23; refine (WA5.out _ P.out).mono ?_; clear WA5; rintro e w' ⟨qa, cca, rfl, oa, p9, k9⟩; replace P := hid p9; replace O3 := hid (k9 _ _ O3.out); replace O4 := hid (k9 _ _ O4.out); have OA := hid oa; clear p9 k9 oa) | (go_at_call 20; refine (SK5.out _ P.out).mono ?_; clear SK5; rintro e w' ⟨qb, ccb, rfl, ob, p9, k9⟩; replace P := hid p9; replace O3 := hid (k9 _ _ O3.out); replace O4 := hid (k9 _ _ O4.out); replace OA := hid (k9 _ _ OA.out); have OBB := hid ob; clear p9 k9 ob) | (go_at_call 15; refine (IN5.out _ _ _ P.out OA.out O4.out).mono ?_; clear IN5; rintro e w' ⟨rfl, p9, k9⟩; replace P := hid p9; replace O3 := hid (k9 _ _ O3.out); replace OBB := hid (k9 _ _ OBB.out); clear p9 k9) | (go_at_call 15; refine (IN6.out _ _ _ P.out OBB.out O3.out).mono ?_; clear IN6; rintro e w' ⟨rfl, p9, k9⟩; replace P := hid p9; clear p9 k9))
      go_ret
      exact ⟨rfl, bl3 B1.out P.out.bl⟩
  · have BG : Hid (∀ W, PW w1 W b X n → Calls Try.prog 25 #[.pointer (some ⟨b, 0, none⟩), .int .i64 t, .int .i64 c] W fun e w' => e = .returned (.int .i64 (begE X t c)) ∧ PW w1 w' b X (n + 1) ∧ Kp b W w') := fun W h => by have := begin_k h (by omega) t c; rw [show begX X t c = X by unfold begX; rw [if_neg hbg]] at this; exact this
    have hbb : (begE X t c == 0) = false := by simpa using hbg
    have hbn : ¬ begE X t c = 0 := hbg
    generalize begE X t c = be at *
    have HI2 := hid HI.out
    have HS2 : Hid (stk X t = stk X t) := rfl
    have HW2 : Hid (∀ c', wai X c' = wai X c') := fun _ => rfl
    obtain ⟨X2, hX2⟩ : ∃ X2, X2 = X := ⟨_, rfl⟩
    replace HS2 : Hid (stk X2 t = stk X t) := by rw [hX2]; exact HS2
    replace HW2 : Hid (∀ c', wai X2 c' = wai X c') := by rw [hX2]; exact HW2
    replace HI2 : Hid (WI X2) := by rw [hX2]; exact HI2
    replace BG : Hid (∀ W, PW w1 W b X n → Calls Try.prog 25 #[.pointer (some ⟨b, 0, none⟩), .int .i64 t, .int .i64 c] W fun e w' => e = .returned (.int .i64 be) ∧ PW w1 w' b X2 (n + 1) ∧ Kp b W w') := by rw [hX2]; exact BG
    clear hX2
    by_cases hwt : wtE X2 t c = 0
    · obtain ⟨y1, y2, y3, y4⟩ := und2 HI2.out hwt
      have WT : Hid (∀ W, PW w1 W b X2 (n + 1) → Calls Try.prog 22 #[.pointer (some ⟨b, 0, none⟩), .int .i64 t, .int .i64 c] W fun e w' => (∃ q k cc, e = .returned (.tuple #[.slice q k cc, .int .i64 0])) ∧ PW w1 w' b (wtX X2 t c) (n + 1 + 1) ∧ Kp b W w') := fun W h => by have := wait_k h (by omega) t c; rw [hwt] at this; exact this.mono fun _ _ ⟨q, cc, h0, _, h2, h3⟩ => ⟨⟨q, _, cc, h0⟩, h2, h3⟩
      have WK1 : Hid (∀ W, PW w1 W b (wtX X2 t c) (n + 1 + 1) → Calls Try.prog 27 #[.pointer (some ⟨b, 0, none⟩), .int .i64 t] W fun e w' => e = .returned (.int .i64 0) ∧ PW w1 w' b (wakX (wtX X2 t c) t) (n + 1 + 1) ∧ Kp b W w') := fun W h => by have := wake_k h t; rw [y1] at this; exact this
      have WK2 : Hid (∀ W, PW w1 W b (wakX (wtX X2 t c) t) (n + 1 + 1) → Calls Try.prog 27 #[.pointer (some ⟨b, 0, none⟩), .int .i64 t] W fun e w' => e = .returned (.int .i64 4) ∧ PW w1 w' b (wakX (wakX (wtX X2 t c) t) t) (n + 1 + 1) ∧ Kp b W w') := fun W h => by have := wake_k h t; rw [y2] at this; exact this
      have HS5 : Hid (stk (wakX (wakX (wtX X2 t c) t) t) t = stk X t) := y3.trans HS2.out
      have HW5 : Hid (wai (wakX (wakX (wtX X2 t c) t) t) c = wai X c) := (y4 c).trans (HW2.out c)
      generalize wakX (wakX (wtX X2 t c) t) t = X5 at *
      generalize wakX (wtX X2 t c) t = X4 at *
      generalize wtX X2 t c = X3 at *
      clear y1 y2 y3 y4 hwt
      have WA5 : Hid (∀ W, PW w1 W b X5 (n + 1 + 1) → Calls Try.prog 23 #[.pointer (some ⟨b, 0, none⟩), .int .i64 c] W fun e w' => ∃ q cc, e = .returned (.tuple #[.slice q (wai X c).length cc, .int .i64 0]) ∧ OB w' b (.slice q (wai X c).length cc) (wai X c) ∧ PW w1 w' b X5 (n + 1 + 1) ∧ Kp b W w') := fun W h => by have := waiters_k h hc; rw [HW5.out] at this; exact this
      have SK5 : Hid (∀ W, PW w1 W b X5 (n + 1 + 1) → Calls Try.prog 20 #[.pointer (some ⟨b, 0, none⟩), .int .i64 t] W fun e w' => ∃ q cc, e = .returned (.tuple #[.slice q (stk X t).length cc, .int .i64 0]) ∧ OB w' b (.slice q (stk X t).length cc) (stk X t) ∧ PW w1 w' b X5 (n + 1 + 1) ∧ Kp b W w') := fun W h => by have := stack_k h ht; rw [HS5.out] at this; exact this
      have IN5 : Hid (∀ W v u, PW w1 W b X5 (n + 1 + 1) → OB W b v (wai X c) → OB W b u (wai X c) → Calls Try.prog 15 #[v, u] W fun e w' => e = .returned (.bool true) ∧ PW w1 w' b X5 (n + 1 + 1) ∧ Kp b W w') := fun W v u h hv hu => by have := ints_k h hv hu (by omega); rw [decide_eq_true rfl] at this; exact this
      have IN6 : Hid (∀ W v u, PW w1 W b X5 (n + 1 + 1) → OB W b v (stk X t) → OB W b u (stk X t) → Calls Try.prog 15 #[v, u] W fun e w' => e = .returned (.bool true) ∧ PW w1 w' b X5 (n + 1 + 1) ∧ Kp b W w') := fun W v u h hv hu => by have := ints_k h hv hu (by omega); rw [decide_eq_true rfl] at this; exact this
      generalize stk X t = S0 at *
      generalize wai X c = S1 at *
      generalize S0.length = s0 at *
      generalize S1.length = s1 at *
      clear HS5 HW5 HS2 HW2 HI2 HI
      go_wp2_with (first | (go_at_call 20; refine (SK0.out _ P.out).mono ?_; clear SK0; rintro e w' ⟨q3, cc3, rfl, o3, p9, k9⟩; replace P := hid p9; have O3 := hid o3; clear p9 k9 o3) | (go_at_call 23; refine (WA0.out _ P.out).mono ?_; clear WA0; rintro e w' ⟨q4, cc4, rfl, o4, p9, k9⟩; replace P := hid p9; replace O3 := hid (k9 _ _ O3.out); have O4 := hid o4; clear p9 k9 o4) | (go_at_call 25; refine (BG.out _ P.out).mono ?_; clear BG; rintro e w' ⟨rfl, p9, k9⟩; replace P := hid p9; replace O3 := hid (k9 _ _ O3.out); replace O4 := hid (k9 _ _ O4.out); clear p9 k9) | (go_at_call 22; refine (WT.out _ P.out).mono ?_; clear WT; rintro e w' ⟨⟨q8, k8, cc8, rfl⟩, p9, k9⟩; replace P := hid p9; replace O3 := hid (k9 _ _ O3.out); replace O4 := hid (k9 _ _ O4.out); clear p9 k9) | (go_at_call 27; refine (WK1.out _ P.out).mono ?_; clear WK1; rintro e w' ⟨rfl, p9, k9⟩; replace P := hid p9; replace O3 := hid (k9 _ _ O3.out); replace O4 := hid (k9 _ _ O4.out); clear p9 k9) | (go_at_call 27; refine (WK2.out _ P.out).mono ?_; clear WK2; rintro e w' ⟨rfl, p9, k9⟩; replace P := hid p9; replace O3 := hid (k9 _ _ O3.out); replace O4 := hid (k9 _ _ O4.out); clear p9 k9) | (go_at_call 23; refine (WA5.out _ P.out).mono ?_; clear WA5; rintro e w' ⟨qa, cca, rfl, oa, p9, k9⟩; replace P := hid p9; replace O3 := hid (k9 _ _ O3.out); replace O4 := hid (k9 _ _ O4.out); have OA := hid oa; clear p9 k9 oa) | (go_at_call 20; refine (SK5.out _ P.out).mono ?_; clear SK5; rintro e w' ⟨qb, ccb, rfl, ob, p9, k9⟩; replace P := hid p9; replace O3 := hid (k9 _ _ O3.out); replace O4 := hid (k9 _ _ O4.out); replace OA := hid (k9 _ _ OA.out); have OBB := hid ob; clear p9 k9 ob) | (go_at_call 15; refine (IN5.out _ _ _ P.out OA.out O4.out).mono ?_; clear IN5; rintro e w' ⟨rfl, p9, k9⟩; replace P := hid p9; replace O3 := hid (k9 _ _ O3.out); replace OBB := hid (k9 _ _ OBB.out); clear p9 k9) | (go_at_call 15; refine (IN6.out _ _ _ P.out OBB.out O3.out).mono ?_; clear IN6; rintro e w' ⟨rfl, p9, k9⟩; replace P := hid p9; clear p9 k9))
      go_ret
      exact ⟨rfl, bl3 B1.out P.out.bl⟩
    · have WT : Hid (∀ W, PW w1 W b X2 (n + 1) → Calls Try.prog 22 #[.pointer (some ⟨b, 0, none⟩), .int .i64 t, .int .i64 c] W fun e w' => (∃ q k cc, e = .returned (.tuple #[.slice q k cc, .int .i64 (wtE X2 t c)])) ∧ PW w1 w' b X2 (n + 1 + 1) ∧ Kp b W w') := fun W h => by have := wait_k h (by omega) t c; rw [show wtX X2 t c = X2 by unfold wtX; rw [if_neg hwt]] at this; exact this.mono fun _ _ ⟨q, cc, h0, _, h2, h3⟩ => ⟨⟨q, _, cc, h0⟩, h2, h3⟩
      have hwb : (wtE X2 t c == 0) = false := by simpa using hwt
      have hwn : ¬ wtE X2 t c = 0 := hwt
      generalize wtE X2 t c = we at *
      have HS5 : Hid (stk X2 t = stk X t) := HS2
      have HW5 : Hid (wai X2 c = wai X c) := HW2.out c
      have WA5 : Hid (∀ W, PW w1 W b X2 (n + 1 + 1) → Calls Try.prog 23 #[.pointer (some ⟨b, 0, none⟩), .int .i64 c] W fun e w' => ∃ q cc, e = .returned (.tuple #[.slice q (wai X c).length cc, .int .i64 0]) ∧ OB w' b (.slice q (wai X c).length cc) (wai X c) ∧ PW w1 w' b X2 (n + 1 + 1) ∧ Kp b W w') := fun W h => by have := waiters_k h hc; rw [HW5.out] at this; exact this
      have SK5 : Hid (∀ W, PW w1 W b X2 (n + 1 + 1) → Calls Try.prog 20 #[.pointer (some ⟨b, 0, none⟩), .int .i64 t] W fun e w' => ∃ q cc, e = .returned (.tuple #[.slice q (stk X t).length cc, .int .i64 0]) ∧ OB w' b (.slice q (stk X t).length cc) (stk X t) ∧ PW w1 w' b X2 (n + 1 + 1) ∧ Kp b W w') := fun W h => by have := stack_k h ht; rw [HS5.out] at this; exact this
      have IN5 : Hid (∀ W v u, PW w1 W b X2 (n + 1 + 1) → OB W b v (wai X c) → OB W b u (wai X c) → Calls Try.prog 15 #[v, u] W fun e w' => e = .returned (.bool true) ∧ PW w1 w' b X2 (n + 1 + 1) ∧ Kp b W w') := fun W v u h hv hu => by have := ints_k h hv hu (by omega); rw [decide_eq_true rfl] at this; exact this
      have IN6 : Hid (∀ W v u, PW w1 W b X2 (n + 1 + 1) → OB W b v (stk X t) → OB W b u (stk X t) → Calls Try.prog 15 #[v, u] W fun e w' => e = .returned (.bool true) ∧ PW w1 w' b X2 (n + 1 + 1) ∧ Kp b W w') := fun W v u h hv hu => by have := ints_k h hv hu (by omega); rw [decide_eq_true rfl] at this; exact this
      generalize stk X t = S0 at *
      generalize wai X c = S1 at *
      generalize S0.length = s0 at *
      generalize S1.length = s1 at *
      clear HS5 HW5 HS2 HW2 HI2 HI
      go_wp2_with (first | (go_at_call 20; refine (SK0.out _ P.out).mono ?_; clear SK0; rintro e w' ⟨q3, cc3, rfl, o3, p9, k9⟩; replace P := hid p9; have O3 := hid o3; clear p9 k9 o3) | (go_at_call 23; refine (WA0.out _ P.out).mono ?_; clear WA0; rintro e w' ⟨q4, cc4, rfl, o4, p9, k9⟩; replace P := hid p9; replace O3 := hid (k9 _ _ O3.out); have O4 := hid o4; clear p9 k9 o4) | (go_at_call 25; refine (BG.out _ P.out).mono ?_; clear BG; rintro e w' ⟨rfl, p9, k9⟩; replace P := hid p9; replace O3 := hid (k9 _ _ O3.out); replace O4 := hid (k9 _ _ O4.out); clear p9 k9) | (go_at_call 22; refine (WT.out _ P.out).mono ?_; clear WT; rintro e w' ⟨⟨q8, k8, cc8, rfl⟩, p9, k9⟩; replace P := hid p9; replace O3 := hid (k9 _ _ O3.out); replace O4 := hid (k9 _ _ O4.out); clear p9 k9) | (go_at_call 23; refine (WA5.out _ P.out).mono ?_; clear WA5; rintro e w' ⟨qa, cca, rfl, oa, p9, k9⟩; replace P := hid p9; replace O3 := hid (k9 _ _ O3.out); replace O4 := hid (k9 _ _ O4.out); have OA := hid oa; clear p9 k9 oa) | (go_at_call 20; refine (SK5.out _ P.out).mono ?_; clear SK5; rintro e w' ⟨qb, ccb, rfl, ob, p9, k9⟩; replace P := hid p9; replace O3 := hid (k9 _ _ O3.out); replace O4 := hid (k9 _ _ O4.out); replace OA := hid (k9 _ _ OA.out); have OBB := hid ob; clear p9 k9 ob) | (go_at_call 15; refine (IN5.out _ _ _ P.out OA.out O4.out).mono ?_; clear IN5; rintro e w' ⟨rfl, p9, k9⟩; replace P := hid p9; replace O3 := hid (k9 _ _ O3.out); replace OBB := hid (k9 _ _ OBB.out); clear p9 k9) | (go_at_call 15; refine (IN6.out _ _ _ P.out OBB.out O3.out).mono ?_; clear IN6; rintro e w' ⟨rfl, p9, k9⟩; replace P := hid p9; clear p9 k9))
      go_ret
      exact ⟨rfl, bl3 B1.out P.out.bl⟩
end Go.Proofs.Ytjgmnbiigfpbcaa
