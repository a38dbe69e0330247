/- The law ValueSums. -/
import Derived.Test.YtpiikidpgjmmbaaDoorVi1
namespace Go.Proofs.YtpiikidpgjmmbaaDoor
open Go.RowKit

theorem hid {p : Prop} (h : p) : Hid p := h
theorem do2_rt {k : Int} {s t x : Vt} (hs : RT s) (ht : RT t) (hk : k ≠ 5) (h : do2T k s t = some x) : RT x := by
  refine doT_rt (kind := k) (ts := [s, t]) (fun u hu => by simp at hu; rcases hu with rfl | rfl; exact hs; exact ht) ?_
  unfold doT
  rw [if_neg hk]; exact h
theorem out_len {k : Int} {s t : Vt} (hs : RT s) (ht : RT t) (hk : k ≠ 5) : (outL (do2T k s t)).length ≤ 2000 := by
  cases h : do2T k s t with
  | none => simp [outL]
  | some x => have := (do2_rt hs ht hk h).sz; show szV x ≤ 2000; omega
theorem tmod_bd (n : Int) : -9007199254740992 ≤ n.tmod 9007199254740992 ∧ n.tmod 9007199254740992 ≤ 9007199254740992 := ⟨Int.le_of_lt (Int.lt_tmod_of_pos _ (by decide)), Int.le_of_lt (Int.tmod_lt_of_pos _ (by decide))⟩
set_option maxHeartbeats 64000000 in
set_option maxRecDepth 100000 in
theorem valueSums_any (n0 m0 : Int) (v1 v2 v3 : Value) (l1 l2 l3 : List Atm) (w : World) (h1 : AS w v1 l1) (h2 : AS w v2 l2) (h3 : AS w v3 l3) (t1 : AT l1) (t2 : AT l2) (t3 : AT l3) (n1 : l1.length * 40 ≤ 140737488355328) (n2 : l2.length * 40 ≤ 140737488355328) (n3 : l3.length * 40 ≤ 140737488355328) (hp : PowBelow w.heap.size w) :
    Calls Tryd.prog 6 #[.int .i64 n0, .int .i64 m0, v1, v2, v3] w fun e w' => e = .returned (.bool true) ∧ Below w.heap.size w w' := by
  have WK : Hid _ := works_any w hp
  have C1 : Hid (∀ w1, Below w.heap.size w w1 → Calls Tryd.prog 21 #[v1] w1 fun e w' => e = .returned (.int .i64 (chkV l1)) ∧ Below w1.heap.size w1 w') := fun w1 b => vcheck_any v1 l1 w1 (h1.below b) t1 (by omega)
  have C2 : Hid (∀ w1, Below w.heap.size w w1 → Calls Tryd.prog 21 #[v2] w1 fun e w' => e = .returned (.int .i64 (chkV l2)) ∧ Below w1.heap.size w1 w') := fun w1 b => vcheck_any v2 l2 w1 (h2.below b) t2 (by omega)
  have C3 : Hid (∀ w1, Below w.heap.size w w1 → Calls Tryd.prog 21 #[v3] w1 fun e w' => e = .returned (.int .i64 (chkV l3)) ∧ Below w1.heap.size w1 w') := fun w1 b => vcheck_any v3 l3 w1 (h3.below b) t3 (by omega)
  have WH : Hid (∀ n w1, Calls Tryd.prog 24 #[.int .i64 n] w1 fun e w' => ∃ p c, e = .returned (.slice p 1 c) ∧ AS w' (.slice p 1 c) (flV (tN n)) ∧ Below w1.heap.size w1 w') := lwhole2_any
  have DO : Hid (∀ k w1 v1 v2 s t, RT s → RT t → 6 ≤ k → k ≤ 13 → k ≠ 11 → AS w1 v1 (flV s) → AS w1 v2 (flV t) → Calls Tryd.prog 23 #[.int .i64 k, v1, v2] w1 fun e w' => ∃ p m c, e = .returned (.tuple #[.slice p m c, .bool (do2T k s t).isSome]) ∧ AS w' (.slice p m c) (outL (do2T k s t)) ∧ Below w1.heap.size w1 w') := fun k w1 v1 v2 s t hs ht a b c h1 h2 => ldo_any k v1 v2 s t w1 h1 h2 hs ht a b c
  have SZ : Hid (∀ w1 v t n, RT t → do1T t = some (tN n) → AS w1 v (flV t) → Calls Tryd.prog 25 #[v] w1 fun e w' => e = .returned (.tuple #[.int .i64 n, .bool true]) ∧ Below w1.heap.size w1 w') := fun w1 v t n hr hd h => lsize_any v t n w1 h hr hd
  have SV : Hid (∀ w1 v1 v2 l, l.length ≤ 2000 → AS w1 v1 l → AS w1 v2 l → Calls Tryd.prog 10 #[v1, v2] w1 fun e w' => e = .returned (.bool true) ∧ Below w1.heap.size w1 w') := fun w1 v1 v2 l hl h1 h2 => sameV_same w1 v1 v2 l h1 h2 (by omega)
  have BT : Hid (∀ w1 w2, Below w.heap.size w w1 → Below w1.heap.size w1 w2 → Below w.heap.size w w2) := fun w1 w2 b1 b2 => b1.trans (b2.mono b1.size)
  have H1 : Hid (∀ w1, Below w.heap.size w w1 → AS w1 v1 l1) := fun w1 b => h1.below b
  have H2 : Hid (∀ w1, Below w.heap.size w w1 → AS w1 v2 l2) := fun w1 b => h2.below b
  have H3 : Hid (∀ w1, Below w.heap.size w w1 → AS w1 v3 l3) := fun w1 b => h3.below b
  obtain ⟨q1, c1, rfl⟩ := h1.form
  obtain ⟨q2, c2, rfl⟩ := h2.form
  obtain ⟨q3, c3, rfl⟩ := h3.form
  have R1 : Hid (chkV l1 = 0 → ∃ t, l1 = flV t ∧ RT t) := RT.of
  have R2 : Hid (chkV l2 = 0 → ∃ t, l2 = flV t ∧ RT t) := RT.of
  have R3 : Hid (chkV l3 = 0 → ∃ t, l3 = flV t ∧ RT t) := RT.of
  generalize chkV l1 = r1 at *
  generalize chkV l2 = r2 at *
  generalize chkV l3 = r3 at *
  generalize l1.length = m1 at *
  generalize l2.length = m2 at *
  generalize l3.length = m3 at *
  clear h1 h2 h3 t1 t2 t3 n1 n2 n3 hp
  go_enter Tryd.func6, Tryd.ntmps6
  go_wp2_with fail
  refine Calls.mono WK.out ?_
  rintro e w1 ⟨rfl, hb1⟩
  have B1 : Hid (Below w.heap.size w w1) := hb1
  clear hb1 WK
  go_wp2_with fail
  have hnr := tmod_bd n0
  have hmr := tmod_bd m0
  generalize n0.tmod 9007199254740992 = n at *
  generalize m0.tmod 9007199254740992 = m at *
  have RN : Hid (RT (tN n)) := tN_rt hnr
  have RM : Hid (RT (tN m)) := tN_rt hmr
  have NS : Hid (numT n = some (tN n)) := numT_tN hnr
  clear hnr hmr
  go_loopw [11] (fun v11 wr => ∃ (kk : Int) (wk : World), v11 = .int .i64 kk ∧ wk = wr ∧ (kk = 6 ∨ kk = 8 ∨ kk = 10) ∧ Hid (Below w.heap.size w wk)) (fun v11 _ => (10 - intOf v11).toNat)
  case atStart => exact ⟨6, _, rfl, rfl, Or.inl rfl, B1⟩
  case round =>
    obtain ⟨kk, wr, rfl, rfl, hkk, HB⟩ := hrel
    clear B1
    rcases hkk with rfl | rfl | rfl
    · clear R1 R2 R3 C1 C2 C3 H1 H2 H3 SZ NS
      have D1 : Hid (∀ w1 v1 v2, AS w1 v1 (flV (tN n)) → AS w1 v2 (flV (tN m)) → _) := fun w1 v1 v2 a b => DO.out 6 w1 v1 v2 _ _ RN.out RM.out (by decide) (by decide) (by decide) a b
      have D2 : Hid (∀ w1 v1 v2, AS w1 v1 (flV (tN m)) → AS w1 v2 (flV (tN n)) → _) := fun w1 v1 v2 a b => DO.out 6 w1 v1 v2 _ _ RM.out RN.out (by decide) (by decide) (by decide) a b
      rw [← add_turn n m] at D2
      have LR : Hid ((outL (do2T 6 (tN n) (tN m))).length ≤ 2000) := out_len RN.out RM.out (by decide)
      generalize do2T 6 (tN n) (tN m) = r at *
      generalize hbb : r.isSome = b at *
      clear hbb DO RN RM
      have zb : (b != b) = false := by simp
      go_wp2_with fail
      refine Calls.mono (WH.out (n) wr) ?_
      rintro e w2 ⟨p2, c2, rfl, ha, hb⟩
      have AN' : Hid (AS w2 (.slice p2 1 c2) (flV (tN (n)))) := ha
      have B2 : Hid (Below w.heap.size w w2) := BT.out _ _ HB.out hb
      clear ha
      clear hb
      have AN := hid AN'.out
      clear AN'
      go_wp2_with fail
      refine Calls.mono (WH.out (m) w2) ?_
      rintro e w3 ⟨p3, c3, rfl, ha, hb⟩
      have AM' : Hid (AS w3 (.slice p3 1 c3) (flV (tN (m)))) := ha
      have B3 : Hid (Below w.heap.size w w3) := BT.out _ _ B2.out hb
      replace AN := hid (GS.below AN.out hb)
      clear ha
      clear hb B2
      have AM := hid AM'.out
      clear AM'
      go_wp2_with fail
      refine Calls.mono (D1.out w3 _ _ AN.out AM.out) ?_
      rintro e w4 ⟨p4, m4, c4, rfl, ha, hb⟩
      have AX' := hid ha
      have B4 : Hid (Below w.heap.size w w4) := BT.out _ _ B3.out hb
      replace AN := hid (GS.below AN.out hb)
      replace AM := hid (GS.below AM.out hb)
      clear ha
      clear hb B3
      have AX := hid AX'.out
      clear AX'
      go_wp2_with fail
      clear AN AM
      refine Calls.mono (WH.out (m) w4) ?_
      rintro e w5 ⟨p5, c5, rfl, ha, hb⟩
      have AM' : Hid (AS w5 (.slice p5 1 c5) (flV (tN (m)))) := ha
      have B5 : Hid (Below w.heap.size w w5) := BT.out _ _ B4.out hb
      replace AX := hid (GS.below AX.out hb)
      clear ha
      clear hb B4
      have AM := hid AM'.out
      clear AM'
      go_wp2_with fail
      refine Calls.mono (WH.out (n) w5) ?_
      rintro e w6 ⟨p6, c6, rfl, ha, hb⟩
      have AN' : Hid (AS w6 (.slice p6 1 c6) (flV (tN (n)))) := ha
      have B6 : Hid (Below w.heap.size w w6) := BT.out _ _ B5.out hb
      replace AX := hid (GS.below AX.out hb)
      replace AM := hid (GS.below AM.out hb)
      clear ha
      clear hb B5
      have AN := hid AN'.out
      clear AN'
      go_wp2_with fail
      refine Calls.mono (D2.out w6 _ _ AM.out AN.out) ?_
      rintro e w7 ⟨p7, m7, c7, rfl, ha, hb⟩
      have AY' := hid ha
      have B7 : Hid (Below w.heap.size w w7) := BT.out _ _ B6.out hb
      replace AX := hid (GS.below AX.out hb)
      replace AM := hid (GS.below AM.out hb)
      replace AN := hid (GS.below AN.out hb)
      clear ha
      clear hb B6
      have AY := hid AY'.out
      clear AY'
      go_wp2_with fail
      clear AN AM
      refine Calls.mono (SV.out w7 _ _ (outL r) LR.out AX.out AY.out) ?_
      rintro e w8 ⟨rfl, hb⟩
      have B8 : Hid (Below w.heap.size w w8) := BT.out _ _ B7.out hb
      replace AX := hid (GS.below AX.out hb)
      replace AY := hid (GS.below AY.out hb)
      clear hb B7
      go_wp2_with fail
      go_roundw
      case rel => exact ⟨8, _, rfl, rfl, by omega, B8⟩
      case measure => simp [intOf]
    · clear R1 R2 R3 C1 C2 C3 H1 H2 H3 SZ NS
      have D1 : Hid (∀ w1 v1 v2, AS w1 v1 (flV (tN n)) → AS w1 v2 (flV (tN m)) → _) := fun w1 v1 v2 a b => DO.out 8 w1 v1 v2 _ _ RN.out RM.out (by decide) (by decide) (by decide) a b
      have D2 : Hid (∀ w1 v1 v2, AS w1 v1 (flV (tN m)) → AS w1 v2 (flV (tN n)) → _) := fun w1 v1 v2 a b => DO.out 8 w1 v1 v2 _ _ RM.out RN.out (by decide) (by decide) (by decide) a b
      rw [← mul_turn n m] at D2
      have LR : Hid ((outL (do2T 8 (tN n) (tN m))).length ≤ 2000) := out_len RN.out RM.out (by decide)
      generalize do2T 8 (tN n) (tN m) = r at *
      generalize hbb : r.isSome = b at *
      clear hbb DO RN RM
      have zb : (b != b) = false := by simp
      go_wp2_with fail
      refine Calls.mono (WH.out (n) wr) ?_
      rintro e w2 ⟨p2, c2, rfl, ha, hb⟩
      have AN' : Hid (AS w2 (.slice p2 1 c2) (flV (tN (n)))) := ha
      have B2 : Hid (Below w.heap.size w w2) := BT.out _ _ HB.out hb
      clear ha
      clear hb
      have AN := hid AN'.out
      clear AN'
      go_wp2_with fail
      refine Calls.mono (WH.out (m) w2) ?_
      rintro e w3 ⟨p3, c3, rfl, ha, hb⟩
      have AM' : Hid (AS w3 (.slice p3 1 c3) (flV (tN (m)))) := ha
      have B3 : Hid (Below w.heap.size w w3) := BT.out _ _ B2.out hb
      replace AN := hid (GS.below AN.out hb)
      clear ha
      clear hb B2
      have AM := hid AM'.out
      clear AM'
      go_wp2_with fail
      refine Calls.mono (D1.out w3 _ _ AN.out AM.out) ?_
      rintro e w4 ⟨p4, m4, c4, rfl, ha, hb⟩
      have AX' := hid ha
      have B4 : Hid (Below w.heap.size w w4) := BT.out _ _ B3.out hb
      replace AN := hid (GS.below AN.out hb)
      replace AM := hid (GS.below AM.out hb)
      clear ha
      clear hb B3
      have AX := hid AX'.out
      clear AX'
      go_wp2_with fail
      clear AN AM
      refine Calls.mono (WH.out (m) w4) ?_
      rintro e w5 ⟨p5, c5, rfl, ha, hb⟩
      have AM' : Hid (AS w5 (.slice p5 1 c5) (flV (tN (m)))) := ha
      have B5 : Hid (Below w.heap.size w w5) := BT.out _ _ B4.out hb
      replace AX := hid (GS.below AX.out hb)
      clear ha
      clear hb B4
      have AM := hid AM'.out
      clear AM'
      go_wp2_with fail
      refine Calls.mono (WH.out (n) w5) ?_
      rintro e w6 ⟨p6, c6, rfl, ha, hb⟩
      have AN' : Hid (AS w6 (.slice p6 1 c6) (flV (tN (n)))) := ha
      have B6 : Hid (Below w.heap.size w w6) := BT.out _ _ B5.out hb
      replace AX := hid (GS.below AX.out hb)
      replace AM := hid (GS.below AM.out hb)
      clear ha
      clear hb B5
      have AN := hid AN'.out
      clear AN'
      go_wp2_with fail
      refine Calls.mono (D2.out w6 _ _ AM.out AN.out) ?_
      rintro e w7 ⟨p7, m7, c7, rfl, ha, hb⟩
      have AY' := hid ha
      have B7 : Hid (Below w.heap.size w w7) := BT.out _ _ B6.out hb
      replace AX := hid (GS.below AX.out hb)
      replace AM := hid (GS.below AM.out hb)
      replace AN := hid (GS.below AN.out hb)
      clear ha
      clear hb B6
      have AY := hid AY'.out
      clear AY'
      go_wp2_with fail
      clear AN AM
      refine Calls.mono (SV.out w7 _ _ (outL r) LR.out AX.out AY.out) ?_
      rintro e w8 ⟨rfl, hb⟩
      have B8 : Hid (Below w.heap.size w w8) := BT.out _ _ B7.out hb
      replace AX := hid (GS.below AX.out hb)
      replace AY := hid (GS.below AY.out hb)
      clear hb B7
      go_wp2_with fail
      go_roundw
      case rel => exact ⟨10, _, rfl, rfl, by omega, B8⟩
      case measure => simp [intOf]
    · have D7 : Hid (∀ w1 v1 v2, AS w1 v1 (flV (tN n)) → AS w1 v2 (flV (tN m)) → _) := fun w1 v1 v2 a b => DO.out 7 w1 v1 v2 _ _ RN.out RM.out (by decide) (by decide) (by decide) a b
      rw [sub_is] at D7
      rcases h7 : numT (n - m) with _ | x
      · rw [h7] at D7
        simp only [Option.isSome_none] at D7
        clear h7 NS
        go_wp2_with fail
        refine Calls.mono (WH.out (n) wr) ?_
        rintro e w2 ⟨p2, c2, rfl, ha, hb⟩
        have AN' : Hid (AS w2 (.slice p2 1 c2) (flV (tN (n)))) := ha
        have B2 : Hid (Below w.heap.size w w2) := BT.out _ _ HB.out hb
        clear ha
        clear hb
        have AN := hid AN'.out
        clear AN'
        go_wp2_with fail
        refine Calls.mono (WH.out (m) w2) ?_
        rintro e w3 ⟨p3, c3, rfl, ha, hb⟩
        have AM' : Hid (AS w3 (.slice p3 1 c3) (flV (tN (m)))) := ha
        have B3 : Hid (Below w.heap.size w w3) := BT.out _ _ B2.out hb
        replace AN := hid (GS.below AN.out hb)
        clear ha
        clear hb B2
        have AM := hid AM'.out
        clear AM'
        go_wp2_with fail
        refine Calls.mono (D7.out w3 _ _ AN.out AM.out) ?_
        rintro e w4 ⟨p4, m4, c4, rfl, ha, hb⟩
        have AX' := hid ha
        have B4 : Hid (Below w.heap.size w w4) := BT.out _ _ B3.out hb
        replace AN := hid (GS.below AN.out hb)
        replace AM := hid (GS.below AM.out hb)
        clear ha
        clear hb B3
        have AX := hid AX'.out
        clear AX'
        go_wp2_with fail
        clear AN AM AX
        clear D7
        refine Calls.mono (C1.out w4 B4.out) ?_
        rintro e w5 ⟨rfl, hb⟩
        have B5 : Hid (Below w.heap.size w w5) := BT.out _ _ B4.out hb
        clear hb B4
        by_cases z1 : r1 = 0
        rotate_left
        · have zb : (r1 != 0) = true := by simp [z1]
          go_wp2_with fail
          go_ret
          exact ⟨rfl, B5.out⟩
        subst z1
        go_wp2_with fail
        refine Calls.mono (C2.out w5 B5.out) ?_
        rintro e w6 ⟨rfl, hb⟩
        have B6 : Hid (Below w.heap.size w w6) := BT.out _ _ B5.out hb
        clear hb B5
        by_cases z2 : r2 = 0
        rotate_left
        · have zb : (r2 != 0) = true := by simp [z2]
          go_wp2_with fail
          go_ret
          exact ⟨rfl, B6.out⟩
        subst z2
        go_wp2_with fail
        refine Calls.mono (C3.out w6 B6.out) ?_
        rintro e w7 ⟨rfl, hb⟩
        have B7 : Hid (Below w.heap.size w w7) := BT.out _ _ B6.out hb
        clear hb B6
        by_cases z3 : r3 = 0
        rotate_left
        · have zb : (r3 != 0) = true := by simp [z3]
          go_wp2_with fail
          go_ret
          exact ⟨rfl, B7.out⟩
        subst z3
        go_wp2_with fail
        obtain ⟨s, rfl, hs⟩ := R1.out (by simp)
        obtain ⟨t, rfl, ht⟩ := R2.out (by simp)
        obtain ⟨u, rfl, hu⟩ := R3.out (by simp)
        clear R1 R2 R3 C1 C2 C3
        have J1 : Hid (∀ w1 v1 v2, AS w1 v1 (flV (s)) → AS w1 v2 (flV (t)) → _) := fun w1 v1 v2 a b => DO.out 9 w1 v1 v2 _ _ hs ht (by decide) (by decide) (by decide) a b
        have J2 : Hid (∀ w1 v1 v2, AS w1 v1 (flV (t)) → AS w1 v2 (flV (u)) → _) := fun w1 v1 v2 a b => DO.out 9 w1 v1 v2 _ _ ht hu (by decide) (by decide) (by decide) a b
        rcases hab : do2T 9 s t with _ | x
        · rw [hab] at J1
          simp only [Option.isSome_none] at J1
          clear hab
          generalize (do2T 9 t u).isSome = b2 at *
          refine Calls.mono (J1.out w7 _ _ (H1.out w7 B7.out) (H2.out w7 B7.out)) ?_
          rintro e w8 ⟨p8, m8, c8, rfl, ha, hb⟩
          have AX' := hid ha
          have B8 : Hid (Below w.heap.size w w8) := BT.out _ _ B7.out hb
          clear ha
          clear hb B7
          have AX := hid AX'.out
          clear AX'
          go_wp2_with fail
          refine Calls.mono (J2.out w8 _ _ (H2.out w8 B8.out) (H3.out w8 B8.out)) ?_
          rintro e w9 ⟨p9, m9, c9, rfl, ha, hb⟩
          have AY' := hid ha
          have B9 : Hid (Below w.heap.size w w9) := BT.out _ _ B8.out hb
          replace AX := hid (GS.below AX.out hb)
          clear ha
          clear hb B8
          have AY := hid AY'.out
          clear AY'
          go_wp2_with fail
          go_ret
          exact ⟨rfl, B9.out⟩
        rw [hab] at J1
        simp only [Option.isSome_some] at J1
        rcases hbc : do2T 9 t u with _ | y
        · rw [hbc] at J2
          simp only [Option.isSome_none] at J2
          clear hab hbc
          refine Calls.mono (J1.out w7 _ _ (H1.out w7 B7.out) (H2.out w7 B7.out)) ?_
          rintro e w8 ⟨p8, m8, c8, rfl, ha, hb⟩
          have AX' := hid ha
          have B8 : Hid (Below w.heap.size w w8) := BT.out _ _ B7.out hb
          clear ha
          clear hb B7
          have AX := hid AX'.out
          clear AX'
          go_wp2_with fail
          refine Calls.mono (J2.out w8 _ _ (H2.out w8 B8.out) (H3.out w8 B8.out)) ?_
          rintro e w9 ⟨p9, m9, c9, rfl, ha, hb⟩
          have AY' := hid ha
          have B9 : Hid (Below w.heap.size w w9) := BT.out _ _ B8.out hb
          replace AX := hid (GS.below AX.out hb)
          clear ha
          clear hb B8
          have AY := hid AY'.out
          clear AY'
          go_wp2_with fail
          go_ret
          exact ⟨rfl, B9.out⟩
        rw [hbc] at J2
        simp only [Option.isSome_some] at J2
        have hx : RT x := do2_rt hs ht (by decide) hab
        have hy : RT y := do2_rt ht hu (by decide) hbc
        have J3 : Hid (∀ w1 v1 v2, AS w1 v1 (flV (x)) → AS w1 v2 (flV (u)) → _) := fun w1 v1 v2 a b => DO.out 9 w1 v1 v2 _ _ hx hu (by decide) (by decide) (by decide) a b
        have J4 : Hid (∀ w1 v1 v2, AS w1 v1 (flV (s)) → AS w1 v2 (flV (y)) → _) := fun w1 v1 v2 a b => DO.out 9 w1 v1 v2 _ _ hs hy (by decide) (by decide) (by decide) a b
        rw [join_three hab hbc] at J4
        have LR : Hid ((outL (do2T 9 x u)).length ≤ 2000) := out_len hx hu (by decide)
        obtain ⟨S, T, hS, hT, d1, d2, d3, it1, it2⟩ := join_parts hs ht hx hab
        have Z1 : Hid (∀ w1 v, AS w1 v (flV s) → _) := fun w1 v a => SZ.out w1 v s S hs d1 a
        have Z2 : Hid (∀ w1 v, AS w1 v (flV t) → _) := fun w1 v a => SZ.out w1 v t T ht d2 a
        have Z3 : Hid (∀ w1 v, AS w1 v (flV x) → _) := fun w1 v a => SZ.out w1 v x ((S : Int) + (T : Int)) hx d3 a
        have IT1 : Hid (∀ i : Nat, i < S → do2T 10 s (tN i) = do2T 10 x (tN i)) := it1
        have IT2 : Hid (∀ i : Nat, S ≤ i → do2T 10 t (tN ((i : Int) - (S : Int))) = do2T 10 x (tN i)) := fun i hi => by have := it2 i hi; rw [Int.ofNat_sub hi] at this; exact this
        have HS : Hid (RT s) := hs
        have HT : Hid (RT t) := ht
        have HX : Hid (RT x) := hx
        generalize do2T 9 x u = r at *
        generalize hbb : r.isSome = b at *
        have zb : (b != b) = false := by simp
        clear hbb SZ it1 it2 d1 d2 d3 hab hbc hs ht hu hx hy
        refine Calls.mono (J1.out w7 _ _ (H1.out w7 B7.out) (H2.out w7 B7.out)) ?_
        rintro e w8 ⟨p8, m8, c8, rfl, ha, hb⟩
        have AX' := hid ha
        have B8 : Hid (Below w.heap.size w w8) := BT.out _ _ B7.out hb
        clear ha
        clear hb B7
        have AX := hid AX'.out
        clear AX'
        go_wp2_with fail
        refine Calls.mono (J2.out w8 _ _ (H2.out w8 B8.out) (H3.out w8 B8.out)) ?_
        rintro e w9 ⟨p9, m9, c9, rfl, ha, hb⟩
        have AY' := hid ha
        have B9 : Hid (Below w.heap.size w w9) := BT.out _ _ B8.out hb
        replace AX := hid (GS.below AX.out hb)
        clear ha
        clear hb B8
        have AY := hid AY'.out
        clear AY'
        go_wp2_with fail
        refine Calls.mono (J3.out w9 _ _ AX.out (H3.out w9 B9.out)) ?_
        rintro e w10 ⟨p10, m10, c10, rfl, ha, hb⟩
        have AP' := hid ha
        have B10 : Hid (Below w.heap.size w w10) := BT.out _ _ B9.out hb
        replace AX := hid (GS.below AX.out hb)
        replace AY := hid (GS.below AY.out hb)
        clear ha
        clear hb B9
        have AP := hid AP'.out
        clear AP'
        go_wp2_with fail
        refine Calls.mono (J4.out w10 _ _ (H1.out w10 B10.out) AY.out) ?_
        rintro e w11 ⟨p11, m11, c11, rfl, ha, hb⟩
        have AQ' := hid ha
        have B11 : Hid (Below w.heap.size w w11) := BT.out _ _ B10.out hb
        replace AX := hid (GS.below AX.out hb)
        replace AY := hid (GS.below AY.out hb)
        replace AP := hid (GS.below AP.out hb)
        clear ha
        clear hb B10
        have AQ := hid AQ'.out
        clear AQ'
        go_wp2_with fail
        refine Calls.mono (SV.out w11 _ _ (outL r) LR.out AP.out AQ.out) ?_
        rintro e w12 ⟨rfl, hb⟩
        have B12 : Hid (Below w.heap.size w w12) := BT.out _ _ B11.out hb
        replace AX := hid (GS.below AX.out hb)
        replace AY := hid (GS.below AY.out hb)
        replace AP := hid (GS.below AP.out hb)
        replace AQ := hid (GS.below AQ.out hb)
        clear hb B11
        go_wp2_with fail
        clear AP AQ AY
        clear J1 J2 J3 J4 LR H3
        refine Calls.mono (Z1.out w12 _ (H1.out w12 B12.out)) ?_
        rintro e w13 ⟨rfl, hb⟩
        have B13 : Hid (Below w.heap.size w w13) := BT.out _ _ B12.out hb
        replace AX := hid (GS.below AX.out hb)
        clear hb B12
        go_wp2_with fail
        refine Calls.mono (Z2.out w13 _ (H2.out w13 B13.out)) ?_
        rintro e w14 ⟨rfl, hb⟩
        have B14 : Hid (Below w.heap.size w w14) := BT.out _ _ B13.out hb
        replace AX := hid (GS.below AX.out hb)
        clear hb B13
        go_wp2_with fail
        refine Calls.mono (Z3.out w14 _ AX.out) ?_
        rintro e w15 ⟨rfl, hb⟩
        have B15 : Hid (Below w.heap.size w w15) := BT.out _ _ B14.out hb
        replace AX := hid (GS.below AX.out hb)
        clear hb B14
        clear Z1 Z2 Z3
        have hST : ((S : Int) + (T : Int) != (S : Int) + (T : Int)) = false := by simp
        go_wp2_with fail
        clear hST zb
        have AE : Hid (∀ w', Below w15.heap.size w15 w' → AS w' _ (flV x)) := fun w' b => GS.below AX.out b
        have BE : Hid (∀ w', Below w15.heap.size w15 w' → Below w.heap.size w w') := fun w' b => BT.out _ _ B15.out b
        have BR : Hid (Below w15.heap.size w15 w15) := Below.refl _ _
        have BC : Hid (∀ w1 w2, Below w15.heap.size w15 w1 → Below w1.heap.size w1 w2 → Below w15.heap.size w15 w2) := fun w1 w2 b1 b2 => b1.trans (b2.mono b1.size)
        clear AX B15
        go_loopw [33] (fun v33 wr => ∃ (i : Nat) (wk : World), v33 = .int .i64 i ∧ wk = wr ∧ i ≤ 20 ∧ Hid (Below w15.heap.size w15 wk)) (fun v33 _ => 20 - (intOf v33).toNat)
        case atStart => exact ⟨0, _, rfl, rfl, by omega, BR⟩
        case round =>
          obtain ⟨i, wi, rfl, rfl, hi, HBI⟩ := hrel
          clear BR
          have BI : Hid (Below w.heap.size w wi) := BE.out _ HBI.out
          by_cases hiS : i < S + T
          rotate_left
          · have hiI : ¬ ((i : Int) < (S : Int) + (T : Int)) := by omega
            go_wp2_with fail
            go_ret
            exact ⟨rfl, BI.out⟩
          have hiI : (i : Int) < (S : Int) + (T : Int) := by omega
          by_cases h20 : i < 20
          rotate_left
          · have h20I : ¬ ((i : Int) < 20) := by omega
            go_wp2_with fail
            go_ret
            exact ⟨rfl, BI.out⟩
          have h20I : (i : Int) < 20 := by omega
          have RI : Hid (RT (tN i)) := tN_rt (by omega)
          have DX : Hid (∀ w1 v1 v2, AS w1 v1 (flV (x)) → AS w1 v2 (flV (tN i)) → _) := fun w1 v1 v2 a b => DO.out 10 w1 v1 v2 _ _ HX.out RI.out (by decide) (by decide) (by decide) a b
          have DA : Hid (∀ w1 v1 v2, AS w1 v1 (flV (s)) → AS w1 v2 (flV (tN i)) → _) := fun w1 v1 v2 a b => DO.out 10 w1 v1 v2 _ _ HS.out RI.out (by decide) (by decide) (by decide) a b
          have LR : Hid ((outL (do2T 10 x (tN i))).length ≤ 2000) := out_len HX.out RI.out (by decide)
          have AX := hid (AE.out wi HBI.out)
          by_cases hiA : i < S
          · rw [IT1.out i hiA] at DA
            have hge : ¬ ((i : Int) ≥ (S : Int)) := by omega
            generalize do2T 10 x (tN i) = r at *
            generalize hbb : r.isSome = b at *
            clear hbb
            have zb : (b != b) = false := by simp
            clear DO IT1 IT2 RI
            go_wp2_with fail
            refine Calls.mono (WH.out ((i : Int)) wi) ?_
            rintro e w16 ⟨p16, c16, rfl, ha, hb⟩
            have AI' : Hid (AS w16 (.slice p16 1 c16) (flV (tN ((i : Int))))) := ha
            have B16 : Hid (Below w.heap.size w w16) := BT.out _ _ BI.out hb
            replace HBI : Hid (Below w15.heap.size w15 w16) := BC.out _ _ HBI.out hb
            replace AX := hid (GS.below AX.out hb)
            clear ha
            clear hb BI
            have AI := hid AI'.out
            clear AI'
            go_wp2_with fail
            refine Calls.mono (DX.out w16 _ _ AX.out AI.out) ?_
            rintro e w17 ⟨p17, m17, c17, rfl, ha, hb⟩
            have AK' := hid ha
            have B17 : Hid (Below w.heap.size w w17) := BT.out _ _ B16.out hb
            replace HBI : Hid (Below w15.heap.size w15 w17) := BC.out _ _ HBI.out hb
            replace AX := hid (GS.below AX.out hb)
            replace AI := hid (GS.below AI.out hb)
            clear ha
            clear hb B16
            have AK := hid AK'.out
            clear AK'
            go_wp2_with fail
            clear AI
            refine Calls.mono (WH.out ((i : Int)) w17) ?_
            rintro e w18 ⟨p18, c18, rfl, ha, hb⟩
            have AI' : Hid (AS w18 (.slice p18 1 c18) (flV (tN ((i : Int))))) := ha
            have B18 : Hid (Below w.heap.size w w18) := BT.out _ _ B17.out hb
            replace HBI : Hid (Below w15.heap.size w15 w18) := BC.out _ _ HBI.out hb
            replace AX := hid (GS.below AX.out hb)
            replace AK := hid (GS.below AK.out hb)
            clear ha
            clear hb B17
            have AI := hid AI'.out
            clear AI'
            go_wp2_with fail
            refine Calls.mono (DA.out w18 _ _ (H1.out w18 B18.out) AI.out) ?_
            rintro e w19 ⟨p19, m19, c19, rfl, ha, hb⟩
            have AH' := hid ha
            have B19 : Hid (Below w.heap.size w w19) := BT.out _ _ B18.out hb
            replace HBI : Hid (Below w15.heap.size w15 w19) := BC.out _ _ HBI.out hb
            replace AX := hid (GS.below AX.out hb)
            replace AK := hid (GS.below AK.out hb)
            replace AI := hid (GS.below AI.out hb)
            clear ha
            clear hb B18
            have AH := hid AH'.out
            clear AH'
            go_wp2_with fail
            clear AI
            refine Calls.mono (SV.out w19 _ _ (outL r) LR.out AK.out AH.out) ?_
            rintro e w20 ⟨rfl, hb⟩
            have B20 : Hid (Below w.heap.size w w20) := BT.out _ _ B19.out hb
            replace HBI : Hid (Below w15.heap.size w15 w20) := BC.out _ _ HBI.out hb
            replace AX := hid (GS.below AX.out hb)
            replace AK := hid (GS.below AK.out hb)
            replace AH := hid (GS.below AH.out hb)
            clear hb B19
            go_wp2_with fail
            go_roundw
            case rel => exact ⟨i + 1, _, by go_num, rfl, by omega, HBI⟩
            case measure => simp [intOf]; omega
          · have hge : (i : Int) ≥ (S : Int) := by omega
            have RJ : Hid (RT (tN ((i : Int) - (S : Int)))) := tN_rt (by omega)
            have DB : Hid (∀ w1 v1 v2, AS w1 v1 (flV (t)) → AS w1 v2 (flV (tN ((i : Int) - (S : Int)))) → _) := fun w1 v1 v2 a b => DO.out 10 w1 v1 v2 _ _ HT.out RJ.out (by decide) (by decide) (by decide) a b
            rw [IT2.out i (by omega)] at DB
            generalize (do2T 10 s (tN i)).isSome = b3 at *
            generalize do2T 10 x (tN i) = r at *
            generalize hbb : r.isSome = b at *
            clear hbb
            have zb : (b != b) = false := by simp
            clear DO IT1 IT2 RI
            go_wp2_with fail
            refine Calls.mono (WH.out ((i : Int)) wi) ?_
            rintro e w16 ⟨p16, c16, rfl, ha, hb⟩
            have AI' : Hid (AS w16 (.slice p16 1 c16) (flV (tN ((i : Int))))) := ha
            have B16 : Hid (Below w.heap.size w w16) := BT.out _ _ BI.out hb
            replace HBI : Hid (Below w15.heap.size w15 w16) := BC.out _ _ HBI.out hb
            replace AX := hid (GS.below AX.out hb)
            clear ha
            clear hb BI
            have AI := hid AI'.out
            clear AI'
            go_wp2_with fail
            refine Calls.mono (DX.out w16 _ _ AX.out AI.out) ?_
            rintro e w17 ⟨p17, m17, c17, rfl, ha, hb⟩
            have AK' := hid ha
            have B17 : Hid (Below w.heap.size w w17) := BT.out _ _ B16.out hb
            replace HBI : Hid (Below w15.heap.size w15 w17) := BC.out _ _ HBI.out hb
            replace AX := hid (GS.below AX.out hb)
            replace AI := hid (GS.below AI.out hb)
            clear ha
            clear hb B16
            have AK := hid AK'.out
            clear AK'
            go_wp2_with fail
            clear AI
            refine Calls.mono (WH.out ((i : Int)) w17) ?_
            rintro e w18 ⟨p18, c18, rfl, ha, hb⟩
            have AI' : Hid (AS w18 (.slice p18 1 c18) (flV (tN ((i : Int))))) := ha
            have B18 : Hid (Below w.heap.size w w18) := BT.out _ _ B17.out hb
            replace HBI : Hid (Below w15.heap.size w15 w18) := BC.out _ _ HBI.out hb
            replace AX := hid (GS.below AX.out hb)
            replace AK := hid (GS.below AK.out hb)
            clear ha
            clear hb B17
            have AI := hid AI'.out
            clear AI'
            go_wp2_with fail
            refine Calls.mono (DA.out w18 _ _ (H1.out w18 B18.out) AI.out) ?_
            rintro e w19 ⟨p19, m19, c19, rfl, ha, hb⟩
            have AH' := hid ha
            have B19 : Hid (Below w.heap.size w w19) := BT.out _ _ B18.out hb
            replace HBI : Hid (Below w15.heap.size w15 w19) := BC.out _ _ HBI.out hb
            replace AX := hid (GS.below AX.out hb)
            replace AK := hid (GS.below AK.out hb)
            replace AI := hid (GS.below AI.out hb)
            clear ha
            clear hb B18
            have AH := hid AH'.out
            clear AH'
            go_wp2_with fail
            clear AI
            clear AH
            refine Calls.mono (WH.out ((i : Int) - (S : Int)) w19) ?_
            rintro e w20 ⟨p20, c20, rfl, ha, hb⟩
            have AI' : Hid (AS w20 (.slice p20 1 c20) (flV (tN ((i : Int) - (S : Int))))) := ha
            have B20 : Hid (Below w.heap.size w w20) := BT.out _ _ B19.out hb
            replace HBI : Hid (Below w15.heap.size w15 w20) := BC.out _ _ HBI.out hb
            replace AX := hid (GS.below AX.out hb)
            replace AK := hid (GS.below AK.out hb)
            clear ha
            clear hb B19
            have AI := hid AI'.out
            clear AI'
            go_wp2_with fail
            refine Calls.mono (DB.out w20 _ _ (H2.out w20 B20.out) AI.out) ?_
            rintro e w21 ⟨p21, m21, c21, rfl, ha, hb⟩
            have AH' := hid ha
            have B21 : Hid (Below w.heap.size w w21) := BT.out _ _ B20.out hb
            replace HBI : Hid (Below w15.heap.size w15 w21) := BC.out _ _ HBI.out hb
            replace AX := hid (GS.below AX.out hb)
            replace AK := hid (GS.below AK.out hb)
            replace AI := hid (GS.below AI.out hb)
            clear ha
            clear hb B20
            have AH := hid AH'.out
            clear AH'
            go_wp2_with fail
            clear AI
            refine Calls.mono (SV.out w21 _ _ (outL r) LR.out AK.out AH.out) ?_
            rintro e w22 ⟨rfl, hb⟩
            have B22 : Hid (Below w.heap.size w w22) := BT.out _ _ B21.out hb
            replace HBI : Hid (Below w15.heap.size w15 w22) := BC.out _ _ HBI.out hb
            replace AX := hid (GS.below AX.out hb)
            replace AK := hid (GS.below AK.out hb)
            replace AH := hid (GS.below AH.out hb)
            clear hb B21
            go_wp2_with fail
            go_roundw
            case rel => exact ⟨i + 1, _, by go_num, rfl, by omega, HBI⟩
            case measure => simp [intOf]; omega
      · obtain rfl := numT_some h7
        have RX : RT (tN (n - m)) := (numT_rt h7).1
        have D6 : Hid (∀ w1 v1 v2, AS w1 v1 (flV (tN (n - m))) → AS w1 v2 (flV (tN m)) → _) := fun w1 v1 v2 a b => DO.out 6 w1 v1 v2 _ _ RX RM.out (by decide) (by decide) (by decide) a b
        rw [add_is, Int.sub_add_cancel, NS.out] at D6
        rw [h7] at D7
        simp only [Option.isSome_some] at D6 D7
        clear h7 NS
        go_wp2_with fail
        refine Calls.mono (WH.out (n) wr) ?_
        rintro e w2 ⟨p2, c2, rfl, ha, hb⟩
        have AN' : Hid (AS w2 (.slice p2 1 c2) (flV (tN (n)))) := ha
        have B2 : Hid (Below w.heap.size w w2) := BT.out _ _ HB.out hb
        clear ha
        clear hb
        have AN := hid AN'.out
        clear AN'
        go_wp2_with fail
        refine Calls.mono (WH.out (m) w2) ?_
        rintro e w3 ⟨p3, c3, rfl, ha, hb⟩
        have AM' : Hid (AS w3 (.slice p3 1 c3) (flV (tN (m)))) := ha
        have B3 : Hid (Below w.heap.size w w3) := BT.out _ _ B2.out hb
        replace AN := hid (GS.below AN.out hb)
        clear ha
        clear hb B2
        have AM := hid AM'.out
        clear AM'
        go_wp2_with fail
        refine Calls.mono (D7.out w3 _ _ AN.out AM.out) ?_
        rintro e w4 ⟨p4, m4, c4, rfl, ha, hb⟩
        have AX' := hid ha
        have B4 : Hid (Below w.heap.size w w4) := BT.out _ _ B3.out hb
        replace AN := hid (GS.below AN.out hb)
        replace AM := hid (GS.below AM.out hb)
        clear ha
        clear hb B3
        have AX := hid AX'.out
        clear AX'
        go_wp2_with fail
        clear AN AM
        refine Calls.mono (WH.out (m) w4) ?_
        rintro e w5 ⟨p5, c5, rfl, ha, hb⟩
        have AM' : Hid (AS w5 (.slice p5 1 c5) (flV (tN (m)))) := ha
        have B5 : Hid (Below w.heap.size w w5) := BT.out _ _ B4.out hb
        replace AX := hid (GS.below AX.out hb)
        clear ha
        clear hb B4
        have AM := hid AM'.out
        clear AM'
        go_wp2_with fail
        refine Calls.mono (D6.out w5 _ _ AX.out AM.out) ?_
        rintro e w6 ⟨p6, m6, c6, rfl, ha, hb⟩
        have AY' := hid ha
        have B6 : Hid (Below w.heap.size w w6) := BT.out _ _ B5.out hb
        replace AX := hid (GS.below AX.out hb)
        replace AM := hid (GS.below AM.out hb)
        clear ha
        clear hb B5
        have AY := hid AY'.out
        clear AY'
        go_wp2_with fail
        clear AM AX
        refine Calls.mono (WH.out (n) w6) ?_
        rintro e w7 ⟨p7, c7, rfl, ha, hb⟩
        have AN' : Hid (AS w7 (.slice p7 1 c7) (flV (tN (n)))) := ha
        have B7 : Hid (Below w.heap.size w w7) := BT.out _ _ B6.out hb
        replace AY := hid (GS.below AY.out hb)
        clear ha
        clear hb B6
        have AN := hid AN'.out
        clear AN'
        go_wp2_with fail
        refine Calls.mono (SV.out w7 _ _ (flV (tN n)) (by show 1 ≤ 2000; omega) AY.out AN.out) ?_
        rintro e w8 ⟨rfl, hb⟩
        have B8 : Hid (Below w.heap.size w w8) := BT.out _ _ B7.out hb
        replace AY := hid (GS.below AY.out hb)
        replace AN := hid (GS.below AN.out hb)
        clear hb B7
        go_wp2_with fail
        clear AY AN
        clear D7 D6
        refine Calls.mono (C1.out w8 B8.out) ?_
        rintro e w9 ⟨rfl, hb⟩
        have B9 : Hid (Below w.heap.size w w9) := BT.out _ _ B8.out hb
        clear hb B8
        by_cases z1 : r1 = 0
        rotate_left
        · have zb : (r1 != 0) = true := by simp [z1]
          go_wp2_with fail
          go_ret
          exact ⟨rfl, B9.out⟩
        subst z1
        go_wp2_with fail
        refine Calls.mono (C2.out w9 B9.out) ?_
        rintro e w10 ⟨rfl, hb⟩
        have B10 : Hid (Below w.heap.size w w10) := BT.out _ _ B9.out hb
        clear hb B9
        by_cases z2 : r2 = 0
        rotate_left
        · have zb : (r2 != 0) = true := by simp [z2]
          go_wp2_with fail
          go_ret
          exact ⟨rfl, B10.out⟩
        subst z2
        go_wp2_with fail
        refine Calls.mono (C3.out w10 B10.out) ?_
        rintro e w11 ⟨rfl, hb⟩
        have B11 : Hid (Below w.heap.size w w11) := BT.out _ _ B10.out hb
        clear hb B10
        by_cases z3 : r3 = 0
        rotate_left
        · have zb : (r3 != 0) = true := by simp [z3]
          go_wp2_with fail
          go_ret
          exact ⟨rfl, B11.out⟩
        subst z3
        go_wp2_with fail
        obtain ⟨s, rfl, hs⟩ := R1.out (by simp)
        obtain ⟨t, rfl, ht⟩ := R2.out (by simp)
        obtain ⟨u, rfl, hu⟩ := R3.out (by simp)
        clear R1 R2 R3 C1 C2 C3
        have J1 : Hid (∀ w1 v1 v2, AS w1 v1 (flV (s)) → AS w1 v2 (flV (t)) → _) := fun w1 v1 v2 a b => DO.out 9 w1 v1 v2 _ _ hs ht (by decide) (by decide) (by decide) a b
        have J2 : Hid (∀ w1 v1 v2, AS w1 v1 (flV (t)) → AS w1 v2 (flV (u)) → _) := fun w1 v1 v2 a b => DO.out 9 w1 v1 v2 _ _ ht hu (by decide) (by decide) (by decide) a b
        rcases hab : do2T 9 s t with _ | x
        · rw [hab] at J1
          simp only [Option.isSome_none] at J1
          clear hab
          generalize (do2T 9 t u).isSome = b2 at *
          refine Calls.mono (J1.out w11 _ _ (H1.out w11 B11.out) (H2.out w11 B11.out)) ?_
          rintro e w12 ⟨p12, m12, c12, rfl, ha, hb⟩
          have AX' := hid ha
          have B12 : Hid (Below w.heap.size w w12) := BT.out _ _ B11.out hb
          clear ha
          clear hb B11
          have AX := hid AX'.out
          clear AX'
          go_wp2_with fail
          refine Calls.mono (J2.out w12 _ _ (H2.out w12 B12.out) (H3.out w12 B12.out)) ?_
          rintro e w13 ⟨p13, m13, c13, rfl, ha, hb⟩
          have AY' := hid ha
          have B13 : Hid (Below w.heap.size w w13) := BT.out _ _ B12.out hb
          replace AX := hid (GS.below AX.out hb)
          clear ha
          clear hb B12
          have AY := hid AY'.out
          clear AY'
          go_wp2_with fail
          go_ret
          exact ⟨rfl, B13.out⟩
        rw [hab] at J1
        simp only [Option.isSome_some] at J1
        rcases hbc : do2T 9 t u with _ | y
        · rw [hbc] at J2
          simp only [Option.isSome_none] at J2
          clear hab hbc
          refine Calls.mono (J1.out w11 _ _ (H1.out w11 B11.out) (H2.out w11 B11.out)) ?_
          rintro e w12 ⟨p12, m12, c12, rfl, ha, hb⟩
          have AX' := hid ha
          have B12 : Hid (Below w.heap.size w w12) := BT.out _ _ B11.out hb
          clear ha
          clear hb B11
          have AX := hid AX'.out
          clear AX'
          go_wp2_with fail
          refine Calls.mono (J2.out w12 _ _ (H2.out w12 B12.out) (H3.out w12 B12.out)) ?_
          rintro e w13 ⟨p13, m13, c13, rfl, ha, hb⟩
          have AY' := hid ha
          have B13 : Hid (Below w.heap.size w w13) := BT.out _ _ B12.out hb
          replace AX := hid (GS.below AX.out hb)
          clear ha
          clear hb B12
          have AY := hid AY'.out
          clear AY'
          go_wp2_with fail
          go_ret
          exact ⟨rfl, B13.out⟩
        rw [hbc] at J2
        simp only [Option.isSome_some] at J2
        have hx : RT x := do2_rt hs ht (by decide) hab
        have hy : RT y := do2_rt ht hu (by decide) hbc
        have J3 : Hid (∀ w1 v1 v2, AS w1 v1 (flV (x)) → AS w1 v2 (flV (u)) → _) := fun w1 v1 v2 a b => DO.out 9 w1 v1 v2 _ _ hx hu (by decide) (by decide) (by decide) a b
        have J4 : Hid (∀ w1 v1 v2, AS w1 v1 (flV (s)) → AS w1 v2 (flV (y)) → _) := fun w1 v1 v2 a b => DO.out 9 w1 v1 v2 _ _ hs hy (by decide) (by decide) (by decide) a b
        rw [join_three hab hbc] at J4
        have LR : Hid ((outL (do2T 9 x u)).length ≤ 2000) := out_len hx hu (by decide)
        obtain ⟨S, T, hS, hT, d1, d2, d3, it1, it2⟩ := join_parts hs ht hx hab
        have Z1 : Hid (∀ w1 v, AS w1 v (flV s) → _) := fun w1 v a => SZ.out w1 v s S hs d1 a
        have Z2 : Hid (∀ w1 v, AS w1 v (flV t) → _) := fun w1 v a => SZ.out w1 v t T ht d2 a
        have Z3 : Hid (∀ w1 v, AS w1 v (flV x) → _) := fun w1 v a => SZ.out w1 v x ((S : Int) + (T : Int)) hx d3 a
        have IT1 : Hid (∀ i : Nat, i < S → do2T 10 s (tN i) = do2T 10 x (tN i)) := it1
        have IT2 : Hid (∀ i : Nat, S ≤ i → do2T 10 t (tN ((i : Int) - (S : Int))) = do2T 10 x (tN i)) := fun i hi => by have := it2 i hi; rw [Int.ofNat_sub hi] at this; exact this
        have HS : Hid (RT s) := hs
        have HT : Hid (RT t) := ht
        have HX : Hid (RT x) := hx
        generalize do2T 9 x u = r at *
        generalize hbb : r.isSome = b at *
        have zb : (b != b) = false := by simp
        clear hbb SZ it1 it2 d1 d2 d3 hab hbc hs ht hu hx hy
        refine Calls.mono (J1.out w11 _ _ (H1.out w11 B11.out) (H2.out w11 B11.out)) ?_
        rintro e w12 ⟨p12, m12, c12, rfl, ha, hb⟩
        have AX' := hid ha
        have B12 : Hid (Below w.heap.size w w12) := BT.out _ _ B11.out hb
        clear ha
        clear hb B11
        have AX := hid AX'.out
        clear AX'
        go_wp2_with fail
        refine Calls.mono (J2.out w12 _ _ (H2.out w12 B12.out) (H3.out w12 B12.out)) ?_
        rintro e w13 ⟨p13, m13, c13, rfl, ha, hb⟩
        have AY' := hid ha
        have B13 : Hid (Below w.heap.size w w13) := BT.out _ _ B12.out hb
        replace AX := hid (GS.below AX.out hb)
        clear ha
        clear hb B12
        have AY := hid AY'.out
        clear AY'
        go_wp2_with fail
        refine Calls.mono (J3.out w13 _ _ AX.out (H3.out w13 B13.out)) ?_
        rintro e w14 ⟨p14, m14, c14, rfl, ha, hb⟩
        have AP' := hid ha
        have B14 : Hid (Below w.heap.size w w14) := BT.out _ _ B13.out hb
        replace AX := hid (GS.below AX.out hb)
        replace AY := hid (GS.below AY.out hb)
        clear ha
        clear hb B13
        have AP := hid AP'.out
        clear AP'
        go_wp2_with fail
        refine Calls.mono (J4.out w14 _ _ (H1.out w14 B14.out) AY.out) ?_
        rintro e w15 ⟨p15, m15, c15, rfl, ha, hb⟩
        have AQ' := hid ha
        have B15 : Hid (Below w.heap.size w w15) := BT.out _ _ B14.out hb
        replace AX := hid (GS.below AX.out hb)
        replace AY := hid (GS.below AY.out hb)
        replace AP := hid (GS.below AP.out hb)
        clear ha
        clear hb B14
        have AQ := hid AQ'.out
        clear AQ'
        go_wp2_with fail
        refine Calls.mono (SV.out w15 _ _ (outL r) LR.out AP.out AQ.out) ?_
        rintro e w16 ⟨rfl, hb⟩
        have B16 : Hid (Below w.heap.size w w16) := BT.out _ _ B15.out hb
        replace AX := hid (GS.below AX.out hb)
        replace AY := hid (GS.below AY.out hb)
        replace AP := hid (GS.below AP.out hb)
        replace AQ := hid (GS.below AQ.out hb)
        clear hb B15
        go_wp2_with fail
        clear AP AQ AY
        clear J1 J2 J3 J4 LR H3
        refine Calls.mono (Z1.out w16 _ (H1.out w16 B16.out)) ?_
        rintro e w17 ⟨rfl, hb⟩
        have B17 : Hid (Below w.heap.size w w17) := BT.out _ _ B16.out hb
        replace AX := hid (GS.below AX.out hb)
        clear hb B16
        go_wp2_with fail
        refine Calls.mono (Z2.out w17 _ (H2.out w17 B17.out)) ?_
        rintro e w18 ⟨rfl, hb⟩
        have B18 : Hid (Below w.heap.size w w18) := BT.out _ _ B17.out hb
        replace AX := hid (GS.below AX.out hb)
        clear hb B17
        go_wp2_with fail
        refine Calls.mono (Z3.out w18 _ AX.out) ?_
        rintro e w19 ⟨rfl, hb⟩
        have B19 : Hid (Below w.heap.size w w19) := BT.out _ _ B18.out hb
        replace AX := hid (GS.below AX.out hb)
        clear hb B18
        clear Z1 Z2 Z3
        have hST : ((S : Int) + (T : Int) != (S : Int) + (T : Int)) = false := by simp
        go_wp2_with fail
        clear hST zb
        have AE : Hid (∀ w', Below w19.heap.size w19 w' → AS w' _ (flV x)) := fun w' b => GS.below AX.out b
        have BE : Hid (∀ w', Below w19.heap.size w19 w' → Below w.heap.size w w') := fun w' b => BT.out _ _ B19.out b
        have BR : Hid (Below w19.heap.size w19 w19) := Below.refl _ _
        have BC : Hid (∀ w1 w2, Below w19.heap.size w19 w1 → Below w1.heap.size w1 w2 → Below w19.heap.size w19 w2) := fun w1 w2 b1 b2 => b1.trans (b2.mono b1.size)
        clear AX B19
        go_loopw [33] (fun v33 wr => ∃ (i : Nat) (wk : World), v33 = .int .i64 i ∧ wk = wr ∧ i ≤ 20 ∧ Hid (Below w19.heap.size w19 wk)) (fun v33 _ => 20 - (intOf v33).toNat)
        case atStart => exact ⟨0, _, rfl, rfl, by omega, BR⟩
        case round =>
          obtain ⟨i, wi, rfl, rfl, hi, HBI⟩ := hrel
          clear BR
          have BI : Hid (Below w.heap.size w wi) := BE.out _ HBI.out
          by_cases hiS : i < S + T
          rotate_left
          · have hiI : ¬ ((i : Int) < (S : Int) + (T : Int)) := by omega
            go_wp2_with fail
            go_ret
            exact ⟨rfl, BI.out⟩
          have hiI : (i : Int) < (S : Int) + (T : Int) := by omega
          by_cases h20 : i < 20
          rotate_left
          · have h20I : ¬ ((i : Int) < 20) := by omega
            go_wp2_with fail
            go_ret
            exact ⟨rfl, BI.out⟩
          have h20I : (i : Int) < 20 := by omega
          have RI : Hid (RT (tN i)) := tN_rt (by omega)
          have DX : Hid (∀ w1 v1 v2, AS w1 v1 (flV (x)) → AS w1 v2 (flV (tN i)) → _) := fun w1 v1 v2 a b => DO.out 10 w1 v1 v2 _ _ HX.out RI.out (by decide) (by decide) (by decide) a b
          have DA : Hid (∀ w1 v1 v2, AS w1 v1 (flV (s)) → AS w1 v2 (flV (tN i)) → _) := fun w1 v1 v2 a b => DO.out 10 w1 v1 v2 _ _ HS.out RI.out (by decide) (by decide) (by decide) a b
          have LR : Hid ((outL (do2T 10 x (tN i))).length ≤ 2000) := out_len HX.out RI.out (by decide)
          have AX := hid (AE.out wi HBI.out)
          by_cases hiA : i < S
          · rw [IT1.out i hiA] at DA
            have hge : ¬ ((i : Int) ≥ (S : Int)) := by omega
            generalize do2T 10 x (tN i) = r at *
            generalize hbb : r.isSome = b at *
            clear hbb
            have zb : (b != b) = false := by simp
            clear DO IT1 IT2 RI
            go_wp2_with fail
            refine Calls.mono (WH.out ((i : Int)) wi) ?_
            rintro e w20 ⟨p20, c20, rfl, ha, hb⟩
            have AI' : Hid (AS w20 (.slice p20 1 c20) (flV (tN ((i : Int))))) := ha
            have B20 : Hid (Below w.heap.size w w20) := BT.out _ _ BI.out hb
            replace HBI : Hid (Below w19.heap.size w19 w20) := BC.out _ _ HBI.out hb
            replace AX := hid (GS.below AX.out hb)
            clear ha
            clear hb BI
            have AI := hid AI'.out
            clear AI'
            go_wp2_with fail
            refine Calls.mono (DX.out w20 _ _ AX.out AI.out) ?_
            rintro e w21 ⟨p21, m21, c21, rfl, ha, hb⟩
            have AK' := hid ha
            have B21 : Hid (Below w.heap.size w w21) := BT.out _ _ B20.out hb
            replace HBI : Hid (Below w19.heap.size w19 w21) := BC.out _ _ HBI.out hb
            replace AX := hid (GS.below AX.out hb)
            replace AI := hid (GS.below AI.out hb)
            clear ha
            clear hb B20
            have AK := hid AK'.out
            clear AK'
            go_wp2_with fail
            clear AI
            refine Calls.mono (WH.out ((i : Int)) w21) ?_
            rintro e w22 ⟨p22, c22, rfl, ha, hb⟩
            have AI' : Hid (AS w22 (.slice p22 1 c22) (flV (tN ((i : Int))))) := ha
            have B22 : Hid (Below w.heap.size w w22) := BT.out _ _ B21.out hb
            replace HBI : Hid (Below w19.heap.size w19 w22) := BC.out _ _ HBI.out hb
            replace AX := hid (GS.below AX.out hb)
            replace AK := hid (GS.below AK.out hb)
            clear ha
            clear hb B21
            have AI := hid AI'.out
            clear AI'
            go_wp2_with fail
            refine Calls.mono (DA.out w22 _ _ (H1.out w22 B22.out) AI.out) ?_
            rintro e w23 ⟨p23, m23, c23, rfl, ha, hb⟩
            have AH' := hid ha
            have B23 : Hid (Below w.heap.size w w23) := BT.out _ _ B22.out hb
            replace HBI : Hid (Below w19.heap.size w19 w23) := BC.out _ _ HBI.out hb
            replace AX := hid (GS.below AX.out hb)
            replace AK := hid (GS.below AK.out hb)
            replace AI := hid (GS.below AI.out hb)
            clear ha
            clear hb B22
            have AH := hid AH'.out
            clear AH'
            go_wp2_with fail
            clear AI
            refine Calls.mono (SV.out w23 _ _ (outL r) LR.out AK.out AH.out) ?_
            rintro e w24 ⟨rfl, hb⟩
            have B24 : Hid (Below w.heap.size w w24) := BT.out _ _ B23.out hb
            replace HBI : Hid (Below w19.heap.size w19 w24) := BC.out _ _ HBI.out hb
            replace AX := hid (GS.below AX.out hb)
            replace AK := hid (GS.below AK.out hb)
            replace AH := hid (GS.below AH.out hb)
            clear hb B23
            go_wp2_with fail
            go_roundw
            case rel => exact ⟨i + 1, _, by go_num, rfl, by omega, HBI⟩
            case measure => simp [intOf]; omega
          · have hge : (i : Int) ≥ (S : Int) := by omega
            have RJ : Hid (RT (tN ((i : Int) - (S : Int)))) := tN_rt (by omega)
            have DB : Hid (∀ w1 v1 v2, AS w1 v1 (flV (t)) → AS w1 v2 (flV (tN ((i : Int) - (S : Int)))) → _) := fun w1 v1 v2 a b => DO.out 10 w1 v1 v2 _ _ HT.out RJ.out (by decide) (by decide) (by decide) a b
            rw [IT2.out i (by omega)] at DB
            generalize (do2T 10 s (tN i)).isSome = b3 at *
            generalize do2T 10 x (tN i) = r at *
            generalize hbb : r.isSome = b at *
            clear hbb
            have zb : (b != b) = false := by simp
            clear DO IT1 IT2 RI
            go_wp2_with fail
            refine Calls.mono (WH.out ((i : Int)) wi) ?_
            rintro e w20 ⟨p20, c20, rfl, ha, hb⟩
            have AI' : Hid (AS w20 (.slice p20 1 c20) (flV (tN ((i : Int))))) := ha
            have B20 : Hid (Below w.heap.size w w20) := BT.out _ _ BI.out hb
            replace HBI : Hid (Below w19.heap.size w19 w20) := BC.out _ _ HBI.out hb
            replace AX := hid (GS.below AX.out hb)
            clear ha
            clear hb BI
            have AI := hid AI'.out
            clear AI'
            go_wp2_with fail
            refine Calls.mono (DX.out w20 _ _ AX.out AI.out) ?_
            rintro e w21 ⟨p21, m21, c21, rfl, ha, hb⟩
            have AK' := hid ha
            have B21 : Hid (Below w.heap.size w w21) := BT.out _ _ B20.out hb
            replace HBI : Hid (Below w19.heap.size w19 w21) := BC.out _ _ HBI.out hb
            replace AX := hid (GS.below AX.out hb)
            replace AI := hid (GS.below AI.out hb)
            clear ha
            clear hb B20
            have AK := hid AK'.out
            clear AK'
            go_wp2_with fail
            clear AI
            refine Calls.mono (WH.out ((i : Int)) w21) ?_
            rintro e w22 ⟨p22, c22, rfl, ha, hb⟩
            have AI' : Hid (AS w22 (.slice p22 1 c22) (flV (tN ((i : Int))))) := ha
            have B22 : Hid (Below w.heap.size w w22) := BT.out _ _ B21.out hb
            replace HBI : Hid (Below w19.heap.size w19 w22) := BC.out _ _ HBI.out hb
            replace AX := hid (GS.below AX.out hb)
            replace AK := hid (GS.below AK.out hb)
            clear ha
            clear hb B21
            have AI := hid AI'.out
            clear AI'
            go_wp2_with fail
            refine Calls.mono (DA.out w22 _ _ (H1.out w22 B22.out) AI.out) ?_
            rintro e w23 ⟨p23, m23, c23, rfl, ha, hb⟩
            have AH' := hid ha
            have B23 : Hid (Below w.heap.size w w23) := BT.out _ _ B22.out hb
            replace HBI : Hid (Below w19.heap.size w19 w23) := BC.out _ _ HBI.out hb
            replace AX := hid (GS.below AX.out hb)
            replace AK := hid (GS.below AK.out hb)
            replace AI := hid (GS.below AI.out hb)
            clear ha
            clear hb B22
            have AH := hid AH'.out
            clear AH'
            go_wp2_with fail
            clear AI
            clear AH
            refine Calls.mono (WH.out ((i : Int) - (S : Int)) w23) ?_
            rintro e w24 ⟨p24, c24, rfl, ha, hb⟩
            have AI' : Hid (AS w24 (.slice p24 1 c24) (flV (tN ((i : Int) - (S : Int))))) := ha
            have B24 : Hid (Below w.heap.size w w24) := BT.out _ _ B23.out hb
            replace HBI : Hid (Below w19.heap.size w19 w24) := BC.out _ _ HBI.out hb
            replace AX := hid (GS.below AX.out hb)
            replace AK := hid (GS.below AK.out hb)
            clear ha
            clear hb B23
            have AI := hid AI'.out
            clear AI'
            go_wp2_with fail
            refine Calls.mono (DB.out w24 _ _ (H2.out w24 B24.out) AI.out) ?_
            rintro e w25 ⟨p25, m25, c25, rfl, ha, hb⟩
            have AH' := hid ha
            have B25 : Hid (Below w.heap.size w w25) := BT.out _ _ B24.out hb
            replace HBI : Hid (Below w19.heap.size w19 w25) := BC.out _ _ HBI.out hb
            replace AX := hid (GS.below AX.out hb)
            replace AK := hid (GS.below AK.out hb)
            replace AI := hid (GS.below AI.out hb)
            clear ha
            clear hb B24
            have AH := hid AH'.out
            clear AH'
            go_wp2_with fail
            clear AI
            refine Calls.mono (SV.out w25 _ _ (outL r) LR.out AK.out AH.out) ?_
            rintro e w26 ⟨rfl, hb⟩
            have B26 : Hid (Below w.heap.size w w26) := BT.out _ _ B25.out hb
            replace HBI : Hid (Below w19.heap.size w19 w26) := BC.out _ _ HBI.out hb
            replace AX := hid (GS.below AX.out hb)
            replace AK := hid (GS.below AK.out hb)
            replace AH := hid (GS.below AH.out hb)
            clear hb B25
            go_wp2_with fail
            go_roundw
            case rel => exact ⟨i + 1, _, by go_num, rfl, by omega, HBI⟩
            case measure => simp [intOf]; omega
end Go.Proofs.YtpiikidpgjmmbaaDoor
