/- The law ValueOrder. -/
import Derived.Test.YtpiikidpgjmmbaaDoorVh3
import Derived.Test.YtpiikidpgjmmbaaDoorVi0
namespace Go.Proofs.YtpiikidpgjmmbaaDoor
open Go.RowKit

theorem eqA_cmp {l1 l2 : List Atm} (e1 : chkV l1 = 0) (e2 : chkV l2 = 0) : eqA l1 l2 = decide (cmpV (treeA l1) (treeA l2) = 0) := by
  obtain ⟨s, rfl, hs⟩ := RT.of e1
  obtain ⟨t, rfl, ht⟩ := RT.of e2
  rw [treeA_flat hs.wf, treeA_flat ht.wf]
  by_cases h : cmpV s t = 0
  · have : s = t := cmpV_eq s t hs.wf ht.wf h
    subst this
    rw [decide_eq_true h]
    exact (eqA_iff _ _).2 rfl
  · rw [decide_eq_false h]
    cases hc : eqA (flV s) (flV t) with
    | false => rfl
    | true =>
      exfalso
      have := flV_inj hs.wf ht.wf ((eqA_iff _ _).1 hc)
      subst this
      exact h (cmpV_refl s)
theorem cmpE_of {l1 l2 : List Atm} (e1 : chkV l1 = 0) (e2 : chkV l2 = 0) : cmpE l1 l2 = 0 := by
  unfold cmpE
  rw [firstE, if_pos e1, firstE, if_pos e2, firstE]
theorem cmpN_of {l1 l2 : List Atm} (e1 : chkV l1 = 0) (e2 : chkV l2 = 0) : cmpN l1 l2 = cmpV (treeA l1) (treeA l2) := by
  unfold cmpN
  rw [if_pos (cmpE_of e1 e2)]
set_option maxHeartbeats 32000000 in
set_option maxRecDepth 100000 in
theorem valueOrder_any (v1 v2 v3 : Value) (l1 l2 l3 : List Atm) (w : World) (h1 : AS w v1 l1) (h2 : AS w v2 l2) (h3 : AS w v3 l3) (t1 : AT l1) (t2 : AT l2) (t3 : AT l3) (n1 : l1.length * 40 ≤ 140737488355328) (n2 : l2.length * 40 ≤ 140737488355328) (n3 : l3.length * 40 ≤ 140737488355328) (hp : PowBelow w.heap.size w) :
    Calls Tryd.prog 5 #[v1, v2, v3] w fun e w' => e = .returned (.bool true) ∧ Below w.heap.size w w' := by
  have WK : Hid _ := works_any w hp
  have C1 : Hid (∀ w1, Below w.heap.size w w1 → Calls Tryd.prog 21 #[v1] w1 fun e w' => e = .returned (.int .i64 (chkV l1)) ∧ Below w1.heap.size w1 w') := fun w1 b => vcheck_any v1 l1 w1 (h1.below b) t1 (by omega)
  have C2 : Hid (∀ w1, Below w.heap.size w w1 → Calls Tryd.prog 21 #[v2] w1 fun e w' => e = .returned (.int .i64 (chkV l2)) ∧ Below w1.heap.size w1 w') := fun w1 b => vcheck_any v2 l2 w1 (h2.below b) t2 (by omega)
  have C3 : Hid (∀ w1, Below w.heap.size w w1 → Calls Tryd.prog 21 #[v3] w1 fun e w' => e = .returned (.int .i64 (chkV l3)) ∧ Below w1.heap.size w1 w') := fun w1 b => vcheck_any v3 l3 w1 (h3.below b) t3 (by omega)
  have CM : Hid (∀ w1 a b la lb, AS w1 a la → AS w1 b lb → AT la → AT lb → la.length * 40 ≤ 140737488355328 → lb.length * 40 ≤ 140737488355328 → chkV la = 0 → chkV lb = 0 → Calls Tryd.prog 22 #[a, b] w1 fun e w' => e = .returned (.tuple #[.int .i64 (cmpV (treeA la) (treeA lb)), .bool true]) ∧ Below w1.heap.size w1 w') := fun w1 a b la lb p1 p2 q1 q2 m1 m2 e1 e2 => by
    have := lcompare_any a b la lb w1 p1 p2 q1 q2 m1 m2 (cmpE_of e1 e2)
    rw [cmpN_of e1 e2] at this
    exact this
  have SV : Hid (∀ w1, Below w.heap.size w w1 → chkV l1 = 0 → chkV l2 = 0 → Calls Tryd.prog 10 #[v1, v2] w1 fun e w' => e = .returned (.bool (decide (cmpV (treeA l1) (treeA l2) = 0))) ∧ ∃ n, w' = w1.drewN n) := fun w1 b e1 e2 => by
    rw [← eqA_cmp e1 e2]
    exact sameV_any w1 v1 v2 l1 l2 (h1.below b) (h2.below b) (by omega)
  have DR : Hid (∀ w1 n, Below w.heap.size w w1 → Below w.heap.size w (World.drewN w1 n)) := fun w1 n b => b.trans ⟨rfl, rfl, rfl, Nat.le_refl _, fun _ _ => rfl⟩
  have BT : Hid (∀ w1 w2, Below w.heap.size w w1 → Below w1.heap.size w1 w2 → Below w.heap.size w w2) := fun w1 w2 b1 b2 => b1.trans (b2.mono b1.size)
  have BR : Hid (Below w.heap.size w w) := Below.refl _ _
  obtain ⟨q1, c1, rfl⟩ := h1.form
  obtain ⟨q2, c2, rfl⟩ := h2.form
  obtain ⟨q3, c3, rfl⟩ := h3.form
  have K12 : Hid (chkV l1 = 0 → chkV l2 = 0 → ∀ w1, Below w.heap.size w w1 → _) := fun e1 e2 w1 b => CM.out w1 _ _ _ _ (h1.below b) (h2.below b) t1 t2 n1 n2 e1 e2
  have K21 : Hid (chkV l1 = 0 → chkV l2 = 0 → ∀ w1, Below w.heap.size w w1 → _) := fun e1 e2 w1 b => CM.out w1 _ _ _ _ (h2.below b) (h1.below b) t2 t1 n2 n1 e2 e1
  have K23 : Hid (chkV l2 = 0 → chkV l3 = 0 → ∀ w1, Below w.heap.size w w1 → _) := fun e1 e2 w1 b => CM.out w1 _ _ _ _ (h2.below b) (h3.below b) t2 t3 n2 n3 e1 e2
  have K13 : Hid (chkV l1 = 0 → chkV l3 = 0 → ∀ w1, Below w.heap.size w w1 → _) := fun e1 e2 w1 b => CM.out w1 _ _ _ _ (h1.below b) (h3.below b) t1 t3 n1 n3 e1 e2
  have LAWS : Hid (chkV l1 = 0 → chkV l2 = 0 → chkV l3 = 0 → cmpV (treeA l2) (treeA l1) = - cmpV (treeA l1) (treeA l2) ∧ (-1 ≤ cmpV (treeA l1) (treeA l2) ∧ cmpV (treeA l1) (treeA l2) ≤ 1) ∧ (-1 ≤ cmpV (treeA l2) (treeA l3) ∧ cmpV (treeA l2) (treeA l3) ≤ 1) ∧ (-1 ≤ cmpV (treeA l1) (treeA l3) ∧ cmpV (treeA l1) (treeA l3) ≤ 1) ∧ ((cmpV (treeA l1) (treeA l2) ≤ 0 → cmpV (treeA l2) (treeA l3) ≤ 0 → cmpV (treeA l1) (treeA l3) ≤ 0) ∧ (0 ≤ cmpV (treeA l1) (treeA l2) → 0 ≤ cmpV (treeA l2) (treeA l3) → 0 ≤ cmpV (treeA l1) (treeA l3)) ∧ (cmpV (treeA l1) (treeA l2) < 0 → cmpV (treeA l2) (treeA l3) ≤ 0 → cmpV (treeA l1) (treeA l3) < 0))) := fun e1 e2 e3 => by
    obtain ⟨s, rfl, hs⟩ := RT.of e1
    obtain ⟨t, rfl, ht⟩ := RT.of e2
    obtain ⟨u, rfl, hu⟩ := RT.of e3
    rw [treeA_flat hs.wf, treeA_flat ht.wf, treeA_flat hu.wf]
    exact ⟨cmpV_anti s t, cmpV_bd s t, cmpV_bd t u, cmpV_bd s u, cmpV_three hs.wf ht.wf hu.wf⟩
  generalize cmpV (treeA l1) (treeA l2) = x at *
  generalize cmpV (treeA l2) (treeA l1) = y at *
  generalize cmpV (treeA l2) (treeA l3) = z at *
  generalize cmpV (treeA l1) (treeA l3) = u at *
  generalize chkV l1 = r1 at *
  generalize chkV l2 = r2 at *
  generalize chkV l3 = r3 at *
  generalize l1.length = m1 at *
  generalize l2.length = m2 at *
  generalize l3.length = m3 at *
  clear h1 h2 h3 t1 t2 t3 n1 n2 n3 hp CM
  by_cases z1 : r1 = 0
  · subst z1
    by_cases z2 : r2 = 0
    · subst z2
      by_cases z3 : r3 = 0
      · subst z3
        obtain ⟨hy, ⟨x1, x2⟩, ⟨y1, y2⟩, ⟨u1, u2⟩, k1, k2, k3⟩ := LAWS.out (by simp) (by simp) (by simp)
        have J12 : Hid _ := K12.out (by simp) (by simp)
        have J21 : Hid _ := K21.out (by simp) (by simp)
        have J23 : Hid _ := K23.out (by simp) (by simp)
        have J13 : Hid _ := K13.out (by simp) (by simp)
        have JSV : Hid (∀ w1, Below w.heap.size w w1 → _) := fun w1 b => SV.out w1 b (by simp) (by simp)
        clear K12 K21 K23 K13 LAWS SV BR
        have HX : Hid (x = -1 ∨ x = 0 ∨ x = 1) := by show _ ∨ _ ∨ _; omega
        have HZ : Hid (z = -1 ∨ z = 0 ∨ z = 1) := by show _ ∨ _ ∨ _; omega
        have HU : Hid (u = -1 ∨ u = 0 ∨ u = 1) := by show _ ∨ _ ∨ _; omega
        have HY : Hid (y = - x) := hy
        have HK1 : Hid (x ≤ 0 → z ≤ 0 → u ≤ 0) := k1
        have HK2 : Hid (0 ≤ x → 0 ≤ z → 0 ≤ u) := k2
        have HK3 : Hid (x < 0 → z ≤ 0 → u < 0) := k3
        clear hy x1 x2 y1 y2 u1 u2 k1 k2 k3
        go_enter Tryd.func5, Tryd.ntmps5
        go_wp2_with fail
        refine Calls.mono WK.out ?_
        rintro e w1 ⟨rfl, hb1⟩
        have B1 : Hid (Below w.heap.size w w1) := hb1
        clear hb1 WK
        go_wp2_with fail
        refine Calls.mono (C1.out w1 B1.out) ?_
        rintro e w2 ⟨rfl, hb2⟩
        have B2 : Hid (Below w.heap.size w w2) := BT.out _ _ B1.out hb2
        clear hb2 C1 B1
        go_wp2_with fail
        refine Calls.mono (C2.out w2 B2.out) ?_
        rintro e w3 ⟨rfl, hb3⟩
        have B3 : Hid (Below w.heap.size w w3) := BT.out _ _ B2.out hb3
        clear hb3 C2 B2
        go_wp2_with fail
        refine Calls.mono (C3.out w3 B3.out) ?_
        rintro e w4 ⟨rfl, hb4⟩
        have B4 : Hid (Below w.heap.size w w4) := BT.out _ _ B3.out hb4
        clear hb4 C3 B3
        go_wp2_with fail
        refine Calls.mono (J12.out w4 B4.out) ?_
        rintro e w5 ⟨rfl, hb5⟩
        have B5 : Hid (Below w.heap.size w w5) := BT.out _ _ B4.out hb5
        clear hb5 J12 B4
        go_wp2_with fail
        refine Calls.mono (J21.out w5 B5.out) ?_
        rintro e w6 ⟨rfl, hb6⟩
        have B6 : Hid (Below w.heap.size w w6) := BT.out _ _ B5.out hb6
        clear hb6 J21 B5
        go_wp2_with fail
        refine Calls.mono (J23.out w6 B6.out) ?_
        rintro e w7 ⟨rfl, hb7⟩
        have B7 : Hid (Below w.heap.size w w7) := BT.out _ _ B6.out hb7
        clear hb7 J23 B6
        go_wp2_with fail
        refine Calls.mono (J13.out w7 B7.out) ?_
        rintro e w8 ⟨rfl, hb8⟩
        have B8 : Hid (Below w.heap.size w w8) := BT.out _ _ B7.out hb8
        clear hb8 J13 B7
        have S8 : Hid _ := JSV.out w8 B8.out
        have D8 : Hid (∀ n, Below w.heap.size w (w8.drewN n)) := fun n => DR.out w8 n B8.out
        clear JSV BT DR B8
        obtain rfl : y = - x := HY.out
        have hK1 := HK1.out
        have hK2 := HK2.out
        have hK3 := HK3.out
        have hU := HU.out
        clear HY HK1 HK2 HK3 HU
        rcases HX.out with rfl | rfl | rfl <;> rcases HZ.out with rfl | rfl | rfl <;> rcases hU with rfl | rfl | rfl
        all_goals first
          | (exfalso; omega)
          | (clear hK1 hK2 hK3 HX HZ
             go_wp2_with fail
             refine Calls.mono S8.out ?_
             rintro e w9 ⟨rfl, n9, hw9⟩
             have B9 : Hid (Below w.heap.size w w9) := by rw [hw9]; exact D8.out n9
             clear hw9 S8 D8
             go_wp2_with fail
             go_ret
             exact ⟨rfl, B9.out⟩)
      · have zb : (r3 != 0) = true := by simp [z3]
        clear K12 K21 K23 K13 LAWS SV DR BR
        go_enter Tryd.func5, Tryd.ntmps5
        go_wp2_with fail
        refine Calls.mono WK.out ?_
        rintro e w1 ⟨rfl, hb1⟩
        have B1 : Hid (Below w.heap.size w w1) := hb1
        clear hb1 WK
        go_wp2_with fail
        refine Calls.mono (C1.out w1 B1.out) ?_
        rintro e w2 ⟨rfl, hb2⟩
        have B2 : Hid (Below w.heap.size w w2) := BT.out _ _ B1.out hb2
        clear hb2 C1 B1
        go_wp2_with fail
        refine Calls.mono (C2.out w2 B2.out) ?_
        rintro e w3 ⟨rfl, hb3⟩
        have B3 : Hid (Below w.heap.size w w3) := BT.out _ _ B2.out hb3
        clear hb3 C2 B2
        go_wp2_with fail
        refine Calls.mono (C3.out w3 B3.out) ?_
        rintro e w4 ⟨rfl, hb4⟩
        have B4 : Hid (Below w.heap.size w w4) := BT.out _ _ B3.out hb4
        clear hb4 C3 B3
        go_wp2_with fail
        go_ret
        exact ⟨rfl, B4.out⟩
    · have zb : (r2 != 0) = true := by simp [z2]
      clear K12 K21 K23 K13 LAWS SV DR BR
      clear C3
      go_enter Tryd.func5, Tryd.ntmps5
      go_wp2_with fail
      refine Calls.mono WK.out ?_
      rintro e w1 ⟨rfl, hb1⟩
      have B1 : Hid (Below w.heap.size w w1) := hb1
      clear hb1 WK
      go_wp2_with fail
      refine Calls.mono (C1.out w1 B1.out) ?_
      rintro e w2 ⟨rfl, hb2⟩
      have B2 : Hid (Below w.heap.size w w2) := BT.out _ _ B1.out hb2
      clear hb2 C1 B1
      go_wp2_with fail
      refine Calls.mono (C2.out w2 B2.out) ?_
      rintro e w3 ⟨rfl, hb3⟩
      have B3 : Hid (Below w.heap.size w w3) := BT.out _ _ B2.out hb3
      clear hb3 C2 B2
      go_wp2_with fail
      go_ret
      exact ⟨rfl, B3.out⟩
  · have zb : (r1 != 0) = true := by simp [z1]
    clear K12 K21 K23 K13 LAWS SV DR BR
    clear C2 C3
    go_enter Tryd.func5, Tryd.ntmps5
    go_wp2_with fail
    refine Calls.mono WK.out ?_
    rintro e w1 ⟨rfl, hb1⟩
    have B1 : Hid (Below w.heap.size w w1) := hb1
    clear hb1 WK
    go_wp2_with fail
    refine Calls.mono (C1.out w1 B1.out) ?_
    rintro e w2 ⟨rfl, hb2⟩
    have B2 : Hid (Below w.heap.size w w2) := BT.out _ _ B1.out hb2
    clear hb2 C1 B1
    go_wp2_with fail
    go_ret
    exact ⟨rfl, B2.out⟩
end Go.Proofs.YtpiikidpgjmmbaaDoor
