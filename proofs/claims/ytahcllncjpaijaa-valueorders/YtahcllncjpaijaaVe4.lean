/- Values: the order of two; the reference's. -/
import Derived.Test.YtahcllncjpaijaaVe3
import Derived.Test.YtahcllncjpaijaaVd0
namespace Go.Proofs.Ytahcllncjpaijaa
open Go.RowKit

set_option maxHeartbeats 4000000 in
theorem order_any (v1 v2 : Value) (s t : Vt) (w : World) (h1 : AS w v1 (flV s)) (h2 : AS w v2 (flV t)) (hs : RT s) (ht : RT t) :
    Calls Try.prog 36 #[v1, v2] w fun e w' => e = .returned (.int .i64 (cmpV s t)) ∧ Below w.heap.size w w' := by
  obtain ⟨p1, c1, rfl⟩ := h1.form
  obtain ⟨p2, c2, rfl⟩ := h2.form
  have e1 : (flV s).length = szV s := rfl
  have e2 : (flV t).length = szV t := rfl
  rw [e1] at h1 ⊢
  rw [e2] at h2 ⊢
  have L1 : Hid _ := lay_any p1 c1 s w h1 hs
  have L2 : Hid (∀ w1, Below w.heap.size w w1 → _) := fun w1 b => lay_any p2 c2 t w1 (h2.below b) ht
  have LC : Hid (∀ w1 g1 g2, Below w.heap.size w w1 → IS w1 (.slice (some ⟨g1, 0, none⟩) (szV s) (szV s)) (opV s) → IS w1 (.slice (some ⟨g2, 0, none⟩) (szV t) (szV t)) (opV t) → _) := fun w1 g1 g2 b o1 o2 => laidCompare_any p1 p2 c1 c2 g1 g2 s t w1 (h1.below b) (h2.below b) o1 o2 hs ht
  generalize cmpV s t = R at *
  clear h1 h2 hs ht
  go_enter Try.func36, Try.ntmps36
  go_wp2_with fail
  refine Calls.mono L1.out ?_
  rintro e w1 ⟨g1, rfl, ho1, hb1⟩
  have B1 : Hid (Below w.heap.size w w1) := hb1
  have O1 : Hid (IS w1 (.slice (some ⟨g1, 0, none⟩) (szV s) (szV s)) (opV s)) := ho1.gs KI_ok.len
  have Q1 : Hid _ := L2.out w1 hb1
  clear ho1 hb1 L1 L2
  go_wp2_with fail
  refine Calls.mono Q1.out ?_
  rintro e w2 ⟨g2, rfl, ho2, hb2⟩
  have B2 : Hid (Below w.heap.size w w2) := B1.out.trans (hb2.mono B1.out.size)
  have Q2 : Hid _ := LC.out w2 g1 g2 B2.out (O1.out.below hb2) (ho2.gs KI_ok.len)
  clear ho2 hb2 Q1 LC O1 B1
  go_wp2_with fail
  refine Calls.mono Q2.out ?_
  rintro e w3 ⟨rfl, hb3⟩
  have B3 : Hid (Below w.heap.size w w3) := B2.out.trans (hb3.mono B2.out.size)
  clear hb3 Q2 B2
  go_wp2_with fail
  go_ret
  exact ⟨rfl, B3.out⟩
theorem rsign_any (n : Int) (w : World) : Calls Try.prog 45 #[.int .i64 n] w fun e w' => e = .returned (.int .i64 (sgn n)) ∧ w' = w := by
  have HS : Hid (sgn n = if n < 0 then -1 else if 0 < n then 1 else 0) := rfl
  by_cases h1 : n < 0
  · rw [if_pos h1] at HS
    rw [HS.out]
    clear HS
    go_enter Try.func45, Try.ntmps45
    go_wp2_with fail
    go_ret
    exact ⟨rfl, rfl⟩
  · rw [if_neg h1] at HS
    by_cases h2 : n > 0
    · rw [if_pos h2] at HS
      rw [HS.out]
      clear HS
      go_enter Try.func45, Try.ntmps45
      go_wp2_with fail
      go_ret
      exact ⟨rfl, rfl⟩
    · rw [if_neg h2] at HS
      rw [HS.out]
      clear HS
      go_enter Try.func45, Try.ntmps45
      go_wp2_with fail
      go_ret
      exact ⟨rfl, rfl⟩
theorem cmpVL_at {A B : List Vt} {k : Nat} (ha : k < A.length) (hb : k < B.length) : cmpVL (A.drop k) (B.drop k) = if cmpV A[k] B[k] = 0 then cmpVL (A.drop (k + 1)) (B.drop (k + 1)) else cmpV A[k] B[k] := by
  rw [List.drop_eq_getElem_cons ha, List.drop_eq_getElem_cons hb, cmpVL]
theorem cmpVL_end {A B : List Vt} {k : Nat} (ha : k ≤ A.length) (hb : k ≤ B.length) (h : ¬ (k < A.length ∧ k < B.length)) : cmpVL (A.drop k) (B.drop k) = sgn ((A.length : Int) - (B.length : Int)) := by
  by_cases h1 : k < A.length
  · have e : B.drop k = [] := List.drop_eq_nil_of_le (by omega)
    rw [e, List.drop_eq_getElem_cons h1, cmpVL, sgn_pos (by omega)]
  · have e : A.drop k = [] := List.drop_eq_nil_of_le (by omega)
    rw [e]
    by_cases h2 : k < B.length
    · rw [List.drop_eq_getElem_cons h2, cmpVL, sgn_neg (by omega)]
    · have e2 : B.drop k = [] := List.drop_eq_nil_of_le (by omega)
      rw [e2, cmpVL, show (A.length : Int) - (B.length : Int) = 0 by omega]; rfl
theorem AT_parts {t : Vt} (h : AT (flV t)) : ∀ u ∈ t.ps, AT (flV u) := by
  intro u hu c hc
  refine h c ?_
  rw [flV_last t, flVL_map]
  exact List.mem_append_left _ (List.mem_flatMap.2 ⟨u, hu, hc⟩)
theorem RT.kind {t : Vt} (h : RT t) : t.k = 1 ∨ t.k = 2 ∨ t.k = 3 := by
  have := h.wf
  cases t with
  | nd k i tx ps => rw [wfV] at this; exact (atB_n this.1).2.2
theorem RT.int {t : Vt} (h : RT t) : -9007199254740992 ≤ t.i ∧ t.i ≤ 9007199254740992 := by
  have h1 := h.wf
  cases t with
  | nd k i tx ps =>
    rw [wfV] at h1
    have h2 := h1.1
    unfold atB at h2
    show -9007199254740992 ≤ i ∧ i ≤ 9007199254740992
    split at h2
    · simp at h2; exact h2.1.2
    · split at h2
      · simp at h2; omega
      · split at h2
        · simp at h2; omega
        · cases h2
theorem szV_part {t : Vt} {u : Vt} (h : u ∈ t.ps) : szV u < szV t := by
  rw [szV_ps t]
  obtain ⟨a, b, e⟩ := List.append_of_mem h
  rw [e, szVL_app, szVL_cons]
  omega
theorem cmpV_def (s t : Vt) : cmpV s t = if s.k ≠ t.k then sgn (s.k - t.k) else if s.k = 1 then sgn (s.i - t.i) else if s.k = 2 then cmpT s.tx t.tx else cmpVL s.ps t.ps := by
  cases s; cases t; rw [cmpV]; rfl
set_option maxHeartbeats 16000000 in
set_option maxRecDepth 100000 in
theorem rcompare_any (n : Nat) : ∀ (s t : Vt) (v1 v2 : Value) (w : World), szV s ≤ n → AS w v1 (flV s) → AS w v2 (flV t) → RT s → RT t → AT (flV s) → AT (flV t) →
    Calls Try.prog 37 #[v1, v2] w fun e w' => e = .returned (.int .i64 (cmpV s t)) ∧ Below w.heap.size w w' := by
  induction n with
  | zero => intro s t v1 v2 w hn; have := szV_pos s; omega
  | succ n ih =>
    intro s t v1 v2 w hn h1 h2 hs ht a1 a2
    have hs1 := hs.sz
    have ht1 := ht.sz
    have W1 : Hid _ := rwhole_any v1 s w h1 (by omega)
    have W2 : Hid (∀ w1, Below w.heap.size w w1 → _) := fun w1 b => rwhole_any v2 t w1 (h2.below b) (by omega)
    have M1 : Hid (∀ w1, Below w.heap.size w w1 → _) := fun w1 b => rmembers_any v1 s w1 (h1.below b) hs a1
    have M2 : Hid (∀ w1, Below w.heap.size w w1 → _) := fun w1 b => rmembers_any v2 t w1 (h2.below b) ht a2
    have RC : Hid (∀ w1 i j (hi : i < s.ps.length) (hj : j < t.ps.length) u1 u2, AS w1 u1 (flV s.ps[i]) → AS w1 u2 (flV t.ps[j]) → Calls Try.prog 37 #[u1, u2] w1 fun e w' => e = .returned (.int .i64 (cmpV s.ps[i] t.ps[j])) ∧ Below w1.heap.size w1 w') := fun w1 i j hi hj u1 u2 g1 g2 =>
      ih s.ps[i] t.ps[j] u1 u2 w1 (by have := szV_part (List.getElem_mem hi); omega) g1 g2 (hs.parts _ (List.getElem_mem hi)) (ht.parts _ (List.getElem_mem hj)) (AT_parts a1 _ (List.getElem_mem hi)) (AT_parts a2 _ (List.getElem_mem hj))
    have HC : Hid (cmpV s t = if s.k ≠ t.k then sgn (s.k - t.k) else if s.k = 1 then sgn (s.i - t.i) else if s.k = 2 then cmpT s.tx t.tx else cmpVL s.ps t.ps) := cmpV_def s t
    have ks := hs.kind
    have kt := ht.kind
    obtain ⟨i1, i2⟩ := hs.int
    obtain ⟨i3, i4⟩ := ht.int
    have lp1 : s.ps.length ≤ 1024 := by have h3 := memT_len (t := s); have h4 := szV_ps s; omega
    have lp2 : t.ps.length ≤ 1024 := by have h3 := memT_len (t := t); have h4 := szV_ps t; omega
    generalize cmpV s t = R at *
    obtain ⟨p1, c1, rfl⟩ := h1.form
    obtain ⟨p2, c2, rfl⟩ := h2.form
    clear h1 h2 hs ht a1 a2 ih hn
    obtain ⟨k1, x1, t1, ps⟩ := s
    obtain ⟨k2, x2, t2, qs⟩ := t
    have HC2 : Hid (R = if k1 ≠ k2 then sgn (k1 - k2) else if k1 = 1 then sgn (x1 - x2) else if k1 = 2 then cmpT t1 t2 else cmpVL ps qs) := HC.out
    clear HC
    simp only [Vt.k, Vt.i, Vt.tx, Vt.ps] at W1 W2 M1 M2 RC ks kt i1 i2 i3 i4 lp1 lp2
    have HC := HC2
    clear HC2
    generalize (flV (Vt.nd k1 x1 t1 ps)).length = l1 at *
    generalize (flV (Vt.nd k2 x2 t2 qs)).length = l2 at *
    go_enter Try.func37, Try.ntmps37
    go_wp2_with fail
    refine Calls.mono W1.out ?_
    rintro e w1 ⟨rfl, hb1⟩
    have B1 : Hid (Below w.heap.size w w1) := hb1
    have Q2 : Hid _ := W2.out w1 hb1
    clear hb1 W1 W2
    go_wp2_with fail
    refine Calls.mono Q2.out ?_
    rintro e w2 ⟨rfl, hb2⟩
    have B2 : Hid (Below w.heap.size w w2) := B1.out.trans (hb2.mono B1.out.size)
    clear hb2 Q2 B1
    go_upto_region 2 with fail
    generalize hW : World.alloc _ _ = W
    have BW : Hid (Below w.heap.size w W) := by rw [← hW]; exact (B2.out.alloc B2.out.size _).alloc (by have := B2.out.size; simp; omega) _
    have a0 : W.cell? ⟨w2.heap.size, 0, none⟩ = some (.int .i64 k1) := by rw [← hW]; simp
    have a2 : W.cell? ⟨w2.heap.size, 2, none⟩ = some (.int .i64 x1) := by rw [← hW]; simp
    have a3 : W.cell? ⟨w2.heap.size, 3, none⟩ = some (.string t1) := by rw [← hW]; simp
    have b0 : W.cell? ⟨w2.heap.size + 1, 0, none⟩ = some (.int .i64 k2) := by rw [← hW]; simp
    have b2 : W.cell? ⟨w2.heap.size + 1, 2, none⟩ = some (.int .i64 x2) := by rw [← hW]; simp
    have b3 : W.cell? ⟨w2.heap.size + 1, 3, none⟩ = some (.string t2) := by rw [← hW]; simp
    generalize w2.heap.size = hb at *
    clear hW B2
    by_cases hk : k1 = k2
    · subst hk
      rw [if_neg (fun e => e rfl)] at HC
      have hkb : (k1 != k1) = false := by simp
      by_cases hk1 : k1 = 1
      · subst hk1
        rw [if_pos rfl] at HC
        clear M1 M2 RC
        have SG : Hid (∀ w, Calls Try.prog 45 #[.int .i64 (x1 - x2)] w fun e w' => e = .returned (.int .i64 (sgn (x1 - x2))) ∧ w' = w) := fun w => rsign_any _ w
        generalize sgn (x1 - x2) = sg at *
        go_wp2_with fail
        refine Calls.mono (SG.out _) ?_
        rintro e w3 ⟨rfl, hw3⟩
        rw [hw3]
        clear hw3
        go_wp2_with fail
        go_ret
        exact ⟨by rw [HC.out]; rfl, BW.out⟩
      · rw [if_neg hk1] at HC
        have hk1b : (k1 == 1) = false := by simp [hk1]
        by_cases hk2 : k1 = 2
        · subst hk2
          rw [if_pos rfl] at HC
          clear M1 M2 RC
          have hl : Op.bytesLess t1.toList t2.toList = decide (t1.data.toList < t2.data.toList) := less_of
          have he : (t1.toList == t2.toList) = decide (t1 = t2) := eq_of
          have HT : Hid (cmpT t1 t2 = if t1.data.toList < t2.data.toList then -1 else if t2.data.toList < t1.data.toList then 1 else 0) := rfl
          by_cases h1 : t1.data.toList < t2.data.toList
          · rw [if_pos h1] at HT
            rw [HT.out] at HC
            simp only [h1, decide_true] at hl
            clear HT he h1
            go_wp2_with fail
            go_ret
            exact ⟨by rw [HC.out]; rfl, BW.out⟩
          · rw [if_neg h1] at HT
            simp only [h1, decide_false] at hl
            by_cases h2 : t2.data.toList < t1.data.toList
            · have hne : t1 ≠ t2 := fun e => by subst e; exact List.lt_irrefl _ h2
              rw [if_pos h2] at HT
              rw [HT.out] at HC
              simp only [hne, decide_false] at he
              have hnot : ¬ (Op.bytesLess t1.toList t2.toList = true ∨ t1.toList = t2.toList) := by
                rintro (e | e)
                · rw [hl] at e; cases e
                · rw [e] at he; simp at he
              clear HT h1 h2 hne
              go_wp2_with fail
              go_ret
              exact ⟨by rw [HC.out]; rfl, BW.out⟩
            · have heq : t1 = t2 := by
                rcases List.le_iff_lt_or_eq.1 (List.not_lt.1 h1) with e | e
                · exact absurd e h2
                · exact (ba_ext e).symm
              subst heq
              rw [if_neg h2] at HT
              rw [HT.out] at HC
              clear HT h1 h2 he
              go_wp2_with fail
              go_ret
              exact ⟨by rw [HC.out]; rfl, BW.out⟩
        · rw [if_neg hk2] at HC
          have hk2b : (k1 == 2) = false := by simp [hk2]
          have Q3 : Hid _ := M1.out W BW.out
          go_wp2_with fail
          refine Calls.mono Q3.out ?_
          rintro e w3 ⟨g3, P, rfl, ho3, he3, hea3, hb3⟩
          have V3 : Hid (VR w3 (.slice (some ⟨g3, 0, none⟩) ps.length ps.length) P ∧ aL P = ps.map flV) := ⟨⟨ho3.gs KV_ok.len, fun x hx => (hea3 x hx).gs KA_ok.len⟩, he3⟩
          have B3 : Hid (Below w.heap.size w w3) := BW.out.trans (hb3.mono BW.out.size)
          have Q4 : Hid _ := M2.out w3 B3.out
          clear ho3 he3 hea3 hb3 Q3 M1 M2 a0 a2 a3 b0 b2 b3
          go_wp2_with fail
          refine Calls.mono Q4.out ?_
          rintro e w4 ⟨g4, P2, rfl, ho4, he4, hea4, hb4⟩
          have V4 : Hid (VR w4 (.slice (some ⟨g4, 0, none⟩) qs.length qs.length) P2 ∧ aL P2 = qs.map flV) := ⟨⟨ho4.gs KV_ok.len, fun x hx => (hea4 x hx).gs KA_ok.len⟩, he4⟩
          have V34 : Hid (VR w4 (.slice (some ⟨g3, 0, none⟩) ps.length ps.length) P ∧ aL P = ps.map flV) := ⟨V3.out.1.below hb4, V3.out.2⟩
          have B4 : Hid (Below w.heap.size w w4) := B3.out.trans (hb4.mono B3.out.size)
          clear ho4 he4 hea4 hb4 Q4 V3 B3 BW
          have D0 : Hid (R = cmpVL (ps.drop 0) (qs.drop 0)) := HC.out
          have BR : Hid (Below w4.heap.size w4 w4) := Below.refl _ _
          have CM : Hid (∀ w1 k (hk : k < ps.length) (hk' : k < qs.length), Below w4.heap.size w4 w1 → ∃ r q1 c1 n1 q2 c2 n2, w1.cell? ⟨g3, k, none⟩ = some (.slice q1 n1 c1) ∧ w1.cell? ⟨g4, k, none⟩ = some (.slice q2 n2 c2) ∧ (∀ w5, Below w4.heap.size w4 w5 → Calls Try.prog 37 #[.slice q1 n1 c1, .slice q2 n2 c2] w5 fun e w' => e = .returned (.int .i64 r) ∧ Below w5.heap.size w5 w') ∧ (∀ w5, Below w4.heap.size w4 w5 → w5.cell? ⟨g3, k, none⟩ = some (.slice q1 n1 c1) ∧ w5.cell? ⟨g4, k, none⟩ = some (.slice q2 n2 c2)) ∧ cmpVL (ps.drop k) (qs.drop k) = if r = 0 then cmpVL (ps.drop (k + 1)) (qs.drop (k + 1)) else r) := fun w1 k hk hk' b => by
            have l1 : P.length = ps.length := by rw [← aL_len P, V34.out.2, List.length_map]
            have l2 : P2.length = qs.length := by rw [← aL_len P2, V4.out.2, List.length_map]
            have e1 : P[k].a = flV ps[k] := by
              have := aL_at (L := P) (k := k) (by omega)
              rw [← this]; simp [V34.out.2]
            have e2 : P2[k].a = flV qs[k] := by
              have := aL_at (L := P2) (k := k) (by omega)
              rw [← this]; simp [V4.out.2]
            have cc : ∀ w5, Below w4.heap.size w4 w5 → w5.cell? ⟨g3, k, none⟩ = some (.slice P[k].q P[k].a.length P[k].c) ∧ w5.cell? ⟨g4, k, none⟩ = some (.slice P2[k].q P2[k].a.length P2[k].c) := fun w5 b5 => by
              obtain ⟨X, o, e3, x0⟩ := (V34.out.1.gs.below b5).atV (k := k) (by omega)
              injection e3 with e3
              injection e3 with e3 e4 _
              subst e3 e4
              obtain ⟨Y, u, e5, y0⟩ := (V4.out.1.gs.below b5).atV (k := k) (by omega)
              injection e5 with e5
              injection e5 with e5 e6 _
              subst e5 e6
              rw [Nat.zero_add] at x0 y0
              exact ⟨x0, y0⟩
            refine ⟨cmpV ps[k] qs[k], P[k].q, P[k].c, P[k].a.length, P2[k].q, P2[k].c, P2[k].a.length, (cc w1 b).1, (cc w1 b).2, fun w5 b5 => ?_, cc, cmpVL_at hk hk'⟩
            have s1 := (V34.out.1.below b5).av _ (List.getElem_mem (by omega : k < P.length))
            have s2 := (V4.out.1.below b5).av _ (List.getElem_mem (by omega : k < P2.length))
            unfold Vx.v at s1 s2
            have s3 : AS w5 (.slice P[k].q P[k].a.length P[k].c) (flV ps[k]) := by rw [← e1]; exact s1
            have s4 : AS w5 (.slice P2[k].q P2[k].a.length P2[k].c) (flV qs[k]) := by rw [← e2]; exact s2
            exact RC.out w5 k k hk hk' _ _ s3 s4
          have FN : Hid (∀ k, k ≤ ps.length → k ≤ qs.length → ¬ (k < ps.length ∧ k < qs.length) → cmpVL (ps.drop k) (qs.drop k) = sgn ((ps.length : Int) - (qs.length : Int))) := fun k h1 h2 h3 => cmpVL_end h1 h2 h3
          have BT : Hid (∀ w1, Below w4.heap.size w4 w1 → Below w.heap.size w w1) := fun w1 b => B4.out.trans (b.mono B4.out.size)
          clear V4 V34 B4 RC HC
          generalize hN1 : ps.length = N1 at *
          generalize hN2 : qs.length = N2 at *
          clear hN1 hN2
          go_wp2_with fail
          go_loopw [9] (fun v9 wr => ∃ (k : Nat) (wk : World), v9 = .int .i64 k ∧ wk = wr ∧ k ≤ N1 ∧ k ≤ N2 ∧ Hid (R = cmpVL (ps.drop k) (qs.drop k)) ∧ Hid (Below w4.heap.size w4 wk)) (fun v9 _ => N1 - (intOf v9).toNat)
          case atStart => exact ⟨0, _, rfl, rfl, Nat.zero_le _, Nat.zero_le _, D0, BR⟩
          case round =>
            obtain ⟨k, wr, rfl, rfl, hk3, hk4, HD, HB⟩ := hrel
            clear D0 BR
            by_cases hlt : k < N1 ∧ k < N2
            · obtain ⟨hl1, hl2⟩ := hlt
              obtain ⟨r, q1, cc1, n1, q2, cc2, n2, y1, y2, CL, CE, hnx⟩ := CM.out wr k hl1 hl2 HB.out
              have CL' : Hid _ := CL
              have CE' : Hid _ := CE
              rw [hnx] at HD
              have BL : Hid (∀ w1, Below wr.heap.size wr w1 → Below w4.heap.size w4 w1) := fun w1 c => HB.out.trans (c.mono HB.out.size)
              have BR : Hid (Below wr.heap.size wr wr) := Below.refl _ _
              have BD : Hid (Below wr.heap.size wr wr.drew) := (Below.refl _ _).drew
              clear CL CE hnx CM FN HB
              go_wp2_with fail
              go_region_held3 (fun w1 => w1.cell? ⟨g3, k, none⟩ = some (.slice q1 n1 cc1) ∧ w1.cell? ⟨g4, k, none⟩ = some (.slice q2 n2 cc2)) (go_keep) (first | (go_at_call 37; refine Calls.mono (CL'.out _ ?_) ?_; (first | exact BL.out _ BR.out | exact BL.out _ BD.out); rintro e w5 ⟨rfl, b5⟩; have B5 : Hid (Below w4.heap.size w4 w5) := (by first | exact BL.out _ b5 | exact BL.out _ (BD.out.trans (b5.mono BD.out.size))); obtain ⟨u1, u2⟩ := CE'.out _ B5.out; clear b5))
              all_goals
                clear y1 y2 u1 u2 CL' CE'
                by_cases hr : r = 0
                · subst hr
                  rw [if_pos rfl] at HD
                  go_wp2_with fail
                  go_roundw
                  case rel => exact ⟨k + 1, _, by go_num, rfl, by omega, by omega, HD, B5⟩
                  case measure => simp [intOf]; omega
                · rw [if_neg hr] at HD
                  have hrb : (r != 0) = true := by simp [hr]
                  go_wp2_with fail
                  go_ret
                  exact ⟨by rw [HD.out]; rfl, BT.out _ B5.out⟩
            · have HE := FN.out k hk3 hk4 hlt
              rw [HE] at HD
              have SG : Hid (∀ w, Calls Try.prog 45 #[.int .i64 ((N1 : Int) - (N2 : Int))] w fun e w' => e = .returned (.int .i64 (sgn ((N1 : Int) - (N2 : Int)))) ∧ w' = w) := fun w => rsign_any _ w
              generalize sgn ((N1 : Int) - (N2 : Int)) = sg at *
              have B5 : Hid (Below w.heap.size w wr) := BT.out _ HB.out
              clear HE CM FN HB
              by_cases hc1 : k < N1
              · have hc2 : ¬ k < N2 := fun h => hlt ⟨hc1, h⟩
                go_wp2_with fail
                refine Calls.mono (SG.out _) ?_
                rintro e w6 ⟨rfl, hw6⟩
                rw [hw6]
                clear hw6
                go_wp2_with fail
                go_ret
                exact ⟨by rw [HD.out]; rfl, B5.out⟩
              · go_wp2_with fail
                refine Calls.mono (SG.out _) ?_
                rintro e w6 ⟨rfl, hw6⟩
                rw [hw6]
                clear hw6
                go_wp2_with fail
                go_ret
                exact ⟨by rw [HD.out]; rfl, B5.out⟩
    · rw [if_pos hk] at HC
      have hkb : (k1 != k2) = true := by simp [hk]
      have hk' : ¬ k1 = k2 := hk
      clear M1 M2 RC
      have SG : Hid (∀ w, Calls Try.prog 45 #[.int .i64 (k1 - k2)] w fun e w' => e = .returned (.int .i64 (sgn (k1 - k2))) ∧ w' = w) := fun w => rsign_any _ w
      generalize sgn (k1 - k2) = sg at *
      have ks1 : 1 ≤ k1 ∧ k1 ≤ 3 := by omega
      have kt1 : 1 ≤ k2 ∧ k2 ≤ 3 := by omega
      obtain ⟨q1, q2⟩ := ks1
      obtain ⟨q3, q4⟩ := kt1
      clear ks kt
      go_wp2_with fail
      refine Calls.mono (SG.out _) ?_
      rintro e w3 ⟨rfl, hw3⟩
      rw [hw3]
      clear hw3
      go_wp2_with fail
      go_ret
      exact ⟨by rw [HC.out]; rfl, BW.out⟩
end Go.Proofs.Ytahcllncjpaijaa
