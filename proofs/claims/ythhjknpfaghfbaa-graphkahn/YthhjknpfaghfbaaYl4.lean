/- Graph: the law GraphKahn, whole. -/
import Derived.Test.YthhjknpfaghfbaaYl2
import Derived.Test.YthhjknpfaghfbaaYd4
namespace Go.Proofs.Ythhjknpfaghfbaa
open Go.RowKit

/-- While places are written down. -/
structure K1 (V : World) (N X Y : Nat) (P : Nat → Int) (S : Nat → Bool) (wr : World) : Prop where
  bl : Below V.heap.size V wr
  p : LFR wr V.heap.size X N P
  s : LFB wr V.heap.size Y N S
theorem K1.ne {V wr : World} {N X Y : Nat} {P : Nat → Int} {S : Nat → Bool} (h : K1 V N X Y P S wr) : X ≠ Y := rb_ne h.p h.s
theorem K1.set {V wr : World} {N X Y : Nat} {P : Nat → Int} {S : Nat → Bool} (h : K1 V N X Y P S wr) (x : Nat) (d : Bool) (y : Int) : K1 V N X Y (upF P x y) (upB S x d) ((wr.setCell ⟨Y, x, none⟩ (.bool d)).setCell ⟨X, x, none⟩ (.int .i64 y)) :=
  ⟨(h.bl.setCell (p := ⟨Y, x, none⟩) h.s.lt.1 _).setCell (p := ⟨X, x, none⟩) h.p.lt.1 _, (h.p.far (set_far h.ne)).set x y, (h.s.set x d).far (set_far fun e => h.ne e.symm)⟩
theorem K1.at2 {V wr : World} {N X Y : Nat} {P : Nat → Int} {S : Nat → Bool} (h : K1 V N X Y P S wr) {x : Nat} (hx : x < N) (d : Bool) : (wr.setCell ⟨Y, x, none⟩ (.bool d)).cell? ⟨X, x, none⟩ = some (.int .i64 (P x)) ∧ (wr.setCell ⟨Y, x, none⟩ (.bool d)).frozen? ⟨X, x, none⟩ = false := (h.p.far (set_far h.ne)).at hx
theorem K1.drew {V wr : World} {N X Y : Nat} {P : Nat → Int} {S : Nat → Bool} (h : K1 V N X Y P S wr) (n : Nat) : K1 V N X Y P S (wr.drewN n) := ⟨h.bl.trans ((drew_below wr n).mono h.bl.size), h.p.far rfl, h.s.far rfl⟩
theorem K1.eq {V wr : World} {N X Y : Nat} {P P' : Nat → Int} {S S' : Nat → Bool} (h : K1 V N X Y P S wr) (k : ∀ x, P x = P' x) (l : ∀ x, S x = S' x) : K1 V N X Y P' S' wr := ⟨h.bl, h.p.eq k, h.s.eq l⟩
/-- While what is needed is marked. -/
structure K2 (V : World) (N Z : Nat) (S : Nat → Bool) (wr : World) : Prop where
  bl : Below V.heap.size V wr
  s : LFB wr V.heap.size Z N S
theorem K2.set {V wr : World} {N Z : Nat} {S : Nat → Bool} (h : K2 V N Z S wr) (x : Nat) (d : Bool) : K2 V N Z (upB S x d) (wr.setCell ⟨Z, x, none⟩ (.bool d)) := ⟨h.bl.setCell (p := ⟨Z, x, none⟩) h.s.lt.1 _, h.s.set x d⟩
theorem K2.drew {V wr : World} {N Z : Nat} {S : Nat → Bool} (h : K2 V N Z S wr) (n : Nat) : K2 V N Z S (wr.drewN n) := ⟨h.bl.trans ((drew_below wr n).mono h.bl.size), h.s.far rfl⟩
theorem K2.eq {V wr : World} {N Z : Nat} {S S' : Nat → Bool} (h : K2 V N Z S wr) (l : ∀ x, S x = S' x) : K2 V N Z S' wr := ⟨h.bl, h.s.eq l⟩
set_option maxRecDepth 100000 in
set_option maxHeartbeats 64000000 in
theorem kahn_main (w : World) (N : Nat) (E : List (Nat × Nat)) (hg : GOK N E) (p : Option Addr) (c : Nat) (hv : GS KE w (.slice p E.length c) (eI E)) (hr : rnL N E = []) (hf : fitB N (eI E) = true) : Calls Try.prog 6 #[.agg #[.int .i64 N, .slice p E.length c]] w fun e w' => e = .returned (.bool true) ∧ Below w.heap.size w w' := by
  generalize hW : w.alloc (.cells #[.int .i64 N, .slice p E.length c] 24) = W
  obtain ⟨bw, c0⟩ := graph_box w N p E.length c hW
  have BW := hid bw
  have C0 := hid c0
  obtain ⟨d0, d1⟩ := c0 W (Below.refl _ _)
  have WK := hid (works_any W)
  have GV := hid (fun W' (hb : Below W.heap.size W W') => (hv.below bw).below hb)
  have FI := hid (fun W' (hb : Below W.heap.size W W') => fits_any W' N _ (eI E) (GV.out W' hb))
  have RO := hid (fun W' (hb : Below W.heap.size W W') => Round_any W' N _ (eI E) (GV.out W' hb))
  have OR := hid (fun W' (hb : Below W.heap.size W W') => Order_any W' N _ (eI E) (GV.out W' hb))
  have LV1 := hid (fun W' (hb : Below W.heap.size W W') => Levels_any W' N _ (eI E) (GV.out W' hb))
  have TU := hid (fun W' (hb : Below W.heap.size W W') => turn_any W' N _ (eI E) (GV.out W' hb))
  have OT := hid (fun W' v (h : GS KE W' v (eI (tu E))) => Order_any W' N v (eI (tu E)) h)
  rw [hf] at FI
  rw [rnA_ok hg, hr, hg.chk] at RO
  rw [(orE_yes hg hr).1, (orE_yes hg hr).2] at OR
  rw [(orE_yes hg hr).1, leA_yes hg hr] at LV1
  rw [(orE_yes (tu_ok hg) (rn_turn hr)).1] at OT
  have et : tuN N (eI E) = N ∧ tuL N (eI E) = eI (tu E) := by unfold tuN tuL; rw [if_pos hg.chk, if_pos hg.chk]; exact ⟨rfl, eI_tu E⟩
  rw [et.1, et.2, hg.chk] at TU
  unfold AnsI at RO OR LV1 OT
  unfold AnsG at TU
  obtain ⟨kD, lD⟩ := orL_ko hg hr
  have LDN : (nI (orL N E)).length = N := by rw [nI_len, lD]
  have LLN : (leL N E).length = N := by unfold leL; simp
  rw [LDN] at OR
  rw [LLN] at LV1
  have NB : N ≤ 4096 := hg.n
  have EB : E.length ≤ 16384 := hg.e
  have HG := hid hg
  have KA := hid (fun e (he : e ∈ E) => ka_edge hg hr he)
  have LV0 := hid (LV.all hg kD)
  have OA := hid (fun x (hx : x < N) => orL_all hg hr x hx)
  have LE : Hid (leL N E = (List.range N).map (lvF (nx N E) (orL N E))) := rfl
  have ND := hid (fun x => ndF_all LV0.out x)
  rw [LE.out] at LV1
  have KD := hid kD
  have KN := hid kD.nodup
  generalize orL N E = D at *
  have FB := hid (fun x => And.intro (LV0.out.lo x) (LV0.out.hi x))
  generalize lvF (nx N E) D = F at *
  rw [lD] at FB
  have LD := hid lD
  have EL2 := hid (fun e (he : e ∈ E) => hg.lt e he)
  rw [eI_len, show (tu E).length = E.length from by unfold tu; simp] at TU
  clear et LDN LLN hf hr hg hv kD LE
  obtain ⟨el, hel⟩ : ∃ el, el = E.length := ⟨_, rfl⟩
  have ME : Hid (E.length = el) := hel.symm
  rw [← hel] at hW d1 C0 GV FI RO OR LV1 TU EB ⊢
  rw [show nI ([] : List Nat) = [] from rfl] at RO
  clear hel
  go_enter Try.func6, Try.ntmps6
  go_upto_region 14 with (first
    | (go_at_call 20; refine WK.out.mono ?_; rintro e w1 ⟨rfl, hb1⟩; have B1 := hid hb1; obtain ⟨g0, g1⟩ := C0.out _ hb1; clear hb1)
    | (go_at_call 21; refine (FI.out _ B1.out).mono ?_; rintro e w2 ⟨rfl, hb2⟩; have B2 := hid (bl3 B1.out hb2); obtain ⟨g2, g3⟩ := C0.out _ B2.out; clear hb2)
    | (go_at_call 24; refine (RO.out _ B2.out).mono ?_; rintro e w3 ⟨q3, c3, rfl, _, hb3⟩; have B3 := hid (bl3 B2.out hb3); obtain ⟨g4, g5⟩ := C0.out _ B3.out; clear hb3)
    | (go_at_call 25; refine (OR.out _ B3.out).mono ?_; rintro e w4 ⟨q4, c4, rfl, h4, hb4⟩; have B4 := hid (bl3 B3.out hb4); have O4 := hid h4; obtain ⟨g6, g7⟩ := C0.out _ B4.out; clear hb4 h4)
    | (go_at_call 26; refine (LV1.out _ B4.out).mono ?_; rintro e w5 ⟨q5, c5, rfl, h5, hb5⟩; have B5 := hid (bl3 B4.out hb5); have O5 := hid (O4.out.below hb5); have L5 := hid h5; obtain ⟨g8, g9⟩ := C0.out _ B5.out; clear hb5 h5))
  clear d0 d1 g0 g1 g2 g3 g4 g5 g6 g7 WK FI RO OR LV1 O4
  go_upto_region 16 with (first
    | (refine make_g KI KI_ok 0 rfl rfl w5 rfl (.tmp 80) (.tmp 80) 25 rfl Try.underlying25 N rfl rfl (by omega) (by decide) ?_; intro w6 ho6 hb6; have O6 := hid ho6; have B6 := hid hb6; obtain ⟨y0, y1⟩ := C0.out _ (bl3 B5.out hb6); clear ho6 hb6)
    | (refine make_g KB KB_ok false rfl rfl w6 rfl (.tmp 83) (.tmp 83) 49 rfl Try.underlying49 N rfl rfl (by omega) (by decide) ?_; intro w7 ho7 hb7; have K0 : Hid (K1 w5 N w5.heap.size w6.heap.size (plF D 0) (snF D 0) w7) := ⟨bl3 B6.out hb7, ((LFR.zero O6.out : LFR w6 w5.heap.size w5.heap.size N (fun _ => 0)).eq fun x => (plF_zero D x).symm).far (hb7.block _ (LFR.zero O6.out : LFR w6 w5.heap.size w5.heap.size N (fun _ => 0)).lt.2), ((LFB.none ho7).low B6.out.size).eq fun x => (snF_zero D x).symm⟩; clear ho7 hb7))
  obtain ⟨X, hX⟩ : ∃ X, X = w5.heap.size := ⟨_, rfl⟩
  obtain ⟨Y, hY⟩ : ∃ Y, Y = w6.heap.size := ⟨_, rfl⟩
  rw [← hX, ← hY] at K0
  rw [← hX, ← hY]
  have BB : Hid (Below w.heap.size w w5) := bl3 BW.out B5.out
  obtain ⟨sz, hsz⟩ : ∃ sz, sz = w.heap.size := ⟨_, rfl⟩
  have GC0 : Hid (∀ W', Below w5.heap.size w5 W' → W'.cell? ⟨sz, 0, none⟩ = some (.int .i64 N) ∧ W'.cell? ⟨sz, 1, none⟩ = some (.slice p el c)) := fun W' hb => by rw [hsz]; exact C0.out W' (bl3 B5.out hb)
  have GE := hid (fun wq (hb : Below w5.heap.size w5 wq) j (hj : j < E.length) => GS.atN (GV.out wq (bl3 B5.out hb)) hj)
  have GD := hid (fun wq (hb : Below w5.heap.size w5 wq) j (hj : j < (nI D).length) => GS.atI (O5.out.below hb) hj)
  have GL := hid (fun wq (hb : Below w5.heap.size w5 wq) y (hy : y < N) => far_at (L5.out.below hb) hy)
  have TU2 := hid (fun wq (hb : Below w5.heap.size w5 wq) => TU.out wq (bl3 B5.out hb))
  rw [← hsz]
  clear hX hY hsz C0 GV TU BW hW g8 g9 y0 y1 B5 B6 O5 L5 O6
  go_wp2_with fail
  go_loopw [11] (fun v11 wr => ∃ (k : Nat) (wk : World), v11 = .int .i64 k ∧ wk = wr ∧ k ≤ N ∧ Hid (K1 w5 N X Y (plF D k) (snF D k) wk)) (fun v11 _ => N - (intOf v11).toNat)
  case atStart => exact ⟨0, _, rfl, rfl, Nat.zero_le _, K0⟩
  case round =>
    obtain ⟨k, wr, rfl, rfl, hk, HK⟩ := hrel
    clear K0
    obtain ⟨d0, d1⟩ := GC0.out wr HK.out.bl
    by_cases hlt : k < N
    · have k1 : k < D.length := by have := LD.out; omega
      have hx : D[k] < N := KD.out.lt _ (List.getElem_mem k1)
      obtain ⟨Z4, o4, e4, c1⟩ := GD.out wr HK.out.bl k (by rw [nI_len]; exact k1)
      obtain ⟨Z5, o5, e5, c2⟩ := GD.out (wr.setCell ⟨Y, D[k], none⟩ (.bool true)) (HK.out.bl.setCell (p := ⟨Y, D[k], none⟩) HK.out.s.lt.1 _) k (by rw [nI_len]; exact k1)
      rw [nI_at k1] at c1 c2
      subst e4
      injection e5 with e5
      injection e5 with e5 e6 _
      rw [← e5, ← e6] at c2
      clear e5 e6
      have c3 : ∀ nq, ((wr.drewN nq).setCell ⟨Y, D[k], none⟩ (.bool true)).cell? ⟨Z4, o4 + k, none⟩ = some (.int .i64 (D[k] : Nat)) := fun _ => c2
      have s1 := (HK.out.s.at hx).1
      rw [snF_no KN.out k1] at s1
      have s2 := (HK.out.s.at hx).2
      have s3 := (HK.out.p.at hx).2
      have s4 : ∀ nq, ((wr.drewN nq).setCell ⟨Y, D[k], none⟩ (.bool true)).cell? ⟨X, D[k], none⟩ = some (.int .i64 (plF D k D[k])) := fun _ => (HK.out.at2 hx true).1
      have N2 := hid (fun nq => ((HK.out.drew nq).set D[k] true k).eq (plF_succ KN.out k1) (snF_succ k1))
      generalize D[k] = x at *
      have hxi : (x : Int) < (N : Nat) := by omega
      have hx0 : ¬ (x : Int) < 0 := by omega
      have hx1 : ¬ (N : Int) ≤ (x : Nat) := by omega
      have hki : (k : Int) < (N : Nat) := by omega
      generalize plF D k x = fx at *
      clear HK
      go_wp2_with fail
      go_quiet (fail)
      go_wp2_with fail
      all_goals
        go_roundw
        case rel => exact ⟨k + 1, _, by go_num, rfl, by omega, N2.out _⟩
        case measure => simp [intOf]; omega
    · obtain rfl : k = N := by omega
      have KP := hid (fun e (he : e ∈ E) => (by
        have h1 := OA.out _ (EL2.out e he).1
        have h2 := OA.out _ (EL2.out e he).2
        have h3 := KA.out e he
        have e1 := plF_all h1
        have e2 := plF_all h2
        rw [LD.out] at e1 e2
        rw [e1, e2]
        exact h3 : plF D k e.1 < plF D k e.2 ∧ F e.1 < F e.2))
      have LP := hid HK.out.p
      have BL5 := hid HK.out.bl
      generalize plF D k = P at *
      clear HK KA OA LD KD KN GD hk hlt
      go_upto_region 24 with (refine make_g KB KB_ok false rfl rfl wr rfl (.tmp 128) (.tmp 128) 49 rfl Try.underlying49 k rfl rfl (by omega) (by decide) ?_; intro w8 ho8 hb8; have J0 : Hid (K2 wr k wr.heap.size (ndF E F 0) w8) := ⟨hb8, (LFB.none ho8).eq fun x => (ndF_zero E F x).symm⟩; clear ho8 hb8)
      obtain ⟨Z, hZ⟩ : ∃ Z, Z = wr.heap.size := ⟨_, rfl⟩
      rw [← hZ] at J0 ⊢
      clear hZ d0 d1
      go_wp2_with fail
      go_loopw [13] (fun v13 wq => ∃ (j : Nat) (wk : World), v13 = .int .i64 j ∧ wk = wq ∧ j ≤ el ∧ Hid (K2 wr k Z (ndF E F j) wk)) (fun v13 _ => el - (intOf v13).toNat)
      case atStart => exact ⟨0, _, rfl, rfl, Nat.zero_le _, J0⟩
      case round =>
        obtain ⟨j, wq, rfl, rfl, hj, HJ⟩ := hrel
        clear J0
        have Bq := hid (bl3 BL5.out HJ.out.bl)
        obtain ⟨d0, d1⟩ := GC0.out wq Bq.out
        by_cases hlt2 : j < el
        · have j1 : j < E.length := by have := ME.out; omega
          obtain ⟨Y1, o1, e1, c1, c2⟩ := GE.out wq Bq.out j j1
          subst e1
          have ha := (EL2.out _ (List.getElem_mem j1)).1
          have hb := (EL2.out _ (List.getElem_mem j1)).2
          have kp := KP.out _ (List.getElem_mem j1)
          have f1 := (LFR.at (LP.out.below HJ.out.bl : LFR wq w5.heap.size X k P) ha).1
          have f2 := (LFR.at (LP.out.below HJ.out.bl : LFR wq w5.heap.size X k P) hb).1
          obtain ⟨Y5, o5, e5, l1⟩ := GL.out wq Bq.out E[j].1 ha
          obtain ⟨Y6, o6, e6, l2⟩ := GL.out wq Bq.out E[j].2 hb
          subst e5
          injection e6 with e6
          injection e6 with e6 e7 _
          rw [← e6, ← e7] at l2
          clear e6 e7
          obtain ⟨n1, n2⟩ := HJ.out.s.at hb
          have N2 := hid (fun nq => ((HJ.out.drew nq).set E[j].2 (ndF E F j E[j].2 || decide (F E[j].1 + 1 = F E[j].2))).eq (ndF_succ j1))
          have fb := FB.out E[j].1
          generalize ndF E F j E[j].2 = nb at *
          generalize F E[j].1 = fa at *
          generalize F E[j].2 = fy at *
          generalize P E[j].1 = pa at *
          generalize P E[j].2 = py at *
          generalize E[j].1 = a at *
          generalize E[j].2 = b at *
          have hai : (a : Int) < (k : Nat) := by omega
          have hbi : (b : Int) < (k : Nat) := by omega
          have hji : (j : Int) < (el : Nat) := by omega
          have g1 : ¬ py ≤ pa := by omega
          have g2 : ¬ fy ≤ fa := by omega
          clear HJ kp KP
          cases nb with
          | true =>
            rw [Bool.true_or] at N2
            go_wp2_with fail
            go_quiet (fail)
            go_wp2_with fail
            go_quiet (fail)
            go_wp2_with fail
            go_region
            all_goals
              go_wp2_with fail
              go_roundw
              case rel => exact ⟨j + 1, _, by go_num, rfl, by omega, N2.out _⟩
              case measure => simp [intOf]; omega
          | false =>
            rw [Bool.false_or] at N2
            by_cases hq : fa + 1 = fy
            · have b1 : (fa + 1 == fy) = true := by simp [hq]
              rw [decide_eq_true hq] at N2
              go_wp2_with fail
              go_quiet (fail)
              go_wp2_with fail
              go_quiet (fail)
              go_wp2_with fail
              go_region
              all_goals
                go_wp2_with fail
                go_roundw
                case rel => exact ⟨j + 1, _, by go_num, rfl, by omega, N2.out _⟩
                case measure => simp [intOf]; omega
            · have b1 : (fa + 1 == fy) = false := by simp [hq]
              rw [decide_eq_false hq] at N2
              go_wp2_with fail
              go_quiet (fail)
              go_wp2_with fail
              go_quiet (fail)
              go_wp2_with fail
              go_region
              all_goals
                go_wp2_with fail
                go_roundw
                case rel => exact ⟨j + 1, _, by go_num, rfl, by omega, N2.out _⟩
                case measure => simp [intOf]; omega
        · obtain rfl : j = el := by omega
          have S0 : Hid (K2 wr k Z (fun x => decide (0 < F x)) wq) := HJ.out.eq fun x => by rw [← ND.out x, ME.out]
          clear HJ KP LP GE
          go_wp2_with fail
          go_loopw [16] (fun v16 wz => ∃ (i : Nat) (wk : World), v16 = .int .i64 i ∧ wk = wz ∧ i ≤ k ∧ Hid (K2 wr k Z (fun x => decide (0 < F x)) wk)) (fun v16 _ => k - (intOf v16).toNat)
          case atStart => exact ⟨0, _, rfl, rfl, Nat.zero_le _, S0⟩
          case round =>
            obtain ⟨i, wz, rfl, rfl, hi, HS⟩ := hrel
            clear S0 d0 d1 Bq
            have Bz := hid (bl3 BL5.out HS.out.bl)
            obtain ⟨d0, d1⟩ := GC0.out wz Bz.out
            by_cases hlt3 : i < k
            · obtain ⟨Y5, o5, e5, l1⟩ := GL.out wz Bz.out i hlt3
              subst e5
              obtain ⟨n1, _⟩ := HS.out.s.at hlt3
              have N2 := hid (fun nq => HS.out.drew nq)
              have fb := (FB.out i).1
              generalize F i = fi at *
              have hii : (i : Int) < (k : Nat) := by omega
              have g2 : ¬ fi < 0 := by omega
              clear HS
              by_cases hp : 0 < fi
              · have n2 : wz.cell? ⟨Z, i, none⟩ = some (.bool true) := by rw [n1, decide_eq_true hp]
                clear n1
                go_wp2_with fail
                go_quiet (fail)
                go_wp2_with fail
                all_goals
                  go_roundw
                  case rel => exact ⟨i + 1, _, by go_num, rfl, by omega, N2.out _⟩
                  case measure => simp [intOf]; omega
              · have n2 : wz.cell? ⟨Z, i, none⟩ = some (.bool false) := by rw [n1, decide_eq_false hp]
                clear n1
                go_wp2_with fail
                go_quiet (fail)
                go_wp2_with fail
                all_goals
                  go_roundw
                  case rel => exact ⟨i + 1, _, by go_num, rfl, by omega, N2.out _⟩
                  case measure => simp [intOf]; omega
            · obtain rfl : i = k := by omega
              have BZ2 := hid (bl3 BB.out Bz.out)
              clear HS
              go_wp2_with (first
                | (go_at_call 27; refine (TU2.out _ Bz.out).mono ?_; rintro e w9 ⟨p9, c9, rfl, o9, b9⟩; have O9 := hid (o9.gs KE_ok.len); have B9 := hid b9; have z0 : (w9.alloc (.cells #[.int .i64 i, .slice p9 j c9] 24)).cell? ⟨w9.heap.size, 0, none⟩ = some (.int .i64 i) := cell_of_row _ _ _ _ _ _ (heap_alloc_new _ _); have z1 : (w9.alloc (.cells #[.int .i64 i, .slice p9 j c9] 24)).cell? ⟨w9.heap.size, 1, none⟩ = some (.slice p9 j c9) := cell_of_row _ _ _ _ _ _ (heap_alloc_new _ _); clear o9 b9)
                | (go_at_call 25; refine (OT.out _ _ (O9.out.below (bal _ _))).mono ?_; rintro e w10 ⟨q10, c10, rfl, _, b10⟩; have B10 := hid (bl2 b10); clear b10))
              go_ret
              exact ⟨rfl, bl3 BZ2.out (bl3 B9.out B10.out)⟩
end Go.Proofs.Ythhjknpfaghfbaa
namespace Go.Proofs.Ythhjknpfaghfbaa
open Go.RowKit

set_option maxRecDepth 100000 in
set_option maxHeartbeats 16000000 in
theorem graphKahn_any (w : World) (n : Int) (v : Value) (l : List (Int × Int)) (hv : GS KE w v l) : Calls Try.prog 6 #[.agg #[.int .i64 n, v]] w fun e w' => e = .returned (.bool true) ∧ Below w.heap.size w w' := by
  obtain ⟨p, c, rfl⟩ := hv.form
  by_cases hm : fitB n l = true ∧ rnL n.toNat (eN l) = []
  · obtain ⟨N, E, rfl, rfl, hg, _, _⟩ := fitB_ok hm.1
    have hr := hm.2
    rw [eN_eI, Int.toNat_natCast] at hr
    rw [eI_len] at hv ⊢
    exact kahn_main w N E hg p c hv hr hm.1
  generalize hW : w.alloc (.cells #[.int .i64 n, .slice p l.length c] 24) = W
  obtain ⟨bw, c0⟩ := graph_box w n p l.length c hW
  have BW := hid bw
  have C0 := hid c0
  obtain ⟨d0, d1⟩ := c0 W (Below.refl _ _)
  have WK := hid (works_any W)
  have GV := hid (fun W' (hb : Below W.heap.size W W') => (hv.below bw).below hb)
  have FI := hid (fun W' (hb : Below W.heap.size W W') => fits_any W' n _ l (GV.out W' hb))
  cases hf : fitB n l with
  | false =>
    rw [hf] at FI
    generalize l.length = m at *
    clear GV hv hm hf bw c0
    go_enter Try.func6, Try.ntmps6
    go_wp2_with (first
      | (go_at_call 20; refine WK.out.mono ?_; rintro e w1 ⟨rfl, hb1⟩; have B1 := hid hb1; obtain ⟨g0, g1⟩ := C0.out _ hb1; clear hb1)
      | (go_at_call 21; refine (FI.out _ B1.out).mono ?_; rintro e w2 ⟨rfl, hb2⟩; have B2 := hid (bl3 B1.out hb2); clear hb2))
    go_ret
    exact ⟨rfl, bl3 BW.out B2.out⟩
  | true =>
    obtain ⟨N, E, rfl, rfl, hg, _, _⟩ := fitB_ok hf
    have hr : rnL N E ≠ [] := fun q => hm ⟨hf, by rw [eN_eI, Int.toNat_natCast]; exact q⟩
    have RO := hid (fun W' (hb : Below W.heap.size W W') => Round_any W' N _ (eI E) (GV.out W' hb))
    have OR := hid (fun W' (hb : Below W.heap.size W W') => Order_any W' N _ (eI E) (GV.out W' hb))
    have LV1 := hid (fun W' (hb : Below W.heap.size W W') => Levels_any W' N _ (eI E) (GV.out W' hb))
    rw [hf] at FI
    rw [rnA_ok hg, hg.chk] at RO
    rw [(orE_not hg hr).1, (orE_not hg hr).2] at OR
    rw [(orE_not hg hr).1, leA_no (by rw [(orE_not hg hr).1]; decide)] at LV1
    unfold AnsI at RO OR LV1
    obtain ⟨a, t, hat⟩ := List.exists_cons_of_ne_nil hr
    have RL : (nI (rnL N E)).length = t.length + 1 := by rw [hat, nI_len]; rfl
    rw [RL] at RO
    generalize t.length = tl at *
    have b1 : ((tl : Int) + 1 == 0) = false := by simp; omega
    generalize (eI E).length = m at *
    clear GV hv hm hf bw c0 hr hat RL hg
    go_enter Try.func6, Try.ntmps6
    go_wp2_with (first
      | (go_at_call 20; refine WK.out.mono ?_; rintro e w1 ⟨rfl, hb1⟩; have B1 := hid hb1; obtain ⟨g0, g1⟩ := C0.out _ hb1; clear hb1)
      | (go_at_call 21; refine (FI.out _ B1.out).mono ?_; rintro e w2 ⟨rfl, hb2⟩; have B2 := hid (bl3 B1.out hb2); obtain ⟨g2, g3⟩ := C0.out _ B2.out; clear hb2)
      | (go_at_call 24; refine (RO.out _ B2.out).mono ?_; rintro e w3 ⟨q3, c3, rfl, _, hb3⟩; have B3 := hid (bl3 B2.out hb3); obtain ⟨g4, g5⟩ := C0.out _ B3.out; clear hb3)
      | (go_at_call 25; refine (OR.out _ B3.out).mono ?_; rintro e w4 ⟨q4, c4, rfl, _, hb4⟩; have B4 := hid (bl3 B3.out hb4); obtain ⟨g6, g7⟩ := C0.out _ B4.out; clear hb4)
      | (go_at_call 26; refine (LV1.out _ B4.out).mono ?_; rintro e w5 ⟨q5, c5, rfl, _, hb5⟩; have B5 := hid (bl3 B4.out hb5); clear hb5))
    go_ret
    exact ⟨rfl, bl3 BW.out B5.out⟩
end Go.Proofs.Ythhjknpfaghfbaa
