/- Graph: the law GraphReaches. -/
import Derived.Test.YtafodnidbokhcaaYd1
import Derived.Test.YtafodnidbokhcaaYd4
namespace Go.Proofs.Ytafodnidbokhcaa
open Go.RowKit

theorem nxA_len (n : Int) (e : List (Int × Int)) (x : Int) : (nxA n e x).length ≤ 4096 := by
  by_cases h : nxE n e x = 0
  · obtain ⟨N, E, i, rfl, rfl, hg, rfl, hi⟩ := nxE_ok h
    rw [(nxE_at hg hi).2, nI_len]
    exact Nat.le_trans (nx_len _ _ _) hg.n
  · rw [nxE_no h]; simp
theorem reA_len (n : Int) (e : List (Int × Int)) (F : List Int) : (reA n e F).length ≤ 4096 := by
  by_cases h : reE n e F = 0
  · unfold reE at h
    split at h
    · rename_i h1
      split at h
      · cases h
      · rename_i h2
        split at h
        · rename_i h3
          obtain ⟨N, E, F0, rfl, rfl, hg, rfl, _, _, hA⟩ := reE_ok h1 (by omega) h3
          rw [hA, nI_len]
          exact Nat.le_trans (reL_len _ _ _) hg.n
        · cases h
    · rename_i h1; exact absurd h h1
  · rw [reE_no h]; simp
theorem tuL_len (n : Int) (e : List (Int × Int)) : (tuL n e).length ≤ 16384 := by
  unfold tuL
  split
  · rename_i h; rw [List.length_map]; exact chk_len h
  · simp
set_option maxRecDepth 100000 in
set_option maxHeartbeats 32000000 in
theorem graphReaches_any (w : World) (n : Int) (v : Value) (l : List (Int × Int)) (hv : GS KE w v l) (x : Int) (u : Value) (F : List Int) (hu : GS KI w u F) (hl : l.length * 16 ≤ 140737488355328) (hF : F.length * 8 ≤ 140737488355328) : Calls Try.prog 3 #[.agg #[.int .i64 n, v], .int .i64 x, u] w fun e w' => e = .returned (.bool true) ∧ Below w.heap.size w w' := by
  obtain ⟨p, c, rfl⟩ := hv.form
  obtain ⟨pf, cf, rfl⟩ := hu.form
  generalize hW : w.alloc (.cells #[.int .i64 n, .slice p l.length c] 24) = W
  have BW : Hid (Below w.heap.size w W) := by rw [← hW]; exact bal _ _
  have H0 : Hid (∀ W', Below W.heap.size W W' → W'.heap[w.heap.size]? = some (.cells #[.int .i64 n, .slice p l.length c] 24)) := fun W' hb => (hb.block _ (by rw [← hW, asz]; omega)).trans (by rw [← hW]; exact heap_alloc_new _ _)
  have d0 : W.cell? ⟨w.heap.size, 0, none⟩ = some (.int .i64 n) := cell_of_row _ _ _ _ _ _ (H0.out W (Below.refl _ _))
  have d1 : W.cell? ⟨w.heap.size, 1, none⟩ = some (.slice p l.length c) := cell_of_row _ _ _ _ _ _ (H0.out W (Below.refl _ _))
  have CP := hid (copied_any W n _ l (hv.below BW.out) hl)
  have CI := hid (fun W' (hb : Below W.heap.size W W') => copyInts_any W' _ F (hu.below (bl3 BW.out hb)) hF)
  have GV := hid (fun W' (hb : Below w.heap.size w W') => hv.below hb)
  have GU := hid (fun W' (hb : Below w.heap.size w W') => hu.below hb)
  obtain ⟨m, hm⟩ : ∃ m, m = l.length := ⟨_, rfl⟩
  obtain ⟨fl, hfl⟩ : ∃ fl, fl = F.length := ⟨_, rfl⟩
  rw [← hm] at H0 d1 CP GV hW
  rw [← hfl] at CI GU
  rw [← hm, ← hfl]
  have L1 : Hid (l.length ≤ 140737488355328) := by show _ ≤ _; omega
  have L2 : Hid (F.length ≤ 140737488355328) := by show _ ≤ _; omega
  have LA := nxA_len n l x
  have LB := reA_len n l F
  have LT := tuL_len n l
  clear hm hfl hv hu hl hF
  go_enter Try.func3, Try.ntmps3
  go_upto_region 2 with (first | (go_at_call 9; refine CP.out.mono ?_; rintro e w1 ⟨p1, c1, rfl, o1, b1⟩; have O1 := hid o1; have B1 := hid b1; clear o1 b1) | (go_at_call 10; refine (CI.out _ B1.out).mono ?_; rintro e w2 ⟨p2, c2, rfl, o2, b2⟩; have O2 := hid o2; have B2 := hid b2; clear o2 b2))
  generalize hW3 : w2.alloc (.cells #[.int .i64 n, .slice p1 m c1] 24) = W3 at *
  have B3 : Hid (Below W.heap.size W W3) := by rw [← hW3]; exact bl3 (bl3 B1.out B2.out) (bal _ _)
  have BB : Hid (Below w.heap.size w W3) := bl3 BW.out B3.out
  have GO : Hid (∀ W', Below W3.heap.size W3 W' → GS KE W' (.slice p1 m c1) l) := fun W' hb => ((O1.out.gs KE_ok.len).below (bl3 B2.out (bal _ _))).below (by rw [hW3]; exact hb)
  have GM : Hid (∀ W', Below W3.heap.size W3 W' → GS KI W' (.slice p2 fl c2) F) := fun W' hb => ((O2.out.gs KI_ok.len).below (bal _ _)).below (by rw [hW3]; exact hb)
  have CB : Hid (∀ W', Below W3.heap.size W3 W' → (W'.cell? ⟨w.heap.size, 0, none⟩ = some (.int .i64 n) ∧ W'.cell? ⟨w.heap.size, 1, none⟩ = some (.slice p m c)) ∧ W'.cell? ⟨w2.heap.size, 0, none⟩ = some (.int .i64 n) ∧ W'.cell? ⟨w2.heap.size, 1, none⟩ = some (.slice p1 m c1)) := fun W' hb => by
    have e0 := H0.out W' (bl3 B3.out hb)
    have e1 : W'.heap[w2.heap.size]? = some (.cells #[.int .i64 n, .slice p1 m c1] 24) := (hb.block _ (by rw [← hW3, asz]; omega)).trans (by rw [← hW3]; exact heap_alloc_new _ _)
    exact ⟨⟨cell_of_row _ _ _ _ _ _ e0, cell_of_row _ _ _ _ _ _ e0⟩, cell_of_row _ _ _ _ _ _ e1, cell_of_row _ _ _ _ _ _ e1⟩
  have GV2 : Hid (∀ W', Below W3.heap.size W3 W' → GS KE W' (.slice p m c) l) := fun W' hb => GV.out W' (bl3 BB.out hb)
  have GU2 : Hid (∀ W', Below W3.heap.size W3 W' → GS KI W' (.slice pf fl cf) F) := fun W' hb => GU.out W' (bl3 BB.out hb)
  obtain ⟨sz, hsz⟩ : ∃ sz, sz = w.heap.size := ⟨_, rfl⟩
  obtain ⟨q7, hq7⟩ : ∃ q7, q7 = w2.heap.size := ⟨_, rfl⟩
  rw [← hsz, ← hq7] at CB
  rw [← hsz, ← hq7]
  clear hsz hq7 hW3 hW O1 O2 B1 B2 CP CI GV GU H0 d0 d1 B3 BW
  have BD : Hid (Below W3.heap.size W3 W3.drew) := drew_below W3 1
  have K1 := hid (fun W' (hb : Below W3.heap.size W3 W') => check_any W' n _ l (GO.out W' hb))
  have K2 := hid (fun W' (hb : Below W3.heap.size W3 W') => rcheck_any W' n _ l (GV2.out W' hb))
  have N1 := hid (fun W' (hb : Below W3.heap.size W3 W') => next_any W' n _ l (GO.out W' hb) x)
  have N2 := hid (fun W' (hb : Below W3.heap.size W3 W') => rNext_any W' n _ l (GV2.out W' hb) x)
  have R1 := hid (fun W' (hb : Below W3.heap.size W3 W') => reach_any W' n _ l (GO.out W' hb) _ F (GM.out W' hb) L2.out)
  have R2 := hid (fun W' (hb : Below W3.heap.size W3 W') => rReach_any W' n _ l (GV2.out W' hb) _ F (GU2.out W' hb) L2.out)
  have T1 := hid (fun W' (hb : Below W3.heap.size W3 W') => turn_any W' n _ l (GO.out W' hb))
  have T2 := hid (fun W' (hb : Below W3.heap.size W3 W') => rTurn_any W' n _ l (GV2.out W' hb))
  have SI : Hid (∀ (W' : World) (a b : Value) (L : List Int), GS KI W' a L → GS KI W' b L → L.length ≤ 140737488355328 → Calls Try.prog 15 #[a, b] W' fun e w' => e = .returned (.bool true) ∧ Below W'.heap.size W' w') := fun W' a b L h1 h2 h3 => by
    have := sameInts_any W' a b L L h1 h2 h3
    rw [decide_eq_true rfl] at this
    exact this
  have SO := hid (fun W' (hb : Below W3.heap.size W3 W') => same_same W' n _ _ l (GO.out W' hb) (GV2.out W' hb) L1.out)
  have SF := hid (fun W' (hb : Below W3.heap.size W3 W') => SI.out W' _ _ F (GM.out W' hb) (GU2.out W' hb) L2.out)
  generalize chkG n l = ck at *
  obtain ⟨A, hA⟩ : ∃ A, A = nxA n l x := ⟨_, rfl⟩
  obtain ⟨B, hB⟩ : ∃ B, B = reA n l F := ⟨_, rfl⟩
  obtain ⟨D, hD⟩ : ∃ D, D = tuL n l := ⟨_, rfl⟩
  rw [← hA] at N1 N2 LA
  rw [← hB] at R1 R2 LB
  rw [← hD] at T1 T2 LT
  clear hA hB hD
  generalize nxE n l x = ra at *
  generalize reE n l F = rb at *
  generalize tuN n l = tn at *
  go_cut [23] from 19 (fun v23 wx => v23 = .bool false ∧ ∃ wk, wk = wx ∧ Hid (Below W3.heap.size W3 wk))
  case first =>
    go_region_held3 (fun w' => (w'.cell? ⟨sz, 0, none⟩ = some (.int .i64 n) ∧ w'.cell? ⟨sz, 1, none⟩ = some (.slice p m c)) ∧ w'.cell? ⟨q7, 0, none⟩ = some (.int .i64 n) ∧ w'.cell? ⟨q7, 1, none⟩ = some (.slice p1 m c1)) (first | exact CB.out _ BD.out | go_keep) (first
      | (go_at_call 11; refine (K1.out _ (by first | exact BD.out | exact Y4.out)).mono ?_; rintro e w4 ⟨rfl, hb4⟩; have X4 : Hid (Below W3.heap.size W3 w4) := (by first | exact bl3 BD.out hb4 | exact bl3 Y4.out hb4); obtain ⟨⟨x0, x1⟩, x2, x3⟩ := CB.out _ X4.out; clear hb4)
      | (go_at_call 12; refine (K2.out _ (by first | exact BD.out | exact X4.out)).mono ?_; rintro e w5 ⟨rfl, hb5⟩; have Y4 : Hid (Below W3.heap.size W3 w5) := (by first | exact bl3 BD.out hb5 | exact bl3 X4.out hb5); obtain ⟨⟨y0, y1⟩, y2, y3⟩ := CB.out _ Y4.out; clear hb5)
      | fail)
    all_goals
      go_wp2_with fail
      go_meet
      case rel => first | exact ⟨by simp, _, rfl, X4⟩ | exact ⟨by simp, _, rfl, Y4⟩
  obtain ⟨rfl, w5, rfl, B5⟩ := hcut
  obtain ⟨⟨x0, x1⟩, x2, x3⟩ := CB.out _ B5.out
  go_upto_region 8 with (first
    | (go_at_call 13; refine (N1.out _ B5.out).mono ?_; rintro e w6 ⟨q6, c6, rfl, g6, b6⟩; have G6 := hid g6; have B6 := hid (bl3 B5.out b6); obtain ⟨⟨y0, y1⟩, y2, y3⟩ := CB.out _ B6.out; clear g6 b6)
    | (go_at_call 14; refine (N2.out _ B6.out).mono ?_; rintro e w7 ⟨r7, c7, rfl, g7, b7⟩; have S7 := hid (SI.out w7 _ _ A (G6.out.below b7) g7 (by omega)); have B7 := hid (bl3 B6.out b7); clear g7 b7)
    | (go_at_call 15; refine S7.out.mono ?_; rintro e w8 ⟨rfl, b8⟩; have B8 := hid (bl3 B7.out b8); obtain ⟨⟨z0, z1⟩, z2, z3⟩ := CB.out _ B8.out; clear b8))
  clear x0 x1 x2 x3 y0 y1 y2 y3 G6 S7 N1 N2 K1 K2
  go_upto_region 12 with (first
    | (go_at_call 16; refine (R1.out _ B8.out).mono ?_; rintro e w9 ⟨q9, c9, rfl, g9, b9⟩; have G9 := hid g9; have B9 := hid (bl3 B8.out b9); obtain ⟨⟨y0, y1⟩, y2, y3⟩ := CB.out _ B9.out; clear g9 b9)
    | (go_at_call 17; refine (R2.out _ B9.out).mono ?_; rintro e w10 ⟨r10, c10, rfl, g10, b10⟩; have S10 := hid (SI.out w10 _ _ B (G9.out.below b10) g10 (by omega)); have B10 := hid (bl3 B9.out b10); clear g10 b10)
    | (go_at_call 15; refine S10.out.mono ?_; rintro e w11 ⟨rfl, b11⟩; have B11 := hid (bl3 B10.out b11); obtain ⟨⟨x0, x1⟩, x2, x3⟩ := CB.out _ B11.out; clear b11))
  clear z0 z1 z2 z3 y0 y1 y2 y3 G9 S10 R1 R2
  go_upto_region 13 with (go_at_call 18; refine (T1.out _ B11.out).mono ?_; rintro e w12 ⟨p12, c12, rfl, o12, b12⟩; have O12 := hid o12; have B12 := hid (bl3 B11.out b12); clear o12 b12)
  obtain ⟨V12, hV12⟩ : ∃ V, V = w12.alloc (.cells #[.int .i64 tn, .slice p12 D.length c12] 24) := ⟨_, rfl⟩
  rw [← hV12]
  have BV12 : Hid (Below w12.heap.size w12 V12) := by rw [hV12]; exact bal _ _
  have A12 : Hid (∀ W', Below V12.heap.size V12 W' → W'.cell? ⟨w12.heap.size, 0, none⟩ = some (.int .i64 tn) ∧ W'.cell? ⟨w12.heap.size, 1, none⟩ = some (.slice p12 D.length c12)) := fun W' hb => by
    have e : W'.heap[w12.heap.size]? = some (.cells #[.int .i64 tn, .slice p12 D.length c12] 24) := (hb.block _ (by rw [hV12, asz]; omega)).trans (by rw [hV12]; exact heap_alloc_new _ _)
    exact ⟨cell_of_row _ _ _ _ _ _ e, cell_of_row _ _ _ _ _ _ e⟩
  have B13 : Hid (Below W3.heap.size W3 V12) := bl3 B12.out BV12.out
  obtain ⟨⟨y0, y1⟩, y2, y3⟩ := CB.out _ B13.out
  obtain ⟨t13, ht13⟩ : ∃ t, t = w12.heap.size := ⟨_, rfl⟩
  rw [← ht13] at A12
  rw [← ht13]
  clear hV12 ht13 x0 x1 x2 x3
  go_upto_region 14 with (go_at_call 19; refine (T2.out _ B13.out).mono ?_; rintro e w14 ⟨p14, c14, rfl, o14, b14⟩; have O14 := hid o14; have B14 := hid (bl3 B13.out b14); have X14 := hid b14; clear o14 b14)
  obtain ⟨V14, hV14⟩ : ∃ V, V = w14.alloc (.cells #[.int .i64 tn, .slice p14 D.length c14] 24) := ⟨_, rfl⟩
  rw [← hV14]
  have BV14 : Hid (Below w14.heap.size w14 V14) := by rw [hV14]; exact bal _ _
  have e14 : V14.heap[w14.heap.size]? = some (.cells #[.int .i64 tn, .slice p14 D.length c14] 24) := by rw [hV14]; exact heap_alloc_new _ _
  have z0 : V14.cell? ⟨w14.heap.size, 0, none⟩ = some (.int .i64 tn) := cell_of_row _ _ _ _ _ _ e14
  have z1 : V14.cell? ⟨w14.heap.size, 1, none⟩ = some (.slice p14 D.length c14) := cell_of_row _ _ _ _ _ _ e14
  obtain ⟨k0, k1⟩ := A12.out V14 (bl3 X14.out BV14.out)
  have B15 : Hid (Below W3.heap.size W3 V14) := bl3 B14.out BV14.out
  have SS := hid (same_same V14 tn _ _ D (((O12.out.gs KE_ok.len).below BV12.out).below (bl3 X14.out BV14.out)) ((O14.out.gs KE_ok.len).below BV14.out) (by omega))
  have SP := hid (fun W' (hb : Below V14.heap.size V14 W') => spoil_any tn _ D W' w11.heap.size (((O12.out.below BV12.out).below (bl3 X14.out BV14.out)).below hb))
  have AV : Hid (∀ W', Below V14.heap.size V14 W' → W'.cell? ⟨t13, 0, none⟩ = some (.int .i64 tn) ∧ W'.cell? ⟨t13, 1, none⟩ = some (.slice p12 D.length c12)) := fun W' hb => A12.out W' (bl3 (bl3 X14.out BV14.out) hb)
  have OB : Hid (∀ g, (Value.slice p12 D.length c12).ownBlock = some g → W3.heap.size ≤ g) := fun g hg => Nat.le_trans B11.out.size (O12.out.lt hg).1
  generalize D.length = dl at *
  clear e14 hV14 A12 O12 O14 T1 T2
  go_wp2_with (first
    | (go_at_call 15; refine (SF.out _ B18.out).mono ?_; rintro e w19 ⟨rfl, b19⟩; have B19 := hid (bl3 B18.out b19); clear b19)
    | (go_at_call 20; refine (SO.out _ B17.out).mono ?_; rintro e w18 ⟨rfl, b18⟩; have B18 := hid (bl3 B17.out b18); clear b18)
    | (go_at_call 21; refine (SP.out _ X16.out).mono ?_; rintro e w17 ⟨rfl, b17⟩; have B17 : Hid (Below W3.heap.size W3 w17) := B16.out.trans (b17.below B16.out.size OB.out); obtain ⟨⟨j0, j1⟩, j2, j3⟩ := CB.out _ B17.out; clear b17)
    | (go_at_call 20; refine SS.out.mono ?_; rintro e w16 ⟨rfl, b16⟩; have X16 := hid b16; have B16 := hid (bl3 B15.out b16); obtain ⟨h0, h1⟩ := AV.out _ b16; clear b16))
  go_ret
  exact ⟨rfl, bl3 BB.out B19.out⟩
end Go.Proofs.Ytafodnidbokhcaa
