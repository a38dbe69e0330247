/- Graph: the law GraphOrders. -/
import Derived.Test.YtkmokoiilmdfbaaYh4
import Derived.Test.YtkmokoiilmdfbaaYd4
namespace Go.Proofs.Ytkmokoiilmdfbaa
open Go.RowKit

theorem tg_take_same {E : List (Nat × Nat)} {k : Nat} (hk : k < E.length) (n : Nat) : tg (E.take (k + 1)) n = if n = E[k].1 then tg (E.take k) n ++ [E[k].2] else tg (E.take k) n := by
  rw [List.take_succ_eq_append_getElem hk, tg_snoc]
theorem CT.lvS {w : World} {X N : Nat} {wr : World} {E : List (Nat × Nat)} {n : Nat} {F : Nat → Int} {k : Nat} (h : CT w X N wr (lvU (tg (E.take k) n) n F)) (hk : k < E.length) (he : E[k].1 = n) {y : Int} (hy : y = max (lvU (tg (E.take k) n) n F E[k].2) (F n + 1)) : CT w X N (wr.setCell ⟨X, E[k].2, none⟩ (.int .i64 y)) (lvU (tg (E.take (k + 1)) n) n F) :=
  ⟨h.bl.setCell (p := ⟨X, _, none⟩) h.lf.lt.1 _, (h.lf.set _ _).eq fun x => by
    rw [tg_take_same hk, if_pos he.symm, lvU_snoc]
    unfold upF
    split
    · rename_i e; rw [hy, e]
    · rfl⟩
theorem CT.lvN {w : World} {X N : Nat} {wr : World} {E : List (Nat × Nat)} {n : Nat} {F : Nat → Int} {k : Nat} (h : CT w X N wr (lvU (tg (E.take k) n) n F)) (hk : k < E.length) (he : ¬ E[k].1 = n) : CT w X N wr (lvU (tg (E.take (k + 1)) n) n F) := by
  rw [tg_take_same hk, if_neg fun e => he e.symm]
  exact h
set_option maxRecDepth 100000 in
set_option maxHeartbeats 16000000 in
theorem rLevels_any (w : World) (n : Int) (v : Value) (l : List (Int × Int)) (hv : GS KE w v l) : Calls Try.prog 31 #[.agg #[.int .i64 n, v]] w fun e w' => AnsI w (leA n l) (orE n l) e w' := by
  obtain ⟨p, c, rfl⟩ := hv.form
  generalize hW : w.alloc (.cells #[.int .i64 n, .slice p l.length c] 24) = W
  obtain ⟨bw, c0⟩ := graph_box w n p l.length c hW
  have BW := hid bw
  have C0 := hid c0
  have CK := hid (rOrder_any W n _ l (hv.below bw))
  obtain ⟨d0, d1⟩ := c0 W (Below.refl _ _)
  unfold AnsI at CK
  clear bw c0
  by_cases h0 : orE n l = 0
  · have h1 : chkG n l = 0 := by
      refine Classical.byContradiction fun q => ?_
      rw [(orE_bad q).1] at h0
      exact q h0
    obtain ⟨N, E, rfl, rfl, hg⟩ := chkG_ok h1
    have hr : rnL N E = [] := by
      refine Classical.byContradiction fun q => ?_
      rw [(orE_not hg q).1] at h0
      cases h0
    obtain ⟨kD, lD⟩ := orL_ko hg hr
    rw [h0, (orE_yes hg hr).2] at CK
    have EA : Hid (leA N (eI E) = leL N E) := leA_yes hg hr
    rw [EA.out, h0]
    have HD : Hid (leL N E = (List.range N).map (lvF (nx N E) (orL N E))) := rfl
    generalize leL N E = LE at *
    have LEN : Hid (LE.length = N) := by show _ = _; rw [HD.out]; simp
    generalize orL N E = D at *
    have KD := hid kD
    have NB : N ≤ 4096 := hg.n
    have HG := hid hg
    have a4 := hg.e
    have GB := hid (fun w' (hb : Below w.heap.size w w') j (hj : j < E.length) => GS.atN (hv.below hb) hj)
    have EL2 := hid (fun e (he : e ∈ E) => HG.out.lt e he)
    have LDN := nI_len D
    rw [LDN, lD] at CK
    rw [eI_len] at C0 CK d1 hW ⊢
    obtain ⟨el, hel⟩ : ∃ el, el = E.length := ⟨_, rfl⟩
    have ME : Hid (E.length = el) := hel.symm
    rw [← hel] at C0 CK d1 hW a4 ⊢
    clear h0 h1 hg hv EA kD hr LDN hel
    go_enter Try.func31, Try.ntmps31
    go_upto_region 4 with (go_at_call 29; refine CK.out.mono ?_; rintro e w8 ⟨q8, c8, rfl, go8, b8⟩; have B8 := hid b8; have O8 := hid go8; obtain ⟨g0, g1⟩ := C0.out _ b8; clear b8 go8)
    go_upto_region 5 with (refine make_g KI KI_ok 0 rfl rfl w8 rfl (.tmp 18) (.tmp 18) 25 rfl Try.underlying25 N rfl rfl (by omega) (by decide) ?_; intro w1 ho1 hb1; have C1 : Hid (CT w8 w8.heap.size N w1 (lvF (nx N E) (D.take 0))) := ⟨hb1, LFR.zero ho1⟩; clear ho1 hb1)
    obtain ⟨X, hX⟩ : ∃ X, X = w8.heap.size := ⟨_, rfl⟩
    rw [← hX] at C1 ⊢
    have WV : Hid (Below w.heap.size w w8) := bl3 BW.out B8.out
    have GD := hid (fun wq (hb : Below w8.heap.size w8 wq) j (hj : j < (nI D).length) => GS.atI (O8.out.below hb) hj)
    obtain ⟨sz, hsz⟩ : ∃ sz, sz = w.heap.size := ⟨_, rfl⟩
    have GC0 : Hid (∀ W', Below w8.heap.size w8 W' → W'.cell? ⟨sz, 0, none⟩ = some (.int .i64 N) ∧ W'.cell? ⟨sz, 1, none⟩ = some (.slice p el c)) := fun W' hb => by rw [hsz]; exact C0.out W' (bl3 B8.out hb)
    rw [← hsz] at g0 g1 ⊢
    clear hX hsz C0 CK BW hW d0 d1 B8 O8 g0 g1
    go_wp2_with fail
    go_loopw [7] (fun v7 wr => ∃ (k : Nat) (wk : World), v7 = .int .i64 k ∧ wk = wr ∧ k ≤ N ∧ Hid (CT w8 X N wk (lvF (nx N E) (D.take k)))) (fun v7 _ => N - (intOf v7).toNat)
    case atStart => exact ⟨0, _, rfl, rfl, Nat.zero_le _, C1⟩
    case round =>
      obtain ⟨k, wr, rfl, rfl, hk, HC⟩ := hrel
      clear C1
      by_cases hlt : k < N
      · have k1 : k < D.length := by omega
        have hx : D[k] < N := KD.out.lt _ (List.getElem_mem k1)
        have CX := hid (KD.out.at k1)
        have TK : Hid (lvF (nx N E) (D.take (k + 1)) = lvU (nx N E D[k]) D[k] (lvF (nx N E) (D.take k))) := lv_take k1
        have LV0 := hid (LV.all HG.out (KD.out.front k))
        have TL : (D.take k).length ≤ 4096 := by rw [List.length_take]; omega
        have GDk := hid (fun wq (hb : Below w8.heap.size w8 wq) => by
          obtain ⟨Y, o, e1, c1⟩ := GD.out wq hb k (by rw [nI_len]; exact k1)
          rw [nI_at k1] at c1
          exact (⟨Y, o, e1, c1⟩ : ∃ Y o, q8 = some ⟨Y, o, none⟩ ∧ wq.cell? ⟨Y, o + k, none⟩ = some (.int .i64 (D[k] : Nat))))
        generalize D[k] = x at *
        have hxi : (x : Int) < (N : Nat) := by omega
        have hki : (k : Int) < (N : Nat) := by omega
        have NX : Hid (x ∉ nx N E x) := fun q => (succ_new HG.out CX.out.2 CX.out.1 q).2.1 rfl
        have NT := hid (fun k (q : x ∈ tg (E.take k) x) => NX.out ((nx_mem HG.out).2 (by have := tg_mem.1 q; exact List.mem_of_mem_take this)))
        have FB := hid (fun y => And.intro (LV0.out.lo y) (LV0.out.hi y))
        generalize lvF (nx N E) (D.take k) = F at *
        have C2 : Hid (CT w8 X N wr (lvU (tg (E.take 0) x) x F)) := ⟨HC.out.bl, by
          have e : tg (E.take 0) x = [] := rfl
          rw [e, lvU_nil]; exact HC.out.lf⟩
        have SAME : Hid (lvU (tg E x) x F = lvU (nx N E x) x F) := lvU_same (fun z => by rw [nx_mem HG.out, tg_mem]) x F
        generalize (D.take k).length = tk at *
        clear HC LV0 CX
        go_wp2_with fail
        go_loopw [8] (fun v8 wq => ∃ (j : Nat) (wk : World), v8 = .int .i64 j ∧ wk = wq ∧ j ≤ el ∧ Hid (CT w8 X N wk (lvU (tg (E.take j) x) x F))) (fun v8 _ => el - (intOf v8).toNat)
        case atStart => exact ⟨0, _, rfl, rfl, Nat.zero_le _, C2⟩
        case round =>
          obtain ⟨j, wq, rfl, rfl, hj, HJ⟩ := hrel
          clear C2
          obtain ⟨d0, d1⟩ := GC0.out wq HJ.out.bl
          by_cases hlt2 : j < el
          · have j1 : j < E.length := by have := ME.out; omega
            obtain ⟨Y, o, e1, c1, c2⟩ := GB.out wq (bl3 WV.out HJ.out.bl) j j1
            obtain ⟨Y3, o3, e3, c3⟩ := GDk.out wq HJ.out.bl
            subst e1 e3
            have hy := (EL2.out _ (List.getElem_mem j1)).2
            obtain ⟨f1, f2⟩ := HJ.out.lf.at hy
            obtain ⟨f3, _⟩ := HJ.out.lf.at hx
            rw [lvU_own (NT.out j)] at f3
            have N2 := hid (fun nq y he hy => (HJ.out.drew nq).lvS j1 he (y := y) hy)
            have N4 := hid (fun he => HJ.out.lvN j1 he)
            have fb := FB.out x
            have hji : (j : Int) < (el : Nat) := by omega
            have hf1 := (EL2.out _ (List.getElem_mem j1)).1
            generalize lvU (tg (E.take j) x) x F E[j].2 = fy at *
            generalize F x = fx at *
            generalize E[j].1 = yf at *
            generalize E[j].2 = y at *
            have hyi : (y : Int) < (N : Nat) := by omega
            clear HJ
            by_cases hyx : yf = x
            · have N5 := hid (fun nq => N2.out nq (max fy (fx + 1)) hyx rfl)
              subst hyx
              clear N2 N4
              go_wp2_with fail
              go_quiet (fail)
              go_wp2_with fail
              go_region
              all_goals
                go_wp2_with fail
                go_roundw
                case rel => exact ⟨j + 1, _, by go_num, rfl, by omega, N5.out _⟩
                case measure => simp [intOf]; omega
            · have N5 := hid (N4.out hyx)
              have b1 : ((yf : Int) == (x : Int)) = false := by simp; omega
              clear N2 N4
              go_wp2_with fail
              go_quiet (fail)
              go_wp2_with fail
              all_goals
                go_roundw
                case rel => exact ⟨j + 1, _, by go_num, rfl, by omega, N5.out.drew _⟩
                case measure => simp [intOf]; omega
          · obtain rfl : j = el := by omega
            have N3 : Hid (CT w8 X N wq (lvF (nx N E) (D.take (k + 1)))) := by
              show CT _ _ _ _ _
              have h9 := HJ.out
              rw [List.take_of_length_le (by rw [ME.out]; exact Nat.le_refl _), SAME.out] at h9
              rw [TK.out]
              exact h9
            clear HJ
            go_wp2_with fail
            go_roundw
            case rel => exact ⟨k + 1, _, by go_num, rfl, by omega, N3⟩
            case measure => simp [intOf]; omega
      · obtain rfl : k = N := by omega
        have FIN : Hid (OwnG KI wr w8.heap.size (.slice (some ⟨X, 0, none⟩) LE.length k) LE) := by
          have := HC.out.lf
          rw [List.take_of_length_le (by omega)] at this
          rw [LEN.out, HD.out]
          exact this
        have BL := hid HC.out.bl
        rw [← LEN.out] at FIN
        clear HC
        go_wp2_with fail
        go_ret2
        exact ⟨some ⟨X, 0, none⟩, k, by rw [LEN.out]; rfl, by have := FIN.out.gs KI_ok.len; rw [LEN.out] at this ⊢; exact this, bl3 WV.out BL.out⟩
  · rw [leA_no h0]
    generalize orE n l = r at *
    have b1 : (r != 0) = true := by simp [h0]
    generalize orA n l = oa at *
    clear h0
    go_enter Try.func31, Try.ntmps31
    go_wp2_with (go_at_call 29; refine CK.out.mono ?_; rintro e w6 ⟨q6, c6, rfl, _, hb6⟩; have B6 := hid hb6; clear hb6)
    go_ret2
    exact AnsI.none (bl3 BW.out B6.out)
end Go.Proofs.Ytkmokoiilmdfbaa
namespace Go.Proofs.Ytkmokoiilmdfbaa
open Go.RowKit

theorem orA_len (n : Int) (e : List (Int × Int)) : (orA n e).length ≤ 4096 := by
  by_cases h : orE n e = 0
  · have h1 : chkG n e = 0 := Classical.byContradiction fun q => by rw [(orE_bad q).1] at h; exact q h
    obtain ⟨N, E, rfl, rfl, hg⟩ := chkG_ok h1
    have hr : rnL N E = [] := Classical.byContradiction fun q => by rw [(orE_not hg q).1] at h; cases h
    rw [(orE_yes hg hr).2, nI_len]
    exact Nat.le_trans (orL_ko hg hr).1.len hg.n
  · unfold orA; rw [if_neg h]; simp
theorem leA_len (n : Int) (e : List (Int × Int)) : (leA n e).length ≤ 4096 := by
  by_cases h : orE n e = 0
  · have h1 : chkG n e = 0 := Classical.byContradiction fun q => by rw [(orE_bad q).1] at h; exact q h
    obtain ⟨N, E, rfl, rfl, hg⟩ := chkG_ok h1
    have hr : rnL N E = [] := Classical.byContradiction fun q => by rw [(orE_not hg q).1] at h; cases h
    rw [leA_yes hg hr]
    unfold leL
    rw [List.length_map, List.length_range]
    exact hg.n
  · rw [leA_no h]; simp
theorem sameI_yes (W' : World) (a b : Value) (L : List Int) (h1 : GS KI W' a L) (h2 : GS KI W' b L) (h3 : L.length ≤ 140737488355328) : Calls Try.prog 15 #[a, b] W' fun e w' => e = .returned (.bool true) ∧ Below W'.heap.size W' w' := by
  have := sameInts_any W' a b L L h1 h2 h3
  rw [decide_eq_true rfl] at this
  exact this
/-- A copied graph in its box beside the argument in its own. -/
structure GX (w : World) (sz q7 : Nat) (n : Int) (p p1 : Option Addr) (m c c1 : Nat) (l : List (Int × Int)) (W3 W' : World) : Prop where
  b0 : W'.cell? ⟨sz, 0, none⟩ = some (.int .i64 n) ∧ W'.cell? ⟨sz, 1, none⟩ = some (.slice p m c)
  b1 : W'.cell? ⟨q7, 0, none⟩ = some (.int .i64 n) ∧ W'.cell? ⟨q7, 1, none⟩ = some (.slice p1 m c1)
  g0 : GS KE W' (.slice p m c) l
  g1 : GS KE W' (.slice p1 m c1) l
set_option maxRecDepth 100000 in
set_option maxHeartbeats 32000000 in
theorem graphOrders_any (w : World) (n : Int) (v : Value) (l : List (Int × Int)) (hv : GS KE w v l) (hl : l.length * 16 ≤ 140737488355328) : Calls Try.prog 5 #[.agg #[.int .i64 n, v]] w fun e w' => e = .returned (.bool true) ∧ Below w.heap.size w w' := by
  obtain ⟨p, c, rfl⟩ := hv.form
  generalize hW : w.alloc (.cells #[.int .i64 n, .slice p l.length c] 24) = W
  obtain ⟨bw, c0⟩ := graph_box w n p l.length c hW
  have BW := hid bw
  have H0 := hid c0
  obtain ⟨d0, d1⟩ := c0 W (Below.refl _ _)
  have CP := hid (copied_any W n _ l (hv.below bw) hl)
  have GV := hid (fun W' (hb : Below w.heap.size w W') => hv.below hb)
  obtain ⟨m, hm⟩ : ∃ m, m = l.length := ⟨_, rfl⟩
  rw [← hm] at H0 d1 CP GV hW ⊢
  have L1 : Hid (l.length ≤ 140737488355328) := by show _ ≤ _; omega
  have LA := orA_len n l
  have LB := leA_len n l
  clear hm hv hl bw c0
  go_enter Try.func5, Try.ntmps5
  go_upto_region 2 with (go_at_call 9; refine CP.out.mono ?_; rintro e w1 ⟨p1, c1, rfl, o1, b1⟩; have O1 := hid o1; have B1 := hid b1; clear o1 b1)
  generalize hW3 : w1.alloc (.cells #[.int .i64 n, .slice p1 m c1] 24) = W3 at *
  have BB : Hid (Below w.heap.size w W3) := by rw [← hW3]; exact bl3 BW.out (bl3 B1.out (bal _ _))
  have CB : Hid (∀ W', Below W3.heap.size W3 W' → GX w w.heap.size w1.heap.size n p p1 m c c1 l W3 W') := fun W' hb => by
    have e1 : W'.heap[w1.heap.size]? = some (.cells #[.int .i64 n, .slice p1 m c1] 24) := (hb.block _ (by rw [← hW3, asz]; omega)).trans (by rw [← hW3]; exact heap_alloc_new _ _)
    exact ⟨H0.out W' (by rw [← hW3] at hb; exact bl3 (bl3 B1.out (bal _ _)) hb), ⟨cell_of_row _ _ _ _ _ _ e1, cell_of_row _ _ _ _ _ _ e1⟩, GV.out W' (bl3 BB.out hb), ((O1.out.gs KE_ok.len).below (bal _ _)).below (by rw [hW3]; exact hb)⟩
  obtain ⟨sz, hsz⟩ : ∃ sz, sz = w.heap.size := ⟨_, rfl⟩
  obtain ⟨q7, hq7⟩ : ∃ q7, q7 = w1.heap.size := ⟨_, rfl⟩
  rw [← hsz, ← hq7] at CB
  rw [← hsz, ← hq7]
  clear hsz hq7 hW3 hW O1 B1 CP GV H0 d0 d1 BW
  have X0 := hid (CB.out W3 (Below.refl _ _))
  obtain ⟨x0, x1⟩ := X0.out.b0
  obtain ⟨x2, x3⟩ := X0.out.b1
  have N1 := hid (fun W' (hb : Below W3.heap.size W3 W') => Order_any W' n _ l (CB.out W' hb).g1)
  have N2 := hid (fun W' (hb : Below W3.heap.size W3 W') => rOrder_any W' n _ l (CB.out W' hb).g0)
  have R1 := hid (fun W' (hb : Below W3.heap.size W3 W') => Levels_any W' n _ l (CB.out W' hb).g1)
  have R2 := hid (fun W' (hb : Below W3.heap.size W3 W') => rLevels_any W' n _ l (CB.out W' hb).g0)
  have SO := hid (fun W' (hb : Below W3.heap.size W3 W') => same_same W' n _ _ l (CB.out W' hb).g1 (CB.out W' hb).g0 L1.out)
  have SI := hid (fun W' a b L h1 h2 h3 => sameI_yes W' a b L h1 h2 h3)
  have CC := hid (fun W' (hb : Below W3.heap.size W3 W') => And.intro (CB.out W' hb).b0 (CB.out W' hb).b1)
  obtain ⟨A, hA⟩ : ∃ A, A = orA n l := ⟨_, rfl⟩
  obtain ⟨B, hB⟩ : ∃ B, B = leA n l := ⟨_, rfl⟩
  rw [← hA] at N1 N2 LA
  rw [← hB] at R1 R2 LB
  clear hA hB X0
  generalize orE n l = ra at *
  go_upto_region 6 with (first
    | (go_at_call 28; refine (N1.out _ (Below.refl _ _)).mono ?_; rintro e w6 ⟨q6, c6, rfl, g6, b6⟩; have G6 := hid g6; have B6 := hid b6; obtain ⟨⟨y0, y1⟩, y2, y3⟩ := CC.out _ B6.out; clear g6 b6)
    | (go_at_call 29; refine (N2.out _ B6.out).mono ?_; rintro e w7 ⟨r7, c7, rfl, g7, b7⟩; have S7 := hid (SI.out w7 _ _ A (G6.out.below b7) g7 (by omega)); have B7 := hid (bl3 B6.out b7); clear g7 b7)
    | (go_at_call 15; refine S7.out.mono ?_; rintro e w8 ⟨rfl, b8⟩; have B8 := hid (bl3 B7.out b8); obtain ⟨⟨z0, z1⟩, z2, z3⟩ := CC.out _ B8.out; clear b8))
  clear x0 x1 x2 x3 y0 y1 y2 y3 G6 S7 N1 N2
  go_wp2_with (first
    | (go_at_call 30; refine (R1.out _ B8.out).mono ?_; rintro e w9 ⟨q9, c9, rfl, g9, b9⟩; have G9 := hid g9; have B9 := hid (bl3 B8.out b9); obtain ⟨⟨y0, y1⟩, y2, y3⟩ := CC.out _ B9.out; clear g9 b9)
    | (go_at_call 31; refine (R2.out _ B9.out).mono ?_; rintro e w10 ⟨r10, c10, rfl, g10, b10⟩; have S10 := hid (SI.out w10 _ _ B (G9.out.below b10) g10 (by omega)); have B10 := hid (bl3 B9.out b10); clear g10 b10)
    | (go_at_call 15; refine S10.out.mono ?_; rintro e w11 ⟨rfl, b11⟩; have B11 := hid (bl3 B10.out b11); obtain ⟨⟨x0, x1⟩, x2, x3⟩ := CC.out _ B11.out; clear b11)
    | (go_at_call 20; refine (SO.out _ B11.out).mono ?_; rintro e w12 ⟨rfl, b12⟩; have B12 := hid (bl3 B11.out b12); clear b12))
  go_ret
  exact ⟨rfl, bl3 BB.out B12.out⟩
end Go.Proofs.Ytkmokoiilmdfbaa
