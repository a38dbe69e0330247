/- Graph: the document's levels. -/
import Derived.Test.YtdieffjagpjdaaaYh4
namespace Go.Proofs.Ytdieffjagpjdaaa
open Go.RowKit

theorem tg_take_same {E : List (Nat × Nat)} {k : Nat} (hk : k < E.length) (n : Nat) : tg (E.take (k + 1)) n = if n = E[k].1 then tg (E.take k) n ++ [E[k].2] else tg (E.take k) n := by
  rw [List.take_succ_eq_append_getElem hk, tg_snoc]
theorem CT.lvS {w : World} {X N : Nat} {wr : World} {E : List (Nat × Nat)} {n : Nat} {F : Nat → Int} {k : Nat} (h : CT w X N wr (lvU (tg (E.take k) n) n F)) (hk : k < E.length) (he : E[k].1 = n) {y : Int} (hy : y = max (lvU (tg (E.take k) n) n F E[k].2) (F n + 1)) : CT w X N (wr.setCell ⟨X, E[k].2, none⟩ (.int .i64 y)) (lvU (tg (E.take (k + 1)) n) n F) :=
  ⟨h.bl.setCell (p := ⟨X, _, none⟩) h.lf.lt.1 _, (h.lf.set _ _).eq fun x => by
    rw [tg_take_same hk, if_pos he.symm, lvU_snoc]
    unfold upF
    split
    · rename_i e; rw [hy, e]
    · rfl⟩
theorem CT.lvN {w : World} {X N : Nat} {wr : World} {E : List (Nat × Nat)} {n : Nat} {F : Nat → Int} {k : Nat} (h : CT w X N wr (lvU (tg (E.take k) n) n F)) (hk : k < E.length) (he : ¬ E[k].1 = n) : CT w X N wr (lvU (tg (E.take (k + 1)) n) n F) := by
  rw [tg_take_same hk, if_neg fun e => he e.symm]
  exact h
set_option maxRecDepth 100000 in
set_option maxHeartbeats 16000000 in
theorem rLevels_any (w : World) (n : Int) (v : Value) (l : List (Int × Int)) (hv : GS KE w v l) : Calls Try.prog 31 #[.agg #[.int .i64 n, v]] w fun e w' => AnsI w (leA n l) (orE n l) e w' := by
  obtain ⟨p, c, rfl⟩ := hv.form
  generalize hW : w.alloc (.cells #[.int .i64 n, .slice p l.length c] 24) = W
  obtain ⟨bw, c0⟩ := graph_box w n p l.length c hW
  have BW := hid bw
  have C0 := hid c0
  have CK := hid (rOrder_any W n _ l (hv.below bw))
  obtain ⟨d0, d1⟩ := c0 W (Below.refl _ _)
  unfold AnsI at CK
  clear bw c0
  by_cases h0 : orE n l = 0
  · have h1 : chkG n l = 0 := by
      refine Classical.byContradiction fun q => ?_
      rw [(orE_bad q).1] at h0
      exact q h0
    obtain ⟨N, E, rfl, rfl, hg⟩ := chkG_ok h1
    have hr : rnL N E = [] := by
      refine Classical.byContradiction fun q => ?_
      rw [(orE_not hg q).1] at h0
      cases h0
    obtain ⟨kD, lD⟩ := orL_ko hg hr
    rw [h0, (orE_yes hg hr).2] at CK
    have EA : Hid (leA N (eI E) = leL N E) := leA_yes hg hr
    rw [EA.out, h0]
    have HD : Hid (leL N E = (List.range N).map (lvF (nx N E) (orL N E))) := rfl
    generalize leL N E = LE at *
    have LEN : Hid (LE.length = N) := by show _ = _; rw [HD.out]; simp
    generalize orL N E = D at *
    have KD := hid kD
    have NB : N ≤ 4096 := hg.n
    have HG := hid hg
    have a4 := hg.e
    have GB := hid (fun w' (hb : Below w.heap.size w w') j (hj : j < E.length) => GS.atN (hv.below hb) hj)
    have EL2 := hid (fun e (he : e ∈ E) => HG.out.lt e he)
    have LDN := nI_len D
    rw [LDN, lD] at CK
    rw [eI_len] at C0 CK d1 hW ⊢
    obtain ⟨el, hel⟩ : ∃ el, el = E.length := ⟨_, rfl⟩
    have ME : Hid (E.length = el) := hel.symm
    rw [← hel] at C0 CK d1 hW a4 ⊢
    clear h0 h1 hg hv EA kD hr LDN hel
    go_enter Try.func31, Try.ntmps31
    go_upto_region 4 with (go_at_call 29; refine CK.out.mono ?_; rintro e w8 ⟨q8, c8, rfl, go8, b8⟩; have B8 := hid b8; have O8 := hid go8; obtain ⟨g0, g1⟩ := C0.out _ b8; clear b8 go8)
    go_upto_region 5 with (refine make_g KI KI_ok 0 rfl rfl w8 rfl (.tmp 18) (.tmp 18) 25 rfl Try.underlying25 N rfl rfl (by omega) (by decide) ?_; intro w1 ho1 hb1; have C1 : Hid (CT w8 w8.heap.size N w1 (lvF (nx N E) (D.take 0))) := ⟨hb1, LFR.zero ho1⟩; clear ho1 hb1)
    obtain ⟨X, hX⟩ : ∃ X, X = w8.heap.size := ⟨_, rfl⟩
    rw [← hX] at C1 ⊢
    have WV : Hid (Below w.heap.size w w8) := bl3 BW.out B8.out
    have GD := hid (fun wq (hb : Below w8.heap.size w8 wq) j (hj : j < (nI D).length) => GS.atI (O8.out.below hb) hj)
    obtain ⟨sz, hsz⟩ : ∃ sz, sz = w.heap.size := ⟨_, rfl⟩
    have GC0 : Hid (∀ W', Below w8.heap.size w8 W' → W'.cell? ⟨sz, 0, none⟩ = some (.int .i64 N) ∧ W'.cell? ⟨sz, 1, none⟩ = some (.slice p el c)) := fun W' hb => by rw [hsz]; exact C0.out W' (bl3 B8.out hb)
    rw [← hsz] at g0 g1 ⊢
    clear hX hsz C0 CK BW hW d0 d1 B8 O8 g0 g1
    go_wp2_with fail
    go_loopw [7] (fun v7 wr => ∃ (k : Nat) (wk : World), v7 = .int .i64 k ∧ wk = wr ∧ k ≤ N ∧ Hid (CT w8 X N wk (lvF (nx N E) (D.take k)))) (fun v7 _ => N - (intOf v7).toNat)
    case atStart => exact ⟨0, _, rfl, rfl, Nat.zero_le _, C1⟩
    case round =>
      obtain ⟨k, wr, rfl, rfl, hk, HC⟩ := hrel
      clear C1
      by_cases hlt : k < N
      · have k1 : k < D.length := by omega
        have hx : D[k] < N := KD.out.lt _ (List.getElem_mem k1)
        have CX := hid (KD.out.at k1)
        have TK : Hid (lvF (nx N E) (D.take (k + 1)) = lvU (nx N E D[k]) D[k] (lvF (nx N E) (D.take k))) := lv_take k1
        have LV0 := hid (LV.all HG.out (KD.out.front k))
        have TL : (D.take k).length ≤ 4096 := by rw [List.length_take]; omega
        have GDk := hid (fun wq (hb : Below w8.heap.size w8 wq) => by
          obtain ⟨Y, o, e1, c1⟩ := GD.out wq hb k (by rw [nI_len]; exact k1)
          rw [nI_at k1] at c1
          exact (⟨Y, o, e1, c1⟩ : ∃ Y o, q8 = some ⟨Y, o, none⟩ ∧ wq.cell? ⟨Y, o + k, none⟩ = some (.int .i64 (D[k] : Nat))))
        generalize D[k] = x at *
        have hxi : (x : Int) < (N : Nat) := by omega
        have hki : (k : Int) < (N : Nat) := by omega
        have NX : Hid (x ∉ nx N E x) := fun q => (succ_new HG.out CX.out.2 CX.out.1 q).2.1 rfl
        have NT := hid (fun k (q : x ∈ tg (E.take k) x) => NX.out ((nx_mem HG.out).2 (by have := tg_mem.1 q; exact List.mem_of_mem_take this)))
        have FB := hid (fun y => And.intro (LV0.out.lo y) (LV0.out.hi y))
        generalize lvF (nx N E) (D.take k) = F at *
        have C2 : Hid (CT w8 X N wr (lvU (tg (E.take 0) x) x F)) := ⟨HC.out.bl, by
          have e : tg (E.take 0) x = [] := rfl
          rw [e, lvU_nil]; exact HC.out.lf⟩
        have SAME : Hid (lvU (tg E x) x F = lvU (nx N E x) x F) := lvU_same (fun z => by rw [nx_mem HG.out, tg_mem]) x F
        generalize (D.take k).length = tk at *
        clear HC LV0 CX
        go_wp2_with fail
        go_loopw [8] (fun v8 wq => ∃ (j : Nat) (wk : World), v8 = .int .i64 j ∧ wk = wq ∧ j ≤ el ∧ Hid (CT w8 X N wk (lvU (tg (E.take j) x) x F))) (fun v8 _ => el - (intOf v8).toNat)
        case atStart => exact ⟨0, _, rfl, rfl, Nat.zero_le _, C2⟩
        case round =>
          obtain ⟨j, wq, rfl, rfl, hj, HJ⟩ := hrel
          clear C2
          obtain ⟨d0, d1⟩ := GC0.out wq HJ.out.bl
          by_cases hlt2 : j < el
          · have j1 : j < E.length := by have := ME.out; omega
            obtain ⟨Y, o, e1, c1, c2⟩ := GB.out wq (bl3 WV.out HJ.out.bl) j j1
            obtain ⟨Y3, o3, e3, c3⟩ := GDk.out wq HJ.out.bl
            subst e1 e3
            have hy := (EL2.out _ (List.getElem_mem j1)).2
            obtain ⟨f1, f2⟩ := HJ.out.lf.at hy
            obtain ⟨f3, _⟩ := HJ.out.lf.at hx
            rw [lvU_own (NT.out j)] at f3
            have N2 := hid (fun nq y he hy => (HJ.out.drew nq).lvS j1 he (y := y) hy)
            have N4 := hid (fun he => HJ.out.lvN j1 he)
            have fb := FB.out x
            have hji : (j : Int) < (el : Nat) := by omega
            have hf1 := (EL2.out _ (List.getElem_mem j1)).1
            generalize lvU (tg (E.take j) x) x F E[j].2 = fy at *
            generalize F x = fx at *
            generalize E[j].1 = yf at *
            generalize E[j].2 = y at *
            have hyi : (y : Int) < (N : Nat) := by omega
            clear HJ
            by_cases hyx : yf = x
            · have N5 := hid (fun nq => N2.out nq (max fy (fx + 1)) hyx rfl)
              subst hyx
              clear N2 N4
              go_wp2_with fail
              go_quiet (fail)
              go_wp2_with fail
              go_region
              all_goals
                go_wp2_with fail
                go_roundw
                case rel => exact ⟨j + 1, _, by go_num, rfl, by omega, N5.out _⟩
                case measure => simp [intOf]; omega
            · have N5 := hid (N4.out hyx)
              have b1 : ((yf : Int) == (x : Int)) = false := by simp; omega
              clear N2 N4
              go_wp2_with fail
              go_quiet (fail)
              go_wp2_with fail
              all_goals
                go_roundw
                case rel => exact ⟨j + 1, _, by go_num, rfl, by omega, N5.out.drew _⟩
                case measure => simp [intOf]; omega
          · obtain rfl : j = el := by omega
            have N3 : Hid (CT w8 X N wq (lvF (nx N E) (D.take (k + 1)))) := by
              show CT _ _ _ _ _
              have h9 := HJ.out
              rw [List.take_of_length_le (by rw [ME.out]; exact Nat.le_refl _), SAME.out] at h9
              rw [TK.out]
              exact h9
            clear HJ
            go_wp2_with fail
            go_roundw
            case rel => exact ⟨k + 1, _, by go_num, rfl, by omega, N3⟩
            case measure => simp [intOf]; omega
      · obtain rfl : k = N := by omega
        have FIN : Hid (OwnG KI wr w8.heap.size (.slice (some ⟨X, 0, none⟩) LE.length k) LE) := by
          have := HC.out.lf
          rw [List.take_of_length_le (by omega)] at this
          rw [LEN.out, HD.out]
          exact this
        have BL := hid HC.out.bl
        rw [← LEN.out] at FIN
        clear HC
        go_wp2_with fail
        go_ret2
        exact ⟨some ⟨X, 0, none⟩, k, by rw [LEN.out]; rfl, by have := FIN.out.gs KI_ok.len; rw [LEN.out] at this ⊢; exact this, bl3 WV.out BL.out⟩
  · rw [leA_no h0]
    generalize orE n l = r at *
    have b1 : (r != 0) = true := by simp [h0]
    generalize orA n l = oa at *
    clear h0
    go_enter Try.func31, Try.ntmps31
    go_wp2_with (go_at_call 29; refine CK.out.mono ?_; rintro e w6 ⟨q6, c6, rfl, _, hb6⟩; have B6 := hid hb6; clear hb6)
    go_ret2
    exact AnsI.none (bl3 BW.out B6.out)
end Go.Proofs.Ytdieffjagpjdaaa
