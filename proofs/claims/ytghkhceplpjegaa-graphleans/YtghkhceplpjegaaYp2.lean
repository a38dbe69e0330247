/- Graph: the document's Lean, walked. -/
import Derived.Test.YtghkhceplpjegaaYp1
namespace Go.Proofs.Ytghkhceplpjegaa
open Go.RowKit

theorem gs_some {α : Type} {K : RK α} {w : World} {p : Option Addr} {n c : Nat} {l : List α} (h : GS K w (.slice p n c) l) (hl : 0 < l.length) : ∃ Z oz, p = some ⟨Z, oz, none⟩ ∧ n ≤ c := by
  rcases h with ⟨_, rfl⟩ | ⟨X, ox, cap, e, _, hc, _⟩
  · simp at hl
  · injection e with e1 e2 e3
    exact ⟨X, ox, e1, by omega⟩
set_option maxRecDepth 100000 in
set_option maxHeartbeats 32000000 in
theorem rLean_any (w : World) (n : Int) (v : Value) (l : List (Int × Int)) (hv : GS KE w v l) : Calls Try.prog 16 #[.agg #[.int .i64 n, v]] w fun e w' => AnsG w (lnA n l) (lnL n l) (orE n l) e w' := by
  obtain ⟨p, c, rfl⟩ := hv.form
  have TB := hid (TB2.mk_ w n (.slice p l.length c))
  generalize hW : (w.alloc (.cells #[.int .i64 n, .slice p l.length c] 24)).alloc (.cells #[.int .i64 0, .slice none 0 0] 24) = W at *
  have CK := hid (rRound_any W n _ l (hv.below TB.out.bl))
  unfold AnsI at CK
  obtain ⟨⟨d0, d1⟩, _, d2, d3, d4⟩ := TB.out.at (Below.refl _ _)
  have AT := hid (fun W' (hb : Below W.heap.size W W') => TB.out.at hb)
  have PU := hid (fun W' (hb : Below W.heap.size W W') a b => TB.out.put hb a b)
  by_cases h0 : chkG n l = 0
  · obtain ⟨N, E, rfl, rfl, hg⟩ := chkG_ok h0
    rw [h0, rnA_ok hg, nI_len] at CK
    have NB : N ≤ 4096 := hg.n
    have EB : E.length ≤ 16384 := hg.e
    by_cases hr : rnL N E = []
    · rw [hr] at CK
      rw [(ln_yes hg hr).1, (ln_yes hg hr).2, (orE_yes hg hr).1]
      have GV := hid (fun W' (hb : Below W.heap.size W W') => (hv.below TB.out.bl).below hb)
      have NX := hid (fun W' (hb : Below W.heap.size W W') x => rnext_any W' N _ E hg (GV.out W' hb) x)
      have WS := hid (fun W' (hb : Below W.heap.size W W') u x (hu : GS KI W' u (nI (nx N E x))) => ways_any W' N _ E hg (GV.out W' hb) u (nx N E x) hu (fun f hf => (hg.lt _ ((nx_mem hg).1 hf)).2) (Nat.le_trans (nx_len N E x) hg.n) (-1))
      have HL := hid (fun i j (hj : j < (nx N E i).length) => (hg.lt _ ((nx_mem hg).1 (List.getElem_mem hj))).2)
      have LK := hid (fun i => nx_len N E i)
      have RY := hid (fun x j (hj : j < (nx N E x).length) => lnR_yes hj)
      have RN := hid (fun x j (hj : j < (nx N E x).length) => lnR_no hj)
      have BD := hid (fun k => Nat.le_trans (lnK_len hg k) hg.e)
      have BR := hid (fun x j => Nat.le_trans (lnR_len N E x j) hg.n)
      have KS2 := hid (fun k => lnK_succ N E k)
      have LQ : Hid (lnQ N E = lnK N E N) := rfl
      rw [eI_len] at d1 CK AT TB hW NX WS ⊢
      generalize E.length = m at *
      clear TB h0 hg hr hv
      go_enter Try.func16, Try.ntmps16
      go_upto_region 6 with (go_at_call 40; refine CK.out.mono ?_; rintro e w8 ⟨q6, c6, rfl, _, hb6⟩; have B8 := hid hb6; obtain ⟨⟨g0, g1⟩, _, g2, g3, g4⟩ := AT.out _ hb6; clear hb6)
      clear CK d0 d1 d2 d3 d4
      have Q0 : Hid (TR w8 N w8.heap.size none 0 (eI (lnK N E 0)) (w8.alloc (.cells #[.int .i64 N, .slice none 0 0] 24))) := ⟨bal _ _, heap_alloc_new _ _, OwnG.nil _ _ _, Nat.le_refl _⟩
      go_upto_region 7 with fail
      obtain ⟨bb, hbb⟩ : ∃ bb, bb = w8.heap.size := ⟨_, rfl⟩
      rw [← hbb] at Q0 ⊢
      generalize w8.alloc (.cells #[.int .i64 N, .slice none 0 0] 24) = V8 at *
      obtain ⟨sz, hsz⟩ : ∃ sz, sz = w.heap.size := ⟨_, rfl⟩
      rw [← hsz] at AT PU g0 g1 g2 g3 g4 ⊢
      have AT2 := hid (fun W' (hb : Below w8.heap.size w8 W') => AT.out W' (bl3 B8.out hb))
      have PU2 := hid (fun W' (hb : Below w8.heap.size w8 W') a b => PU.out W' (bl3 B8.out hb) a b)
      have NX2 := hid (fun W' (hb : Below w8.heap.size w8 W') x => NX.out W' (bl3 B8.out hb) x)
      have WS2 := hid (fun W' (hb : Below w8.heap.size w8 W') u x hu => WS.out W' (bl3 B8.out hb) u x hu)
      obtain ⟨⟨y0, y1⟩, _, y2, y3, y4⟩ := AT2.out _ Q0.out.bl
      have HZ := hid hsz
      have SW := hid B8.out.size
      clear hbb hsz g0 g1 g2 g3 g4 hW AT PU NX WS
      go_wp2_with fail
      clear y0 y1 y2 y3 y4
      go_loopw [7] (fun v7 wr => ∃ (k : Nat) (L : List (Int × Int)) (q : Option Addr) (cq : Nat) (wk : World), v7 = .int .i64 k ∧ wk = wr ∧ k ≤ N ∧ Hid (L = eI (lnK N E k)) ∧ Hid (TR w8 N bb q cq L wk)) (fun v7 _ => N - (intOf v7).toNat)
      case atStart => exact ⟨0, _, none, 0, _, rfl, rfl, Nat.zero_le _, rfl, Q0⟩
      case round =>
        obtain ⟨x, L, q, cq, wr, rfl, rfl, hx, HQ, HT⟩ := hrel
        clear Q0
        obtain ⟨⟨y0, y1⟩, _, y2, y3, y4⟩ := AT2.out wr HT.out.bl
        by_cases hlt : x < N
        · have CA := hid (NX2.out wr HT.out.bl x)
          have hxi : (x : Int) < (N : Nat) := by omega
          have lk := LK.out x
          obtain ⟨m2, hm2⟩ : ∃ m2, m2 = (nx N E x).length := ⟨_, rfl⟩
          have MM : Hid ((nx N E x).length = m2) := hm2.symm
          have HX := hid (HL.out x)
          have RY1 := hid (RY.out x)
          have RN1 := hid (RN.out x)
          have BR1 := hid (BR.out x)
          have BD1 := BD.out x
          have KS1 := KS2.out x
          rw [MM.out] at KS1
          rw [nI_len, MM.out] at CA
          have TT := hid HT.out
          have LZ0 : Hid (L = eI (lnK N E x ++ lnR N E x 0)) := by show _ = _; rw [lnR_zero, List.append_nil]; exact HQ.out
          have KS3 := hid KS1
          have W1 := hid (fun W' (hb : Below w8.heap.size w8 W') u hu => WS2.out W' hb u x hu)
          rw [← hm2] at lk
          clear HT HQ hm2 KS1
          go_upto_region 11 with (go_at_call 41; refine CA.out.mono ?_; rintro e w9 ⟨qr, cr, rfl, o9, b9⟩; have O9 := hid (o9.low TT.out.bl.size); have T9 := hid (TT.out.blw b9); obtain ⟨⟨k0, k1⟩, _, k2, k3, k4⟩ := AT2.out w9 T9.out.bl; clear o9 b9)
          clear CA TT y0 y1 y2 y3 y4
          go_upto_region 12 with (refine make_g KB KB_ok false rfl rfl w9 rfl (.tmp 37) (.tmp 37) 49 rfl Try.underlying49 N rfl rfl (by omega) (by decide) ?_; intro w10 ho10 hb10; have T10 := hid (T9.out.blw hb10); have O10 := hid (O9.out.below hb10); have F10 := hid (OwnG.low ho10 T9.out.bl.size); obtain ⟨⟨z0, z1⟩, _, z2, z3, z4⟩ := AT2.out w10 T10.out.bl; clear ho10 hb10)
          clear k0 k1 k2 k3 k4 T9 O9
          by_cases hm0 : m2 = 0
          · subst hm0
            have L2 : Hid (L = eI (lnK N E (x + 1))) := by show _ = _; rw [KS3.out]; exact LZ0.out
            clear F10
            go_wp2_with fail
            go_loopw [10] (fun v10 wq => v10 = .int .i64 (0 : Nat) ∧ w10 = wq) (fun _ _ => 0)
            case atStart => exact ⟨rfl, rfl⟩
            case round =>
              obtain ⟨rfl, rfl⟩ := hrel
              go_wp2_with fail
              go_roundw
              case rel => exact ⟨x + 1, _, _, _, _, by go_num, rfl, by omega, L2, T10⟩
              case measure => simp [intOf]; omega
          have hm1 : (0 : Int) < (m2 : Nat) := by omega
          have CW := hid (W1.out w10 T10.out.bl _ (O10.out.gs KI_ok.len))
          go_upto_region 14 with (go_at_call 42; refine CW.out.mono ?_; rintro e w11 ⟨bs, rfl, o11, b11⟩; have A9 : Hid (LAS w8 N bb bs N (wyB E (-1) (nx N E x)) q cq L qr m2 cr (nI (nx N E x)) w11) := ⟨⟨T10.out.blw b11, o11.low T10.out.bl.size⟩, O10.out.below b11⟩; clear o11 b11)
          clear CW T10 O10 F10 z0 z1 z2 z3 z4 W1
          obtain ⟨Z, oz, rfl⟩ : ∃ Z oz, qr = some ⟨Z, oz, none⟩ := by
            obtain ⟨Z, oz, e, _⟩ := gs_some (A9.out.ro.gs KI_ok.len) (by rw [nI_len, MM.out]; omega)
            exact ⟨Z, oz, e⟩
          go_wp2_with fail
          go_loopw [10] (fun v10 wq => ∃ (j : Nat) (L : List (Int × Int)) (q : Option Addr) (cq : Nat) (wk : World), v10 = .int .i64 j ∧ wk = wq ∧ j ≤ m2 ∧ Hid (L = eI (lnK N E x ++ lnR N E x j)) ∧ Hid (LAS w8 N bb bs N (wyB E (-1) (nx N E x)) q cq L (some ⟨Z, oz, none⟩) m2 cr (nI (nx N E x)) wk)) (fun v10 _ => m2 - (intOf v10).toNat)
          case atStart => exact ⟨0, _, _, _, _, rfl, rfl, Nat.zero_le _, LZ0, A9⟩
          case round =>
            obtain ⟨j, L, q, cq, wq, rfl, rfl, hj, HQ, HA⟩ := hrel
            clear A9 LZ0
            by_cases hlt2 : j < m2
            · have j1 : j < (nx N E x).length := by have := MM.out; omega
              have CZ : Hid (∀ W', OwnG KI W' w8.heap.size (.slice (some ⟨Z, oz, none⟩) m2 cr) (nI (nx N E x)) → W'.cell? ⟨Z, oz + j, none⟩ = some (.int .i64 ((nx N E x)[j] : Nat))) := fun W' h => by
                obtain ⟨Z', o, e1, c1⟩ := (h.gs KI_ok.len).atI (k := j) (by rw [nI_len]; exact j1)
                rw [nI_at j1] at c1
                injection e1 with e1
                injection e1 with e2 e3 _
                subst e2 e3
                exact c1
              have c1 := CZ.out _ HA.out.ro
              have hy := HX.out j j1
              have s1 := HA.out.la.at hy
              have YES := RY1.out j j1
              have NO := RN1.out j j1
              have LL : L.length ≤ 20480 := by
                have := BR1.out j
                have := BD1
                rw [HQ.out, eI_len, List.length_append]; omega
              generalize nI (nx N E x) = RW at *
              generalize (nx N E x)[j] = y at *
              have hyi : (y : Int) < (N : Nat) := by omega
              have hji : (j : Int) < (m2 : Nat) := by omega
              cases hb : wyB E (-1) (nx N E x) y with
              | true =>
                rw [hb] at s1
                have L2 : Hid (L = eI (lnK N E x ++ lnR N E x (j + 1))) := by show _ = _; rw [NO hb]; exact HQ.out
                have A2 := hid HA.out
                clear HA HQ YES NO
                go_wp2_with fail
                go_roundw
                case rel => exact ⟨j + 1, _, _, _, _, by go_num, rfl, by omega, L2, A2⟩
                case measure => simp [intOf]; omega
              | false =>
                rw [hb] at s1
                have L2 : Hid (L ++ [((x : Int), (y : Int))] = eI (lnK N E x ++ lnR N E x (j + 1))) := by
                  show _ = _
                  rw [YES hb, HQ.out, ← List.append_assoc]
                  unfold eI
                  rw [List.map_append (l₂ := [(x, y)])]
                  rfl
                clear HQ YES NO
                go_wp2_with fail
                refine rl18 HA.out hji LL CZ.out ?_
                intro W' g8 c8 x59 x60 x61 x62 x63 x64 x65 x66 x67 x68 x69 hW'
                have K8 := hid hW'
                clear hW' HA
                go_wp2_with fail
                go_roundw
                case rel => exact ⟨j + 1, L ++ [((x : Int), (y : Int))], some ⟨g8, 0, none⟩, c8, _, by go_num, rfl, by omega, L2, K8⟩
                case measure => simp [intOf]; omega
            · obtain rfl : j = m2 := by omega
              have L2 : Hid (L = eI (lnK N E (x + 1))) := by show _ = _; rw [KS3.out]; exact HQ.out
              have T2 := hid HA.out.la.tr
              clear HA HQ
              go_wp2_with fail
              go_roundw
              case rel => exact ⟨x + 1, _, _, _, _, by go_num, rfl, by omega, L2, T2⟩
              case measure => simp [intOf]; omega
        · obtain rfl : x = N := by omega
          have GL : Hid (L = eI (lnQ x E)) := by show _ = _; rw [LQ.out]; exact HQ.out
          have x1 : wr.cell? ⟨bb, 1, none⟩ = some (.slice q L.length cq) := cell_of_row _ _ _ _ _ _ HT.out.bx
          have x0 : wr.cell? ⟨bb, 0, none⟩ = some (.int .i64 x) := cell_of_row _ _ _ _ _ _ HT.out.bx
          obtain ⟨⟨r0, r1⟩, f2, f3⟩ := PU2.out wr HT.out.bl (.int .i64 x) (.slice q L.length cq)
          have F2 := hid f2
          have F3 := hid (f3 _ _ (HT.out.ow.low SW.out))
          rw [HZ.out] at y0 y1 y2 y3 y4 r0 r1 F2 F3 ⊢
          clear HT HQ f2 f3
          go_wp2_with fail
          refine bodyPost_ret (v := .tuple #[.agg #[.int .i64 x, .slice q L.length cq], .int .i64 0]) (by simp [results, Try.results16, go_sem, r0, r1]) rfl ?_
          rw [← GL.out]
          exact ⟨q, cq, rfl, F3.out, F2.out⟩
    · have en : orE N (eI E) = 150 := (orE_not hg hr).1
      have hl0 : 0 < (rnL N E).length := by
        rcases Nat.eq_zero_or_pos (rnL N E).length with h | h
        · exact absurd (List.length_eq_zero_iff.1 h) hr
        · exact h
      rw [(ln_no (by rw [en]; decide)).1, (ln_no (by rw [en]; decide)).2, en]
      rw [eI_len] at d1 CK AT TB hW ⊢
      have PU3 := hid (fun W' (hb : Below W.heap.size W W') => PU.out W' hb (.int .i64 0) (.slice none 0 0))
      generalize (rnL N E).length = rl at *
      have hl1 : (0 : Int) < (rl : Nat) := by omega
      generalize E.length = m at *
      clear TB h0 hg hr hv en PU
      go_enter Try.func16, Try.ntmps16
      go_wp2_with (go_at_call 40; refine CK.out.mono ?_; rintro e w8 ⟨q6, c6, rfl, _, hb8⟩; have B8 := hid hb8; obtain ⟨⟨k0, k1⟩, _, k2, k3, k4⟩ := AT.out _ B8.out; obtain ⟨⟨r0, r1⟩, f2, f3⟩ := PU3.out _ B8.out; have F2 := hid f2; clear hb8 f2 f3)
      refine bodyPost_ret (v := .tuple #[.agg #[.int .i64 0, .slice none 0 0], .int .i64 150]) (by simp [results, Try.results16, go_sem, r0, r1]) rfl ?_
      exact ⟨none, 0, rfl, OwnG.nil _ _ _, F2.out⟩
  · rw [(orE_bad h0).1, (ln_no (by rw [(orE_bad h0).1]; exact h0)).1, (ln_no (by rw [(orE_bad h0).1]; exact h0)).2]
    have PU3 := hid (fun W' (hb : Below W.heap.size W W') => PU.out W' hb (.int .i64 0) (.slice none 0 0))
    generalize chkG n l = r at *
    generalize (rnA n l).length = rl at *
    have b1 : (r != 0) = true := by simp [h0]
    clear TB hv PU
    go_enter Try.func16, Try.ntmps16
    go_wp2_with (go_at_call 40; refine CK.out.mono ?_; rintro e w6 ⟨q6, c6, rfl, _, hb6⟩; have B6 := hid hb6; obtain ⟨⟨g0, g1⟩, _, g2, g3, g4⟩ := AT.out _ hb6; obtain ⟨⟨r0, r1⟩, f2, f3⟩ := PU3.out _ hb6; have F2 := hid f2; clear hb6 f2 f3)
    refine bodyPost_ret (v := .tuple #[.agg #[.int .i64 0, .slice none 0 0], .int .i64 r]) (by simp [results, Try.results16, go_sem, r0, r1]) rfl ?_
    exact ⟨none, 0, rfl, OwnG.nil _ _ _, F2.out⟩
end Go.Proofs.Ytghkhceplpjegaa
