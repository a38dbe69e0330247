/- Graph: Lean of the program, walked. -/
import Derived.Test.YtghkhceplpjegaaYh3
namespace Go.Proofs.Ytghkhceplpjegaa
open Go.RowKit

set_option maxRecDepth 100000 in
set_option maxHeartbeats 32000000 in
theorem Lean_any (w : World) (n : Int) (v : Value) (l : List (Int × Int)) (hv : GS KE w v l) : Calls Try.prog 15 #[.agg #[.int .i64 n, v]] w fun e w' => AnsG w (lnA n l) (lnL n l) (orE n l) e w' := by
  obtain ⟨p, c, rfl⟩ := hv.form
  have TB := hid (TB2.mk_ w n (.slice p l.length c))
  generalize hW : (w.alloc (.cells #[.int .i64 n, .slice p l.length c] 24)).alloc (.cells #[.int .i64 0, .slice none 0 0] 24) = W at *
  have CK := hid (check_any W n _ l (hv.below TB.out.bl))
  obtain ⟨⟨d0, d1⟩, _, d2, d3, d4⟩ := TB.out.at (Below.refl _ _)
  have AT := hid (fun W' (hb : Below W.heap.size W W') => TB.out.at hb)
  have PU := hid (fun W' (hb : Below W.heap.size W W') a b => TB.out.put hb a b)
  by_cases h0 : chkG n l = 0
  · obtain ⟨N, E, rfl, rfl, hg⟩ := chkG_ok h0
    rw [h0] at CK
    have LN := hid (fun W' (hb : Below W.heap.size W W') => lanesOf_any W' N _ E hg ((hv.below TB.out.bl).below hb))
    have NB : N ≤ 4096 := hg.n
    have EB : E.length ≤ 16384 := hg.e
    by_cases hr : rnL N E = []
    · have OR := hid (fun W' bb lb vs h => (order_any W' N E hg bb lb vs h).mono (R' := _) fun e w' h => h.yes hr)
      rw [(ln_yes hg hr).1, (ln_yes hg hr).2, (orE_yes hg hr).1]
      have AR := hid (fun W' zb lb vs hz x hx => around_any W' N E hg zb lb vs hz x hx)
      have HL := hid (fun i j (hj : j < (nx N E i).length) => (hg.lt _ ((nx_mem hg).1 (List.getElem_mem hj))).2)
      have LK := hid (fun i => nx_len N E i)
      have RY := hid (fun x j (hj : j < (nx N E x).length) => lnR_yes hj)
      have RN := hid (fun x j (hj : j < (nx N E x).length) => lnR_no hj)
      have BD := hid (fun k => Nat.le_trans (lnK_len hg k) hg.e)
      have BR := hid (fun x j => Nat.le_trans (lnR_len N E x j) hg.n)
      have KS2 := hid (fun k => lnK_succ N E k)
      have LQ : Hid (lnQ N E = lnK N E N) := rfl
      rw [eI_len] at d1 CK LN AT TB hW ⊢
      generalize E.length = m at *
      clear TB h0 hg hr hv
      go_enter Try.func15, Try.ntmps15
      go_upto_region 8 with (first
        | (go_at_call 31; refine CK.out.mono ?_; rintro e w6 ⟨rfl, hb6⟩; have B6 := hid hb6; obtain ⟨⟨g0, g1⟩, _, g2, g3, g4⟩ := AT.out _ hb6; clear hb6)
        | (go_at_call 34; refine (LN.out _ B6.out).mono ?_; rintro e w7 ⟨b7, vs7, rfl, hz7, hb7⟩; have B7 := hid (bl3 B6.out hb7); have Z7 := hid hz7; have OC := hid (OR.out w7 _ b7 vs7 hz7); clear hb7 hz7)
        | (go_at_call 35; refine OC.out.mono ?_; rintro e w8 ⟨p8, c8, rfl, _, hb8⟩; have B8 := hid (bl3 B7.out hb8); have Z8 := hid (Z7.out.below hb8); obtain ⟨⟨k0, k1⟩, _, k2, k3, k4⟩ := AT.out _ B8.out; clear hb8))
      clear CK LN OR OC B6 B7 Z7 g0 g1 g2 g3 g4 d0 d1 d2 d3 d4
      have Q0 : Hid (TR w8 N w8.heap.size none 0 (eI (lnK N E 0)) (w8.alloc (.cells #[.int .i64 N, .slice none 0 0] 24))) := ⟨bal _ _, heap_alloc_new _ _, OwnG.nil _ _ _, Nat.le_refl _⟩
      go_upto_region 9 with fail
      obtain ⟨bb, hbb⟩ : ∃ bb, bb = w8.heap.size := ⟨_, rfl⟩
      rw [← hbb] at Q0 ⊢
      generalize w8.alloc (.cells #[.int .i64 N, .slice none 0 0] 24) = V8 at *
      have BX : Hid (bb < V8.heap.size ∧ True) := ⟨lt_of_heap Q0.out.bx, trivial⟩
      obtain ⟨sz, hsz⟩ : ∃ sz, sz = w.heap.size := ⟨_, rfl⟩
      rw [← hsz] at AT PU k0 k1 k2 k3 k4 ⊢
      have AT2 := hid (fun W' (hb : Below w8.heap.size w8 W') => AT.out W' (bl3 B8.out hb))
      have PU2 := hid (fun W' (hb : Below w8.heap.size w8 W') a b => PU.out W' (bl3 B8.out hb) a b)
      obtain ⟨⟨y0, y1⟩, _, y2, y3, y4⟩ := AT2.out _ Q0.out.bl
      have ZC := hid (fun wr (hb : Below w8.heap.size w8 wr) i (hi : i < N) => LZ.cell (A := nx N E) (Z8.out.below hb) hi)
      have AC := hid (fun wr (hb : Below w8.heap.size w8 wr) x hx => AR.out wr _ _ _ (Z8.out.below hb) x hx)
      have HZ := hid hsz
      have SW := hid B8.out.size
      clear hbb hsz k0 k1 k2 k3 k4 hW AT PU AR Z8 BX
      go_wp2_with fail
      clear y0 y1 y2 y3 y4
      go_loopw [35] (fun v35 wr => ∃ (k : Nat) (L : List (Int × Int)) (q : Option Addr) (cq : Nat) (wk : World), v35 = .int .i64 k ∧ wk = wr ∧ k ≤ N ∧ Hid (L = eI (lnK N E k)) ∧ Hid (TR w8 N bb q cq L wk)) (fun v35 _ => N - (intOf v35).toNat)
      case atStart => exact ⟨0, _, none, 0, _, rfl, rfl, Nat.zero_le _, rfl, Q0⟩
      case round =>
        obtain ⟨x, L, q, cq, wr, rfl, rfl, hx, HQ, HT⟩ := hrel
        clear Q0
        by_cases hlt : x < N
        · have CA := hid (AC.out wr HT.out.bl x hlt)
          have hxi : (x : Int) < (N : Nat) := by omega
          have lk := LK.out x
          obtain ⟨m2, hm2⟩ : ∃ m2, m2 = (nx N E x).length := ⟨_, rfl⟩
          have MM : Hid ((nx N E x).length = m2) := hm2.symm
          have GX := hid (fun wq (hb : Below w8.heap.size w8 wq) => ZC.out wq hb x hlt)
          have HX := hid (HL.out x)
          have RY1 := hid (RY.out x)
          have RN1 := hid (RN.out x)
          have BR1 := hid (BR.out x)
          have BD1 := BD.out x
          have KS1 := KS2.out x
          rw [MM.out] at GX KS1
          have TT := hid HT.out
          have LZ0 : Hid (L = eI (lnK N E x ++ lnR N E x 0)) := by show _ = _; rw [lnR_zero, List.append_nil]; exact HQ.out
          have KS3 := hid KS1
          rw [← hm2] at lk
          generalize (vs7.getD x sl0).1 = px at *
          generalize (vs7.getD x sl0).2.2 = cx at *
          clear HT HQ hm2 KS1
          go_upto_region 13 with (go_at_call 39; refine CA.out.mono ?_; rintro e w9 ⟨bs, rfl, o9, b9⟩; have A9 : Hid (LAR w8 N bb bs N (wyB E (-1) (nx N E x)) q cq L w9) := ⟨TT.out.blw b9, o9.low TT.out.bl.size⟩; clear o9 b9)
          obtain ⟨r1, r2⟩ := GX.out w9 A9.out.tr.bl
          clear r2 TT CA
          go_wp2_with fail
          clear r1
          go_loopw [46] (fun v46 wq => ∃ (j : Nat) (L : List (Int × Int)) (q : Option Addr) (cq : Nat) (wk : World), v46 = .int .i64 j ∧ wk = wq ∧ j ≤ m2 ∧ Hid (L = eI (lnK N E x ++ lnR N E x j)) ∧ Hid (LAR w8 N bb bs N (wyB E (-1) (nx N E x)) q cq L wk)) (fun v46 _ => m2 - (intOf v46).toNat)
          case atStart => exact ⟨0, _, _, _, _, rfl, rfl, Nat.zero_le _, LZ0, A9⟩
          case round =>
            obtain ⟨j, L, q, cq, wq, rfl, rfl, hj, HQ, HA⟩ := hrel
            clear A9 LZ0
            by_cases hlt2 : j < m2
            · have j1 : j < (nx N E x).length := by have := MM.out; omega
              obtain ⟨_, r2⟩ := GX.out wq HA.out.tr.bl
              have r3 : GS KI wq (.slice px (nI (nx N E x)).length cx) (nI (nx N E x)) := by rw [nI_len, MM.out]; exact r2
              obtain ⟨Z, o, e1, c1⟩ := r3.atI (k := j) (by rw [nI_len]; exact j1)
              rw [nI_at j1] at c1
              subst e1
              have hy := HX.out j j1
              have s1 := HA.out.at hy
              have YES := RY1.out j j1
              have NO := RN1.out j j1
              have LL : L.length ≤ 20480 := by
                have := BR1.out j
                have := BD1
                rw [HQ.out, eI_len, List.length_append]; omega
              have x1 : wq.cell? ⟨bb, 1, none⟩ = some (.slice q L.length cq) := cell_of_row _ _ _ _ _ _ HA.out.tr.bx
              have x2 : ∀ ob, (wq.alloc ob).cell? ⟨bb, 1, none⟩ = some (.slice q L.length cq) := fun ob => ((bal wq ob).cell (p := ⟨bb, 1, none⟩) (lt_of_heap HA.out.tr.bx)).trans x1
              generalize (nx N E x)[j] = y at *
              have hyi : (y : Int) < (N : Nat) := by omega
              have hji : (j : Int) < (m2 : Nat) := by omega
              clear r2 r3
              cases hb : wyB E (-1) (nx N E x) y with
              | true =>
                rw [hb] at s1
                have L2 : Hid (L = eI (lnK N E x ++ lnR N E x (j + 1))) := by show _ = _; rw [NO hb]; exact HQ.out
                have A2 := hid HA.out
                clear HA HQ YES NO x1 x2
                go_wp2_with fail
                go_roundw
                case rel => exact ⟨j + 1, _, _, _, _, by go_num, rfl, by omega, L2, A2⟩
                case measure => simp [intOf]; omega
              | false =>
                rw [hb] at s1
                have L2 : Hid (L ++ [((x : Int), (y : Int))] = eI (lnK N E x ++ lnR N E x (j + 1))) := by
                  show _ = _
                  rw [YES hb, HQ.out, ← List.append_assoc]
                  unfold eI
                  rw [List.map_append (l₂ := [(x, y)])]
                  rfl
                have OW := hid HA.out.tr.ow
                have LS : Hid ((L.length + 1) * KE.B ≤ 140737488355328) := by show (_ + 1) * 16 ≤ _; omega
                have BS : Hid (w8.heap.size ≤ wq.heap.size) := HA.out.tr.bl.size
                have PP := hid (fun w8 g8 c8 => HA.out.push (x := ((x : Int), (y : Int))) (w1 := wq) (w8 := w8) (g8 := g8) (c8 := c8) (Below.refl _ _))
                clear HA HQ YES NO
                go_wp2_with (at_builtin; refine append_g KE KE_ok rfl (.tmp 56) (.tmp 60) 22 rfl w8.heap.size Try.underlying22 wq _ _ (.slice q L.length cq) L ((x : Int), (y : Int)) _ rfl OW.out wq.heap.size rfl rfl rfl LS.out BS.out ?_; intro g8 c8 wv ho8 hb8 hk8 hg8; obtain ⟨k1, k2, k3⟩ := PP.out wv g8 c8 ho8 hb8 hk8; have K8 := hid k1; clear k1 ho8 hb8 hk8 hg8)
                all_goals
                  go_roundw
                  case rel => exact ⟨j + 1, L ++ [((x : Int), (y : Int))], some ⟨g8, 0, none⟩, c8, _, by go_num, rfl, by omega, L2, by first | exact K8.out | (have := K8.out; simp only [List.length_append, List.length_singleton] at this ⊢; exact this)⟩
                  case measure => simp [intOf]; omega
            · obtain rfl : j = m2 := by omega
              have L2 : Hid (L = eI (lnK N E (x + 1))) := by show _ = _; rw [KS3.out]; exact HQ.out
              have T2 := hid HA.out.tr
              clear HA HQ
              go_wp2_with fail
              go_roundw
              case rel => exact ⟨x + 1, _, _, _, _, by go_num, rfl, by omega, L2, T2⟩
              case measure => simp [intOf]; omega
        · obtain rfl : x = N := by omega
          have GL : Hid (L = eI (lnQ x E)) := by show _ = _; rw [LQ.out]; exact HQ.out
          have x1 : wr.cell? ⟨bb, 1, none⟩ = some (.slice q L.length cq) := cell_of_row _ _ _ _ _ _ HT.out.bx
          have x0 : wr.cell? ⟨bb, 0, none⟩ = some (.int .i64 x) := cell_of_row _ _ _ _ _ _ HT.out.bx
          obtain ⟨⟨y0, y1⟩, _, y2, y3, y4⟩ := AT2.out _ HT.out.bl
          obtain ⟨⟨r0, r1⟩, f2, f3⟩ := PU2.out wr HT.out.bl (.int .i64 x) (.slice q L.length cq)
          have F2 := hid f2
          have F3 := hid (f3 _ _ (HT.out.ow.low SW.out))
          rw [HZ.out] at y0 y1 y2 y3 y4 r0 r1 F2 F3 ⊢
          clear HT HQ f2 f3
          go_wp2_with fail
          refine bodyPost_ret (v := .tuple #[.agg #[.int .i64 x, .slice q L.length cq], .int .i64 0]) (by simp [results, Try.results15, go_sem, r0, r1]) rfl ?_
          rw [← GL.out]
          exact ⟨q, cq, rfl, F3.out, F2.out⟩
    · have OR := hid (fun W' bb lb vs h => (order_any W' N E hg bb lb vs h).mono (R' := _) fun e w' h => h.not hr)
      have en : orE N (eI E) = 150 := (orE_not hg hr).1
      rw [(ln_no (by rw [en]; decide)).1, (ln_no (by rw [en]; decide)).2, en]
      rw [eI_len] at d1 CK LN AT TB hW ⊢
      generalize E.length = m at *
      have PU3 := hid (fun W' (hb : Below W.heap.size W W') => PU.out W' hb (.int .i64 0) (.slice none 0 0))
      clear TB h0 hg hr hv en PU
      go_enter Try.func15, Try.ntmps15
      go_wp2_with (first
        | (go_at_call 31; refine CK.out.mono ?_; rintro e w6 ⟨rfl, hb6⟩; have B6 := hid hb6; obtain ⟨⟨g0, g1⟩, _, g2, g3, g4⟩ := AT.out _ hb6; clear hb6)
        | (go_at_call 34; refine (LN.out _ B6.out).mono ?_; rintro e w7 ⟨b7, vs7, rfl, hz7, hb7⟩; have B7 := hid (bl3 B6.out hb7); have Z7 := hid hz7; have OC := hid (OR.out w7 _ b7 vs7 hz7); clear hb7 hz7)
        | (go_at_call 35; refine OC.out.mono ?_; rintro e w8 ⟨rfl, hb8⟩; have B8 := hid (bl3 B7.out hb8); obtain ⟨⟨k0, k1⟩, _, k2, k3, k4⟩ := AT.out _ B8.out; obtain ⟨⟨r0, r1⟩, f2, f3⟩ := PU3.out _ B8.out; have F2 := hid f2; clear hb8 f2 f3))
      refine bodyPost_ret (v := .tuple #[.agg #[.int .i64 0, .slice none 0 0], .int .i64 150]) (by simp [results, Try.results15, go_sem, r0, r1]) rfl ?_
      exact ⟨none, 0, rfl, OwnG.nil _ _ _, F2.out⟩
  · rw [(orE_bad h0).1, (ln_no (by rw [(orE_bad h0).1]; exact h0)).1, (ln_no (by rw [(orE_bad h0).1]; exact h0)).2]
    have PU3 := hid (fun W' (hb : Below W.heap.size W W') => PU.out W' hb (.int .i64 0) (.slice none 0 0))
    generalize chkG n l = r at *
    have b1 : (r != 0) = true := by simp [h0]
    clear TB hv PU
    go_enter Try.func15, Try.ntmps15
    go_wp2_with (go_at_call 31; refine CK.out.mono ?_; rintro e w6 ⟨rfl, hb6⟩; have B6 := hid hb6; obtain ⟨⟨g0, g1⟩, _, g2, g3, g4⟩ := AT.out _ hb6; obtain ⟨⟨r0, r1⟩, f2, f3⟩ := PU3.out _ hb6; have F2 := hid f2; clear hb6 f2 f3)
    refine bodyPost_ret (v := .tuple #[.agg #[.int .i64 0, .slice none 0 0], .int .i64 r]) (by simp [results, Try.results15, go_sem, r0, r1]) rfl ?_
    exact ⟨none, 0, rfl, OwnG.nil _ _ _, F2.out⟩
end Go.Proofs.Ytghkhceplpjegaa
