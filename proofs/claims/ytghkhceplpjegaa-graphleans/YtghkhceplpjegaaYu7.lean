/- Graph: the law GraphLeans. -/
import Derived.Test.YtghkhceplpjegaaYu5
import Derived.Test.YtghkhceplpjegaaYq8
import Derived.Test.YtghkhceplpjegaaYp2
import Derived.Test.YtghkhceplpjegaaYh6
import Derived.Test.YtghkhceplpjegaaYd4
namespace Go.Proofs.Ytghkhceplpjegaa
open Go.RowKit

set_option maxRecDepth 100000 in
set_option maxHeartbeats 32000000 in
theorem rGates_any (w : World) (n : Int) (v : Value) (l : List (Int × Int)) (hv : GS KE w v l) (x : Int) : Calls Try.prog 19 #[.agg #[.int .i64 n, v], .int .i64 x] w fun e w' => AnsT w n l x e w' := by
  obtain ⟨p, c, rfl⟩ := hv.form
  by_cases h0 : nxE n l x = 0
  · obtain ⟨N, E, r, rfl, rfl, hg, rfl, hr⟩ := nxE_ok h0
    rw [eI_len] at hv ⊢
    refine (rGates_main w N E hg p c hv r hr).mono fun e w' ⟨bo, h1, h2, h3⟩ => Or.inr ⟨N, r, E, some ⟨bo, 0, none⟩, N, gdF N E r, rfl, rfl, hg, rfl, hr, h1, h2, fun k => gd_ga hg.lt r k, h3⟩
  · have LFT : Hid (∀ e w', e = .returned (.tuple #[.slice none 0 0, .int .i64 (nxE n l x)]) → Below w.heap.size w w' → AnsT w n l x e w') := fun e w' h1 h2 => Or.inl ⟨h0, h1, h2⟩
    generalize hW : w.alloc (.cells #[.int .i64 n, .slice p l.length c] 24) = W
    obtain ⟨bw, c0⟩ := graph_box w n p l.length c hW
    have BW := hid bw
    have C0 := hid c0
    obtain ⟨d0, d1⟩ := c0 W (Below.refl _ _)
    have CK := hid (rcheck_any W n _ l (hv.below bw))
    have ND := hid (fun W' => rnode_any W' n x p l.length c)
    clear c0 bw
    by_cases h1 : chkG n l = 0
    · have h2 : ndB n x = false := by
        unfold nxE at h0
        rw [if_pos h1] at h0
        cases h : ndB n x with
        | false => rfl
        | true => rw [h] at h0; exact absurd rfl h0
      have h3 : nxE n l x = 1 := by unfold nxE; rw [if_pos h1, h2]; rfl
      rw [h1] at CK
      rw [h2] at ND
      rw [h3] at LFT
      generalize l.length = m at *
      clear hv h0 h1 h2 h3
      go_enter Try.func19, Try.ntmps19
      go_wp2_with (first
        | (go_at_call 37; refine CK.out.mono ?_; rintro e w1 ⟨rfl, b1⟩; have B1 := hid b1; obtain ⟨x0, x1⟩ := C0.out _ b1; clear b1)
        | (go_at_call 49; refine (ND.out _).mono ?_; rintro e w2 ⟨rfl, b2⟩; have B2 := hid (bl3 B1.out b2); clear b2))
      go_ret2
      exact LFT.out _ _ rfl (bl3 BW.out B2.out)
    · have h3 : nxE n l x = chkG n l := by unfold nxE; rw [if_neg h1]
      have b1 : (chkG n l != 0) = true := by simp [h1]
      rw [h3] at LFT
      generalize l.length = m at *
      generalize chkG n l = r at *
      clear hv h0 h3 ND
      go_enter Try.func19, Try.ntmps19
      go_wp2_with (go_at_call 37; refine CK.out.mono ?_; rintro e w1 ⟨rfl, b1⟩; have B1 := hid b1; clear b1)
      go_ret2
      exact LFT.out _ _ rfl (bl3 BW.out B1.out)
end Go.Proofs.Ytghkhceplpjegaa
namespace Go.Proofs.Ytghkhceplpjegaa
open Go.RowKit

/-- What Gates answers, as a list. -/
noncomputable def gtA (n : Int) (l : List (Int × Int)) (x : Int) : List Int := if nxE n l x = 0 then (List.range n.toNat).map (gdF n.toNat (eN l) x.toNat) else []
theorem AnsT.ans {w w' : World} {n x : Int} {l : List (Int × Int)} {e : Ending} (h : AnsT w n l x e w') : AnsI w (gtA n l x) (nxE n l x) e w' := by
  rcases h with ⟨h0, rfl, hb⟩ | ⟨N, r, E, q, c, F, rfl, rfl, hg, rfl, hr, rfl, h1, h2, hb⟩
  · have e : gtA n l x = [] := by unfold gtA; rw [if_neg h0]
    rw [e]
    exact AnsI.none hb
  · have h0 : nxE N (eI E) r = 0 := (nxE_at hg hr).1
    have e : gtA N (eI E) r = (List.range N).map F := by
      unfold gtA
      rw [if_pos h0, eN_eI]
      simp only [Int.toNat_natCast]
      exact List.map_congr_left fun k _ => (gd_ga hg.lt r k).uniq (h2 k)
    have hl : ((List.range N).map F).length = N := by simp
    rw [e, h0]
    exact ⟨q, c, by rw [hl], by rw [hl]; exact h1, hb⟩
theorem gtA_len (n : Int) (l : List (Int × Int)) (x : Int) : (gtA n l x).length ≤ 4096 := by
  unfold gtA
  split
  · rename_i h
    obtain ⟨N, E, r, rfl, rfl, hg, rfl, hr⟩ := nxE_ok h
    simp
    exact hg.n
  · simp
theorem lnL_len (n : Int) (e : List (Int × Int)) : (lnL n e).length ≤ 16384 := by
  by_cases h : orE n e = 0
  · have h1 : chkG n e = 0 := Classical.byContradiction fun q => by rw [(orE_bad q).1] at h; exact q h
    obtain ⟨N, E, rfl, rfl, hg⟩ := chkG_ok h1
    have hr : rnL N E = [] := Classical.byContradiction fun q => by rw [(orE_not hg q).1] at h; cases h
    rw [(ln_yes hg hr).2, eI_len]
    exact Nat.le_trans (lnK_len hg N) hg.e
  · rw [(ln_no h).2]; simp
set_option maxRecDepth 100000 in
set_option maxHeartbeats 32000000 in
theorem graphLeans_any (w : World) (n : Int) (v : Value) (l : List (Int × Int)) (hv : GS KE w v l) (hl : l.length * 16 ≤ 140737488355328) (x : Int) : Calls Try.prog 4 #[.agg #[.int .i64 n, v], .int .i64 x] w fun e w' => e = .returned (.bool true) ∧ Below w.heap.size w w' := by
  obtain ⟨p, c, rfl⟩ := hv.form
  generalize hW : w.alloc (.cells #[.int .i64 n, .slice p l.length c] 24) = W
  obtain ⟨bw, c0⟩ := graph_box w n p l.length c hW
  have BW := hid bw
  have H0 := hid c0
  obtain ⟨d0, d1⟩ := c0 W (Below.refl _ _)
  have CP := hid (copied_any W n _ l (hv.below bw) hl)
  have GV := hid (fun W' (hb : Below w.heap.size w W') => hv.below hb)
  obtain ⟨m, hm⟩ : ∃ m, m = l.length := ⟨_, rfl⟩
  rw [← hm] at H0 d1 CP GV hW ⊢
  have L1 : Hid (l.length ≤ 140737488355328) := by show _ ≤ _; omega
  have LA := gtA_len n l x
  have LT := lnL_len n l
  clear hm hv hl bw c0
  go_enter Try.func4, Try.ntmps4
  go_upto_region 2 with (go_at_call 9; refine CP.out.mono ?_; rintro e w1 ⟨p1, c1, rfl, o1, b1⟩; have O1 := hid o1; have B1 := hid b1; clear o1 b1)
  generalize hW3 : w1.alloc (.cells #[.int .i64 n, .slice p1 m c1] 24) = W3 at *
  have BB : Hid (Below w.heap.size w W3) := by rw [← hW3]; exact bl3 BW.out (bl3 B1.out (bal _ _))
  have CB : Hid (∀ W', Below W3.heap.size W3 W' → GX w w.heap.size w1.heap.size n p p1 m c c1 l W3 W') := fun W' hb => by
    have e1 : W'.heap[w1.heap.size]? = some (.cells #[.int .i64 n, .slice p1 m c1] 24) := (hb.block _ (by rw [← hW3, asz]; omega)).trans (by rw [← hW3]; exact heap_alloc_new _ _)
    exact ⟨H0.out W' (by rw [← hW3] at hb; exact bl3 (bl3 B1.out (bal _ _)) hb), ⟨cell_of_row _ _ _ _ _ _ e1, cell_of_row _ _ _ _ _ _ e1⟩, GV.out W' (bl3 BB.out hb), ((O1.out.gs KE_ok.len).below (bal _ _)).below (by rw [hW3]; exact hb)⟩
  obtain ⟨sz, hsz⟩ : ∃ sz, sz = w.heap.size := ⟨_, rfl⟩
  obtain ⟨q7, hq7⟩ : ∃ q7, q7 = w1.heap.size := ⟨_, rfl⟩
  rw [← hsz, ← hq7] at CB
  rw [← hsz, ← hq7]
  clear hsz hq7 hW3 hW O1 B1 CP GV H0 d0 d1 BW
  have X0 := hid (CB.out W3 (Below.refl _ _))
  obtain ⟨x0, x1⟩ := X0.out.b0
  obtain ⟨x2, x3⟩ := X0.out.b1
  have T1 := hid (fun W' (hb : Below W3.heap.size W3 W') => Lean_any W' n _ l (CB.out W' hb).g1)
  have T2 := hid (fun W' (hb : Below W3.heap.size W3 W') => rLean_any W' n _ l (CB.out W' hb).g0)
  have N1 := hid (fun W' (hb : Below W3.heap.size W3 W') => (Gates_any W' n _ l (CB.out W' hb).g1 x).mono fun e w' h => AnsT.ans h)
  have N2 := hid (fun W' (hb : Below W3.heap.size W3 W') => (rGates_any W' n _ l (CB.out W' hb).g0 x).mono fun e w' h => AnsT.ans h)
  have SO := hid (fun W' (hb : Below W3.heap.size W3 W') => same_same W' n _ _ l (CB.out W' hb).g1 (CB.out W' hb).g0 L1.out)
  have SI := hid (fun W' a b L h1 h2 h3 => sameI_yes W' a b L h1 h2 h3)
  have CC := hid (fun W' (hb : Below W3.heap.size W3 W') => And.intro (CB.out W' hb).b0 (CB.out W' hb).b1)
  unfold AnsI at N1 N2
  unfold AnsG at T1 T2
  generalize orE n l = rb at *
  generalize lnA n l = tn at *
  generalize nxE n l x = ra at *
  obtain ⟨A, hA⟩ : ∃ A, A = gtA n l x := ⟨_, rfl⟩
  obtain ⟨D, hD⟩ : ∃ D, D = lnL n l := ⟨_, rfl⟩
  rw [← hA] at N1 N2 LA
  rw [← hD] at T1 T2 LT
  clear hA hD X0
  go_upto_region 3 with (go_at_call 15; refine (T1.out _ (Below.refl _ _)).mono ?_; rintro e w12 ⟨p12, c12, rfl, o12, b12⟩; have O12 := hid o12; have B12 := hid b12; clear o12 b12)
  obtain ⟨V12, hV12⟩ : ∃ V, V = w12.alloc (.cells #[.int .i64 tn, .slice p12 D.length c12] 24) := ⟨_, rfl⟩
  rw [← hV12]
  have BV12 : Hid (Below w12.heap.size w12 V12) := by rw [hV12]; exact bal _ _
  have A12 : Hid (∀ W', Below V12.heap.size V12 W' → W'.cell? ⟨w12.heap.size, 0, none⟩ = some (.int .i64 tn) ∧ W'.cell? ⟨w12.heap.size, 1, none⟩ = some (.slice p12 D.length c12)) := fun W' hb => by
    have e : W'.heap[w12.heap.size]? = some (.cells #[.int .i64 tn, .slice p12 D.length c12] 24) := (hb.block _ (by rw [hV12, asz]; omega)).trans (by rw [hV12]; exact heap_alloc_new _ _)
    exact ⟨cell_of_row _ _ _ _ _ _ e, cell_of_row _ _ _ _ _ _ e⟩
  have B13 : Hid (Below W3.heap.size W3 V12) := bl3 B12.out BV12.out
  obtain ⟨⟨y0, y1⟩, y2, y3⟩ := CC.out _ B13.out
  obtain ⟨t13, ht13⟩ : ∃ t, t = w12.heap.size := ⟨_, rfl⟩
  rw [← ht13] at A12
  rw [← ht13]
  clear hV12 ht13 x0 x1 x2 x3
  go_upto_region 4 with (go_at_call 16; refine (T2.out _ B13.out).mono ?_; rintro e w14 ⟨p14, c14, rfl, o14, b14⟩; have O14 := hid o14; have B14 := hid (bl3 B13.out b14); have X14 := hid b14; clear o14 b14)
  obtain ⟨V14, hV14⟩ : ∃ V, V = w14.alloc (.cells #[.int .i64 tn, .slice p14 D.length c14] 24) := ⟨_, rfl⟩
  rw [← hV14]
  have BV14 : Hid (Below w14.heap.size w14 V14) := by rw [hV14]; exact bal _ _
  have e14 : V14.heap[w14.heap.size]? = some (.cells #[.int .i64 tn, .slice p14 D.length c14] 24) := by rw [hV14]; exact heap_alloc_new _ _
  have z0 : V14.cell? ⟨w14.heap.size, 0, none⟩ = some (.int .i64 tn) := cell_of_row _ _ _ _ _ _ e14
  have z1 : V14.cell? ⟨w14.heap.size, 1, none⟩ = some (.slice p14 D.length c14) := cell_of_row _ _ _ _ _ _ e14
  obtain ⟨k0, k1⟩ := A12.out V14 (bl3 X14.out BV14.out)
  have B15 : Hid (Below W3.heap.size W3 V14) := bl3 B14.out BV14.out
  have SS := hid (same_same V14 tn _ _ D (((O12.out.gs KE_ok.len).below BV12.out).below (bl3 X14.out BV14.out)) ((O14.out.gs KE_ok.len).below BV14.out) (by omega))
  have SP := hid (fun W' (hb : Below V14.heap.size V14 W') => spoil_any tn _ D W' W3.heap.size (((O12.out.below BV12.out).below (bl3 X14.out BV14.out)).below hb))
  have AV : Hid (∀ W', Below V14.heap.size V14 W' → W'.cell? ⟨t13, 0, none⟩ = some (.int .i64 tn) ∧ W'.cell? ⟨t13, 1, none⟩ = some (.slice p12 D.length c12)) := fun W' hb => A12.out W' (bl3 (bl3 X14.out BV14.out) hb)
  have OB : Hid (∀ g, (Value.slice p12 D.length c12).ownBlock = some g → W3.heap.size ≤ g) := fun g hg => (O12.out.lt hg).1
  generalize D.length = dl at *
  clear e14 hV14 A12 O12 O14 T1 T2
  go_upto_region 7 with (first
    | (go_at_call 17; refine (SP.out _ X16.out).mono ?_; rintro e w17 ⟨rfl, b17⟩; have B17 : Hid (Below W3.heap.size W3 w17) := B16.out.trans (b17.below B16.out.size OB.out); obtain ⟨⟨j0, j1⟩, j2, j3⟩ := CC.out _ B17.out; clear b17)
    | (go_at_call 14; refine SS.out.mono ?_; rintro e w16 ⟨rfl, b16⟩; have X16 := hid b16; have B16 := hid (bl3 B15.out b16); obtain ⟨h0, h1⟩ := AV.out _ b16; clear b16))
  clear y0 y1 y2 y3 z0 z1 k0 k1 h0 h1 SS SP AV
  go_wp2_with (first
    | (go_at_call 18; refine (N1.out _ B17.out).mono ?_; rintro e w6 ⟨q6, c6, rfl, g6, b6⟩; have G6 := hid g6; have B6 := hid (bl3 B17.out b6); obtain ⟨⟨y0, y1⟩, y2, y3⟩ := CC.out _ B6.out; clear g6 b6)
    | (go_at_call 19; refine (N2.out _ B6.out).mono ?_; rintro e w7 ⟨r7, c7, rfl, g7, b7⟩; have S7 := hid (SI.out w7 _ _ A (G6.out.below b7) g7 (by omega)); have B7 := hid (bl3 B6.out b7); clear g7 b7)
    | (go_at_call 13; refine S7.out.mono ?_; rintro e w8 ⟨rfl, b8⟩; have B8 := hid (bl3 B7.out b8); obtain ⟨⟨z0, z1⟩, z2, z3⟩ := CC.out _ B8.out; clear b8)
    | (go_at_call 14; refine (SO.out _ B8.out).mono ?_; rintro e w9 ⟨rfl, b9⟩; have B9 := hid (bl3 B8.out b9); clear b9))
  go_ret
  exact ⟨rfl, bl3 BB.out B9.out⟩
end Go.Proofs.Ytghkhceplpjegaa
