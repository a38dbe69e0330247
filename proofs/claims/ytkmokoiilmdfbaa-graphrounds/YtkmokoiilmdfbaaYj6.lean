/- Graph: the document's Circle, walked. -/
import Derived.Test.YtkmokoiilmdfbaaYj5
import Derived.Test.YtkmokoiilmdfbaaYe3
namespace Go.Proofs.Ytkmokoiilmdfbaa
open Go.RowKit

theorem FS.keep {w : World} {N X g off cap : Nat} {F : Nat → Int} {T : List Nat} {W W' : World} (h : FS w N X g off cap F T W) (hb : Below W.heap.size W W') : FS w N X g off cap F T W' :=
  ⟨bl3 h.bl hb, h.lf.far (hb.block _ h.lf.lt.2), h.qr.far (hb.block _ h.qr.lt), h.ne⟩
/-- The list of the node that the search stands at, too. -/
structure FT (w : World) (N X g off cap : Nat) (F : Nat → Int) (T : List Nat) (vl : Value) (L : List Int) (W : World) : Prop where
  s : FS w N X g off cap F T W
  lr : GS KI W vl L
  ln : vl.ownBlock ≠ some X
  lq : vl.ownBlock ≠ some g
  lb : ∀ q, vl.ownBlock = some q → q < W.heap.size
theorem FT.of {w : World} {N X g off cap : Nat} {F : Nat → Int} {T : List Nat} {vl : Value} {L : List Int} {W W' : World} (h : FS w N X g off cap F T W) (ho : OwnG KI W' W.heap.size vl L) (hb : Below W.heap.size W W') : FT w N X g off cap F T vl L W' :=
  ⟨h.keep hb, ho.gs KI_ok.len, fun e => by have := (ho.lt e).1; have := h.lf.lt.2; omega, fun e => by have := (ho.lt e).1; have := h.qr.lt; omega, fun q e => (ho.lt e).2⟩
theorem FT.set {w : World} {N X g off cap : Nat} {F : Nat → Int} {T : List Nat} {vl : Value} {L : List Int} {W : World} (h : FT w N X g off cap F T vl L W) (i : Nat) (y : Int) : FT w N X g off cap (upF F i y) T vl L (W.setCell ⟨X, i, none⟩ (.int .i64 y)) :=
  ⟨h.s.set i y, h.lr.blk (by simp) (fun x hx _ => set_far (fun e => h.ln (by rw [hx, e]))), h.ln, h.lq, fun q e => by have := h.lb q e; simpa using this⟩
theorem FT.drew {w : World} {N X g off cap : Nat} {F : Nat → Int} {T : List Nat} {vl : Value} {L : List Int} {W : World} (h : FT w N X g off cap F T vl L W) (n : Nat) : FT w N X g off cap F T vl L (W.drewN n) :=
  ⟨h.s.keep (drew_below W n), h.lr.below (drew_below W n), h.ln, h.lq, h.lb⟩
theorem FT.app {w : World} {N X g off cap : Nat} {F : Nat → Int} {T : List Nat} {vl : Value} {L : List Int} {W : World} (h : FT w N X g off cap F T vl L W) {g' off' cap' : Nat} {w' : World} {T' : List Nat} (hT : QR w' w.heap.size g' off' cap' T') (hb : Below w.heap.size W w') (hk : ∀ k, k < W.heap.size → k ≠ g → w'.heap[k]? = W.heap[k]?) (hg : g' = g ∨ W.heap.size ≤ g') : FT w N X g' off' cap' F T' vl L w' := by
  refine ⟨h.s.app hT hb hk hg, h.lr.blk hb.size (fun x hx hl => hk x hl (fun e => h.lq (by rw [hx, e]))), h.ln, fun e => ?_, fun q e => Nat.lt_of_lt_of_le (h.lb q e) hb.size⟩
  rcases hg with q | q
  · exact h.lq (by rw [e, q])
  · have := h.lb g' e; omega
theorem LFR.eqN {w : World} {base X N : Nat} {F G : Nat → Int} (h : LFR w base X N F) (k : ∀ x, x < N → F x = G x) : LFR w base X N G := by
  have e : (List.range N).map F = (List.range N).map G := List.map_congr_left fun x hx => k x (List.mem_range.1 hx)
  unfold LFR at h ⊢
  rw [← e]
  exact h
theorem LFR.low {w : World} {base b2 X N : Nat} {F : Nat → Int} (h : LFR w base X N F) (k : b2 ≤ base) : LFR w b2 X N F := OwnG.low h k
def fiF (k : Nat) : Nat → Int := fun y => if y < k then -1 else 0
theorem fi_put (k : Nat) : ∀ x, upF (fiF k) k (-1) x = fiF (k + 1) x := fun x => by
  unfold upF fiF
  by_cases e : x = k
  · rw [if_pos e, if_pos (by omega)]
  · rw [if_neg e]
    by_cases e2 : x < k
    · rw [if_pos e2, if_pos (by omega)]
    · rw [if_neg e2, if_neg (by omega)]
set_option maxRecDepth 100000 in
set_option maxHeartbeats 32000000 in
theorem rCircle_any (w : World) (n : Int) (v : Value) (l : List (Int × Int)) (hv : GS KE w v l) (x : Int) : Calls Try.prog 27 #[.agg #[.int .i64 n, v], .int .i64 x] w fun e w' => AnsI w (ciA n l x) (ciE n l x) e w' := by
  obtain ⟨p, c, rfl⟩ := hv.form
  generalize hW : w.alloc (.cells #[.int .i64 n, .slice p l.length c] 24) = W
  obtain ⟨bw, c0⟩ := graph_boxF w n p l.length c hW
  have BW := hid bw
  have C0 := hid c0
  have TU := hid (rTurn_any W n _ l (hv.below BW.out))
  obtain ⟨d0, d1⟩ := C0.out W (Below.refl _ _)
  clear bw c0
  by_cases h0 : chkG n l = 0
  · obtain ⟨N, E, rfl, rfl, hg⟩ := chkG_ok h0
    have e1 : tuN N (eI E) = N := by unfold tuN; rw [if_pos h0]
    have e2 : tuL N (eI E) = eI (tu E) := by unfold tuL; rw [if_pos h0, eI_tu]
    rw [e1, e2, h0] at TU
    unfold AnsG at TU
    rw [eI_len] at TU C0 d1 hW ⊢
    rw [eI_len, tu_len] at TU
    have a5 : N ≤ 4096 := hg.n
    have HG := hid hg
    have ND := hid (fun W' => rnode_any W' N x p E.length c)
    have CW := hid (fun W' u (m : Nat) (hm : m < N) (hb : Below w.heap.size w W') (hu : GS KI W' u [(m : Int)]) => ways_any W' N _ E hg (hv.below hb) u [m] hu (fun f hf => by rw [List.mem_singleton] at hf; rw [hf]; exact hm) (by simp) (-1))
    have NXG := hid (fun W' (hb : Below w.heap.size w W') y => rnext_any W' N _ E hg (hv.below hb) y)
    have NXT := hid (fun W' v' (hv' : GS KE W' v' (eI (tu E))) y => rnext_any W' N v' (tu E) (tu_ok hg) hv' y)
    rw [eI_len] at CW NXG
    obtain ⟨el, hel⟩ : ∃ el, el = E.length := ⟨_, rfl⟩
    rw [← hel] at TU C0 d1 hW CW NXG ND ⊢
    have BADX : Hid (ndB N x = false → ∀ w', Below w.heap.size w w' → AnsI w (ciA N (eI E) x) (ciE N (eI E) x) (.returned (.tuple #[.slice none 0 0, .int .i64 1])) w') := fun h w' hb => by
      have hx : nxE N (eI E) x = 1 := by unfold nxE; rw [if_pos HG.out.chk, h]; rfl
      have h9 := ciE_bad (n := N) (l := eI E) (x := x) (by rw [hx]; decide)
      rw [h9.1, h9.2, hx]
      exact AnsI.none hb
    clear h0 hg e1 e2 hv hel
    go_enter Try.func27, Try.ntmps27
    go_upto_region 4 with (go_at_call 19; refine TU.out.mono ?_; rintro e w6 ⟨p6, c6, rfl, o6, b6⟩; have O6 := hid o6; have B6 := hid b6; clear o6 b6)
    generalize hV : w6.alloc (.cells #[.int .i64 N, .slice p6 el c6] 24) = V
    obtain ⟨tb, htb⟩ : ∃ tb, tb = w6.heap.size := ⟨_, rfl⟩
    obtain ⟨sz, hsz⟩ : ∃ sz, sz = w.heap.size := ⟨_, rfl⟩
    have BV : Hid (Below W.heap.size W V) := by rw [← hV]; exact bl3 B6.out (bal _ _)
    have GC : Hid (∀ W', Below V.heap.size V W' → W'.cell? ⟨sz, 0, none⟩ = some (.int .i64 N) ∧ W'.cell? ⟨sz, 1, none⟩ = some (.slice p el c) ∧ W'.cell? ⟨tb, 0, none⟩ = some (.int .i64 N) ∧ W'.cell? ⟨tb, 1, none⟩ = some (.slice p6 el c6)) := fun W' hb => by
      have e : W'.heap[w6.heap.size]? = some (.cells #[.int .i64 N, .slice p6 el c6] 24) := (hb.block _ (by rw [← hV, asz]; omega)).trans (by rw [← hV]; exact heap_alloc_new _ _)
      rw [htb, hsz]
      exact ⟨(C0.out W' (bl3 BV.out hb)).1, (C0.out W' (bl3 BV.out hb)).2, cell_of_row _ _ _ _ _ _ e, cell_of_row _ _ _ _ _ _ e⟩
    have OT : Hid (GS KE V (.slice p6 el c6) (eI (tu E))) := by rw [← hV]; exact (O6.out.below (bal _ _)).gs KE_ok.len
    have WV : Hid (Below w.heap.size w V) := bl3 BW.out BV.out
    rw [← htb, ← hsz]
    clear hW hV d0 d1 C0 TU O6 B6 BV BW htb hsz
    obtain ⟨z0, z1, z2, z3⟩ := GC.out V (Below.refl _ _)
    cases hx : ndB N x with
    | false =>
      rw [hx] at ND
      have BX := hid (BADX.out hx)
      go_wp2_with (go_at_call 42; refine (ND.out _).mono ?_; rintro e w7 ⟨rfl, hb7⟩; have B7 := hid hb7; clear hb7)
      go_ret2
      exact BX.out _ (bl3 WV.out B7.out)
    | true =>
      obtain ⟨i, rfl, hi⟩ : ∃ i : Nat, x = i ∧ i < N := by
        simp only [ndB, Bool.and_eq_true, decide_eq_true_eq] at hx
        exact ⟨x.toNat, by omega, by omega⟩
      rw [hx] at ND
      clear BADX hx
      have hii : (i : Int) < (N : Nat) := by omega
      have U0 : Hid (GS KI (V.alloc (.cells #[.int .i64 (i : Nat)] 3)) (.slice (some ⟨V.heap.size, 0, none⟩) 1 1) [(i : Int)]) := (own_of (l := [(i : Int)]) (base := V.heap.size) (heap_alloc_new _ _) (Nat.le_refl _) (by show 1 ≤ maxLen; decide)).gs KI_ok.len
      go_upto_region 6 with (go_at_call 42; refine (ND.out _).mono ?_; rintro e w7 ⟨rfl, hb7⟩; have B7 := hid hb7; obtain ⟨x0, x1, x2, x3⟩ := GC.out _ hb7; clear hb7)
      have U7 : Hid (GS KI (w7.alloc (.cells #[.int .i64 (i : Nat)] 3)) (.slice (some ⟨w7.heap.size, 0, none⟩) 1 1) [(i : Int)]) := (own_of (l := [(i : Int)]) (base := w7.heap.size) (heap_alloc_new _ _) (Nat.le_refl _) (by show 1 ≤ maxLen; decide)).gs KI_ok.len
      have B8 : Hid (Below V.heap.size V (w7.alloc (.cells #[.int .i64 (i : Nat)] 3))) := bl3 B7.out (bal _ _)
      generalize hw8 : w7.alloc (.cells #[.int .i64 (i : Nat)] 3) = w8 at U7 B8
      have WY := hid (CW.out w8 _ i hi (bl3 WV.out B8.out) U7.out)
      have WB : Hid (∀ w9 bs, OwnG KB w9 w8.heap.size (.slice (some ⟨bs, 0, none⟩) N N) ((List.range N).map (wyB E (-1) [i])) → w9.cell? ⟨bs, i, none⟩ = some (.bool (wyB E (-1) [i] i))) := fun w9 bs h => by
        obtain ⟨X, o, e, hc⟩ := (h.gs KB_ok.len).atB (k := i) (by simpa using hi)
        injection e with e
        injection e with q1 q2 _
        subst q1 q2
        rw [Nat.zero_add] at hc
        rw [hc]
        simp
      clear z0 z1 z2 z3 U0
      cases hwy : wyB E (-1) [i] i with
      | false =>
        have RES : Hid (∀ w', Below w.heap.size w w' → AnsI w (ciA N (eI E) i) (ciE N (eI E) i) (.returned (.tuple #[.slice none 0 0, .int .i64 4])) w') := fun w' hb => by
          rw [(ciE_no HG.out hi hwy).1, (ciE_no HG.out hi hwy).2]
          exact AnsI.none hb
        rw [hwy] at WB
        go_wp2_with (go_at_call 49; refine WY.out.mono ?_; rintro e w9 ⟨bs, rfl, o9, b9⟩; have f9 := WB.out w9 bs o9; have B9 := hid (bl3 B8.out b9); clear o9 b9)
        go_ret2
        exact RES.out _ (bl3 WV.out B9.out)
      | true =>
        have EY := hid (ciE_yes HG.out hi hwy)
        have HWY := hid hwy
        rw [hwy] at WB
        go_upto_region 8 with (go_at_call 49; refine WY.out.mono ?_; rintro e w9 ⟨bs, rfl, o9, b9⟩; have f9 := WB.out w9 bs o9; have B9 := hid (bl3 B8.out b9); obtain ⟨y0, y1, y2, y3⟩ := GC.out _ B9.out; clear o9 b9)
        clear hw8 WY WB U7 B8 B7 x0 x1 x2 x3 f9 hwy CW ND
        go_upto_region 9 with (refine make_g KI KI_ok 0 rfl rfl w9 rfl (.tmp 40) (.tmp 40) 25 rfl Try.underlying25 N rfl rfl (by omega) (by decide) ?_; intro w1 ho1 hb1; have C1 : Hid (CT w9 w9.heap.size N w1 (fiF 0)) := ⟨hb1, (LFR.zero ho1).eq fun y => by unfold fiF; rw [if_neg (by omega)]⟩; clear ho1 hb1)
        obtain ⟨X, hX⟩ : ∃ X, X = w9.heap.size := ⟨_, rfl⟩
        rw [← hX] at C1 ⊢
        clear hX y0 y1 y2 y3
        go_wp2_with fail
        go_loopw [9] (fun v9 wr => ∃ (k : Nat) (wk : World), v9 = .int .i64 k ∧ wk = wr ∧ k ≤ N ∧ Hid (CT w9 X N wk (fiF k))) (fun v9 _ => N - (intOf v9).toNat)
        case atStart => exact ⟨0, _, rfl, rfl, Nat.zero_le _, C1⟩
        case round =>
          obtain ⟨k, wr, rfl, rfl, hk, HC⟩ := hrel
          clear C1
          obtain ⟨y0, y1, y2, y3⟩ := GC.out _ (bl3 B9.out HC.out.bl)
          by_cases hlt : k < N
          · obtain ⟨f1, f2⟩ := HC.out.lf.at hlt
            have hki : (k : Int) < (N : Nat) := by omega
            have N2 : Hid (CT w9 X N (wr.setCell ⟨X, k, none⟩ (.int .i64 (-1))) (fiF (k + 1))) := ⟨HC.out.bl.setCell (p := ⟨X, _, none⟩) HC.out.lf.lt.1 _, (HC.out.lf.set k (-1)).eq (fi_put k)⟩
            clear HC
            go_wp2_with fail
            go_roundw
            case rel => exact ⟨k + 1, _, by go_num, rfl, by omega, N2⟩
            case measure => simp [intOf]; omega
          · obtain rfl : k = N := by omega
            have S3 : Hid (LFR (wr.setCell ⟨X, i, none⟩ (.int .i64 0)) V.heap.size X k (upF (fun _ => -1) i 0) ∧ Below V.heap.size V (wr.setCell ⟨X, i, none⟩ (.int .i64 0))) := ⟨((HC.out.lf.low B9.out.size).set i 0).eqN fun y hy => by
              unfold upF fiF
              by_cases e : y = i
              · rw [if_pos e, if_pos e]
              · rw [if_neg e, if_neg e, if_pos hy], (bl3 B9.out HC.out.bl).setCell (p := ⟨X, _, none⟩) (Nat.le_trans B9.out.size HC.out.lf.lt.1) _⟩
            obtain ⟨f1, f2⟩ := HC.out.lf.at hi
            have ST := hid (FK.start E (nx k (tu E)) hi)
            generalize hw3 : wr.setCell ⟨X, i, none⟩ (.int .i64 0) = w3 at S3
            have S4 : Hid (FS V k X w3.heap.size 0 1 (upF (fun _ => -1) i 0) [i] (w3.alloc (.cells #[.int .i64 (i : Nat)] 3))) := ⟨S3.out.2.alloc S3.out.2.size _, S3.out.1.far (Below.heap_alloc _ _ _ S3.out.1.lt.2), QR.new w3 _ i S3.out.2.size, by have := S3.out.1.lt.2; omega⟩
            generalize hW4 : w3.alloc (.cells #[.int .i64 (i : Nat)] 3) = w4 at S4
            go_wp2_with fail
            try rw [hW4]
            clear hW4
            obtain ⟨g, hg⟩ : ∃ g, g = w3.heap.size := ⟨_, rfl⟩
            rw [← hg] at S4 ⊢
            clear hg hw3 S3 f1 f2 HC y0 y1 y2 y3 B9 hlt hk
            have NT := hid (fun W' (hb : Below V.heap.size V W') y => NXT.out W' _ (OT.out.below hb) y)
            have NG := hid (fun W' (hb : Below V.heap.size V W') y => NXG.out W' (bl3 WV.out hb) y)
            have HA : Hid (∀ x y, y ∈ nx k (tu E) x ↔ (y, x) ∈ E) := fun x y => by rw [nx_mem (tu_ok HG.out), tu_mem]
            have HN : Hid (∀ x, ∀ y ∈ nx k (tu E) x, y < k) := fun x y hy => ((tu_ok HG.out).lt _ ((nx_mem (tu_ok HG.out)).1 hy)).2
            have AL := hid (fun y => nx_len k (tu E) y)
            clear NXT NXG OT
            generalize hA0 : nx k (tu E) = A at *
            have HA0 := hid hA0
            clear hA0
            go_loopw [10] (fun v10 wr => ∃ (g off cap j : Nat) (F : Nat → Int) (T : List Nat) (wk : World), v10 = .slice (some ⟨g, off, none⟩) T.length cap ∧ wk = wr ∧ Hid (FS V k X g off cap F T wk) ∧ Hid (FK k E A i j F T)) (fun v10 wr => lenV v10 + ufW wr X k)
            case atStart => exact ⟨g, 0, 1, 0, _, [i], _, rfl, rfl, S4, ST⟩
            case round =>
              obtain ⟨g, off, cap, j, F, T, wr, rfl, rfl, HS, HK⟩ := hrel
              clear S4 ST
              cases T with
              | nil =>
                rw [List.length_nil]
                have FI0 := hid HK.out.fi
                have b0 : ∃ b : Nat, nrL F (nx k E i) = b ∧ CQ k E F i (ciR k E i) [i] b := by
                  have hk : FK k E (nx k (tu E)) i j F [] := by rw [HA0.out]; exact HK.out
                  rcases nr_first HG.out FI0.out with ⟨_, q⟩ | ⟨b, q1, q2, q3, _⟩
                  · rw [HWY.out] at q; cases q
                  · exact ⟨b, q1, CQ.start hk q1 q2 q3⟩
                obtain ⟨b, hb1, hb2⟩ := b0
                have S0 := hid (And.intro hi (And.intro hb1 hb2))
                have FR := hid (fun W' (hb : Below wr.heap.size wr W') y (hy : y < k) => ((HS.out.lf.far (hb.block _ HS.out.lf.lt.2)).at hy).1)
                have GCR := hid (fun W' (hb : Below wr.heap.size wr W') => GC.out W' (bl3 HS.out.bl hb))
                have NGR := hid (fun W' (hb : Below wr.heap.size wr W') y => NG.out W' (bl3 HS.out.bl hb) y)
                have WR := hid (bl3 WV.out HS.out.bl)
                have Q0 : Hid (RC wr wr.heap.size 1 [i] (wr.alloc (.cells #[.int .i64 (i : Nat)] 3))) := ⟨bal _ _, own_of (l := nI [i]) (heap_alloc_new _ _) (Nat.le_refl _) (by show 1 ≤ maxLen; decide)⟩
                clear HS HK hb1 hb2 NG NT GC HA HN AL HA0 HWY
                generalize hw7 : wr.alloc (.cells #[.int .i64 (i : Nat)] 3) = w7 at Q0
                go_wp2_with fail
                try rw [hw7]
                clear hw7
                obtain ⟨g2, hg2⟩ : ∃ g2, g2 = wr.heap.size := ⟨_, rfl⟩
                have Q1 : Hid (RC wr g2 1 [i] w7) := by rw [hg2]; exact Q0
                try rw [← hg2]
                clear hg2 Q0
                generalize hR : ciR k E i = R at *
                go_loopw [14, 15] (fun v14 v15 wq => ∃ (a b : Nat) (L : List Nat) (sl g c : Nat) (wk : World), v15 = .int .i64 a ∧ v14 = .slice (some ⟨g, 0, none⟩) sl c ∧ wk = wq ∧ Hid (L.length = sl) ∧ Hid (a < k ∧ nrL F (nx k E a) = b ∧ CQ k E F i R L b) ∧ Hid (RC wr g c L wk)) (fun _ v15 _ => (F (nrL F (nx k E (intOf v15).toNat)).toNat).toNat)
                case atStart => exact ⟨i, b, [i], 1, g2, 1, _, rfl, rfl, rfl, rfl, S0, Q1⟩
                case round =>
                  obtain ⟨a, b, L, sl, g3, c3, wq, rfl, rfl, rfl, HL, HC, HR⟩ := hrel
                  clear S0 Q1
                  have hal : a < k := HC.out.1
                  have hai : (a : Int) < (k : Nat) := by omega
                  obtain ⟨y0, y1, y2, y3⟩ := GCR.out _ HR.out.bl
                  have NXX := hid (NGR.out wq HR.out.bl a)
                  rw [nI_len] at NXX
                  obtain ⟨m, hm⟩ : ∃ m, m = (nx k E a).length := ⟨_, rfl⟩
                  have M1 : Hid ((nx k E a).length = m) := hm.symm
                  rw [← hm] at NXX
                  have hll : m ≤ 4096 := by rw [hm]; exact Nat.le_trans (nx_len k E a) a5
                  clear hm
                  go_wp2_with (go_at_call 45; refine NXX.out.mono ?_; rintro e w9 ⟨p9, c9, rfl, o9, b9⟩; have O9 := hid (o9.gs KI_ok.len); have B9 := hid b9; clear o9 b9)
                  have A1 := hid (fun w' (hb : Below w9.heap.size w9 w') z (hz : z < (nI (nx k E a)).length) => GS.atI (O9.out.below hb) hz)
                  have W9 := hid (bl3 HR.out.bl B9.out)
                  have R9 : Hid (RC wr g3 c3 L w9) := ⟨W9.out, HR.out.od.below B9.out⟩
                  have IX := hid (fun z (hz : z < (nx k E a).length) => nI_at hz)
                  have LN := hid (fun q (hq : q ∈ nx k E a) => (HG.out.lt _ ((nx_mem HG.out).1 hq)).2)
                  have LO := hid (fun q => FI0.out.lo q)
                  have NS := hid (fun z (hz : z < (nx k E a).length) => (congrArg (nrL F) (List.take_succ_eq_append_getElem hz)).trans (nrL_snoc F ((nx k E a).take z) (nx k E a)[z]))
                  have B0 := hid (Below.refl w9.heap.size w9)
                  have FINB : Hid (∀ z, z = m → nrL F ((nx k E a).take z) = b) := fun z hz => by rw [hz, ← M1.out, List.take_length]; exact HC.out.2.1
                  clear NXX HR y0 y1 y2 y3 O9 B9
                  go_loopw [17, 18] (fun v17 v18 wz => ∃ (z : Nat) (bb : Int) (wk : World), v18 = .int .i64 z ∧ v17 = .int .i64 bb ∧ wk = wz ∧ z ≤ m ∧ Hid (bb = nrL F ((nx k E a).take z)) ∧ Hid (Below w9.heap.size w9 wk)) (fun _ v18 _ => m - (intOf v18).toNat)
                  case atStart => exact ⟨0, -1, _, rfl, rfl, rfl, Nat.zero_le _, rfl, B0⟩
                  case round =>
                    obtain ⟨z, bb, wz, rfl, rfl, rfl, hz, HB, HW⟩ := hrel
                    clear B0
                    by_cases hlt : z < m
                    · have j1 : z < (nx k E a).length := by rw [M1.out]; exact hlt
                      obtain ⟨Y, o, e1, c1⟩ := A1.out wz HW.out z (by rw [nI_len]; exact j1)
                      rw [IX.out z j1] at c1
                      have A3 : Hid (∀ nq, (wz.drewN nq).cell? ⟨Y, o + z, none⟩ = some (.int .i64 (nx k E a)[z])) := fun nq => c1
                      have hji : (z : Int) < (m : Nat) := by omega
                      have hy : (nx k E a)[z] < k := LN.out _ (List.getElem_mem j1)
                      have c2 := FR.out wz (bl3 W9.out HW.out) (nx k E a)[z] hy
                      have N1 := hid (NS.out z j1)
                      have W2 := hid (fun nq => bl3 HW.out (drew_below wz nq))
                      have BI : Hid (bb = -1 ∨ ∃ b' : Nat, bb = b' ∧ b' < k ∧ 0 ≤ F b') := by
                        rcases nrL_is F ((nx k E a).take z) with ⟨q1, _⟩ | ⟨b', q1, q2, q3, _⟩
                        · exact Or.inl (HB.out.trans q1)
                        · exact Or.inr ⟨b', HB.out.trans q1, LN.out _ (List.mem_of_mem_take q2), q3⟩
                      rw [← HB.out] at N1
                      generalize (nx k E a)[z] = y at *
                      subst e1
                      clear j1 HB
                      have hyi : (y : Int) < (k : Nat) := by omega
                      rcases LO.out y with hF | hF
                      · have R1 : Hid (bb = nrL F ((nx k E a).take (z + 1))) := by show _ = _; rw [N1.out]; unfold nr1; rw [if_neg (by omega)]
                        rw [hF] at c2
                        clear hF BI N1
                        go_wp2_with fail
                        go_quiet (fail)
                        go_wp2_with fail
                        all_goals
                          go_roundw
                          case rel => exact ⟨z + 1, bb, _, by go_num, rfl, rfl, by omega, R1, W2.out _⟩
                          case measure => simp [intOf]; omega
                      · have hF1 : ¬ F y < 0 := by omega
                        have hFb : decide (0 ≤ F y) = true := by simp [hF]
                        rcases BI.out with rfl | ⟨b', rfl, hb', hFb'⟩
                        · have R1 : Hid ((y : Int) = nrL F ((nx k E a).take (z + 1))) := by show _ = _; rw [N1.out]; unfold nr1; rw [if_pos ⟨hF, Or.inl (by omega)⟩]
                          clear BI N1
                          generalize F y = fy at *
                          go_wp2_with fail
                          go_quiet (fail)
                          go_wp2_with (exact A3.out _)
                          all_goals
                            go_roundw
                            case rel => exact ⟨z + 1, (y : Int), _, by go_num, rfl, rfl, by omega, R1, W2.out _⟩
                            case measure => simp [intOf]; omega
                        · have c4 := FR.out wz (bl3 W9.out HW.out) b' hb'
                          have hb1 : ¬ (b' : Int) < 0 := by omega
                          have hbi : (b' : Int) < (k : Nat) := by omega
                          by_cases hlt2 : F y < F b'
                          · have R1 : Hid ((y : Int) = nrL F ((nx k E a).take (z + 1))) := by show _ = _; rw [N1.out]; unfold nr1; rw [if_pos ⟨hF, Or.inr (by simpa using hlt2)⟩]
                            clear BI N1
                            generalize F y = fy at *
                            generalize F b' = fb at *
                            have hd : decide (fy < fb) = true := by simp [hlt2]
                            go_wp2_with fail
                            go_quiet (fail)
                            go_wp2_with (exact A3.out _)
                            all_goals
                              go_roundw
                              case rel => exact ⟨z + 1, (y : Int), _, by go_num, rfl, rfl, by omega, R1, W2.out _⟩
                              case measure => simp [intOf]; omega
                          · have R1 : Hid ((b' : Int) = nrL F ((nx k E a).take (z + 1))) := by
                              show _ = _
                              rw [N1.out]
                              unfold nr1
                              rw [if_neg (fun q => hlt2 (by simpa using q.2.resolve_left (by omega)))]
                            clear BI N1
                            generalize F y = fy at *
                            generalize F b' = fb at *
                            have hd : decide (fy < fb) = false := by simp [hlt2]
                            go_wp2_with fail
                            go_quiet (fail)
                            go_wp2_with fail
                            all_goals
                              go_roundw
                              case rel => exact ⟨z + 1, (b' : Int), _, by go_num, rfl, rfl, by omega, R1, W2.out _⟩
                              case measure => simp [intOf]; omega
                    · have hji : ¬ (z : Int) < (m : Nat) := by omega
                      have hbb := HB.out.trans (FINB.out z (by omega))
                      subst hbb
                      have RZ : Hid (RC wr g3 c3 L wz) := ⟨bl3 R9.out.bl HW.out, R9.out.od.below HW.out⟩
                      clear HB A1 IX LN LO NS FINB
                      by_cases hbi : b = i
                      · subst hbi
                        have e := HC.out.2.2.fin
                        have FIN : Hid (AnsI w (ciA k (eI E) b) (ciE k (eI E) b) (.returned (.tuple #[.slice (some ⟨g3, 0, none⟩) sl c3, .int .i64 0])) wz) := by
                          rw [EY.out.1, EY.out.2]
                          have h9 := RZ.out.od
                          rw [HL.out] at h9
                          have h8 : sl = (nI R).length := by rw [nI_len, ← e, HL.out]
                          refine ⟨some ⟨g3, 0, none⟩, c3, by rw [← h8], ?_, bl3 WR.out RZ.out.bl⟩
                          rw [← h8, ← e]
                          exact h9.gs KI_ok.len
                        clear HC RZ HL e R9 HW
                        go_wp2_with fail
                        go_ret2
                        exact FIN.out
                      · obtain ⟨b2, r1, r2, r3⟩ := HC.out.2.2.step HG.out FI0.out hbi
                        have hne : ¬ (b : Int) = (i : Int) := by omega
                        have S2 : Hid (b < k ∧ nrL F (nx k E b) = b2 ∧ CQ k E F i R (L ++ [b]) b2) := ⟨HC.out.2.2.lt, r1, r3⟩
                        have ME : Hid (nrL F (nx k E a) = b) := HC.out.2.1
                        have R2 := hid r2
                        have G2 := hid r3.ge
                        have LS : Hid (((nI L).length + 1) * KI.B ≤ 140737488355328) := by
                          have := HC.out.2.2.sum
                          have := HC.out.2.2.ge
                          show (_ + 1) * 8 ≤ _
                          rw [nI_len]; omega
                        have BS : Hid (wr.heap.size ≤ wz.heap.size) := RZ.out.bl.size
                        have OD := hid RZ.out.od
                        have BL := hid RZ.out.bl
                        obtain ⟨K, hK⟩ : ∃ K, K = nI L := ⟨_, rfl⟩
                        have EL : Hid (K.length = sl) := by show _ = _; rw [hK, nI_len, HL.out]
                        rw [← hK] at OD LS
                        rw [HL.out] at OD
                        have AP : Hid (∀ (g8 c8 : Nat) (w8 : World), OwnG KI w8 wr.heap.size (.slice (some ⟨g8, 0, none⟩) (K.length + 1) c8) (K ++ [(b : Int)]) → Below wr.heap.size wz w8 → RC wr g8 c8 (L ++ [b]) w8) := fun g8 c8 w8 h1 h2 => ⟨BL.out.trans h2, by rw [nI_app, ← hK, List.length_append, List.length_singleton, HL.out, ← EL.out]; exact h1⟩
                        have LL : Hid ((L ++ [b]).length = sl + 1) := by show _ = _; rw [List.length_append, List.length_singleton, HL.out]
                        clear HC RZ HL hK r1 r3 r2 R9 HW
                        have EL2 := EL.out
                        subst EL2
                        go_wp2_with (at_builtin; refine append_g KI KI_ok rfl (.tmp 145) (.tmp 147) 25 rfl wr.heap.size Try.underlying25 wz _ _ _ K (b : Int) _ rfl OD.out wz.heap.size rfl rfl rfl LS.out BS.out ?_; intro g8 c8 w8 ho8 hb8 hk8 hg8; have A8 := hid (AP.out g8 c8 w8 ho8 hb8); clear ho8 hb8 hk8 hg8)
                        all_goals
                          go_roundw
                          case rel => exact ⟨b, b2, L ++ [b], K.length + 1, g8, c8, _, rfl, rfl, rfl, LL.out, S2, A8⟩
                          case measure => have h1 := R2.out; have h2 := G2.out; have h3 := ME.out; have h4 := S2.out.2.1; simp only [intOf, Int.toNat_natCast, h3, h4]; omega
              | cons x T =>
                have hx : x < k := HK.out.fb.lt x (.head _)
                have hxi : (x : Int) < (k : Nat) := by omega
                have q0 := HS.out.qr.head
                obtain ⟨y0, y1, y2, y3⟩ := GC.out _ HS.out.bl
                have LK : (A x).length ≤ k := AL.out x
                have HV := hid (fun j (hj : j < (A x).length) => HN.out x _ (List.getElem_mem hj))
                have kN : j ≤ k := by have := HK.out.fb.n; omega
                have FX := hid (HK.out.fb.up x)
                have U0 : Hid (j + T.length + 1 + ufW wr X k = k) := by
                  have h1 := HK.out.fb.n
                  have h2 := HS.out.un k (Nat.le_refl _)
                  rw [List.length_cons] at h1
                  show _ = _
                  omega
                have J0 := hid (FJ.start HK.out)
                have ONE := hid (fun r (F' : Nat → Int) (T' : List Nat) (h : FJ k E A i j x F T r F' T') (hj : r < (A x).length) => FJ.one HA.out HN.out FX.out h hj)
                have FIN := hid (fun (F' : Nat → Int) (T' : List Nat) (h : FJ k E A i j x F T (A x).length F' T') => FJ.fin HA.out HK.out h)
                obtain ⟨tl, htl⟩ : ∃ tl, tl = T.length := ⟨_, rfl⟩
                have TE : Hid (T.length = tl) := htl.symm
                rw [List.length_cons]
                rw [← htl] at U0 ⊢
                have gt0 : (0 : Int) < ((tl + 1 : Nat) : Int) := by omega
                have one : (1 : Int) ≤ ((tl + 1 : Nat) : Int) := by omega
                have cl : tl + 1 ≤ cap := by have := HS.out.qr.c; rw [List.length_cons] at this; omega
                have ch : Hid (∃ off' cap', cap' = cap - 1 ∧ off' = (if cap = 1 then off else off + 1) ∧ FS V k X g off' cap' F T wr) := by
                  by_cases hc : cap = 1
                  · subst hc
                    obtain ⟨rfl, P2⟩ := HS.out.pop1
                    exact ⟨off, 0, rfl, (if_pos rfl).symm, P2⟩
                  · obtain ⟨cp, rfl⟩ : ∃ cp, cap = cp + 1 := ⟨cap - 1, by omega⟩
                    exact ⟨off + 1, cp, rfl, (if_neg hc).symm, HS.out.pop⟩
                obtain ⟨off', cap', e7, e8, h9⟩ := ch.out
                have S7 := hid h9
                have NXX := hid (NT.out wr HS.out.bl x)
                rw [nI_len] at NXX
                have M1 : ∃ m, (A x).length = m := ⟨_, rfl⟩
                obtain ⟨m, hm⟩ := M1
                have M1 := hid hm
                rw [hm] at NXX LK
                clear hm ch h9 htl HK HS
                by_cases hc : cap = 1
                · subst hc
                  obtain rfl : tl = 0 := by omega
                  rw [if_pos rfl] at e8
                  subst e7 e8
                  go_upto_region 18 with fail
                  go_wp2_with (go_at_call 45; refine NXX.out.mono ?_; rintro e w9 ⟨p9, c9, rfl, o9, b9⟩; have I0 : Hid (FT V k X g off' 0 F T (.slice p9 m c9) (nI (A x)) w9 ∧ T.length = 0) := ⟨FT.of S7.out o9 b9, TE.out⟩; clear o9 b9)
                  clear S7 NXX
                  go_loopw [10, 13] (fun v10 v13 wq => ∃ (r g off cap sl : Nat) (F' : Nat → Int) (T' : List Nat) (wk : World), v13 = .int .i64 r ∧ v10 = .slice (some ⟨g, off, none⟩) sl cap ∧ wk = wq ∧ r ≤ m ∧ Hid (FT V k X g off cap F' T' (.slice p9 m c9) (nI (A x)) wk ∧ T'.length = sl) ∧ Hid (FJ k E A i j x F T r F' T')) (fun _ v13 _ => m - (intOf v13).toNat)
                  case atStart => exact ⟨0, g, off', 0, 0, F, T, _, rfl, rfl, rfl, Nat.zero_le _, I0, J0⟩
                  case round =>
                    obtain ⟨r, g, off, cap, sl, F', T', wq, rfl, rfl, rfl, hr, HI, HJ⟩ := hrel
                    clear I0 J0
                    by_cases hlt : r < m
                    · have j1 : r < (A x).length := by have := M1.out; omega
                      obtain ⟨Y, o, e1, c1⟩ := GS.atI HI.out.1.lr (k := r) (by rw [nI_len]; exact j1)
                      rw [nI_at j1] at c1
                      have CG : Hid (∀ W', GS KI W' (.slice p9 m c9) (nI (A x)) → W'.cell? ⟨Y, o + r, none⟩ = some (.int .i64 (A x)[r])) := fun W' h => by
                        obtain ⟨Y2, o2, e2, c2⟩ := GS.atI h (k := r) (by rw [nI_len]; exact j1)
                        rw [e1] at e2
                        injection e2 with e2
                        injection e2 with e2 e3 _
                        subst e2 e3
                        rw [nI_at j1] at c2
                        exact c2
                      subst e1
                      have hy := HV.out r j1
                      have J2 := hid (ONE.out r F' T' HJ.out j1)
                      obtain ⟨f1, f2⟩ := HI.out.1.s.lf.at hy
                      obtain ⟨g1, g2⟩ := HI.out.1.s.lf.at hx
                      have lo := HJ.out.fi.lo (A x)[r]
                      have dx : 0 ≤ F' x ∧ F' x ≤ 5000 := ⟨HJ.out.fi.xq x (.head _), by rw [HJ.out.at']; have := FX.out; omega⟩
                      have sN : sl + 1 ≤ k := by
                        have h1 := HJ.out.fb.n
                        have h2 := HI.out.2
                        have h3 := HJ.out.fi
                        have h4 := h1; omega
                      have hji : (r : Int) < (m : Nat) := by omega
                      generalize (A x)[r] = y at *
                      have hyi : (y : Int) < (k : Nat) := by omega
                      rcases lo with hF | hF
                      · have J3 : Hid (FJ k E A i j x F T (r + 1) (upF F' y (F' x + 1)) (T' ++ [y])) := by
                          have := J2.out
                          unfold bf1 at this
                          rw [if_pos (by show F' y < 0; rw [hF]; decide)] at this
                          exact this
                        have S5 := hid (fun nq => (HI.out.1.drew nq).set y (F' x + 1))
                        have SL := hid HI.out.2
                        rw [hF] at f1
                        clear J2 ONE FIN HJ hF HI
                        obtain ⟨d0, d1⟩ := dx
                        generalize F' x = d at *
                        go_upto_region 23 with fail
                        go_cut [13] from 81 to 91 (fun v13 wx => ∃ (wk : World), v13 = .int .i64 r ∧ wk = wx ∧ Hid (FT V k X g off cap (upF F' y (d + 1)) T' (.slice (some ⟨Y, o, none⟩) m c9) (nI (A x)) wk))
                        case first =>
                          go_region
                          all_goals
                            go_wp2_with fail
                            go_meet
                            case rel => exact ⟨_, rfl, rfl, S5.out _⟩
                        obtain ⟨w5, rfl, rfl, H5⟩ := hcut
                        clear S5 f1 f2 g1 g2 c1
                        have c5 := CG.out w5 H5.out.lr
                        have BS : Hid (V.heap.size ≤ w5.heap.size) := H5.out.s.bl.size
                        have EL : Hid (sl = T'.length) := SL.out.symm
                        have LE : Hid (T'.length + 1 ≤ 100000) := by show _ ≤ _; rw [SL.out]; omega
                        have NX := hid (fun (g' off' cap' : Nat) (w6 : World) h1 h2 h3 h4 => FT.app (g' := g') (off' := off') (cap' := cap') (w' := w6) (T' := T' ++ [y]) H5.out h1 h2 h3 h4)
                        have LT : Hid ((T' ++ [y]).length = sl + 1) := by show _ = _; rw [List.length_append, List.length_singleton, SL.out]
                        have QR5 := hid H5.out.s.qr
                        clear H5
                        go_wp2_with (at_builtin; refine append_q rfl (.tmp 92) (.tmp 97) 25 rfl V.heap.size Try.underlying25 w5 _ g off cap sl T' y _ rfl EL.out QR5.out w5.heap.size rfl rfl LE.out BS.out ?_; intro g6 off6 cap6 w6 hq6 hb6 hk6 hg6; have S6 := hid (NX.out g6 off6 cap6 w6 hq6 hb6 hk6 hg6); clear hq6 hb6 hk6 hg6)
                        all_goals
                          go_roundw
                          case rel => exact ⟨r + 1, g6, off6, cap6, sl + 1, _, _, _, by go_num, rfl, rfl, by omega, ⟨S6.out, LT.out⟩, J3⟩
                          case measure => simp [intOf]; omega
                      · have J3 : Hid (FJ k E A i j x F T (r + 1) F' T') := by
                          have := J2.out
                          unfold bf1 at this
                          rw [if_neg (by show ¬ F' y < 0; omega)] at this
                          exact this
                        have hF2 : ¬ F' y < 0 := by omega
                        clear J2 ONE FIN HJ
                        generalize F' y = fy at *
                        go_wp2_with fail
                        all_goals
                          go_roundw
                          case rel => exact ⟨r + 1, g, off, cap, sl, _, _, _, by go_num, rfl, rfl, by omega, HI, J3⟩
                          case measure => simp [intOf]; omega
                    · obtain rfl : r = m := by omega
                      have K2 := hid (FIN.out F' T' (by rw [M1.out]; exact HJ.out))
                      have U1 : Hid (j + 1 + sl + ufW wq X k = k) := by
                        have h1 := K2.out.fb.n
                        have h2 := HI.out.1.s.un k (Nat.le_refl _)
                        have h3 := HI.out.2
                        show _ = _
                        omega
                      have S9 := hid HI.out.1.s
                      have TE2 := hid HI.out.2
                      clear ONE FIN HJ HI
                      go_wp2_with fail
                      all_goals
                        go_roundw
                        case rel => exact ⟨g, off, cap, j + 1, F', T', _, by rw [TE2.out], rfl, S9, K2⟩
                        case measure => have h0 := U0.out; have h1 := U1.out; simp [lenV]; omega
                · obtain ⟨cp, rfl⟩ : ∃ cp, cap = cp + 1 := ⟨cap - 1, by omega⟩
                  have hcp : ¬ cp = 0 := by omega
                  rw [if_neg hc] at e8
                  obtain rfl : cap' = cp := by omega
                  clear e7
                  subst e8
                  go_upto_region 18 with fail
                  go_wp2_with (go_at_call 45; refine NXX.out.mono ?_; rintro e w9 ⟨p9, c9, rfl, o9, b9⟩; have I0 : Hid (FT V k X g (off + 1) cap' F T (.slice p9 m c9) (nI (A x)) w9 ∧ T.length = tl) := ⟨FT.of S7.out o9 b9, TE.out⟩; clear o9 b9)
                  clear S7 NXX
                  go_loopw [10, 13] (fun v10 v13 wq => ∃ (r g off cap sl : Nat) (F' : Nat → Int) (T' : List Nat) (wk : World), v13 = .int .i64 r ∧ v10 = .slice (some ⟨g, off, none⟩) sl cap ∧ wk = wq ∧ r ≤ m ∧ Hid (FT V k X g off cap F' T' (.slice p9 m c9) (nI (A x)) wk ∧ T'.length = sl) ∧ Hid (FJ k E A i j x F T r F' T')) (fun _ v13 _ => m - (intOf v13).toNat)
                  case atStart => exact ⟨0, g, (off + 1), cap', tl, F, T, _, rfl, rfl, rfl, Nat.zero_le _, I0, J0⟩
                  case round =>
                    obtain ⟨r, g, off, cap, sl, F', T', wq, rfl, rfl, rfl, hr, HI, HJ⟩ := hrel
                    clear I0 J0
                    by_cases hlt : r < m
                    · have j1 : r < (A x).length := by have := M1.out; omega
                      obtain ⟨Y, o, e1, c1⟩ := GS.atI HI.out.1.lr (k := r) (by rw [nI_len]; exact j1)
                      rw [nI_at j1] at c1
                      have CG : Hid (∀ W', GS KI W' (.slice p9 m c9) (nI (A x)) → W'.cell? ⟨Y, o + r, none⟩ = some (.int .i64 (A x)[r])) := fun W' h => by
                        obtain ⟨Y2, o2, e2, c2⟩ := GS.atI h (k := r) (by rw [nI_len]; exact j1)
                        rw [e1] at e2
                        injection e2 with e2
                        injection e2 with e2 e3 _
                        subst e2 e3
                        rw [nI_at j1] at c2
                        exact c2
                      subst e1
                      have hy := HV.out r j1
                      have J2 := hid (ONE.out r F' T' HJ.out j1)
                      obtain ⟨f1, f2⟩ := HI.out.1.s.lf.at hy
                      obtain ⟨g1, g2⟩ := HI.out.1.s.lf.at hx
                      have lo := HJ.out.fi.lo (A x)[r]
                      have dx : 0 ≤ F' x ∧ F' x ≤ 5000 := ⟨HJ.out.fi.xq x (.head _), by rw [HJ.out.at']; have := FX.out; omega⟩
                      have sN : sl + 1 ≤ k := by
                        have h1 := HJ.out.fb.n
                        have h2 := HI.out.2
                        have h3 := HJ.out.fi
                        have h4 := h1; omega
                      have hji : (r : Int) < (m : Nat) := by omega
                      generalize (A x)[r] = y at *
                      have hyi : (y : Int) < (k : Nat) := by omega
                      rcases lo with hF | hF
                      · have J3 : Hid (FJ k E A i j x F T (r + 1) (upF F' y (F' x + 1)) (T' ++ [y])) := by
                          have := J2.out
                          unfold bf1 at this
                          rw [if_pos (by show F' y < 0; rw [hF]; decide)] at this
                          exact this
                        have S5 := hid (fun nq => (HI.out.1.drew nq).set y (F' x + 1))
                        have SL := hid HI.out.2
                        rw [hF] at f1
                        clear J2 ONE FIN HJ hF HI
                        obtain ⟨d0, d1⟩ := dx
                        generalize F' x = d at *
                        go_upto_region 23 with fail
                        go_cut [13] from 81 to 91 (fun v13 wx => ∃ (wk : World), v13 = .int .i64 r ∧ wk = wx ∧ Hid (FT V k X g off cap (upF F' y (d + 1)) T' (.slice (some ⟨Y, o, none⟩) m c9) (nI (A x)) wk))
                        case first =>
                          go_region
                          all_goals
                            go_wp2_with fail
                            go_meet
                            case rel => exact ⟨_, rfl, rfl, S5.out _⟩
                        obtain ⟨w5, rfl, rfl, H5⟩ := hcut
                        clear S5 f1 f2 g1 g2 c1
                        have c5 := CG.out w5 H5.out.lr
                        have BS : Hid (V.heap.size ≤ w5.heap.size) := H5.out.s.bl.size
                        have EL : Hid (sl = T'.length) := SL.out.symm
                        have LE : Hid (T'.length + 1 ≤ 100000) := by show _ ≤ _; rw [SL.out]; omega
                        have NX := hid (fun (g' off' cap' : Nat) (w6 : World) h1 h2 h3 h4 => FT.app (g' := g') (off' := off') (cap' := cap') (w' := w6) (T' := T' ++ [y]) H5.out h1 h2 h3 h4)
                        have LT : Hid ((T' ++ [y]).length = sl + 1) := by show _ = _; rw [List.length_append, List.length_singleton, SL.out]
                        have QR5 := hid H5.out.s.qr
                        clear H5
                        go_wp2_with (at_builtin; refine append_q rfl (.tmp 92) (.tmp 97) 25 rfl V.heap.size Try.underlying25 w5 _ g off cap sl T' y _ rfl EL.out QR5.out w5.heap.size rfl rfl LE.out BS.out ?_; intro g6 off6 cap6 w6 hq6 hb6 hk6 hg6; have S6 := hid (NX.out g6 off6 cap6 w6 hq6 hb6 hk6 hg6); clear hq6 hb6 hk6 hg6)
                        all_goals
                          go_roundw
                          case rel => exact ⟨r + 1, g6, off6, cap6, sl + 1, _, _, _, by go_num, rfl, rfl, by omega, ⟨S6.out, LT.out⟩, J3⟩
                          case measure => simp [intOf]; omega
                      · have J3 : Hid (FJ k E A i j x F T (r + 1) F' T') := by
                          have := J2.out
                          unfold bf1 at this
                          rw [if_neg (by show ¬ F' y < 0; omega)] at this
                          exact this
                        have hF2 : ¬ F' y < 0 := by omega
                        clear J2 ONE FIN HJ
                        generalize F' y = fy at *
                        go_wp2_with fail
                        all_goals
                          go_roundw
                          case rel => exact ⟨r + 1, g, off, cap, sl, _, _, _, by go_num, rfl, rfl, by omega, HI, J3⟩
                          case measure => simp [intOf]; omega
                    · obtain rfl : r = m := by omega
                      have K2 := hid (FIN.out F' T' (by rw [M1.out]; exact HJ.out))
                      have U1 : Hid (j + 1 + sl + ufW wq X k = k) := by
                        have h1 := K2.out.fb.n
                        have h2 := HI.out.1.s.un k (Nat.le_refl _)
                        have h3 := HI.out.2
                        show _ = _
                        omega
                      have S9 := hid HI.out.1.s
                      have TE2 := hid HI.out.2
                      clear ONE FIN HJ HI
                      go_wp2_with fail
                      all_goals
                        go_roundw
                        case rel => exact ⟨g, off, cap, j + 1, F', T', _, by rw [TE2.out], rfl, S9, K2⟩
                        case measure => have h0 := U0.out; have h1 := U1.out; simp [lenV]; omega
  · have hx : nxE n l x = chkG n l := by unfold nxE; rw [if_neg h0]
    have h9 := ciE_bad (n := n) (l := l) (x := x) (by rw [hx]; exact h0)
    rw [h9.1, h9.2, hx]
    have e1 : tuN n l = 0 := by unfold tuN; rw [if_neg h0]
    have e2 : tuL n l = [] := by unfold tuL; rw [if_neg h0]
    rw [e1, e2] at TU
    clear h9 hx
    generalize chkG n l = r at *
    have b1 : (r != 0) = true := by simp [h0]
    go_enter Try.func27, Try.ntmps27
    go_wp2_with (go_at_call 19; refine TU.out.mono ?_; rintro e w6 ⟨p6, c6, rfl, o6, b6⟩; have B6 := hid b6; clear o6 b6)
    go_ret2
    exact AnsI.none (bl3 BW.out (bl3 B6.out (bal _ _)))
end Go.Proofs.Ytkmokoiilmdfbaa
