/- Graph: Reach. -/
import Derived.Test.YtghkhceplpjegaaYc6
namespace Go.Proofs.Ytghkhceplpjegaa
open Go.RowKit

/-- make, as an equation: for a region that draws its order. -/
theorem mk_run {α : Type} {P : Program} (K : RK α) (hk : K.Ok P) (x0 : α) (hW : K.W = 1) (hz : K.z.cells.toList = K.f x0) (w : World) (t : TypeId) (ht : P.underlying t = some (.slice K.ty)) (n : Nat) (hn : n ≤ 100000) (hB : K.B ≤ 1000) : ∃ w', Sem.run P (Instr.makeSlice t (.int .i64 n) (.int .i64 n)) w = .ok (.slice (some ⟨w.heap.size, 0, none⟩) n n) w' ∧ OwnG K w' w.heap.size (.slice (some ⟨w.heap.size, 0, none⟩) n n) (List.replicate n x0) ∧ Below w.heap.size w w' := by
  obtain ⟨i0, hi0, hz0, hz1, hz2⟩ := hk.info
  have hmul : K.B * n ≤ 1000 * 100000 := Nat.mul_le_mul hB hn
  obtain ⟨w', hrun, r1, r2⟩ := run_make_full (P := P) w w.heap.size t K.ty i0 K.z K.W ht hi0 hz0 hz1 .i64 .i64 n (by rw [hz2]; omega) (by unfold maxLen; omega) (Nat.le_refl _)
  refine ⟨w', hrun, ?_, (Below.refl _ _).grown r2 (Nat.le_refl _) (fun k hk => by cases hk)⟩
  obtain ⟨d, hd⟩ : ∃ d, K.f x0 = [d] := by
    have := hk.len x0
    rw [hW] at this
    obtain ⟨d, hd⟩ := List.length_eq_one_iff.1 this
    exact ⟨d, hd⟩
  unfold OwnG
  rw [List.length_replicate, flat_rep K.f x0 d hd, ← madeCells_list K.z.cells n d (by rw [hz, hd])]
  rw [hW] at r1 ⊢
  exact r1
theorem LZ.low {w : World} {base base' b N : Nat} {vs : List Sl} {R : Nat → List Int} (h : LZ w base b N vs R) (hb : base' ≤ base) : LZ w base' b N vs R := ⟨h.len, h.out.low hb, fun i hi => (h.row i hi).low hb, h.ap⟩
theorem RJ.start {w0 W : World} {N lb bs : Nat} {vs : List Sl} {A : Nat → List Nat} (hb : Below w0.heap.size w0 W) (hz : LZ W w0.heap.size lb N vs (fun i => nI (A i))) (hs : OwnG KB W w0.heap.size (.slice (some ⟨bs, 0, none⟩) N N) (List.replicate N false)) : RJ w0 N lb bs W.heap.size vs A (W.alloc (.cells #[.slice none 0 0] 25)) (fun _ => false) [] := by
  have e : (List.range N).map (fun _ => false) = List.replicate N false := by rw [List.map_const', List.length_range]
  refine ⟨bl3 hb (bal _ _), hz.below (bal _ _), by rw [e]; exact hs.below (bal _ _), ⟨none, 0, heap_alloc_new _ _, OwnG.nil _ _ _, fun _ _ _ _ e => by cases e⟩, hb.size, by have := hz.bb.2; omega, by simp, by simp⟩
theorem RJ.wk {w0 : World} {N lb bs B : Nat} {vs : List Sl} {E : List (Nat × Nat)} (hg : GOK N E) (fn : Nat) (hen : ∀ args w, Sem.run Try.prog (callFunc fn args) w = .ok (.enter fn args) w) (hv : ∀ {W S L}, RJ w0 N lb bs B vs (nx N E) W S L → ∀ i, i < N → S i = true → i ∉ L → Calls Try.prog fn #[.int .i64 i, .pointer (some ⟨B, 0, none⟩)] W fun e w' => e = .returned (.tuple #[]) ∧ RJ w0 N lb bs B vs (nx N E) w' S (L ++ [i])) : WK (nx N E) N lb bs N fn #[.pointer (some ⟨B, 0, none⟩)] (fun i => (vs.getD i sl0).1) (fun i => (vs.getD i sl0).2.2) (RJ w0 N lb bs B vs (nx N E)) :=
  ⟨fun h _ hi => h.lz.cell hi, fun h _ hi => h.se hi, fun h i _ => h.st i, fun h => h.ls, fun h i hi h1 h2 => hv h i hi h1 h2, fun _ _ _ hy => (hg.lt _ ((nx_mem hg).1 hy)).2, fun i => Nat.le_trans (nx_len N E i) hg.n, hen⟩
/-- What Reach answers. -/
def reE (n : Int) (e : List (Int × Int)) (F : List Int) : Int := if chkG n e = 0 then (if 4096 < F.length then 3 else if F.all (ndB n) then 0 else 1) else chkG n e
noncomputable def reA (n : Int) (e : List (Int × Int)) (F : List Int) : List Int := if reE n e F = 0 then nI (reL n.toNat (eN e) (F.map Int.toNat)) else []
theorem reE_ok {n : Int} {e : List (Int × Int)} {F : List Int} (h : chkG n e = 0) (h2 : F.length ≤ 4096) (h3 : F.all (ndB n) = true) : ∃ N E F0, n = (N : Nat) ∧ e = eI E ∧ GOK N E ∧ F = nI F0 ∧ (∀ f ∈ F0, f < N) ∧ reE N (eI E) (nI F0) = 0 ∧ reA N (eI E) (nI F0) = nI (reL N E F0) := by
  have hE : reE n e F = 0 := by unfold reE; rw [if_pos h, if_neg (by omega), if_pos h3]
  obtain ⟨N, E, rfl, rfl, hg⟩ := chkG_ok h
  rw [List.all_eq_true] at h3
  have hF : F = nI (F.map Int.toNat) := by
    have key : ∀ L : List Int, (∀ x ∈ L, 0 ≤ x) → L = nI (L.map Int.toNat) := fun L => by
      induction L with
      | nil => intro _; rfl
      | cons a r ih =>
        intro h
        have h1 := h a (.head _)
        show a :: r = (↑a.toNat : Int) :: nI (r.map Int.toNat)
        rw [← ih fun x hx => h x (.tail _ hx), Int.toNat_of_nonneg h1]
    exact key F fun x hx => by have := h3 x hx; simp [ndB] at this; exact this.1
  refine ⟨N, E, F.map Int.toNat, rfl, rfl, hg, hF, fun f hf => ?_, by rw [← hF]; exact hE, ?_⟩
  · obtain ⟨x, hx, rfl⟩ := List.mem_map.1 hf
    have := h3 x hx
    simp [ndB] at this
    omega
  · unfold reA
    rw [← hF, if_pos hE, eN_eI]
    simp
theorem reE_no {n : Int} {e : List (Int × Int)} {F : List Int} (h : reE n e F ≠ 0) : reA n e F = [] := by unfold reA; rw [if_neg h]
theorem reach_fin {N : Nat} {E : List (Nat × Nat)} (hg : GOK N E) {F L : List Nat} {S : Nat → Bool} (h : DL (nx N E) (fun _ => false) F S L) (hF : ∀ f ∈ F, f < N) : (nI L).mergeSort (fun x y => decide (x ≤ y)) = nI (reL N E F) := by
  refine int_ris (srt_up (nI_nodup h.nodup)) fun x => ?_
  rw [srt_mem, nI_mem]
  have hm := h.mem
  rw [h.rc hg] at hm
  constructor
  · rintro ⟨k, hk, e⟩
    have h1 := (hm k).2 (Or.inr hk)
    obtain ⟨r, hr, q⟩ := rcB_iff.1 h1
    exact ⟨k, e, rc_lt hg (hF r hr) q, h1⟩
  · rintro ⟨k, e, _, hk⟩
    rcases (hm k).1 hk with h1 | h1
    · cases h1
    · exact ⟨k, h1, e⟩
set_option maxRecDepth 100000 in
set_option maxHeartbeats 16000000 in
theorem reach_any (w : World) (n : Int) (v : Value) (l : List (Int × Int)) (hv : GS KE w v l) (u : Value) (F : List Int) (hu : GS KI w u F) (hFl : F.length ≤ 140737488355328) : Calls Try.prog 29 #[.agg #[.int .i64 n, v], u] w fun e w' => AnsI w (reA n l F) (reE n l F) e w' := by
  obtain ⟨p, c, rfl⟩ := hv.form
  obtain ⟨pf, cf, rfl⟩ := hu.form
  generalize hW : w.alloc (.cells #[.int .i64 n, .slice p l.length c] 24) = W
  have BW : Hid (Below w.heap.size w W) := by rw [← hW]; exact bal _ _
  have C0 : Hid (∀ W', Below W.heap.size W W' → W'.cell? ⟨w.heap.size, 0, none⟩ = some (.int .i64 n) ∧ W'.cell? ⟨w.heap.size, 1, none⟩ = some (.slice p l.length c)) := fun W' hb => by
    have e : W'.heap[w.heap.size]? = some (.cells #[.int .i64 n, .slice p l.length c] 24) := (hb.block _ (by rw [← hW, asz]; omega)).trans (by rw [← hW]; exact heap_alloc_new _ _)
    exact ⟨cell_of_row _ _ _ _ _ _ e, cell_of_row _ _ _ _ _ _ e⟩
  have CK := hid (check_any W n _ l (hv.below BW.out))
  obtain ⟨d0, d1⟩ := C0.out W (Below.refl _ _)
  have HE : Hid (reE n l F = if chkG n l = 0 then (if 4096 < F.length then 3 else if F.all (ndB n) then 0 else 1) else chkG n l) := rfl
  by_cases h0 : chkG n l = 0
  · rw [h0] at CK
    rw [if_pos h0] at HE
    by_cases h1 : 4096 < F.length
    · rw [if_pos h1] at HE
      rw [reE_no (by rw [HE.out]; omega), HE.out]
      have a1 : (4096 : Int) < (F.length : Nat) := by omega
      clear h1 HE
      generalize F.length = fl at *
      go_enter Try.func29, Try.ntmps29
      go_wp2_with (go_at_call 31; refine CK.out.mono ?_; rintro e w6 ⟨rfl, hb6⟩; have B6 := hid hb6; clear hb6)
      go_ret2
      exact AnsI.none (bl3 BW.out B6.out)
    · rw [if_neg h1] at HE
      have a1 : ¬ (4096 : Int) < (F.length : Nat) := by omega
      have a2 : F.length ≤ 4096 := by omega
      have A1 := hid (fun w' (hb : Below w.heap.size w w') j (hj : j < F.length) => GS.atI (hu.below hb) hj)
      have IN := hid (fun W' x => isNode_any W' n x p l.length c)
      have GE := hid (hv.below BW.out)
      have GF := hid hu
      have H0 := hid h0
      obtain ⟨fl, hfl⟩ : ∃ fl, fl = F.length := ⟨_, rfl⟩
      have M1 : Hid (F.length = fl) := hfl.symm
      rw [← hfl] at a1 a2 ⊢
      clear hv hu h0 h1 hfl hFl
      go_enter Try.func29, Try.ntmps29
      go_wp2_with (go_at_call 31; refine CK.out.mono ?_; rintro e w6 ⟨rfl, hb6⟩; have B6 := hid hb6; clear hb6)
      clear d0 d1 CK
      go_loopw [24] (fun v24 wr => ∃ (j : Nat) (wk : World), v24 = .int .i64 j ∧ wk = wr ∧ j ≤ fl ∧ Hid ((F.take j).all (ndB n) = true) ∧ Hid (Below W.heap.size W wk)) (fun v24 _ => fl - (intOf v24).toNat)
      case atStart => exact ⟨0, _, rfl, rfl, Nat.zero_le _, rfl, B6⟩
      case round =>
        obtain ⟨j, wr, rfl, rfl, hj, HA, HB⟩ := hrel
        clear B6
        obtain ⟨d0, d1⟩ := C0.out wr HB.out
        by_cases hlt : j < fl
        · have j1 : j < F.length := by have := M1.out; omega
          obtain ⟨X, o, e1, c1⟩ := A1.out wr (bl3 BW.out HB.out) j j1
          subst e1
          have NX := hid (fun h => all_snoc j1 HA.out (p := ndB n) h)
          have NO := hid (fun h => all_no j1 (p := ndB n) h)
          have hji : (j : Int) < (fl : Nat) := by omega
          have I2 := hid (fun W' => IN.out W' F[j])
          generalize F[j] = x at *
          cases hx : ndB n x with
          | false =>
            rw [hx] at I2
            rw [NO.out hx] at HE
            have e1 : reE n l F = 1 := HE.out
            have EA := hid (And.intro (reE_no (n := n) (e := l) (F := F) (by rw [e1]; omega)) e1)
            clear hx NX NO e1
            go_wp2_with (go_at_call 55; refine (I2.out _).mono ?_; rintro e w7 ⟨rfl, hb7⟩; have B7 := hid hb7; clear hb7)
            go_ret2
            rw [EA.out.1, EA.out.2]
            exact AnsI.none (bl3 BW.out (bl3 HB.out B7.out))
          | true =>
            rw [hx] at I2
            have N2 := hid (NX.out hx)
            clear hx NX NO
            go_wp2_with (go_at_call 55; refine (I2.out _).mono ?_; rintro e w7 ⟨rfl, hb7⟩; have B7 := hid hb7; clear hb7)
            go_roundw
            case rel => exact ⟨j + 1, _, by go_num, rfl, by omega, N2, bl3 HB.out B7.out⟩
            case measure => simp [intOf]; omega
        · obtain rfl : j = fl := by omega
          have hall : F.all (ndB n) = true := by
            have := HA.out
            rw [List.take_of_length_le (by rw [M1.out]; exact Nat.le_refl _)] at this
            exact this
          obtain ⟨N, E, F0, rfl, rfl, hg, rfl, hF0, hE0, hA0⟩ := reE_ok H0.out (by rw [M1.out]; exact a2) hall
          have EA := hid (And.intro hA0 hE0)
          have HG := hid hg
          have HF := hid hF0
          have LN := hid (fun W' (hb : Below W.heap.size W W') => lanesOf_any W' N _ E hg (GE.out.below hb))
          rw [eI_len] at LN C0 d1
          have a5 : N ≤ 4096 := hg.n
          have BD : Hid (Below wr.heap.size wr wr.drew) := drew_below wr 1
          have SS : Hid (∀ W', Below wr.heap.size wr W' → W'.cell? ⟨w.heap.size, 0, none⟩ = some (.int .i64 N) ∧ W'.cell? ⟨w.heap.size, 1, none⟩ = some (.slice p E.length c)) := fun W' hb => C0.out W' (bl3 HB.out hb)
          clear HE hE0 hA0 hall HA H0 hg hF0 hW IN
          obtain ⟨sz, hsz⟩ : ∃ sz, sz = w.heap.size := ⟨_, rfl⟩
          rw [← hsz] at SS C0 d0 d1 ⊢
          have HZ := hid hsz
          clear hsz
          generalize hel : E.length = el at *
          have HEL := hid hel
          clear hel
          go_wp2_with fail
          go_cut [9, 10] from 33 (fun v9 v10 wx => ∃ (lb bs : Nat) (vs : List Sl) (wk : World), v9 = .slice (some ⟨lb, 0, none⟩) N N ∧ v10 = .slice (some ⟨bs, 0, none⟩) N N ∧ wk = wx ∧ Hid (LZ wk w.heap.size lb N vs (fun i => nI (nx N E i)) ∧ OwnG KB wk w.heap.size (.slice (some ⟨bs, 0, none⟩) N N) (List.replicate N false) ∧ Below w.heap.size w wk))
          case first =>
            have WL : Hid (w.heap.size ≤ wr.heap.size) := (bl3 BW.out HB.out).size
            have MK := hid (fun W' => mk_run KB KB_ok false rfl rfl W' 49 Try.underlying49 N (by omega) (by decide))
            obtain ⟨wM, rM, oM, bM⟩ := MK.out wr.drew
            have OM := hid oM
            have BM := hid (bl3 BD.out bM)
            obtain ⟨y0, y1⟩ := SS.out wM BM.out
            clear oM bM
            go_region_with (go_at_call 34; refine (LN.out _ (by first | exact bl3 HB.out BD.out | exact bl3 HB.out BM.out)).mono ?_; rintro e wL ⟨lb, vs, rfl, hzL, hbL⟩; have ZL := hid hzL; have BL := hid hbL; obtain ⟨z0, z1⟩ := SS.out wL (by first | exact bl3 BD.out hbL | exact bl3 BM.out hbL); obtain ⟨wN, rN, oN, bN⟩ := MK.out wL; have ON := hid oN; have BN := hid bN; obtain ⟨x0, x1⟩ := SS.out wN (by first | exact bl3 (bl3 BD.out hbL) bN | exact bl3 (bl3 BM.out hbL) bN); clear hzL hbL oN bN)
            all_goals
              go_wp2_with fail
              go_meet
              case rel =>
                first
                  | exact ⟨lb, _, vs, _, rfl, rfl, rfl, (ZL.out.below BN.out).low (Nat.le_trans WL.out BD.out.size), ON.out.low (Nat.le_trans WL.out (bl3 BD.out BL.out).size), bl3 (bl3 BW.out HB.out) (bl3 (bl3 BD.out BL.out) BN.out)⟩
                  | exact ⟨lb, _, vs, _, rfl, rfl, rfl, ZL.out.low (Nat.le_trans WL.out BM.out.size), (OM.out.below BL.out).low (Nat.le_trans WL.out BD.out.size), bl3 (bl3 BW.out HB.out) (bl3 BM.out BL.out)⟩
          obtain ⟨lb, bs, vs, w9, rfl, rfl, rfl, HC⟩ := hcut
          have J0 := hid (RJ.start HC.out.2.2 HC.out.1 HC.out.2.1)
          clear HC
          have KW := hid (RJ.wk (w0 := w) (lb := lb) (bs := bs) (B := w9.heap.size) (vs := vs) HG.out 56 Try.call56 (fun h i hi h1 h2 => visR_any HG.out.n h i hi h1 h2))
          have GA := hid (fun w' (hb : Below w.heap.size w w') j (hj : j < (nI F0).length) => GS.atI (GF.out.below hb) hj)
          have D0 : Hid (DL (nx N E) (fun _ => false) (F0.take 0) (fun _ => false) []) := .nil
          have M2 : Hid (F0.length = j) := by have := M1.out; rw [nI_len] at this; exact this
          generalize hB9 : w9.alloc (.cells #[.slice none 0 0] 25) = W9 at *
          obtain ⟨B, hB⟩ : ∃ B, B = w9.heap.size := ⟨_, rfl⟩
          rw [← hB] at J0 KW
          go_wp2_with fail
          rw [← hB]
          clear hB hB9 d0 d1 SS BD C0 LN
          go_loopw [40] (fun v40 wq => ∃ (k : Nat) (wk : World), v40 = .int .i64 k ∧ wk = wq ∧ k ≤ j ∧ Hid (∃ S L, DL (nx N E) (fun _ => false) (F0.take k) S L ∧ RJ w N lb bs B vs (nx N E) wk S L)) (fun v40 _ => j - (intOf v40).toNat)
          case atStart => exact ⟨0, _, rfl, rfl, Nat.zero_le _, ⟨_, _, D0.out, J0.out⟩⟩
          case round =>
            obtain ⟨k, wq, rfl, rfl, hk, HL⟩ := hrel
            clear D0 J0
            obtain ⟨S, L, dl, rj⟩ := HL.out
            have DH := hid dl
            have RH := hid rj
            clear dl rj HL
            by_cases hlt2 : k < j
            · have k1 : k < F0.length := by have := M2.out; omega
              obtain ⟨X, o, e1, c1⟩ := GA.out wq RH.out.bl k (by rw [nI_len]; exact k1)
              rw [nI_at k1] at c1
              subst e1
              have hx : F0[k] < N := HF.out _ (List.getElem_mem k1)
              have CW := hid (walk_all KW.out RH.out hx)
              have TK : Hid (F0.take (k + 1) = F0.take k ++ [F0[k]]) := List.take_succ_eq_append_getElem k1
              have hki : (k : Int) < (j : Nat) := by omega
              generalize F0[k] = x at *
              go_wp2_with (go_at_call 44; refine CW.out.mono ?_; rintro e w5 ⟨rfl, S2, L2, d2, j2⟩; have N2 : Hid (∃ S L, DL (nx N E) (fun _ => false) (F0.take (k + 1)) S L ∧ RJ w N lb bs B vs (nx N E) w5 S L) := ⟨S2, L ++ L2, by rw [TK.out]; exact DH.out.app d2, j2⟩; clear d2 j2)
              go_roundw
              case rel => exact ⟨k + 1, _, by go_num, rfl, by omega, N2⟩
              case measure => simp [intOf]; omega
            · obtain rfl : k = j := by omega
              have D2 : Hid (DL (nx N E) (fun _ => false) F0 S L) := by
                have := DH.out
                rw [List.take_of_length_le (by rw [M2.out]; exact Nat.le_refl _)] at this
                exact this
              have FIN := hid (reach_fin HG.out D2.out HF.out)
              obtain ⟨q, cq, b1, b2, _⟩ := RH.out.bx
              have ll := nd_len RH.out.ll
              have x0 : wq.cell? ⟨B, 0, none⟩ = some (.slice q L.length cq) := cell_of_row _ _ _ _ _ _ b1
              have nB : (Value.slice q L.length cq).ownBlock ≠ some B := b2.notat b1 (by decide)
              have SO := hid ((sortI_any b2 (by rw [nI_len]; omega)).mono (R' := fun e w' => e = .returned (.tuple #[]) ∧ w'.cell? ⟨B, 0, none⟩ = some (.slice q L.length cq) ∧ OwnG KI w' w.heap.size (.slice q L.length cq) (nI (reL N E F0)) ∧ Below w.heap.size wq w') fun e w' ⟨h1, h2, h3⟩ => ⟨h1, (World.cell?_of_block (w := wq) (a := ⟨B, 0, none⟩) (h3.block B (lt_of_heap b1) nB)).trans x0, by rw [← FIN.out]; exact h2, h3.below RH.out.bl.size fun x hx => (b2.lt hx).1⟩)
              have EL : Hid (L.length = (nI (reL N E F0)).length) := by
                have e := congrArg List.length FIN.out
                rw [List.length_mergeSort, nI_len] at e
                exact e
              have BL := hid RH.out.bl
              clear b1 b2 nB ll KW DH RH
              generalize L.length = len at *
              go_wp2_with (go_at_call 53; refine SO.out.mono ?_; rintro e w6 ⟨rfl, y0, o6, b6⟩; have O6 := hid o6; have B6 := hid b6; clear o6 b6)
              go_ret2
              rw [EA.out.1, EA.out.2]
              have e := EL.out
              subst e
              exact ⟨q, cq, rfl, O6.out.gs KI_ok.len, BL.out.trans B6.out⟩
  · rw [if_neg h0] at HE
    rw [reE_no (by rw [HE.out]; exact h0), HE.out]
    clear HE
    generalize chkG n l = r at *
    have b1 : (r != 0) = true := by simp [h0]
    go_enter Try.func29, Try.ntmps29
    go_wp2_with (go_at_call 31; refine CK.out.mono ?_; rintro e w6 ⟨rfl, hb6⟩; have B6 := hid hb6; clear hb6)
    go_ret2
    exact AnsI.none (bl3 BW.out B6.out)
end Go.Proofs.Ytghkhceplpjegaa
