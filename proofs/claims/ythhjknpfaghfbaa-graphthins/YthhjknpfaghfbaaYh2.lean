/- Graph: Levels of the program. -/
import Derived.Test.YthhjknpfaghfbaaYg9
namespace Go.Proofs.Ythhjknpfaghfbaa
open Go.RowKit

noncomputable def orE (n : Int) (e : List (Int × Int)) : Int := if chkG n e = 0 then (if rnL n.toNat (eN e) = [] then 0 else 150) else chkG n e
noncomputable def orA (n : Int) (e : List (Int × Int)) : List Int := if orE n e = 0 then nI (orL n.toNat (eN e)) else []
theorem orE_at {N : Nat} {E : List (Nat × Nat)} (hg : GOK N E) : orE N (eI E) = if rnL N E = [] then 0 else 150 := by
  unfold orE
  rw [if_pos hg.chk, eN_eI]
  rfl
theorem orE_yes {N : Nat} {E : List (Nat × Nat)} (hg : GOK N E) (h : rnL N E = []) : orE N (eI E) = 0 ∧ orA N (eI E) = nI (orL N E) := by
  have h1 : orE N (eI E) = 0 := by rw [orE_at hg, if_pos h]
  refine ⟨h1, ?_⟩
  unfold orA
  rw [if_pos h1, eN_eI]
  rfl
theorem orE_not {N : Nat} {E : List (Nat × Nat)} (hg : GOK N E) (h : rnL N E ≠ []) : orE N (eI E) = 150 ∧ orA N (eI E) = [] := by
  have h1 : orE N (eI E) = 150 := by rw [orE_at hg, if_neg h]
  refine ⟨h1, ?_⟩
  unfold orA
  rw [if_neg (by rw [h1]; decide)]
theorem orE_bad {n : Int} {e : List (Int × Int)} (h : chkG n e ≠ 0) : orE n e = chkG n e ∧ orA n e = [] := by
  have h1 : orE n e = chkG n e := by unfold orE; rw [if_neg h]
  refine ⟨h1, ?_⟩
  unfold orA
  rw [if_neg (by rw [h1]; exact h)]
noncomputable def leL (N : Nat) (E : List (Nat × Nat)) : List Int := (List.range N).map (lvF (nx N E) (orL N E))
noncomputable def leA (n : Int) (e : List (Int × Int)) : List Int := if orE n e = 0 then leL n.toNat (eN e) else []
theorem leA_yes {N : Nat} {E : List (Nat × Nat)} (hg : GOK N E) (h : rnL N E = []) : leA N (eI E) = leL N E := by
  unfold leA
  rw [if_pos (orE_yes hg h).1, eN_eI]
  rfl
theorem leA_no {n : Int} {e : List (Int × Int)} (h : orE n e ≠ 0) : leA n e = [] := by unfold leA; rw [if_neg h]
theorem graph_box (w : World) (n : Int) (p : Option Addr) (m c : Nat) {W : World} (hW : w.alloc (.cells #[.int .i64 n, .slice p m c] 24) = W) : Below w.heap.size w W ∧ ∀ W', Below W.heap.size W W' → W'.cell? ⟨w.heap.size, 0, none⟩ = some (.int .i64 n) ∧ W'.cell? ⟨w.heap.size, 1, none⟩ = some (.slice p m c) := by
  refine ⟨by rw [← hW]; exact bal _ _, fun W' hb => ?_⟩
  have e : W'.heap[w.heap.size]? = some (.cells #[.int .i64 n, .slice p m c] 24) := (hb.block _ (by rw [← hW, asz]; omega)).trans (by rw [← hW]; exact heap_alloc_new _ _)
  exact ⟨cell_of_row _ _ _ _ _ _ e, cell_of_row _ _ _ _ _ _ e⟩
set_option maxRecDepth 100000 in
set_option maxHeartbeats 4000000 in
theorem Order_any (w : World) (n : Int) (v : Value) (l : List (Int × Int)) (hv : GS KE w v l) : Calls Try.prog 25 #[.agg #[.int .i64 n, v]] w fun e w' => AnsI w (orA n l) (orE n l) e w' := by
  obtain ⟨p, c, rfl⟩ := hv.form
  generalize hW : w.alloc (.cells #[.int .i64 n, .slice p l.length c] 24) = W
  obtain ⟨bw, c0⟩ := graph_box w n p l.length c hW
  have BW := hid bw
  have C0 := hid c0
  have CK := hid (check_any W n _ l (hv.below bw))
  obtain ⟨d0, d1⟩ := c0 W (Below.refl _ _)
  clear bw c0
  by_cases h0 : chkG n l = 0
  · obtain ⟨N, E, rfl, rfl, hg⟩ := chkG_ok h0
    rw [h0] at CK
    have LN := hid (fun W' (hb : Below W.heap.size W W') => lanesOf_any W' N _ E hg ((hv.below BW.out).below hb))
    have OR := hid (fun W' bb lb vs h => order_any W' N E hg bb lb vs h)
    rw [eI_len] at LN C0 CK d1 hW ⊢
    have HG := hid hg
    clear h0 hg hv
    obtain ⟨m, hm⟩ : ∃ m, m = E.length := ⟨_, rfl⟩
    rw [← hm] at LN C0 CK d1 hW ⊢
    clear hm
    have RES : Hid (∀ w6 w7 w8 e, Below W.heap.size W w6 → Below w6.heap.size w6 w7 → ODR w7 N E e w8 → AnsI w (orA N (eI E)) (orE N (eI E)) e w8) := fun w6 w7 w8 e b6 b7 h => by
      rcases h with ⟨h1, rfl, h2⟩ | ⟨h1, p, c, rfl, h2, h3⟩
      · rw [(orE_not HG.out h1).1, (orE_not HG.out h1).2]
        exact AnsI.none (bl3 BW.out (bl3 b6 (bl3 b7 h2)))
      · rw [(orE_yes HG.out h1).1, (orE_yes HG.out h1).2]
        have e : (nI (orL N E)).length = N := by rw [nI_len, (orL_ko HG.out h1).2]
        exact ⟨p, c, by rw [e], by rw [e]; exact h2.gs KI_ok.len, bl3 BW.out (bl3 b6 (bl3 b7 h3))⟩
    go_enter Try.func25, Try.ntmps25
    go_wp2_with (first | (go_at_call 31; refine CK.out.mono ?_; rintro e w6 ⟨rfl, hb6⟩; have B6 := hid hb6; obtain ⟨g0, g1⟩ := C0.out _ hb6; clear hb6) | (go_at_call 34; refine (LN.out _ B6.out).mono ?_; rintro e w7 ⟨b7, vs7, rfl, hz7, hb7⟩; have B7 := hid hb7; have OC := hid (OR.out w7 _ b7 vs7 hz7); clear hb7 hz7) | (go_at_call 35; refine OC.out.mono ?_; rintro e w8 h8; have R8 := hid (RES.out _ _ _ _ B6.out B7.out h8); obtain ⟨q8, c8, rfl, _, _⟩ := R8.out; clear h8))
    go_ret2
    exact R8.out
  · rw [(orE_bad h0).1, (orE_bad h0).2]
    generalize chkG n l = r at *
    have b1 : (r != 0) = true := by simp [h0]
    go_enter Try.func25, Try.ntmps25
    go_wp2_with (go_at_call 31; refine CK.out.mono ?_; rintro e w6 ⟨rfl, hb6⟩; have B6 := hid hb6; clear hb6)
    go_ret2
    exact AnsI.none (bl3 BW.out B6.out)
end Go.Proofs.Ythhjknpfaghfbaa
namespace Go.Proofs.Ythhjknpfaghfbaa
open Go.RowKit

theorem ODR.not {w w' : World} {N : Nat} {E : List (Nat × Nat)} {e : Ending} (h : ODR w N E e w') (hr : rnL N E ≠ []) : e = .returned (.tuple #[.slice none 0 0, .int .i64 150]) ∧ Below w.heap.size w w' := by
  rcases h with ⟨_, h1, h2⟩ | ⟨h1, _⟩
  · exact ⟨h1, h2⟩
  · exact absurd h1 hr
theorem ODR.yes {w w' : World} {N : Nat} {E : List (Nat × Nat)} {e : Ending} (h : ODR w N E e w') (hr : rnL N E = []) : ∃ p c, e = .returned (.tuple #[.slice p N c, .int .i64 0]) ∧ OwnG KI w' w.heap.size (.slice p N c) (nI (orL N E)) ∧ Below w.heap.size w w' := by
  rcases h with ⟨h1, _⟩ | ⟨_, h2⟩
  · exact absurd hr h1
  · exact h2
theorem CT.drew {w : World} {X N : Nat} {wr : World} {F : Nat → Int} (h : CT w X N wr F) (n : Nat) : CT w X N (wr.drewN n) F := ⟨h.bl.trans ((drew_below wr n).mono h.bl.size), h.lf.far rfl⟩
theorem lv_take {A : Nat → List Nat} {D : List Nat} {k : Nat} (hk : k < D.length) : lvF A (D.take (k + 1)) = lvU (A D[k]) D[k] (lvF A (D.take k)) := by
  rw [List.take_succ_eq_append_getElem hk, lvF_snoc]
theorem CT.lv {w : World} {X N : Nat} {wr : World} {l : List Nat} {n : Nat} {F : Nat → Int} {j : Nat} (h : CT w X N wr (lvU (l.take j) n F)) (hj : j < l.length) {y : Int} (hy : y = max (lvU (l.take j) n F l[j]) (F n + 1)) : CT w X N (wr.setCell ⟨X, l[j], none⟩ (.int .i64 y)) (lvU (l.take (j + 1)) n F) :=
  ⟨h.bl.setCell (p := ⟨X, _, none⟩) h.lf.lt.1 _, (h.lf.set _ _).eq fun x => by
    rw [List.take_succ_eq_append_getElem hj, lvU_snoc]
    unfold upF
    split
    · rename_i e; rw [hy, e]
    · rfl⟩
/-- Beginnings of the least order are beginnings. -/
theorem KO.front {N : Nat} {E : List (Nat × Nat)} {D : List Nat} (h : KO N E D) : ∀ k, KO N E (D.take k) := by
  induction h with
  | nil => intro k; rw [List.take_nil]; exact .nil
  | @snoc D x h1 h2 h3 h4 ih =>
    intro k
    by_cases hk : k ≤ D.length
    · rw [List.take_append_of_le_length hk]; exact ih k
    · rw [List.take_of_length_le (by simp; omega)]; exact .snoc h1 h2 h3 h4
theorem KO.at {N : Nat} {E : List (Nat × Nat)} {D : List Nat} (h : KO N E D) {k : Nat} (hk : k < D.length) : cnd E (D.take k) D[k] ∧ KO N E (D.take k) := by
  have h1 := h.front (k + 1)
  rw [List.take_succ_eq_append_getElem hk] at h1
  obtain ⟨z1, z2, z3, z4⟩ := h1.cut.resolve_left (fun e => by have e := congrArg List.length e; rw [List.length_append, List.length_singleton, List.length_nil] at e; omega)
  obtain ⟨e3, e4⟩ := List.append_inj' z3 rfl
  rw [List.cons.injEq] at e4
  refine ⟨?_, h.front k⟩
  rw [e3, e4.1]
  exact z4.2.2.1
set_option maxRecDepth 100000 in
set_option maxHeartbeats 16000000 in
theorem Levels_any (w : World) (n : Int) (v : Value) (l : List (Int × Int)) (hv : GS KE w v l) : Calls Try.prog 26 #[.agg #[.int .i64 n, v]] w fun e w' => AnsI w (leA n l) (orE n l) e w' := by
  obtain ⟨p, c, rfl⟩ := hv.form
  generalize hW : w.alloc (.cells #[.int .i64 n, .slice p l.length c] 24) = W
  obtain ⟨bw, c0⟩ := graph_box w n p l.length c hW
  have BW := hid bw
  have C0 := hid c0
  have CK := hid (check_any W n _ l (hv.below bw))
  obtain ⟨d0, d1⟩ := c0 W (Below.refl _ _)
  clear bw c0
  by_cases h0 : chkG n l = 0
  · obtain ⟨N, E, rfl, rfl, hg⟩ := chkG_ok h0
    rw [h0] at CK
    have LN := hid (fun W' (hb : Below W.heap.size W W') => lanesOf_any W' N _ E hg ((hv.below BW.out).below hb))
    rw [eI_len] at LN C0 CK d1 hW ⊢
    have HG := hid hg
    obtain ⟨m, hm⟩ : ∃ m, m = E.length := ⟨_, rfl⟩
    rw [← hm] at LN C0 CK d1 hW ⊢
    by_cases hr : rnL N E = []
    · have OR := hid (fun W' bb lb vs h => (order_any W' N E hg bb lb vs h).mono (R' := _) fun e w' h => h.yes hr)
      obtain ⟨kD, lD⟩ := orL_ko hg hr
      have EA : Hid (orE N (eI E) = 0 ∧ leA N (eI E) = leL N E) := ⟨(orE_yes hg hr).1, leA_yes hg hr⟩
      rw [EA.out.1, EA.out.2]
      have HD : Hid (leL N E = (List.range N).map (lvF (nx N E) (orL N E))) := rfl
      generalize leL N E = LE at *
      have LEN : Hid (LE.length = N) := by show _ = _; rw [HD.out]; simp
      generalize orL N E = D at *
      have KD := hid kD
      have NB : N ≤ 4096 := hg.n
      clear h0 hg hv hm EA kD hr
      go_enter Try.func26, Try.ntmps26
      go_upto_region 8 with (first | (go_at_call 31; refine CK.out.mono ?_; rintro e w6 ⟨rfl, hb6⟩; have B6 := hid hb6; obtain ⟨g0, g1⟩ := C0.out _ hb6; clear hb6) | (go_at_call 34; refine (LN.out _ B6.out).mono ?_; rintro e w7 ⟨b7, vs7, rfl, hz7, hb7⟩; have B7 := hid (bl3 B6.out hb7); have Z7 := hid hz7; have OC := hid (OR.out w7 _ b7 vs7 hz7); clear hb7 hz7) | (go_at_call 35; refine OC.out.mono ?_; rintro e w8 ⟨p8, c8, rfl, ho8, hb8⟩; have B8 := hid (bl3 B7.out hb8); have O8 := hid ho8; have Z8 := hid (Z7.out.below hb8); obtain ⟨g2, g3⟩ := C0.out _ B8.out; clear ho8 hb8))
      go_upto_region 9 with (refine make_g KI KI_ok 0 rfl rfl w8 rfl (.tmp 29) (.tmp 29) 25 rfl Try.underlying25 N rfl rfl (by omega) (by decide) ?_; intro w1 ho1 hb1; have C1 : Hid (CT w8 w8.heap.size N w1 (lvF (nx N E) (D.take 0))) := ⟨hb1, LFR.zero ho1⟩; clear ho1 hb1)
      obtain ⟨X, hX⟩ : ∃ X, X = w8.heap.size := ⟨_, rfl⟩
      rw [← hX] at C1 ⊢
      have BB := hid (bl3 BW.out B8.out)
      have GD := hid (fun wq (hb : Below w8.heap.size w8 wq) j (hj : j < (nI D).length) => GS.atI ((O8.out.below hb).gs KI_ok.len) hj)
      have ZC := hid (fun wr (hb : Below w8.heap.size w8 wr) i (hi : i < N) => LZ.cell (A := nx N E) (Z8.out.below hb) hi)
      clear hX d0 d1 g0 g1 g2 g3 C0 CK LN OR OC B6 B7 B8 Z7 Z8 O8 hW
      go_wp2_with fail
      go_loopw [33] (fun v33 wr => ∃ (k : Nat) (wk : World), v33 = .int .i64 k ∧ wk = wr ∧ k ≤ N ∧ Hid (CT w8 X N wk (lvF (nx N E) (D.take k)))) (fun v33 _ => N - (intOf v33).toNat)
      case atStart => exact ⟨0, _, rfl, rfl, Nat.zero_le _, C1⟩
      case round =>
        obtain ⟨k, wr, rfl, rfl, hk, HC⟩ := hrel
        clear C1
        by_cases hlt : k < N
        · have k1 : k < D.length := by omega
          obtain ⟨Y, o, e1, c1⟩ := GD.out wr HC.out.bl k (by rw [nI_len]; exact k1)
          rw [nI_at k1] at c1
          subst e1
          have hx : D[k] < N := KD.out.lt _ (List.getElem_mem k1)
          have CX := hid (KD.out.at k1)
          have TK : Hid (lvF (nx N E) (D.take (k + 1)) = lvU (nx N E D[k]) D[k] (lvF (nx N E) (D.take k))) := lv_take k1
          have LV0 := hid (LV.all HG.out (KD.out.front k))
          have TL : (D.take k).length ≤ 4096 := by rw [List.length_take]; omega
          generalize D[k] = x at *
          obtain ⟨c0, _⟩ := ZC.out wr HC.out.bl x hx
          have hxi : (x : Int) < (N : Nat) := by omega
          have hki : (k : Int) < (N : Nat) := by omega
          have LK : (nx N E x).length ≤ N := nx_len N E x
          have HV := hid (fun j (hj : j < (nx N E x).length) => (HG.out.lt _ ((nx_mem HG.out).1 (List.getElem_mem hj))).2)
          have GA := hid (fun wq (hb : Below w8.heap.size w8 wq) j (hj : j < (nI (nx N E x)).length) => GS.atI (ZC.out wq hb x hx).2 hj)
          have NX : Hid (x ∉ nx N E x) := fun q => (succ_new HG.out CX.out.2 CX.out.1 q).2.1 rfl
          have FB := hid (fun y => And.intro (LV0.out.lo y) (LV0.out.hi y))
          generalize lvF (nx N E) (D.take k) = F at *
          have C2 : Hid (CT w8 X N wr (lvU ((nx N E x).take 0) x F)) := ⟨HC.out.bl, by rw [List.take_zero, lvU_nil]; exact HC.out.lf⟩
          obtain ⟨m, hm⟩ : ∃ m, m = (nx N E x).length := ⟨_, rfl⟩
          have M1 : Hid ((nx N E x).length = m) := hm.symm
          rw [← hm] at c0 LK
          generalize (vs7.getD x sl0).1 = pk at *
          generalize (vs7.getD x sl0).2.2 = ck at *
          generalize (D.take k).length = tk at *
          clear hm HC LV0 CX
          go_wp2_with fail
          go_loopw [42] (fun v42 wq => ∃ (j : Nat) (wk : World), v42 = .int .i64 j ∧ wk = wq ∧ j ≤ m ∧ Hid (CT w8 X N wk (lvU ((nx N E x).take j) x F))) (fun v42 _ => m - (intOf v42).toNat)
          case atStart => exact ⟨0, _, rfl, rfl, Nat.zero_le _, C2⟩
          case round =>
            obtain ⟨j, wq, rfl, rfl, hj, HJ⟩ := hrel
            clear C2 c1 c0
            by_cases hlt2 : j < m
            · have j1 : j < (nx N E x).length := by have := M1.out; omega
              obtain ⟨Y2, o2, e1, c1⟩ := GA.out wq HJ.out.bl j (by rw [nI_len]; exact j1)
              rw [nI_at j1] at c1
              subst e1
              have hy := HV.out j j1
              obtain ⟨f1, f2⟩ := HJ.out.lf.at hy
              obtain ⟨f3, _⟩ := HJ.out.lf.at hx
              rw [lvU_own (fun q => NX.out (List.mem_of_mem_take q))] at f3
              have N2 := hid (fun y hy => HJ.out.lv j1 (y := y) hy)
              have fb := FB.out x
              have hji : (j : Int) < (m : Nat) := by omega
              generalize lvU ((nx N E x).take j) x F (nx N E x)[j] = fy at *
              generalize F x = fx at *
              generalize (nx N E x)[j] = y at *
              have hyi : (y : Int) < (N : Nat) := by omega
              have W2 : Hid (Below w8.heap.size w8 wq) := HJ.out.bl
              have DW : Hid (Below wq.heap.size wq wq.drew) := drew_below wq 1
              have k1 : wq.drew.cell? ⟨X, y, none⟩ = some (.int .i64 fy) := f1
              clear HJ
              go_wp2_with fail
              go_region
              all_goals
                go_wp2_with fail
                go_roundw
                case rel => exact ⟨j + 1, _, by go_num, rfl, by omega, (N2.out _ rfl).drew 1⟩
                case measure => simp [intOf]; omega
            · obtain rfl : j = m := by omega
              have N3 : Hid (CT w8 X N wq (lvF (nx N E) (D.take (k + 1)))) := by show CT _ _ _ _ _; rw [TK.out, ← List.take_of_length_le (l := nx N E x) (i := j) (by rw [M1.out]; exact Nat.le_refl _)]; exact HJ.out
              go_wp2_with fail
              go_roundw
              case rel => exact ⟨k + 1, _, by go_num, rfl, by omega, N3⟩
              case measure => simp [intOf]; omega
        · obtain rfl : k = N := by omega
          have FIN : Hid (OwnG KI wr w8.heap.size (.slice (some ⟨X, 0, none⟩) LE.length k) LE) := by
            have := HC.out.lf
            rw [List.take_of_length_le (by omega)] at this
            rw [LEN.out, HD.out]
            exact this
          have BL := hid HC.out.bl
          rw [← LEN.out] at FIN
          clear HC
          go_wp2_with fail
          go_ret2
          exact ⟨some ⟨X, 0, none⟩, k, by rw [LEN.out]; rfl, by have := FIN.out.gs KI_ok.len; rw [LEN.out] at this ⊢; exact this, bl3 BB.out BL.out⟩
    · have OR := hid (fun W' bb lb vs h => (order_any W' N E hg bb lb vs h).mono (R' := _) fun e w' h => h.not hr)
      have EA := orE_not hg hr
      rw [leA_no (by rw [EA.1]; decide), EA.1]
      clear h0 hg hv hm EA hr
      go_enter Try.func26, Try.ntmps26
      go_wp2_with (first | (go_at_call 31; refine CK.out.mono ?_; rintro e w6 ⟨rfl, hb6⟩; have B6 := hid hb6; obtain ⟨g0, g1⟩ := C0.out _ hb6; clear hb6) | (go_at_call 34; refine (LN.out _ B6.out).mono ?_; rintro e w7 ⟨b7, vs7, rfl, hz7, hb7⟩; have B7 := hid (bl3 B6.out hb7); have OC := hid (OR.out w7 _ b7 vs7 hz7); clear hb7 hz7) | (go_at_call 35; refine OC.out.mono ?_; rintro e w8 ⟨rfl, hb8⟩; have B8 := hid (bl3 B7.out hb8); clear hb8))
      go_ret2
      exact AnsI.none (bl3 BW.out B8.out)
  · rw [leA_no (by rw [(orE_bad h0).1]; exact h0), (orE_bad h0).1]
    generalize chkG n l = r at *
    have b1 : (r != 0) = true := by simp [h0]
    go_enter Try.func26, Try.ntmps26
    go_wp2_with (go_at_call 31; refine CK.out.mono ?_; rintro e w6 ⟨rfl, hb6⟩; have B6 := hid hb6; clear hb6)
    go_ret2
    exact AnsI.none (bl3 BW.out B6.out)
end Go.Proofs.Ythhjknpfaghfbaa
