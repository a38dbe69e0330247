/- Graph: the document's order: what stands in memory. -/
import Derived.Test.YtghkhceplpjegaaYf8
import Derived.Test.YtghkhceplpjegaaYq4
import Derived.Test.YtghkhceplpjegaaYd4
import Derived.Test.YtghkhceplpjegaaYf3
import Derived.Test.YtghkhceplpjegaaYe5
namespace Go.Proofs.Ytghkhceplpjegaa
open Go.RowKit

theorem ODR.not {w w' : World} {N : Nat} {E : List (Nat × Nat)} {e : Ending} (h : ODR w N E e w') (hr : rnL N E ≠ []) : e = .returned (.tuple #[.slice none 0 0, .int .i64 150]) ∧ Below w.heap.size w w' := by
  rcases h with ⟨_, h1, h2⟩ | ⟨h1, _⟩
  · exact ⟨h1, h2⟩
  · exact absurd h1 hr
theorem ODR.yes {w w' : World} {N : Nat} {E : List (Nat × Nat)} {e : Ending} (h : ODR w N E e w') (hr : rnL N E = []) : ∃ p c, e = .returned (.tuple #[.slice p N c, .int .i64 0]) ∧ OwnG KI w' w.heap.size (.slice p N c) (nI (orL N E)) ∧ Below w.heap.size w w' := by
  rcases h with ⟨h1, _⟩ | ⟨_, h2⟩
  · exact absurd hr h1
  · exact h2
theorem CT.drew {w : World} {X N : Nat} {wr : World} {F : Nat → Int} (h : CT w X N wr F) (n : Nat) : CT w X N (wr.drewN n) F := ⟨h.bl.trans ((drew_below wr n).mono h.bl.size), h.lf.far rfl⟩
theorem lv_take {A : Nat → List Nat} {D : List Nat} {k : Nat} (hk : k < D.length) : lvF A (D.take (k + 1)) = lvU (A D[k]) D[k] (lvF A (D.take k)) := by
  rw [List.take_succ_eq_append_getElem hk, lvF_snoc]
theorem CT.lv {w : World} {X N : Nat} {wr : World} {l : List Nat} {n : Nat} {F : Nat → Int} {j : Nat} (h : CT w X N wr (lvU (l.take j) n F)) (hj : j < l.length) {y : Int} (hy : y = max (lvU (l.take j) n F l[j]) (F n + 1)) : CT w X N (wr.setCell ⟨X, l[j], none⟩ (.int .i64 y)) (lvU (l.take (j + 1)) n F) :=
  ⟨h.bl.setCell (p := ⟨X, _, none⟩) h.lf.lt.1 _, (h.lf.set _ _).eq fun x => by
    rw [List.take_succ_eq_append_getElem hj, lvU_snoc]
    unfold upF
    split
    · rename_i e; rw [hy, e]
    · rfl⟩
/-- Beginnings of the least order are beginnings. -/
theorem KO.front {N : Nat} {E : List (Nat × Nat)} {D : List Nat} (h : KO N E D) : ∀ k, KO N E (D.take k) := by
  induction h with
  | nil => intro k; rw [List.take_nil]; exact .nil
  | @snoc D x h1 h2 h3 h4 ih =>
    intro k
    by_cases hk : k ≤ D.length
    · rw [List.take_append_of_le_length hk]; exact ih k
    · rw [List.take_of_length_le (by simp; omega)]; exact .snoc h1 h2 h3 h4
theorem KO.at {N : Nat} {E : List (Nat × Nat)} {D : List Nat} (h : KO N E D) {k : Nat} (hk : k < D.length) : cnd E (D.take k) D[k] ∧ KO N E (D.take k) := by
  have h1 := h.front (k + 1)
  rw [List.take_succ_eq_append_getElem hk] at h1
  obtain ⟨z1, z2, z3, z4⟩ := h1.cut.resolve_left (fun e => by have e := congrArg List.length e; rw [List.length_append, List.length_singleton, List.length_nil] at e; omega)
  obtain ⟨e3, e4⟩ := List.append_inj' z3 rfl
  rw [List.cons.injEq] at e4
  refine ⟨?_, h.front k⟩
  rw [e3, e4.1]
  exact z4.2.2.1
set_option maxRecDepth 100000 in
set_option maxHeartbeats 16000000 in
theorem Levels_any (w : World) (n : Int) (v : Value) (l : List (Int × Int)) (hv : GS KE w v l) : Calls Try.prog 26 #[.agg #[.int .i64 n, v]] w fun e w' => AnsI w (leA n l) (orE n l) e w' := by
  obtain ⟨p, c, rfl⟩ := hv.form
  generalize hW : w.alloc (.cells #[.int .i64 n, .slice p l.length c] 24) = W
  obtain ⟨bw, c0⟩ := graph_box w n p l.length c hW
  have BW := hid bw
  have C0 := hid c0
  have CK := hid (check_any W n _ l (hv.below bw))
  obtain ⟨d0, d1⟩ := c0 W (Below.refl _ _)
  clear bw c0
  by_cases h0 : chkG n l = 0
  · obtain ⟨N, E, rfl, rfl, hg⟩ := chkG_ok h0
    rw [h0] at CK
    have LN := hid (fun W' (hb : Below W.heap.size W W') => lanesOf_any W' N _ E hg ((hv.below BW.out).below hb))
    rw [eI_len] at LN C0 CK d1 hW ⊢
    have HG := hid hg
    obtain ⟨m, hm⟩ : ∃ m, m = E.length := ⟨_, rfl⟩
    rw [← hm] at LN C0 CK d1 hW ⊢
    by_cases hr : rnL N E = []
    · have OR := hid (fun W' bb lb vs h => (order_any W' N E hg bb lb vs h).mono (R' := _) fun e w' h => h.yes hr)
      obtain ⟨kD, lD⟩ := orL_ko hg hr
      have EA : Hid (orE N (eI E) = 0 ∧ leA N (eI E) = leL N E) := ⟨(orE_yes hg hr).1, leA_yes hg hr⟩
      rw [EA.out.1, EA.out.2]
      have HD : Hid (leL N E = (List.range N).map (lvF (nx N E) (orL N E))) := rfl
      generalize leL N E = LE at *
      have LEN : Hid (LE.length = N) := by show _ = _; rw [HD.out]; simp
      generalize orL N E = D at *
      have KD := hid kD
      have NB : N ≤ 4096 := hg.n
      clear h0 hg hv hm EA kD hr
      go_enter Try.func26, Try.ntmps26
      go_upto_region 8 with (first | (go_at_call 31; refine CK.out.mono ?_; rintro e w6 ⟨rfl, hb6⟩; have B6 := hid hb6; obtain ⟨g0, g1⟩ := C0.out _ hb6; clear hb6) | (go_at_call 34; refine (LN.out _ B6.out).mono ?_; rintro e w7 ⟨b7, vs7, rfl, hz7, hb7⟩; have B7 := hid (bl3 B6.out hb7); have Z7 := hid hz7; have OC := hid (OR.out w7 _ b7 vs7 hz7); clear hb7 hz7) | (go_at_call 35; refine OC.out.mono ?_; rintro e w8 ⟨p8, c8, rfl, ho8, hb8⟩; have B8 := hid (bl3 B7.out hb8); have O8 := hid ho8; have Z8 := hid (Z7.out.below hb8); obtain ⟨g2, g3⟩ := C0.out _ B8.out; clear ho8 hb8))
      go_upto_region 9 with (refine make_g KI KI_ok 0 rfl rfl w8 rfl (.tmp 29) (.tmp 29) 25 rfl Try.underlying25 N rfl rfl (by omega) (by decide) ?_; intro w1 ho1 hb1; have C1 : Hid (CT w8 w8.heap.size N w1 (lvF (nx N E) (D.take 0))) := ⟨hb1, LFR.zero ho1⟩; clear ho1 hb1)
      obtain ⟨X, hX⟩ : ∃ X, X = w8.heap.size := ⟨_, rfl⟩
      rw [← hX] at C1 ⊢
      have BB := hid (bl3 BW.out B8.out)
      have GD := hid (fun wq (hb : Below w8.heap.size w8 wq) j (hj : j < (nI D).length) => GS.atI ((O8.out.below hb).gs KI_ok.len) hj)
      have ZC := hid (fun wr (hb : Below w8.heap.size w8 wr) i (hi : i < N) => LZ.cell (A := nx N E) (Z8.out.below hb) hi)
      clear hX d0 d1 g0 g1 g2 g3 C0 CK LN OR OC B6 B7 B8 Z7 Z8 O8 hW
      go_wp2_with fail
      go_loopw [33] (fun v33 wr => ∃ (k : Nat) (wk : World), v33 = .int .i64 k ∧ wk = wr ∧ k ≤ N ∧ Hid (CT w8 X N wk (lvF (nx N E) (D.take k)))) (fun v33 _ => N - (intOf v33).toNat)
      case atStart => exact ⟨0, _, rfl, rfl, Nat.zero_le _, C1⟩
      case round =>
        obtain ⟨k, wr, rfl, rfl, hk, HC⟩ := hrel
        clear C1
        by_cases hlt : k < N
        · have k1 : k < D.length := by omega
          obtain ⟨Y, o, e1, c1⟩ := GD.out wr HC.out.bl k (by rw [nI_len]; exact k1)
          rw [nI_at k1] at c1
          subst e1
          have hx : D[k] < N := KD.out.lt _ (List.getElem_mem k1)
          have CX := hid (KD.out.at k1)
          have TK : Hid (lvF (nx N E) (D.take (k + 1)) = lvU (nx N E D[k]) D[k] (lvF (nx N E) (D.take k))) := lv_take k1
          have LV0 := hid (LV.all HG.out (KD.out.front k))
          have TL : (D.take k).length ≤ 4096 := by rw [List.length_take]; omega
          generalize D[k] = x at *
          obtain ⟨c0, _⟩ := ZC.out wr HC.out.bl x hx
          have hxi : (x : Int) < (N : Nat) := by omega
          have hki : (k : Int) < (N : Nat) := by omega
          have LK : (nx N E x).length ≤ N := nx_len N E x
          have HV := hid (fun j (hj : j < (nx N E x).length) => (HG.out.lt _ ((nx_mem HG.out).1 (List.getElem_mem hj))).2)
          have GA := hid (fun wq (hb : Below w8.heap.size w8 wq) j (hj : j < (nI (nx N E x)).length) => GS.atI (ZC.out wq hb x hx).2 hj)
          have NX : Hid (x ∉ nx N E x) := fun q => (succ_new HG.out CX.out.2 CX.out.1 q).2.1 rfl
          have FB := hid (fun y => And.intro (LV0.out.lo y) (LV0.out.hi y))
          generalize lvF (nx N E) (D.take k) = F at *
          have C2 : Hid (CT w8 X N wr (lvU ((nx N E x).take 0) x F)) := ⟨HC.out.bl, by rw [List.take_zero, lvU_nil]; exact HC.out.lf⟩
          obtain ⟨m, hm⟩ : ∃ m, m = (nx N E x).length := ⟨_, rfl⟩
          have M1 : Hid ((nx N E x).length = m) := hm.symm
          rw [← hm] at c0 LK
          generalize (vs7.getD x sl0).1 = pk at *
          generalize (vs7.getD x sl0).2.2 = ck at *
          generalize (D.take k).length = tk at *
          clear hm HC LV0 CX
          go_wp2_with fail
          go_loopw [42] (fun v42 wq => ∃ (j : Nat) (wk : World), v42 = .int .i64 j ∧ wk = wq ∧ j ≤ m ∧ Hid (CT w8 X N wk (lvU ((nx N E x).take j) x F))) (fun v42 _ => m - (intOf v42).toNat)
          case atStart => exact ⟨0, _, rfl, rfl, Nat.zero_le _, C2⟩
          case round =>
            obtain ⟨j, wq, rfl, rfl, hj, HJ⟩ := hrel
            clear C2 c1 c0
            by_cases hlt2 : j < m
            · have j1 : j < (nx N E x).length := by have := M1.out; omega
              obtain ⟨Y2, o2, e1, c1⟩ := GA.out wq HJ.out.bl j (by rw [nI_len]; exact j1)
              rw [nI_at j1] at c1
              subst e1
              have hy := HV.out j j1
              obtain ⟨f1, f2⟩ := HJ.out.lf.at hy
              obtain ⟨f3, _⟩ := HJ.out.lf.at hx
              rw [lvU_own (fun q => NX.out (List.mem_of_mem_take q))] at f3
              have N2 := hid (fun y hy => HJ.out.lv j1 (y := y) hy)
              have fb := FB.out x
              have hji : (j : Int) < (m : Nat) := by omega
              generalize lvU ((nx N E x).take j) x F (nx N E x)[j] = fy at *
              generalize F x = fx at *
              generalize (nx N E x)[j] = y at *
              have hyi : (y : Int) < (N : Nat) := by omega
              have W2 : Hid (Below w8.heap.size w8 wq) := HJ.out.bl
              have DW : Hid (Below wq.heap.size wq wq.drew) := drew_below wq 1
              have k1 : wq.drew.cell? ⟨X, y, none⟩ = some (.int .i64 fy) := f1
              clear HJ
              go_wp2_with fail
              go_region
              all_goals
                go_wp2_with fail
                go_roundw
                case rel => exact ⟨j + 1, _, by go_num, rfl, by omega, (N2.out _ rfl).drew 1⟩
                case measure => simp [intOf]; omega
            · obtain rfl : j = m := by omega
              have N3 : Hid (CT w8 X N wq (lvF (nx N E) (D.take (k + 1)))) := by show CT _ _ _ _ _; rw [TK.out, ← List.take_of_length_le (l := nx N E x) (i := j) (by rw [M1.out]; exact Nat.le_refl _)]; exact HJ.out
              go_wp2_with fail
              go_roundw
              case rel => exact ⟨k + 1, _, by go_num, rfl, by omega, N3⟩
              case measure => simp [intOf]; omega
        · obtain rfl : k = N := by omega
          have FIN : Hid (OwnG KI wr w8.heap.size (.slice (some ⟨X, 0, none⟩) LE.length k) LE) := by
            have := HC.out.lf
            rw [List.take_of_length_le (by omega)] at this
            rw [LEN.out, HD.out]
            exact this
          have BL := hid HC.out.bl
          rw [← LEN.out] at FIN
          clear HC
          go_wp2_with fail
          go_ret2
          exact ⟨some ⟨X, 0, none⟩, k, by rw [LEN.out]; rfl, by have := FIN.out.gs KI_ok.len; rw [LEN.out] at this ⊢; exact this, bl3 BB.out BL.out⟩
    · have OR := hid (fun W' bb lb vs h => (order_any W' N E hg bb lb vs h).mono (R' := _) fun e w' h => h.not hr)
      have EA := orE_not hg hr
      rw [leA_no (by rw [EA.1]; decide), EA.1]
      clear h0 hg hv hm EA hr
      go_enter Try.func26, Try.ntmps26
      go_wp2_with (first | (go_at_call 31; refine CK.out.mono ?_; rintro e w6 ⟨rfl, hb6⟩; have B6 := hid hb6; obtain ⟨g0, g1⟩ := C0.out _ hb6; clear hb6) | (go_at_call 34; refine (LN.out _ B6.out).mono ?_; rintro e w7 ⟨b7, vs7, rfl, hz7, hb7⟩; have B7 := hid (bl3 B6.out hb7); have OC := hid (OR.out w7 _ b7 vs7 hz7); clear hb7 hz7) | (go_at_call 35; refine OC.out.mono ?_; rintro e w8 ⟨rfl, hb8⟩; have B8 := hid (bl3 B7.out hb8); clear hb8))
      go_ret2
      exact AnsI.none (bl3 BW.out B8.out)
  · rw [leA_no (by rw [(orE_bad h0).1]; exact h0), (orE_bad h0).1]
    generalize chkG n l = r at *
    have b1 : (r != 0) = true := by simp [h0]
    go_enter Try.func26, Try.ntmps26
    go_wp2_with (go_at_call 31; refine CK.out.mono ?_; rintro e w6 ⟨rfl, hb6⟩; have B6 := hid hb6; clear hb6)
    go_ret2
    exact AnsI.none (bl3 BW.out B6.out)
end Go.Proofs.Ytghkhceplpjegaa
namespace Go.Proofs.Ytghkhceplpjegaa
open Go.RowKit

/-- One node's lean edges, the first j looked at; all of the first k nodes. -/
noncomputable def lnR (N : Nat) (E : List (Nat × Nat)) (x j : Nat) : List (Nat × Nat) := (((nx N E x).take j).filter fun y => !wyB E (-1) (nx N E x) y).map fun y => (x, y)
noncomputable def lnK (N : Nat) (E : List (Nat × Nat)) (k : Nat) : List (Nat × Nat) := (List.range k).flatMap fun x => lnR N E x (nx N E x).length
noncomputable def lnQ (N : Nat) (E : List (Nat × Nat)) : List (Nat × Nat) := lnK N E N
theorem lnR_zero (N : Nat) (E : List (Nat × Nat)) (x : Nat) : lnR N E x 0 = [] := by simp [lnR]
theorem lnR_yes {N : Nat} {E : List (Nat × Nat)} {x j : Nat} (hj : j < (nx N E x).length) (h : wyB E (-1) (nx N E x) (nx N E x)[j] = false) : lnR N E x (j + 1) = lnR N E x j ++ [(x, (nx N E x)[j])] := by
  unfold lnR
  rw [List.take_succ_eq_append_getElem hj, List.filter_append, List.map_append]
  simp [h]
theorem lnR_no {N : Nat} {E : List (Nat × Nat)} {x j : Nat} (hj : j < (nx N E x).length) (h : wyB E (-1) (nx N E x) (nx N E x)[j] = true) : lnR N E x (j + 1) = lnR N E x j := by
  unfold lnR
  rw [List.take_succ_eq_append_getElem hj, List.filter_append, List.map_append]
  simp [h]
theorem lnK_succ (N : Nat) (E : List (Nat × Nat)) (k : Nat) : lnK N E (k + 1) = lnK N E k ++ lnR N E k (nx N E k).length := by
  unfold lnK
  rw [List.range_succ, List.flatMap_append, List.flatMap_singleton]
theorem lnR_mem {N : Nat} {E : List (Nat × Nat)} (hg : GOK N E) {x j : Nat} {e : Nat × Nat} (h : e ∈ lnR N E x j) : e.1 = x ∧ e ∈ E ∧ wyB E (-1) (nx N E x) e.2 = false := by
  unfold lnR at h
  obtain ⟨y, hy, rfl⟩ := List.mem_map.1 h
  obtain ⟨h1, h2⟩ := List.mem_filter.1 hy
  exact ⟨rfl, (nx_mem hg).1 (List.mem_of_mem_take h1), by simpa using h2⟩
theorem lnK_mem {N : Nat} {E : List (Nat × Nat)} (hg : GOK N E) {k : Nat} {e : Nat × Nat} : e ∈ lnK N E k ↔ e.1 < k ∧ e ∈ E ∧ wyB E (-1) (nx N E e.1) e.2 = false := by
  unfold lnK
  rw [List.mem_flatMap]
  constructor
  · rintro ⟨x, hx, h⟩
    obtain ⟨h1, h2, h3⟩ := lnR_mem hg h
    rw [h1]
    exact ⟨by simpa using hx, h2, h3⟩
  · rintro ⟨h1, h2, h3⟩
    refine ⟨e.1, by simpa using h1, ?_⟩
    unfold lnR
    rw [List.take_length, List.mem_map]
    exact ⟨e.2, List.mem_filter.2 ⟨(nx_mem hg).2 h2, by simp [h3]⟩, rfl⟩
theorem nodup_sub {α : Type} [DecidableEq α] {L : List α} : ∀ {M : List α}, L.Nodup → (∀ x ∈ L, x ∈ M) → L.length ≤ M.length := by
  induction L with
  | nil => intro M _ _; exact Nat.zero_le _
  | cons a L ih =>
    intro M hn h
    rw [List.nodup_cons] at hn
    have ha : a ∈ M := h a (by simp)
    have := ih (M := M.erase a) hn.2 fun x hx => (List.mem_erase_of_ne (fun e => hn.1 (by rw [← e]; exact hx))).2 (h x (by simp [hx]))
    rw [List.length_erase_of_mem ha] at this
    have hp : 0 < M.length := List.length_pos_of_mem ha
    rw [List.length_cons]
    omega
theorem lnK_nodup {N : Nat} {E : List (Nat × Nat)} (hg : GOK N E) (k : Nat) : (lnK N E k).Nodup := by
  induction k with
  | zero => exact List.nodup_nil
  | succ k ih =>
    rw [lnK_succ, List.nodup_append]
    refine ⟨ih, ?_, fun a ha b hb e => ?_⟩
    · unfold lnR
      rw [List.take_length]
      have hu : (nx N E k).Nodup := (ris_up _ _).imp fun h => Nat.ne_of_lt h
      exact List.Pairwise.map _ (fun a b h e => h (by injection e)) (hu.filter _)
    · have h1 := ((lnK_mem hg).1 ha).1
      have h2 := (lnR_mem hg hb).1
      rw [e, h2] at h1
      exact absurd h1 (Nat.lt_irrefl _)
theorem lnR_len (N : Nat) (E : List (Nat × Nat)) (x j : Nat) : (lnR N E x j).length ≤ N := by
  unfold lnR
  rw [List.length_map]
  refine Nat.le_trans (List.length_filter_le _ _) (Nat.le_trans ?_ (nx_len N E x))
  rw [List.length_take]
  exact Nat.min_le_right _ _
theorem lnK_len {N : Nat} {E : List (Nat × Nat)} (hg : GOK N E) (k : Nat) : (lnK N E k).length ≤ E.length := nodup_sub (lnK_nodup hg k) fun _ h => ((lnK_mem hg).1 h).2.1
theorem lnQ_ok {N : Nat} {E : List (Nat × Nat)} (hg : GOK N E) : GOK N (lnQ N E) := ⟨hg.n, Nat.le_trans (lnK_len hg N) hg.e, fun e he => hg.lt e ((lnK_mem hg).1 he).2.1⟩
/-- What Lean answers. -/
noncomputable def lnA (n : Int) (e : List (Int × Int)) : Int := if orE n e = 0 then n else 0
noncomputable def lnL (n : Int) (e : List (Int × Int)) : List (Int × Int) := if orE n e = 0 then eI (lnQ n.toNat (eN e)) else []
theorem ln_yes {N : Nat} {E : List (Nat × Nat)} (hg : GOK N E) (h : rnL N E = []) : lnA N (eI E) = N ∧ lnL N (eI E) = eI (lnQ N E) := by
  refine ⟨by unfold lnA; rw [if_pos (orE_yes hg h).1], ?_⟩
  unfold lnL
  rw [if_pos (orE_yes hg h).1, eN_eI]
  simp
theorem ln_no {n : Int} {e : List (Int × Int)} (h : orE n e ≠ 0) : lnA n e = 0 ∧ lnL n e = [] := ⟨by unfold lnA; rw [if_neg h], by unfold lnL; rw [if_neg h]⟩
theorem TR.blw {W : World} {n : Int} {bb : Nat} {q : Option Addr} {c : Nat} {L : List (Int × Int)} {wk w1 : World} (h : TR W n bb q c L wk) (k : Below wk.heap.size wk w1) : TR W n bb q c L w1 := ⟨bl3 h.bl k, boxkeep k h.bx, h.ow.below k, h.ge⟩
/-- The lean graph's box, beside what a node leads to by way of others. -/
structure LAR (V : World) (n : Int) (bb bs N : Nat) (S : Nat → Bool) (q : Option Addr) (c : Nat) (L : List (Int × Int)) (wk : World) : Prop where
  tr : TR V n bb q c L wk
  ar : OwnG KB wk V.heap.size (.slice (some ⟨bs, 0, none⟩) N N) ((List.range N).map S)
theorem LAR.push {V : World} {n : Int} {bb bs N : Nat} {S : Nat → Bool} {q : Option Addr} {c : Nat} {L : List (Int × Int)} {wk w1 w8 : World} (h : LAR V n bb bs N S q c L wk) {x : Int × Int} {g8 c8 : Nat} (h1 : Below wk.heap.size wk w1) (ho : OwnG KE w8 V.heap.size (.slice (some ⟨g8, 0, none⟩) (L.length + 1) c8) (L ++ [x])) (hb8 : Below V.heap.size w1 w8) (hk : ∀ k, k < w1.heap.size → some k ≠ (Value.slice q L.length c).ownBlock → w8.heap[k]? = w1.heap[k]?) : LAR V n bb bs N S (some ⟨g8, 0, none⟩) c8 (L ++ [x]) (w8.setCell ⟨bb, 1, none⟩ (.slice (some ⟨g8, 0, none⟩) (L.length + 1) c8)) ∧ (w8.cell? ⟨bb, 1, none⟩ = some (.slice q L.length c)) ∧ ∀ o, w8.frozen? ⟨bb, o, none⟩ = false := by
  obtain ⟨k1, k2, k3⟩ := h.tr.push h1 ho hb8 hk
  refine ⟨⟨k1, ?_⟩, k2, k3⟩
  have a1 := h.ar.below h1
  have o1 := h.tr.ow.below h1
  have hB1 := boxkeep h1 h.tr.bx
  refine a1.far fun g hg => ?_
  rw [set_far (fun e => a1.notat hB1 (by decide) (by rw [← e]; exact hg))]
  exact hk g (a1.lt hg).2 (fun e => o1.apart a1 (by decide) hg e.symm)
theorem LAR.at {V : World} {n : Int} {bb bs N : Nat} {S : Nat → Bool} {q : Option Addr} {c : Nat} {L : List (Int × Int)} {wk : World} (h : LAR V n bb bs N S q c L wk) {i : Nat} (hi : i < N) : wk.cell? ⟨bs, i, none⟩ = some (.bool (S i)) := by
  obtain ⟨X, o, e, hc⟩ := (h.ar.gs KB_ok.len).atB (k := i) (by simpa using hi)
  injection e with e
  injection e with e1 e2 _
  subst e1 e2
  rw [Nat.zero_add] at hc
  rw [hc]
  simp
end Go.Proofs.Ytghkhceplpjegaa
namespace Go.Proofs.Ytghkhceplpjegaa
open Go.RowKit

theorem LZ.but {w w' : World} {base b N : Nat} {vs : List Sl} {R : Nat → List Int} {F : Nat → Prop} (h : LZ w base b N vs R) (k : ∀ x, x < w.heap.size → ¬ F x → w'.heap[x]? = w.heap[x]?) (hb : ¬ F b) (hr : ∀ i, i < N → ∀ g, (slV (vs.getD i sl0)).ownBlock = some g → ¬ F g) : LZ w' base b N vs R :=
  ⟨h.len, h.out.far fun g hg => k g (h.out.lt hg).2 (by injection hg with hg; have hg : b = g := hg; rw [← hg]; exact hb), fun i hi => (h.row i hi).far fun g hg => k g ((h.row i hi).lt hg).2 (hr i hi g hg), h.ap⟩
/-- The numbers, and the lists. -/
structure OL (w0 : World) (N X lb : Nat) (vs : List Sl) (R : Nat → List Int) (F : Nat → Int) (W : World) : Prop where
  bl : Below w0.heap.size w0 W
  lf : LFR W w0.heap.size X N F
  lz : LZ W w0.heap.size lb N vs R
  ap : ∀ i, i < N → ∀ g, (slV (vs.getD i sl0)).ownBlock = some g → g ≠ X
theorem OL.nb {w0 : World} {N X lb : Nat} {vs : List Sl} {R : Nat → List Int} {F : Nat → Int} {W : World} (h : OL w0 N X lb vs R F W) : lb ≠ X := fun e => OwnG.apart h.lf h.lz.out (by decide) (g := lb) rfl (by rw [e]; rfl)
theorem OL.imp {w0 : World} {N X lb : Nat} {vs : List Sl} {R Q : Nat → List Int} {F : Nat → Int} {W : World} (h : OL w0 N X lb vs R F W) (k : ∀ i, i < N → R i = Q i) : OL w0 N X lb vs Q F W := ⟨h.bl, h.lf, h.lz.imp k, h.ap⟩
theorem OL.start {w0 : World} {N X : Nat} {F : Nat → Int} {W W' : World} (h : CT w0 X N W F) (hb : Below W.heap.size W W') (ho : OwnG KS W' W.heap.size (.slice (some ⟨W.heap.size, 0, none⟩) N N) (List.replicate N sl0)) : OL w0 N X W.heap.size (List.replicate N sl0) (fun _ => []) F W' :=
  ⟨bl3 h.bl hb, h.lf.far (hb.block X h.lf.lt.2), (LZ.fresh ho).low h.bl.size, fun i hi g hg => by
    have e : (List.replicate N sl0).getD i sl0 = sl0 := by simp [List.getD, hi]
    rw [e] at hg
    cases hg⟩
/-- One more in a list. -/
theorem OL.lane {w0 : World} {N X lb : Nat} {vs : List Sl} {E : List (Nat × Nat)} {F : Nat → Int} {j : Nat} (hj : j < E.length) {W w1 w8 : World} (h : OL w0 N X lb vs (fun i => nI (tg (E.take j) i)) F W) (hf : E[j].1 < N) {p : Option Addr} {cc g8 c8 : Nat} (hs : slV (vs.getD E[j].1 sl0) = .slice p (nI (tg (E.take j) E[j].1)).length cc) (h1 : Below W.heap.size W w1) (ho : OwnG KI w8 w0.heap.size (.slice (some ⟨g8, 0, none⟩) ((nI (tg (E.take j) E[j].1)).length + 1) c8) (nI (tg (E.take j) E[j].1) ++ [(E[j].2 : Int)])) (h8 : Below w0.heap.size w1 w8) (hk : ∀ k, k < w1.heap.size → some k ≠ (Value.slice p (nI (tg (E.take j) E[j].1)).length cc).ownBlock → w8.heap[k]? = w1.heap[k]?) (hg : (Value.slice p (nI (tg (E.take j) E[j].1)).length cc).ownBlock = some g8 ∨ w1.heap.size ≤ g8) :
    OL w0 N X lb (vs.set E[j].1 (some ⟨g8, 0, none⟩, (nI (tg (E.take j) E[j].1)).length + 1, c8)) (fun i => nI (tg (E.take (j + 1)) i)) F (w8.setCell ⟨lb, E[j].1, none⟩ (.slice (some ⟨g8, 0, none⟩) ((nI (tg (E.take j) E[j].1)).length + 1) c8)) ∧ w8.frozen? ⟨lb, E[j].1, none⟩ = false ∧ ∃ u, w8.cell? ⟨lb, E[j].1, none⟩ = some u := by
  have hbb := h.lz.bb
  obtain ⟨m1, m2, m3, m4⟩ := lanes_put (W := w0) hj h.lz h.bl hf hs h1 h.bl.size ho h8 hk hg
  have rowof : (slV (vs.getD E[j].1 sl0)).ownBlock = (Value.slice p (nI (tg (E.take j) E[j].1)).length cc).ownBlock := by rw [hs]
  have old : ∀ k, k < W.heap.size → (slV (vs.getD E[j].1 sl0)).ownBlock ≠ some k → w8.heap[k]? = W.heap[k]? := fun k hkl hn => (hk k (Nat.lt_of_lt_of_le hkl h1.size) (fun e => hn (by rw [rowof]; exact e.symm))).trans (h1.block k hkl)
  have all : ∀ k, k < W.heap.size → k ≠ lb → (slV (vs.getD E[j].1 sl0)).ownBlock ≠ some k → (w8.setCell ⟨lb, E[j].1, none⟩ (.slice (some ⟨g8, 0, none⟩) ((nI (tg (E.take j) E[j].1)).length + 1) c8)).heap[k]? = W.heap[k]? := fun k hkl hkb hn => by rw [set_far hkb]; exact old k hkl hn
  refine ⟨⟨m2, h.lf.far (all X h.lf.lt.2 (fun e => h.nb e.symm) (fun e => h.ap _ hf X e rfl)), m1, fun i hi g hg2 => ?_⟩, m3, m4⟩
  rw [getD_set _ _ _ _ _ (by rw [h.lz.len]; exact hf)] at hg2
  by_cases e : i = E[j].1
  · rw [if_pos e] at hg2
    injection hg2 with hg2
    have hg2 : g8 = g := hg2
    subst hg2
    rcases hg with e2 | e2
    · exact h.ap _ hf g8 (by rw [rowof]; exact e2)
    · intro e3
      have := h.lf.lt.2
      have := h1.size
      omega
  · rw [if_neg e] at hg2
    exact h.ap i hi g hg2
/-- Beside them the order. -/
structure OX (w0 : World) (N X lb : Nat) (vs : List Sl) (R : Nat → List Int) (u : Value) (D : List Nat) (F : Nat → Int) (W : World) : Prop where
  ol : OL w0 N X lb vs R F W
  od : OwnG KI W w0.heap.size u (nI D)
  a2 : u.ownBlock ≠ some X
  a3 : ∀ i, i < N → ∀ g, (slV (vs.getD i sl0)).ownBlock = some g → u.ownBlock ≠ some g
theorem OX.start {w0 : World} {N X lb : Nat} {vs : List Sl} {R : Nat → List Int} {F : Nat → Int} {W : World} (h : OL w0 N X lb vs R F W) : OX w0 N X lb vs R (.slice (some ⟨W.heap.size, 0, none⟩) 0 0) [] F (W.alloc (.cells #[] KI.ty)) := by
  refine ⟨⟨bl3 h.bl (bal _ _), h.lf.far (Below.heap_alloc _ _ _ h.lf.lt.2), h.lz.below (bal _ _), h.ap⟩, (OwnG.empty KI W).low h.bl.size, fun e => ?_, fun i hi g hg e => ?_⟩
  · injection e with e
    have e : W.heap.size = X := e
    have := h.lf.lt.2
    omega
  · injection e with e
    have e : W.heap.size = g := e
    have := ((h.lz.row i hi).lt hg).2
    omega
theorem OX.set {w0 : World} {N X lb : Nat} {vs : List Sl} {R : Nat → List Int} {u : Value} {D : List Nat} {F : Nat → Int} {W : World} (h : OX w0 N X lb vs R u D F W) (i : Nat) (y : Int) : OX w0 N X lb vs R u D (upF F i y) (W.setCell ⟨X, i, none⟩ (.int .i64 y)) :=
  ⟨⟨h.ol.bl.setCell (p := ⟨X, _, none⟩) h.ol.lf.lt.1 _, h.ol.lf.set i y, h.ol.lz.but (F := fun x => x = X) (fun x _ hx => set_far hx) h.ol.nb h.ol.ap, h.ol.ap⟩, h.od.far fun g hg => set_far (fun e => h.a2 (by rw [← e]; exact hg)), h.a2, h.a3⟩
theorem OX.eq {w0 : World} {N X lb : Nat} {vs : List Sl} {R : Nat → List Int} {u : Value} {D : List Nat} {F G : Nat → Int} {W : World} (h : OX w0 N X lb vs R u D F W) (k : ∀ x, F x = G x) : OX w0 N X lb vs R u D G W := by rw [← (funext k : F = G)]; exact h
theorem OX.below {w0 : World} {N X lb : Nat} {vs : List Sl} {R : Nat → List Int} {u : Value} {D : List Nat} {F : Nat → Int} {W W' : World} (h : OX w0 N X lb vs R u D F W) (k : Below W.heap.size W W') : OX w0 N X lb vs R u D F W' :=
  ⟨⟨bl3 h.ol.bl k, h.ol.lf.far (k.block X h.ol.lf.lt.2), h.ol.lz.below k, h.ol.ap⟩, h.od.below k, h.a2, h.a3⟩
theorem OX.app {w0 : World} {N X lb : Nat} {vs : List Sl} {R : Nat → List Int} {u : Value} {D : List Nat} {F : Nat → Int} {W w' : World} (h : OX w0 N X lb vs R u D F W) {x g cap : Nat} (ho : OwnG KI w' w0.heap.size (.slice (some ⟨g, 0, none⟩) ((nI D).length + 1) cap) (nI D ++ [(x : Int)])) (hb : Below w0.heap.size W w') (hk : ∀ k, k < W.heap.size → some k ≠ u.ownBlock → w'.heap[k]? = W.heap[k]?) (hg : u.ownBlock = some g ∨ W.heap.size ≤ g) : OX w0 N X lb vs R (.slice (some ⟨g, 0, none⟩) ((nI D).length + 1) cap) (D ++ [x]) F w' := by
  refine ⟨⟨h.ol.bl.trans hb, h.ol.lf.far (hk X h.ol.lf.lt.2 (fun e => h.a2 e.symm)), h.ol.lz.but (F := fun x => u.ownBlock = some x) (fun x hx hn => hk x hx (fun e => hn e.symm)) (fun e => h.od.apart h.ol.lz.out (by decide) (g := lb) rfl e) (fun i hi g hg e => h.a3 i hi g hg e), h.ol.ap⟩, by rw [nI_app]; exact ho, fun e => ?_, fun i hi g' hg' e => ?_⟩
  · injection e with e
    have e : g = X := e
    rcases hg with q | q
    · exact h.a2 (by rw [q, e])
    · have := h.ol.lf.lt.2; omega
  · injection e with e
    have e : g = g' := e
    subst e
    rcases hg with q | q
    · exact h.a3 i hi g hg' q
    · have := ((h.ol.lz.row i hi).lt hg').2; omega
theorem elE_take {E : List (Nat × Nat)} {i : Nat} (hi : i < E.length) (x : Nat) : (elE (E.take (i + 1)) [] x : Int) = if x = E[i].2 then (elE (E.take i) [] x : Int) + 1 else elE (E.take i) [] x := by
  unfold elE
  rw [List.take_succ_eq_append_getElem hi, List.filter_append, List.length_append]
  by_cases e : x = E[i].2
  · rw [if_pos e]
    simp [e]
  · rw [if_neg e]
    have : ¬ E[i].2 = x := fun q => e q.symm
    simp [this]
theorem CT.edge {w : World} {X N : Nat} {wr : World} {E : List (Nat × Nat)} {i : Nat} (h : CT w X N wr (fun x => (elE (E.take i) [] x : Nat))) (hi : i < E.length) : CT w X N (wr.setCell ⟨X, E[i].2, none⟩ (.int .i64 ((elE (E.take i) [] E[i].2 : Nat) + 1))) (fun x => (elE (E.take (i + 1)) [] x : Nat)) :=
  ⟨h.bl.setCell (p := ⟨X, _, none⟩) h.lf.lt.1 _, (h.lf.set _ _).eq fun x => by
    rw [elE_take hi]
    unfold upF
    split
    · rename_i e; rw [e]
    · rfl⟩
theorem KO.least {N : Nat} {E : List (Nat × Nat)} (hg : GOK N E) {D : List Nat} (h : KO N E D) (hl : D.length < N) (hr : ∀ x, x < N → ¬ Wy (ed E) x x) : ∃ y, y < N ∧ cnd E D y ∧ ∀ m, m < y → ¬ cnd E D m := by
  obtain ⟨x, hx, hc⟩ := h.more hg hl hr
  induction x using Nat.strongRecOn with
  | _ x ih =>
    by_cases q : ∃ m, m < x ∧ cnd E D m
    · obtain ⟨m, q1, q2⟩ := q
      exact ih m q1 (by omega) q2
    · exact ⟨x, hx, hc, fun m hm hm2 => q ⟨m, hm, hm2⟩⟩
theorem elE_nil (x : Nat) : elE [] [] x = 0 := rfl
theorem lfR_nil (E : List (Nat × Nat)) (x : Nat) : lfR E [] x = elE E [] x := by unfold lfR; rw [if_neg (by simp)]
end Go.Proofs.Ytghkhceplpjegaa
