/- Graph, plain: the chapter's two examples. -/
import Derived.Test.YtghkhceplpjegaaYk4
import Derived.Test.YtghkhceplpjegaaYk9
import Derived.Test.YtghkhceplpjegaaYh3
namespace Go.Proofs.Ytghkhceplpjegaa
open Go.RowKit

theorem HV.same {F : Nat → Int} {l m : List Nat} {p : Int × Int} (h : HV F l p) (hm : ∀ y, y ∈ l ↔ y ∈ m) : HV F m p := by
  rcases h with ⟨e, h⟩ | ⟨w, e, q1, q2, q3⟩
  · exact Or.inl ⟨e, fun y hy => h y ((hm y).2 hy)⟩
  · exact Or.inr ⟨w, e, (hm w).1 q1, q2, fun y hy => q3 y ((hm y).2 hy)⟩
theorem rh_take {E : List (Nat × Nat)} {k : Nat} (hk : k < E.length) (n : Nat) (F : Nat → Int) : rhP F (tg (E.take (k + 1)) n) = if n = E[k].1 then (if (rhP F (tg (E.take k) n)).1 < F E[k].2 ∨ (F E[k].2 = (rhP F (tg (E.take k) n)).1 ∧ 0 ≤ (rhP F (tg (E.take k) n)).2 ∧ (E[k].2 : Int) < (rhP F (tg (E.take k) n)).2) then (F E[k].2, (E[k].2 : Int)) else rhP F (tg (E.take k) n)) else rhP F (tg (E.take k) n) := by
  rw [List.take_succ_eq_append_getElem hk, tg_snoc]
  split
  · rw [rhP_snoc]
  · rfl
theorem rh_step {N : Nat} {E : List (Nat × Nat)} (hg : GOK N E) {D : List Nat} (h : KO N E D) (hl : D.length = N) {W F G : Nat → Int} {i : Nat} (hi : i < D.length) (hLG : LG (nx N E) W F G (D.drop (i + 1))) : LG (nx N E) W (upF F D[i] (W D[i] + (rhP F (tg E D[i])).1)) (upF G D[i] (rhP F (tg E D[i])).2) (D.drop i) := by
  have e : D.drop i = D[i] :: D.drop (i + 1) := List.drop_eq_getElem_cons hi
  have e2 : D = D.take i ++ D[i] :: D.drop (i + 1) := by rw [← e, List.take_append_drop]
  obtain ⟨hx, hy⟩ := h.behind hg hl e2
  have hE : ∀ y, y ∈ tg E D[i] ↔ y ∈ nx N E D[i] := fun y => by rw [nx_mem hg, tg_mem]
  rw [e]
  have hne : ∀ z ∈ D.drop (i + 1), z ≠ D[i] := fun z hz q => hx (by rw [← q]; exact hz)
  refine LG.cons (b := (rhP F (tg E D[i])).1) (hLG.congr fun z hz => ⟨upF_far _ _ _ (hne z hz), upF_far _ _ _ (hne z hz)⟩) hy ?_ ?_
  · rw [upF_at]
    exact ((rhP_HV F (tg E D[i])).same hE).congr fun z hz => upF_far _ _ _ (hne z (hy z hz))
  · rw [upF_at]
theorem rh_bd {N : Nat} {E : List (Nat × Nat)} (hg : GOK N E) {D : List Nat} (h : KO N E D) (hl : D.length = N) {W F G : Nat → Int} (hW : WOK N W) {i : Nat} (hi : i < D.length) (hLG : LG (nx N E) W F G (D.drop (i + 1))) : 0 ≤ (rhP F (tg E D[i])).1 ∧ (rhP F (tg E D[i])).1 ≤ 4096 * 1099511627776 := by
  have e : D.drop i = D[i] :: D.drop (i + 1) := List.drop_eq_getElem_cons hi
  have e2 : D = D.take i ++ D[i] :: D.drop (i + 1) := by rw [← e, List.take_append_drop]
  obtain ⟨hx, hy⟩ := h.behind hg hl e2
  have hE : ∀ y, y ∈ tg E D[i] → y ∈ nx N E D[i] := fun y q => by rw [nx_mem hg]; exact tg_mem.1 q
  have hv := rhP_HV F (tg E D[i])
  refine ⟨hv.lo, ?_⟩
  rcases hv with ⟨e, _⟩ | ⟨v, e, q1, _⟩
  · rw [e]; decide
  · rw [e]
    have bd := hLG.bd (M := 1099511627776) (by decide) (fun z hz => hW z (h.lt z (List.mem_of_mem_drop hz)))
    have := (bd v (hy v (hE v q1))).2.1
    have hn := hg.n
    have h3 : ((D.drop (i + 1)).length : Int) * 1099511627776 ≤ 4096 * 1099511627776 := by rw [List.length_drop]; omega
    show F v ≤ _
    omega
theorem lo_fin {N : Nat} {E : List (Nat × Nat)} (hg : GOK N E) (hr : rnL N E = []) {W F G : Nat → Int} (hW : WOK N W) (h : LG (nx N E) W F G (orL N E)) : (∀ x, x < N → F x = (loF N E W).1 x) ∧ ∀ x, x < N → G x = (loF N E W).2 x := by
  have k := LG.one (fun _ _ => Iff.rfl) h (loF_LG hg hr hW)
  exact ⟨fun x hx => (k x (orL_all hg hr x hx)).1, fun x hx => (k x (orL_all hg hr x hx)).2⟩
theorem lo_next {N : Nat} {E : List (Nat × Nat)} (hg : GOK N E) (hr : rnL N E = []) {W : Nat → Int} (hW : WOK N W) : ∀ y, y < N → (loF N E W).2 y = -1 ∨ ∃ z : Nat, (loF N E W).2 y = z ∧ z < N := fun y hy => by
  obtain ⟨h1, h2⟩ := orL_ko hg hr
  have bd := (loF_LG hg hr hW).bd (M := 1099511627776) (by decide) (fun z hz => hW z (h1.lt z hz))
  rcases (bd y (orL_all hg hr y hy)).2.2.2 with e | ⟨z, e, hz⟩
  · exact Or.inl e
  · exact Or.inr ⟨z, e, h1.lt z hz⟩
/-- How the way stands behind k steps. -/
theorem lo_way {N : Nat} {E : List (Nat × Nat)} (hg : GOK N E) (hr : rnL N E = []) {W : Nat → Int} (hW : WOK N W) (k : Nat) : (gw (loF N E W).2 k (mxF (loF N E W).1 N)).2 = -1 ∧ (gw (loF N E W).2 k (mxF (loF N E W).1 N)).1 = loW N E W ∨ ∃ y : Nat, (gw (loF N E W).2 k (mxF (loF N E W).1 N)).2 = y ∧ y < N ∧ k < N ∧ (gw (loF N E W).2 k (mxF (loF N E W).1 N)).1.length = k := by
  obtain ⟨h1, h2⟩ := orL_ko hg hr
  have hR : ∀ x, x ∈ orL N E ↔ x < N := fun x => ⟨h1.lt x, orL_all hg hr x⟩
  have hv : mxF (loF N E W).1 N = -1 ∨ ∃ y : Nat, mxF (loF N E W).1 N = y ∧ y < N := by
    rcases mx_cases (loF N E W).1 N with ⟨_, e⟩ | h
    · exact Or.inl e
    · exact Or.inr h
  have hN := gw_in h1.nodup h2 (loF_LG hg hr hW) hR hv N
  have eN : (gw (loF N E W).2 N (mxF (loF N E W).1 N)).2 = -1 := by
    rcases hN with e | ⟨_, _, _, q, _⟩
    · exact e
    · omega
  rcases gw_in h1.nodup h2 (loF_LG hg hr hW) hR hv k with e | h
  · refine Or.inl ⟨e, ?_⟩
    unfold loW
    rw [gw_one (by rw [e]; decide) (by rw [eN]; decide)]
  · exact Or.inr h
theorem gw_step {G : Nat → Int} {k y : Nat} {v : Int} {L : List Nat} (h : gw G k v = (L, (y : Int))) : gw G (k + 1) v = (L ++ [y], G y) := by
  rw [gw, h, if_neg (by show ¬ (y : Int) < 0; omega)]
  simp
theorem lo_bd {N : Nat} {E : List (Nat × Nat)} (hg : GOK N E) (hr : rnL N E = []) {W : Nat → Int} (hW : WOK N W) : ∀ y, y < N → 0 ≤ (loF N E W).1 y := fun y hy => by
  obtain ⟨h1, h2⟩ := orL_ko hg hr
  exact ((loF_LG hg hr hW).bd (M := 1099511627776) (by decide) (fun z hz => hW z (h1.lt z hz)) y (orL_all hg hr y hy)).1
theorem loW_len {N : Nat} {E : List (Nat × Nat)} {W : Nat → Int} : (loW N E W).length ≤ N := gw_len _ _ _
end Go.Proofs.Ytghkhceplpjegaa
namespace Go.Proofs.Ytghkhceplpjegaa
open Go.RowKit

noncomputable def lgE (n : Int) (e : List (Int × Int)) (ws : List Int) : Int := if chkG n e = 0 then (if wtB n ws = true then orE n e else 1) else chkG n e
noncomputable def lgS (n : Int) (e : List (Int × Int)) (ws : List Int) : Int := if lgE n e ws = 0 then loS n.toNat (eN e) (wtF ws) else 0
noncomputable def lgA (n : Int) (e : List (Int × Int)) (ws : List Int) : List Int := if lgE n e ws = 0 then nI (loW n.toNat (eN e) (wtF ws)) else []
theorem lg_no {n : Int} {e : List (Int × Int)} {ws : List Int} (h : lgE n e ws ≠ 0) : lgS n e ws = 0 ∧ lgA n e ws = [] := ⟨by unfold lgS; rw [if_neg h], by unfold lgA; rw [if_neg h]⟩
theorem lg_bad {n : Int} {e : List (Int × Int)} {ws : List Int} (h : chkG n e ≠ 0) : lgE n e ws = chkG n e := by unfold lgE; rw [if_neg h]
theorem lg_wt {n : Int} {e : List (Int × Int)} {ws : List Int} (h : chkG n e = 0) (hw : wtB n ws = false) : lgE n e ws = 1 := by unfold lgE; rw [if_pos h, if_neg (by rw [hw]; exact Bool.false_ne_true)]
theorem lg_yes {N : Nat} {E : List (Nat × Nat)} {ws : List Int} (hg : GOK N E) (hw : wtB N ws = true) (hr : rnL N E = []) : lgE N (eI E) ws = 0 ∧ lgS N (eI E) ws = loS N E (wtF ws) ∧ lgA N (eI E) ws = nI (loW N E (wtF ws)) := by
  have h : lgE N (eI E) ws = 0 := by unfold lgE; rw [if_pos hg.chk, if_pos hw]; exact (orE_yes hg hr).1
  refine ⟨h, ?_, ?_⟩
  · unfold lgS; rw [if_pos h, eN_eI]; simp
  · unfold lgA; rw [if_pos h, eN_eI]; simp
theorem lg_not {N : Nat} {E : List (Nat × Nat)} {ws : List Int} (hg : GOK N E) (hw : wtB N ws = true) (hr : rnL N E ≠ []) : lgE N (eI E) ws = 150 := by unfold lgE; rw [if_pos hg.chk, if_pos hw]; exact (orE_not hg hr).1
/-- A sum, a list and an error are answered. -/
def AnsW (w : World) (s : Int) (L : List Int) (r : Int) (e : Ending) (w' : World) : Prop := ∃ q c, e = .returned (.tuple #[.int .i64 s, .slice q L.length c, .int .i64 r]) ∧ GS KI w' (.slice q L.length c) L ∧ Below w.heap.size w w'
theorem AnsW.none {w w' : World} {r : Int} (h : Below w.heap.size w w') : AnsW w 0 [] r (.returned (.tuple #[.int .i64 0, .slice none 0 0, .int .i64 r])) w' := ⟨_, _, rfl, Or.inl ⟨Or.inl rfl, rfl⟩, h⟩
theorem wt_any {n : Int} {ws : List Int} (h : (ws.length : Int) = n) : wtB n ws = !(ws.any nwB) := by
  unfold wtB
  rw [decide_eq_true h, Bool.true_and, List.not_any_eq_all_not]
  congr 1
  funext y
  unfold nwB
  by_cases h1 : y < 0
  · have : ¬ (0 ≤ y) := by omega
    simp [h1, this]
  · have h2 : 0 ≤ y := by omega
    by_cases h3 : 1099511627776 < y
    · have : ¬ y ≤ 1099511627776 := by omega
      simp [h1, h2, h3, this]
    · have : y ≤ 1099511627776 := by omega
      simp [h1, h2, h3, this]
theorem wt_len {n : Int} {ws : List Int} (h : ¬ (ws.length : Int) = n) : wtB n ws = false := by
  unfold wtB
  rw [decide_eq_false h, Bool.false_and]
def lenW : Value → Nat
  | .slice _ n _ => n
  | _ => 0
/-- While the way is gathered. -/
structure RW (w : World) (P : Option Addr) (c : Nat) (K : List Int) (wk : World) : Prop where
  bl : Below w.heap.size w wk
  od : OwnG KI wk w.heap.size (.slice P K.length c) K
set_option maxRecDepth 100000 in
set_option maxHeartbeats 32000000 in
/-- The main part: the graph is right, the weights are, and nobody goes round. -/
theorem Longest_main (w : World) (N : Nat) (E : List (Nat × Nat)) (hg : GOK N E) (p : Option Addr) (c : Nat) (hv : GS KE w (.slice p E.length c) (eI E)) (pu : Option Addr) (cu : Nat) (ws : List Int) (hu : GS KI w (.slice pu ws.length cu) ws) (hw : wtB N ws = true) (hr : rnL N E = []) : Calls Try.prog 11 #[.agg #[.int .i64 N, .slice p E.length c], .slice pu ws.length cu] w fun e w' => AnsW w (loS N E (wtF ws)) (nI (loW N E (wtF ws))) 0 e w' := by
  generalize hW : w.alloc (.cells #[.int .i64 N, .slice p E.length c] 24) = W
  obtain ⟨bw, c0⟩ := graph_box w N p E.length c hW
  have BW := hid bw
  have C0 := hid c0
  have CK := hid (check_any W N _ (eI E) (hv.below bw))
  rw [hg.chk] at CK
  obtain ⟨d0, d1⟩ := c0 W (Below.refl _ _)
  have hwl := (wtB_ok hw).1
  have hl2 : ws.length = N := (wtB_W hw).1
  have hWO := (wtB_W hw).2
  have NB : N ≤ 4096 := hg.n
  have hna : ws.any nwB = false := by
    have := wt_any hwl
    rw [hw] at this
    cases h : ws.any nwB with
    | false => rfl
    | true => rw [h] at this; cases this
  have CN := hid (fun W' (hb : Below W.heap.size W W') => contNo_any W' _ ws (hu.below (bl3 BW.out hb)) (by omega))
  rw [hna] at CN
  have LN := hid (fun W' (hb : Below W.heap.size W W') => lanesOf_any W' N _ E hg ((hv.below BW.out).below hb))
  have OR := hid (fun W' bb lb vs h => (order_any W' N E hg bb lb vs h).mono (R' := _) fun e w' h => h.yes hr)
  have HV := hid (fun W' (hb : Below W.heap.size W W') zb lb vs (hz : LZ W' zb lb N vs (fun i => nI (nx N E i))) q cq ob (hd : OwnG KI W' ob (.slice q N cq) (nI (orL N E))) => (by
    obtain ⟨h1, h2⟩ := orL_ko hg hr
    have := heaviest_any W' N E hg zb lb vs hz q cq ob (orL N E) h1.lt (by omega) (by rw [h2]; exact hd) _ ws hl2 (hu.below (bl3 BW.out hb))
    rw [h2] at this
    exact this : Calls Try.prog 36 #[.slice (some ⟨lb, 0, none⟩) N N, .slice q N cq, .slice pu ws.length cu] W' fun e w' => ∃ p c q d, e = .returned (.tuple #[.slice p N c, .slice q N d]) ∧ GS KI w' (.slice p N c) ((List.range N).map (loF N E (wtF ws)).1) ∧ GS KI w' (.slice q N d) ((List.range N).map (loF N E (wtF ws)).2) ∧ Below W'.heap.size W' w'))
  rw [hl2] at CN HV ⊢
  have WY := hid (lo_way hg hr hWO)
  have NX := hid (lo_next hg hr hWO)
  have SM : Hid (loS N E (wtF ws) = sgF (loF N E (wtF ws)).1 N) := rfl
  have WL : Hid ((loW N E (wtF ws)).length ≤ N) := loW_len
  generalize loS N E (wtF ws) = S at *
  generalize loW N E (wtF ws) = LW at *
  generalize (loF N E (wtF ws)).1 = F at *
  generalize (loF N E (wtF ws)).2 = G at *
  generalize E.length = m at *
  have MC := hid (fun k => mx_cases F k)
  clear hwl hw hWO hr hna hg hl2 hu hv bw c0
  go_enter Try.func11, Try.ntmps11
  go_upto_region 10 with (first
    | (go_at_call 31; refine CK.out.mono ?_; rintro e w6 ⟨rfl, hb6⟩; have B6 := hid hb6; obtain ⟨g0, g1⟩ := C0.out _ hb6; clear hb6)
    | (go_at_call 32; go_loud (refine (CN.out _ B6.out).mono ?_; rintro e w7 ⟨rfl, hw7⟩; rw [hw7]; clear hw7))
    | (go_at_call 34; refine (LN.out _ B6.out).mono ?_; rintro e w7 ⟨b7, vs7, rfl, hz7, hb7⟩; have B7 := hid (bl3 B6.out hb7); have Z7 := hid hz7; have OC := hid (OR.out w7 _ b7 vs7 hz7); clear hb7 hz7)
    | (go_at_call 35; refine OC.out.mono ?_; rintro e w8 ⟨p8, c8, rfl, ho8, hb8⟩; have B8 := hid (bl3 B7.out hb8); have HC := hid (HV.out w8 B8.out _ b7 vs7 (Z7.out.below hb8) _ _ _ ho8); obtain ⟨g2, g3⟩ := C0.out _ B8.out; clear ho8 hb8))
  clear d0 d1 g0 g1
  go_upto_region 11 with (go_at_call 36; refine HC.out.mono ?_; rintro e w9 ⟨p9, c9, q9, d9, rfl, f9, n9, hb9⟩; have F9 := hid f9; have G9 := hid n9; have B9 := hid (bl3 B8.out hb9); obtain ⟨g0, g1⟩ := C0.out _ B9.out; clear f9 n9 hb9)
  have BB := hid (bl3 BW.out B9.out)
  clear CK C0 CN LN OR HV OC HC B6 B7 B8 B9 Z7 BW g2 g3 hW
  go_wp2_with fail
  go_loopw [13, 14, 51] (fun v13 v14 v51 wr => ∃ (k : Nat) (s t : Int), v13 = .int .i64 s ∧ v14 = .int .i64 t ∧ v51 = .int .i64 k ∧ w9 = wr ∧ k ≤ N ∧ Hid (s = sgF F k ∧ t = mxF F k)) (fun _ _ v51 _ => N - (intOf v51).toNat)
  case atStart => exact ⟨0, 0, -1, rfl, rfl, rfl, rfl, Nat.zero_le _, rfl, rfl⟩
  case round =>
    obtain ⟨k, s, t, rfl, rfl, rfl, rfl, hk, HST⟩ := hrel
    by_cases hlt : k < N
    · have hki : (k : Int) < (N : Nat) := by omega
      obtain ⟨Y, o, e1, c1⟩ := far_at F9.out hlt
      subst e1
      rcases MC.out k with ⟨h0, h1⟩ | ⟨z, h1, h2⟩
      · have ht : t = -1 := by rw [HST.out.2]; exact h1
        have P := hid (mx_put (F := F) (k := k) (Or.inl h1))
        subst ht
        clear h0 h1 HST
        generalize F k = fk at *
        go_wp2_with fail
        go_roundw
        case rel => exact ⟨k + 1, fk, k, rfl, by first | rfl | trivial, by go_num, by first | rfl | trivial, by omega, P.out.2.symm, P.out.1.symm⟩
        case measure => simp [intOf]; omega
      · have ht : t = z := by rw [HST.out.2]; exact h1
        have b1 : ((z : Int) == -1) = false := by simp
        have h3 : ¬ mxF F k = -1 := by omega
        by_cases hgt : s < F k
        · have P := hid (mx_put (F := F) (k := k) (Or.inr (by rw [← HST.out.1]; exact hgt)))
          subst ht
          clear h1 h3 HST
          generalize F k = fk at *
          go_wp2_with fail
          go_roundw
          case rel => exact ⟨k + 1, fk, k, rfl, by first | rfl | trivial, by go_num, by first | rfl | trivial, by omega, P.out.2.symm, P.out.1.symm⟩
          case measure => simp [intOf]; omega
        · have P := hid (mx_skip (F := F) (k := k) h3 (by rw [← HST.out.1]; exact hgt))
          have Q : Hid (s = sgF F (k + 1) ∧ t = mxF F (k + 1)) := ⟨by rw [P.out.2]; exact HST.out.1, by rw [P.out.1]; exact HST.out.2⟩
          rw [ht] at Q
          subst ht
          clear h1 h3 HST P
          generalize F k = fk at *
          go_wp2_with fail
          go_roundw
          case rel => exact ⟨k + 1, s, z, rfl, by first | rfl | trivial, by go_num, by first | rfl | trivial, by omega, Q.out⟩
          case measure => simp [intOf]; omega
    · obtain rfl : k = N := by omega
      have HS : Hid (s = S) := by show _ = _; rw [HST.out.1, SM.out]
      have HT : Hid (t = mxF F k) := HST.out.2
      have L0 : Hid (gw G 0 t = ([], t)) := rfl
      rw [← HT.out] at WY
      have R0 : Hid (RW w9 none 0 [] w9) := ⟨Below.refl _ _, OwnG.nil _ _ _⟩
      clear HST SM MC F9 HT
      go_wp2_with fail
      go_loopw [16, 17] (fun v16 v17 wr => ∃ (j : Nat) (z : Int) (P : Option Addr) (cp : Nat) (L : List Nat) (wk : World), v16 = .slice P L.length cp ∧ v17 = .int .i64 z ∧ wk = wr ∧ Hid (gw G j t = (L, z)) ∧ Hid (RW w9 P cp (nI L) wk)) (fun v16 _ _ => k - lenW v16)
      case atStart => exact ⟨0, t, none, 0, [], _, rfl, rfl, rfl, L0, R0⟩
      case round =>
        obtain ⟨j, z, P, cp, L, wr, rfl, rfl, rfl, HJ, HR⟩ := hrel
        clear L0 R0
        have WJ := WY.out j
        rw [HJ.out] at WJ
        rcases WJ with ⟨h1, h2⟩ | ⟨y, h1, h2, h3, h4⟩
        · have h1 : z = -1 := h1
          have h2 : L = LW := h2
          subst h1 h2
          have FIN : Hid (AnsW w S (nI L) 0 (.returned (.tuple #[.int .i64 s, .slice P L.length cp, .int .i64 0])) wr) := by
            have h9 := HR.out.od.gs KI_ok.len
            refine ⟨P, cp, by rw [HS.out, nI_len], h9, bl3 BB.out HR.out.bl⟩
          clear HJ HR HS WY NX
          go_wp2_with fail
          go_ret3
          exact FIN.out
        · have h1 : z = y := h1
          have h4 : L.length = j := h4
          subst h1
          have b1 : ((y : Int) != -1) = true := by simp
          obtain ⟨Z, o, e1, c1⟩ := far_at G9.out h2
          subst e1
          have CZ : Hid (∀ wq, Below w9.heap.size w9 wq → wq.cell? ⟨Z, o + y, none⟩ = some (.int .i64 (G y))) := fun wq hb => by
            obtain ⟨Z2, o2, e2, c2⟩ := far_at (G9.out.below hb) h2
            injection e2 with e2
            injection e2 with e3 e4 _
            rw [e3, e4]
            exact c2
          have hyi : (y : Int) < (k : Nat) := by omega
          have HN := hid (gw_step HJ.out)
          generalize G y = gy at *
          have LS : Hid (((nI L).length + 1) * KI.B ≤ 140737488355328) := by show (_ + 1) * 8 ≤ _; rw [nI_len]; omega
          have BS : Hid (w9.heap.size ≤ wr.heap.size) := HR.out.bl.size
          have OD := hid HR.out.od
          have BL := hid HR.out.bl
          obtain ⟨K, hK⟩ : ∃ K, K = nI L := ⟨_, rfl⟩
          have EL : K.length = L.length := by rw [hK, nI_len]
          have AP : Hid (∀ (g8 c8 : Nat) (w8 : World), OwnG KI w8 w9.heap.size (.slice (some ⟨g8, 0, none⟩) (K.length + 1) c8) (K ++ [(y : Int)]) → Below w9.heap.size wr w8 → RW w9 (some ⟨g8, 0, none⟩) c8 (nI (L ++ [y])) w8) := fun g8 c8 w8 h1 h2 => ⟨BL.out.trans h2, by
            have e : nI (L ++ [y]) = K ++ [(y : Int)] := by rw [nI_app, ← hK]; rfl
            rw [e, List.length_append]; exact h1⟩
          rw [← hK] at OD LS
          have LL : Hid ((L ++ [y]).length = K.length + 1) := by show _ = _; rw [List.length_append, List.length_singleton, EL]
          have h3L : Hid (L.length < k) := by show _ < _; omega
          have ELh := hid EL
          rw [← EL]
          clear HJ HR hK EL c1 h3 h4
          go_wp2_with (at_builtin; refine append_g KI KI_ok rfl (.tmp 77) (.tmp 79) 25 rfl w9.heap.size Try.underlying25 wr _ _ (.slice P K.length cp) K (y : Int) _ rfl OD.out wr.heap.size rfl rfl rfl LS.out BS.out ?_; intro g8 c8 w8 ho8 hb8 hk8 hg8; have A8 := hid (AP.out g8 c8 w8 ho8 hb8); have z8 := CZ.out w8 A8.out.bl; clear ho8 hb8 hk8 hg8)
          go_roundw
          case rel => exact ⟨j + 1, gy, some ⟨g8, 0, none⟩, c8, L ++ [y], _, by rw [LL.out], rfl, rfl, HN.out, A8.out⟩
          case measure => have h5 := h3L.out; have h6 := ELh.out; simp [lenW]; omega
set_option maxRecDepth 100000 in
set_option maxHeartbeats 32000000 in
theorem Longest_any (w : World) (n : Int) (v : Value) (l : List (Int × Int)) (hv : GS KE w v l) (u : Value) (ws : List Int) (hu : GS KI w u ws) : Calls Try.prog 11 #[.agg #[.int .i64 n, v], u] w fun e w' => AnsW w (lgS n l ws) (lgA n l ws) (lgE n l ws) e w' := by
  obtain ⟨p, c, rfl⟩ := hv.form
  obtain ⟨pu, cu, rfl⟩ := hu.form
  by_cases hr0 : chkG n l = 0 ∧ wtB n ws = true ∧ rnL n.toNat (eN l) = []
  · obtain ⟨h0, hw, hr⟩ := hr0
    obtain ⟨N, E, rfl, rfl, hg⟩ := chkG_ok h0
    rw [eN_eI, Int.toNat_natCast] at hr
    obtain ⟨e1, e2, e3⟩ := lg_yes hg hw hr
    rw [e1, e2, e3, eI_len]
    rw [eI_len] at hv
    exact Longest_main w N E hg p c hv pu cu ws hu hw hr
  generalize hW : w.alloc (.cells #[.int .i64 n, .slice p l.length c] 24) = W
  obtain ⟨bw, c0⟩ := graph_box w n p l.length c hW
  have BW := hid bw
  have C0 := hid c0
  have CK := hid (check_any W n _ l (hv.below bw))
  obtain ⟨d0, d1⟩ := c0 W (Below.refl _ _)
  have HU := hid (fun W' (hb : Below w.heap.size w W') => hu.below hb)
  clear bw c0 hu
  by_cases h0 : chkG n l = 0
  · obtain ⟨N, E, rfl, rfl, hg⟩ := chkG_ok h0
    rw [h0] at CK
    have LN := hid (fun W' (hb : Below W.heap.size W W') => lanesOf_any W' N _ E hg ((hv.below BW.out).below hb))
    have NB : N ≤ 4096 := hg.n
    by_cases hl : (ws.length : Int) = N
    · have hl2 : ws.length = N := by omega
      have CN := hid (fun W' (hb : Below W.heap.size W W') => contNo_any W' _ ws (HU.out W' (bl3 BW.out hb)) (by omega))
      cases hw : ws.any nwB with
      | true =>
        have e1 : lgE N (eI E) ws = 1 := lg_wt h0 (by rw [wt_any hl, hw]; rfl)
        obtain ⟨e2, e3⟩ := lg_no (n := (N : Int)) (e := eI E) (ws := ws) (by rw [e1]; decide)
        rw [e1, e2, e3]
        rw [hw] at CN
        rw [eI_len] at C0 CK d1 hW ⊢
        generalize E.length = m at *
        rw [hl2] at CN ⊢
        clear LN h0 hg hw HU hv hl hl2 hr0 e1 e2 e3
        go_enter Try.func11, Try.ntmps11
        go_wp2_with (first | (go_at_call 31; refine CK.out.mono ?_; rintro e w6 ⟨rfl, hb6⟩; have B6 := hid hb6; obtain ⟨g0, g1⟩ := C0.out _ hb6; clear hb6) | (go_at_call 32; refine (CN.out _ B6.out).mono ?_; rintro e w7 ⟨rfl, hw7⟩; rw [hw7]; clear hw7))
        go_ret3
        exact AnsW.none (bl3 BW.out B6.out)
      | false =>
        have hwt : wtB N ws = true := by rw [wt_any hl, hw]; rfl
        have hr : rnL N E ≠ [] := fun q => hr0 ⟨h0, hwt, by rw [eN_eI, Int.toNat_natCast]; exact q⟩
        have e1 : lgE N (eI E) ws = 150 := lg_not hg hwt hr
        obtain ⟨e2, e3⟩ := lg_no (n := (N : Int)) (e := eI E) (ws := ws) (by rw [e1]; decide)
        rw [e1, e2, e3]
        rw [hw] at CN
        have OR := hid (fun W' bb lb vs h => (order_any W' N E hg bb lb vs h).mono (R' := _) fun e w' h => h.not hr)
        rw [eI_len] at C0 CK d1 hW LN ⊢
        generalize E.length = m at *
        rw [hl2] at CN ⊢
        clear h0 hg hw HU hv hl hl2 hr0 e1 e2 e3 hr hwt
        go_enter Try.func11, Try.ntmps11
        go_wp2_with (first
          | (go_at_call 31; refine CK.out.mono ?_; rintro e w6 ⟨rfl, hb6⟩; have B6 := hid hb6; obtain ⟨g0, g1⟩ := C0.out _ hb6; clear hb6)
          | (go_at_call 32; refine (CN.out _ B6.out).mono ?_; rintro e w7 ⟨rfl, hw7⟩; rw [hw7]; clear hw7)
          | (go_at_call 34; refine (LN.out _ B6.out).mono ?_; rintro e w7 ⟨b7, vs7, rfl, hz7, hb7⟩; have B7 := hid (bl3 B6.out hb7); have OC := hid (OR.out w7 _ b7 vs7 hz7); clear hb7 hz7)
          | (go_at_call 35; refine OC.out.mono ?_; rintro e w8 ⟨rfl, hb8⟩; have B8 := hid (bl3 B7.out hb8); clear hb8))
        go_ret3
        exact AnsW.none (bl3 BW.out B8.out)
    · have e1 : lgE N (eI E) ws = 1 := lg_wt h0 (wt_len hl)
      obtain ⟨e2, e3⟩ := lg_no (n := (N : Int)) (e := eI E) (ws := ws) (by rw [e1]; decide)
      rw [e1, e2, e3]
      rw [eI_len] at C0 CK d1 hW ⊢
      generalize E.length = m at *
      generalize ws.length = k at *
      have b1 : ((k : Int) != (N : Int)) = true := by simp; omega
      clear LN h0 hg HU hv hr0 e1 e2 e3
      go_enter Try.func11, Try.ntmps11
      go_wp2_with (go_at_call 31; refine CK.out.mono ?_; rintro e w6 ⟨rfl, hb6⟩; have B6 := hid hb6; obtain ⟨g0, g1⟩ := C0.out _ hb6; clear hb6)
      go_ret3
      exact AnsW.none (bl3 BW.out B6.out)
  · have e1 : lgE n l ws = chkG n l := lg_bad h0
    obtain ⟨e2, e3⟩ := lg_no (n := n) (e := l) (ws := ws) (by rw [e1]; exact h0)
    rw [e1, e2, e3]
    generalize chkG n l = r at *
    have b1 : (r != 0) = true := by simp [h0]
    clear e1 e2 e3 hr0 HU
    go_enter Try.func11, Try.ntmps11
    go_wp2_with (go_at_call 31; refine CK.out.mono ?_; rintro e w6 ⟨rfl, hb6⟩; have B6 := hid hb6; clear hb6)
    go_ret3
    exact AnsW.none (bl3 BW.out B6.out)
end Go.Proofs.Ytghkhceplpjegaa
namespace Go.Proofs.Ytghkhceplpjegaa
open Go.RowKit

def exA : List (Nat × Nat) := [(0, 1), (1, 2), (2, 1), (2, 3)]
def exB : List (Nat × Nat) := [(0, 2), (1, 2), (2, 3), (0, 3)]
theorem exA_ok : GOK 4 exA := ⟨by decide, by decide, by unfold exA; simp⟩
theorem exB_ok : GOK 4 exB := ⟨by decide, by decide, by unfold exB; simp⟩
theorem exA_round : rnL 4 exA = [1, 2] := by
  have h0 : wyB exA (-1) [0] 0 = false := by
    rw [← Bool.not_eq_true, wyB_self]
    intro h
    obtain ⟨z, _, h⟩ := h.last
    have : ∀ z, ¬ ed exA z 0 := fun z h => by unfold ed exA at h; simp at h
    exact this _ h
  have h3 : wyB exA (-1) [3] 3 = false := by
    rw [← Bool.not_eq_true, wyB_self]
    intro h
    obtain ⟨z, h, _⟩ := h.first
    unfold ed exA at h
    simp at h
  have e12 : ed exA 1 2 := by unfold ed exA; simp
  have e21 : ed exA 2 1 := by unfold ed exA; simp
  have h1 : wyB exA (-1) [1] 1 = true := wyB_self.2 ((Wy.one e12).snoc e21)
  have h2 : wyB exA (-1) [2] 2 = true := wyB_self.2 ((Wy.one e21).snoc e12)
  unfold rnL ris
  simp [List.range_succ, h0, h1, h2, h3]
theorem exB_order : KO 4 exB [0, 1, 2, 3] := by
  have c : ∀ D x, cnd exB D x ↔ x ∉ D ∧ ∀ m, (m, x) ∈ exB → m ∈ D := fun _ _ => Iff.rfl
  have k1 : KO 4 exB ([] ++ [0]) := .snoc .nil (by decide) (by unfold cnd exB; simp) (by intro m hm; omega)
  have k2 : KO 4 exB ([0] ++ [1]) := .snoc k1 (by decide) (by unfold cnd exB; simp) (by
    intro m hm
    obtain rfl : m = 0 := by omega
    unfold cnd; simp)
  have k3 : KO 4 exB ([0, 1] ++ [2]) := .snoc k2 (by decide) (by unfold cnd exB; simp) (by
    intro m hm
    have : m = 0 ∨ m = 1 := by omega
    rcases this with rfl | rfl <;> (unfold cnd; simp))
  exact .snoc (D := [0, 1, 2]) k3 (by decide) (by unfold cnd exB; simp) (by
    intro m hm
    have : m = 0 ∨ m = 1 ∨ m = 2 := by omega
    rcases this with rfl | rfl | rfl <;> (unfold cnd; simp))
theorem exB_still : rnL 4 exB = [] := by
  rw [rn_nil]
  intro x hx
  refine exB_order.still ?_
  have : x = 0 ∨ x = 1 ∨ x = 2 ∨ x = 3 := by omega
  rcases this with rfl | rfl | rfl | rfl <;> simp
theorem exB_orL : orL 4 exB = [0, 1, 2, 3] := orL_is exB_order rfl
theorem exB_sum : loS 4 exB (wtF [5, 1, 1, 1]) = 7 := by
  unfold loS loF
  rw [exB_orL]
  decide
theorem exB_way : loW 4 exB (wtF [5, 1, 1, 1]) = [0, 2, 3] := by
  unfold loW loF
  rw [exB_orL]
  decide
theorem exB_wt : wtB 4 [5, 1, 1, 1] = true := by decide
end Go.Proofs.Ytghkhceplpjegaa
