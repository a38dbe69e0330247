/- Depend: the document's circle, Ask. -/
import Derived.Test.YtkhcinpcoabphaaDr5
namespace Go.Proofs.Ytkhcinpcoabphaa
open Go.RowKit

/-- The way from a cell on, so far. -/
structure Wy (X : Wb) (c : Nat) (Q : List Nat) (z : Nat) : Prop where
  way : ∀ R, Way (nxt X) z R → Way (nxt X) c (Q ++ R)
theorem Wy.start (X : Wb) (c : Nat) : Wy X c [] c := ⟨fun _ h => h⟩
theorem Wy.next {X : Wb} {c z y : Nat} {Q : List Nat} (h : Wy X c Q z) (hy : nxt X z = some y) : Wy X c (Q ++ [z]) y := ⟨fun R hR => by rw [List.append_assoc]; exact h.way _ (.next z y R hy hR)⟩
theorem Wy.len {X : Wb} (hi : WI X) {c z : Nat} (hc : c < 256) {Q : List Nat} (h : Wy X c Q z) : Q.length + 1 ≤ 256 := by
  obtain ⟨R, hR⟩ := (hi.en z).way
  have := (h.way R hR).len (nxt_bd hi) hc
  have := List.length_pos_iff.2 hR.ne
  rw [List.length_append] at *
  omega
theorem Wy.done {X : Wb} (hi : WI X) {t c z : Nat} {Q : List Nat} (h : Wy X c Q z) (hw : (X.w t).is = false) (ht : (stk X t).getLast? = some z) : cirW X t c = Q ++ [z] := by
  refine cirW_eq hi ⟨h.way _ (.last z (top_none ht hw)), ?_⟩
  rw [ht]; simp
theorem Wy.none_ {X : Wb} (hi : WI X) {t c z : Nat} {Q : List Nat} (h : Wy X c Q z) (hn : nxt X z = none) (ht : (stk X t).getLast? ≠ some z) : cirW X t c = [] := by
  refine cirW_none hi fun ⟨l, hl⟩ => ht ?_
  have := hl.way.uniq (h.way _ (.last z hn))
  rw [hl.top, this]; simp
set_option maxRecDepth 100000 in
set_option maxHeartbeats 16000000 in
theorem rcircleW_any {w : World} {P : Nat → Prop} {vr vw : Value} {X : Wb} (h : RV w P vr vw X) (hi : WI X) {t c : Nat} (hc : c < 256) (hw : (X.w t).is = false) : Calls Try.prog 39 #[.agg #[vr, vw], .int .i64 t, .int .i64 c] w fun e w' => ∃ q cc, e = .returned (.slice q (cirW X t c).length cc) ∧ OwnG KI w' w.heap.size (.slice q (cirW X t c).length cc) (nI (cirW X t c)) ∧ Below w.heap.size w w' := by
  obtain ⟨⟨pr, nr, cr, rfl⟩, pw, nw, cw, rfl⟩ := h.forms
  have BA : Hid (Below w.heap.size w (w.alloc (.cells #[.slice pr nr cr, .slice pw nw cw] 29))) := bal _ _
  obtain ⟨b0, b1⟩ := box2 (w := w) (a := .slice pr nr cr) (b := .slice pw nw cw) (t := 29)
  have BX : Hid (∀ W, Below (w.heap.size + 1) (w.alloc (.cells #[.slice pr nr cr, .slice pw nw cw] 29)) W → W.cell? ⟨w.heap.size, 0, none⟩ = some (.slice pr nr cr) ∧ W.cell? ⟨w.heap.size, 1, none⟩ = some (.slice pw nw cw)) := fun W hb => ⟨(hb.cell (p := ⟨w.heap.size, 0, none⟩) (by show w.heap.size < w.heap.size + 1; omega)).trans b0, (hb.cell (p := ⟨w.heap.size, 1, none⟩) (by show w.heap.size < w.heap.size + 1; omega)).trans b1⟩
  have ZA : Hid ((w.alloc (.cells #[.slice pr nr cr, .slice pw nw cw] 29)).heap.size = w.heap.size + 1) := alloc_size _ _
  have HV := hid (h.below BA.out)
  have RN : Hid (∀ W, RV W P (.slice pr nr cr) (.slice pw nw cw) X → Calls Try.prog 27 #[.agg #[.slice pr nr cr, .slice pw nw cw], .int .i64 c] W fun e w' => e = .returned (.tuple #[.int .i64 (X.r c).to, .bool (X.r c).is]) ∧ Below W.heap.size W w') := fun W k => by
    obtain ⟨l, hl⟩ := k.rr
    exact rrunner_any hl hi ⟨_, _, _, rfl⟩ c
  have SK : Hid (∀ W, RV W P (.slice pr nr cr) (.slice pw nw cw) X → Calls Try.prog 26 #[.agg #[.slice pr nr cr, .slice pw nw cw], .int .i64 t] W fun e w' => ∃ q n c, e = .returned (.slice q n c) ∧ GP KI w' P (.slice q n c) (nI (stk X t)) ∧ Below W.heap.size W w') := fun W k => by
    obtain ⟨l, hl⟩ := k.rr
    refine (rstack_any hl (hl.len (stk_task hi)) ⟨_, _, _, rfl⟩ t).mono ?_
    rintro e w' ⟨q, n, c, rfl, hg, hb⟩
    exact ⟨q, n, c, rfl, hg.below hb, hb⟩
  have NX : Hid (∀ (W : World) (z : Nat), RV W P (.slice pr nr cr) (.slice pw nw cw) X → Calls Try.prog 45 #[.agg #[.slice pr nr cr, .slice pw nw cw], .int .i64 z] W fun e w' => e = nxE (nxt X z) ∧ Below W.heap.size W w') := fun W z k => rnext_any k hi z
  have HSL := stk_len hi t
  have HI := hid hi
  rw [← ZA.out] at BX
  rcases List.eq_nil_or_concat (stk X t) with hs | ⟨N, y, hs⟩
  · have E : Hid (cirW X t c = []) := cirW_none hi fun ⟨l, hl⟩ => by
      have := hl.top
      rw [hs, List.getLast?_eq_some_getLast hl.way.ne] at this
      cases this
    rw [E.out]
    rw [hs] at SK
    clear h hi hs E NX RN HI
    go_enter Try.func39, Try.ntmps39
    go_wp2_with (go_at_call 26; refine (SK.out _ HV.out).mono ?_; rintro e w3 ⟨q, n, cc, rfl, hg3, hb3⟩; obtain ⟨hn, _⟩ := hg3.cells; subst hn; have B3 := hid (bl3 BA.out hb3); clear hg3 hb3)
    go_ret
    exact ⟨none, 0, rfl, OwnG.nil _ _ _, B3.out⟩
  · rw [List.concat_eq_append] at hs
    cases hr : (X.r c).is with
    | false =>
      have E : Hid (cirW X t c = []) := Wy.none_ hi (Wy.start X c) (nxt_not hr) (fun e => by
        have := (stk_mem.1 (List.mem_of_getLast? e)).1
        rw [hr] at this; cases this)
      rw [E.out]
      rw [hr] at RN
      rw [hs] at SK
      generalize (X.r c).to = r0 at *
      clear h hi hs E NX HI hr
      go_enter Try.func39, Try.ntmps39
      go_wp2_with (first | (go_at_call 26; refine (SK.out _ HV.out).mono ?_; rintro e w3 ⟨q, n, cc, rfl, hg3, hb3⟩; obtain ⟨hn, _⟩ := hg3.cells; rw [List.length_append] at hn; subst hn; obtain ⟨d0, d1⟩ := BX.out _ hb3; have B3 := hid hb3; clear hg3 hb3) | (go_at_call 27; refine (RN.out _ (HV.out.below B3.out)).mono ?_; rintro e w4 ⟨rfl, hb4⟩; have B4 := hid (bl3 BA.out (bl3 B3.out hb4)); clear hb4))
      go_ret
      exact ⟨none, 0, rfl, OwnG.nil _ _ _, B4.out⟩
    | true =>
      have HL : Hid ((stk X t).getLast? = some y) := by show _ = _; rw [hs]; simp
      have LE : Hid (∀ Q z, Wy X c Q z → Q.length + 1 ≤ 256) := fun Q z k => k.len HI.out hc
      have FD : Hid (∀ Q z, Wy X c Q z → z = y → cirW X t c = Q ++ [z]) := fun Q z k e => k.done HI.out hw (by rw [HL.out, e])
      have FN : Hid (∀ Q z, Wy X c Q z → nxt X z = none → z ≠ y → cirW X t c = []) := fun Q z k e hne => k.none_ HI.out e (by rw [HL.out]; simpa using (fun q => hne q.symm))
      have SN : Hid (∀ (q : Option Addr) (n cc : Nat) (W : World), GP KI W P (.slice q n cc) (nI (stk X t)) → n = N.length + 1 ∧ ∃ Y o, q = some ⟨Y, o, none⟩ ∧ Y < W.heap.size ∧ W.cell? ⟨Y, o + N.length, none⟩ = some (.int .i64 y)) := fun q n cc W hg => by
        obtain ⟨hn, hcell⟩ := hg.cells
        have hpos : 0 < (stk X t).length := by rw [hs]; simp
        obtain ⟨Y, o, e1, hc⟩ := hcell hpos
        have hlast : N.length < (stk X t).length := by rw [hs]; simp
        have := hc N.length hlast
        have e2 : (stk X t)[N.length] = y := by
          have h9 : (stk X t)[N.length]? = some y := by rw [hs]; simp
          rw [List.getElem?_eq_getElem hlast] at h9
          injection h9
        rw [e2] at this
        exact ⟨by rw [hn, hs]; simp, Y, o, e1, block_lt_of_cell this, this⟩
      rw [hr] at RN
      have hnl : N.length + 1 ≤ 256 := by rw [hs] at HSL; simpa using HSL
      generalize (X.r c).to = r0 at *
      generalize hnl2 : N.length = nl at *
      have HC0 : Hid (∀ W : World, OwnG KI (W.alloc (.cells #[.int .i64 c] 3)) W.heap.size (.slice (some ⟨W.heap.size, 0, none⟩) 1 1) (nI ([] ++ [c]))) := fun W => ⟨rfl, Or.inr ⟨W.heap.size, 1, #[.int .i64 c], rfl, Nat.le_refl _, heap_alloc_new W _, Nat.le_refl _, by decide, rfl, rfl⟩⟩
      clear h hi hs HI hr HSL hnl2
      go_enter Try.func39, Try.ntmps39
      go_wp2_with (first | (go_at_call 26; refine (SK.out _ HV.out).mono ?_; rintro e w3 ⟨q, n, cc, rfl, hg3, hb3⟩; obtain ⟨hn, Y, o, e1, hY, hcY⟩ := SN.out _ _ _ _ hg3; subst hn e1; have HY := hid hY; have CY := hid hcY; obtain ⟨d0, d1⟩ := BX.out _ hb3; have B3 := hid hb3; clear hg3 hb3 hY hcY) | (go_at_call 27; refine (RN.out _ (HV.out.below B3.out)).mono ?_; rintro e w4 ⟨rfl, hb4⟩; have B4 := hid hb4; clear hb4))
      have B34 := hid (bl3 B3.out B4.out)
      have OO := hid (HC0.out w4)
      have BO : Hid (Below w4.heap.size w4 (w4.alloc (.cells #[.int .i64 c] 3))) := bal _ _
      clear HC0 SN SK RN
      go_loopw [10] (fun v10 wr => ∃ (Q : List Nat) (z ql : Nat) (q' : Option Addr) (cc' : Nat) (wk : World), v10 = .slice q' (ql + 1) cc' ∧ wk = wr ∧ ql + 1 ≤ 256 ∧ Hid (Q.length = ql) ∧ Hid (Wy X c Q z) ∧ Hid (OwnG KI wk w4.heap.size (.slice q' (ql + 1) cc') (nI (Q ++ [z]))) ∧ Hid (Below w4.heap.size w4 wk)) (fun v10 _ => 300 - slN v10)
      case atStart => exact ⟨[], c, 0, _, _, _, rfl, rfl, by omega, rfl, Wy.start X c, OO, BO⟩
      case round =>
        obtain ⟨Q, z, ql, q', cc', wr, rfl, rfl, hql, HQ, HW, HO, HB⟩ := hrel
        clear OO BO
        obtain ⟨g, hg⟩ : ∃ g, q' = some ⟨g, 0, none⟩ := let ⟨g, h, _⟩ := own_at HO.out (k := Q.length) (by simp); ⟨g, h⟩
        subst hg
        have AT : Hid (∀ W, Below wr.heap.size wr W → W.cell? ⟨g, ql, none⟩ = some (.int .i64 z)) := fun W hb => by
          obtain ⟨g2, e2, hc2⟩ := own_at (HO.out.below hb) (k := Q.length) (by simp)
          injection e2 with e2
          injection e2 with e2 _ _
          subst e2
          have e3 : (Q ++ [z])[Q.length]'(by simp) = z := by simp
          rw [e3] at hc2
          rw [← HQ.out]
          exact hc2
        have az := AT.out wr (Below.refl _ _)
        have hY := HY.out
        have B4w := hid (bl3 B34.out HB.out)
        have ay : wr.cell? ⟨Y, o + nl, none⟩ = some (.int .i64 y) := ((bl3 B4.out HB.out).cell (p := ⟨Y, o + nl, none⟩) hY).trans CY.out
        obtain ⟨e0, e1⟩ := BX.out wr B4w.out
        by_cases hzy : z = y
        · have E : Hid (cirW X t c = Q ++ [z]) := FD.out Q z HW.out hzy
          have EL : Hid ((Q ++ [z]).length = ql + 1) := by show _ = _; rw [List.length_append, HQ.out]; rfl
          subst hzy
          have hb1 : ((z : Int) != z) = false := by simp
          go_wp2
          go_quiet (fail)
          go_wp2
          go_ret
          rw [E.out, EL.out]
          exact ⟨_, _, rfl, (HO.out.below (drew_below _ _)).low (Nat.le_trans BA.out.size B34.out.size), bl3 BA.out (bl3 B4w.out (drew_below _ _))⟩
        · have hzi : ¬ (z : Int) = y := by omega
          have hb1 : ((z : Int) != y) = true := by simpa using hzi
          have LQ := LE.out Q z HW.out
          have q2 : IntKind.i64.wrap (ql : Int) = ql := by simp [IntKind.wrap, IntKind.bits, IntKind.signed]; omega
          have q3 : (0 : Int) ≤ ql := by omega
          have q4 : (ql : Int) < (ql : Int) + 1 := by omega
          have q5 : (ql : Int) + 1 - 1 = ql := by omega
          have q6 : IntKind.i64.wrap ((ql : Int) + 1 - 1) = ql := by rw [q5]; exact q2
          have HVD : Hid (∀ n, RV ((wr.drewN n).drew) P (.slice pr nr cr) (.slice pw nw cw) X) := fun n => HV.out.below ⟨(bl3 B4w.out (drew_below wr n)).os, (bl3 B4w.out (drew_below wr n)).tape, (bl3 B4w.out (drew_below wr n)).output, (bl3 B4w.out (drew_below wr n)).size, (bl3 B4w.out (drew_below wr n)).block⟩
          have BD : Hid (∀ n, Below wr.heap.size wr ((wr.drewN n).drew)) := fun n => ⟨rfl, rfl, rfl, Nat.le_refl _, fun _ _ => rfl⟩
          cases hx : nxt X z with
          | none =>
            have E : Hid (cirW X t c = []) := FN.out Q z HW.out hx hzy
            have NXz : Hid (∀ n, Calls Try.prog 45 #[.agg #[.slice pr nr cr, .slice pw nw cw], .int .i64 z] ((wr.drewN n).drew) fun e w' => e = .returned (.tuple #[.int .i64 0, .bool false]) ∧ Below ((wr.drewN n).drew).heap.size ((wr.drewN n).drew) w') := fun n => by have := NX.out _ z (HVD.out n); rw [hx] at this; exact this
            clear hx hzy
            go_wp2
            go_quiet (fail)
            go_wp2
            go_region_held3 (fun w' => w'.cell? ⟨w.heap.size, 0, none⟩ = some (.slice pr nr cr) ∧ w'.cell? ⟨w.heap.size, 1, none⟩ = some (.slice pw nw cw) ∧ w'.cell? ⟨g, ql, none⟩ = some (.int .i64 z)) (go_keep) (first | (go_at_call 45; refine (NXz.out _).mono ?_; rintro e w8 ⟨rfl, hb8⟩; have B8 := hid (bl3 (BD.out _) hb8); obtain ⟨k0, k1⟩ := BX.out _ (bl3 B4w.out B8.out); have k2 := AT.out _ B8.out; clear hb8))
            go_wp2
            go_ret
            rw [E.out]
            exact ⟨none, 0, rfl, OwnG.nil _ _ _, bl3 BA.out (bl3 B4w.out B8.out)⟩
          | some x =>
            have NXz : Hid (∀ n, Calls Try.prog 45 #[.agg #[.slice pr nr cr, .slice pw nw cw], .int .i64 z] ((wr.drewN n).drew) fun e w' => e = .returned (.tuple #[.int .i64 x, .bool true]) ∧ Below ((wr.drewN n).drew).heap.size ((wr.drewN n).drew) w') := fun n => by have := NX.out _ z (HVD.out n); rw [hx] at this; exact this
            have HW2 := hid (HW.out.next hx)
            have hq2 := LE.out _ _ HW2.out
            rw [List.length_append] at hq2
            have hq3 : ql + 1 + 1 ≤ 256 := by have := HQ.out; simp at hq2; omega
            have HQ2 : Hid ((Q ++ [z]).length = ql + 1) := by show _ = _; rw [List.length_append, HQ.out]; rfl
            have h256 : ¬ (256 : Int) < (ql : Int) + 1 := by omega
            have LS : Hid (((nI (Q ++ [z])).length + 1) * KI.B ≤ 140737488355328) := by show ((nI (Q ++ [z])).length + 1) * 8 ≤ _; rw [nI_len, HQ2.out]; omega
            have SNx : Hid (nI (Q ++ [z]) ++ [(x : Int)] = nI ((Q ++ [z]) ++ [x])) := by show _ = _; rw [nI_snoc (Q ++ [z])]
            have SLn : Hid ((nI (Q ++ [z])).length = ql + 1) := by show _ = _; rw [nI_len, HQ2.out]
            generalize nI (Q ++ [z]) = SI at *
            clear hx hzy hq2
            go_wp2
            go_quiet (fail)
            go_wp2
            go_region_held3 (fun w' => w'.cell? ⟨w.heap.size, 0, none⟩ = some (.slice pr nr cr) ∧ w'.cell? ⟨w.heap.size, 1, none⟩ = some (.slice pw nw cw) ∧ w'.cell? ⟨g, ql, none⟩ = some (.int .i64 z)) (go_keep) (first | (go_at_call 45; refine (NXz.out _).mono ?_; rintro e w8 ⟨rfl, hb8⟩; have B8 := hid (bl3 (BD.out _) hb8); obtain ⟨k0, k1⟩ := BX.out _ (bl3 B4w.out B8.out); have k2 := AT.out _ B8.out; clear hb8))
            go_wp2_with (at_builtin; refine append_g KI KI_ok rfl (.tmp 60) (.tmp 62) 35 rfl w4.heap.size Try.underlying35 w8 _ _ (.slice (some ⟨g, 0, none⟩) (ql + 1) cc') SI (x : Int) _ rfl (HO.out.below B8.out) w8.heap.size rfl rfl rfl LS.out (bl3 HB.out B8.out).size ?_; rw [SLn.out, SNx.out]; intro g5 cp5 w5 ho5 hb5 hk5 hg5; have O5 := hid ho5; have B5 : Hid (Below w4.heap.size w4 w5) := (bl3 HB.out B8.out).trans hb5; clear ho5 hb5 hk5 hg5)
            go_roundw
            case rel => exact ⟨Q ++ [z], x, ql + 1, _, _, _, rfl, rfl, hq3, HQ2, HW2, O5, B5⟩
            case measure => simp [slN]; omega
set_option maxHeartbeats 8000000 in
theorem rask_any {w : World} {P : Nat → Prop} {vr vw : Value} {X : Wb} (h : RV w P vr vw X) (hi : WI X) (t c : Int) : Calls Try.prog 16 #[.agg #[vr, vw], .int .i64 t, .int .i64 c] w fun e w' => ∃ q cc, e = .returned (.tuple #[.slice q (askL X t c).length cc, .int .i64 (askE X t c)]) ∧ OwnG KI w' w.heap.size (.slice q (askL X t c).length cc) (nI (askL X t c)) ∧ Below w.heap.size w w' := by
  obtain ⟨⟨pr, nr, cr, rfl⟩, pw, nw, cw, rfl⟩ := h.forms
  have BA : Hid (Below w.heap.size w (w.alloc (.cells #[.slice pr nr cr, .slice pw nw cw] 29))) := bal _ _
  obtain ⟨b0, b1⟩ := box2 (w := w) (a := .slice pr nr cr) (b := .slice pw nw cw) (t := 29)
  have BX : Hid (∀ W, Below (w.heap.size + 1) (w.alloc (.cells #[.slice pr nr cr, .slice pw nw cw] 29)) W → W.cell? ⟨w.heap.size, 0, none⟩ = some (.slice pr nr cr) ∧ W.cell? ⟨w.heap.size, 1, none⟩ = some (.slice pw nw cw)) := fun W hb => ⟨(hb.cell (p := ⟨w.heap.size, 0, none⟩) (by show w.heap.size < w.heap.size + 1; omega)).trans b0, (hb.cell (p := ⟨w.heap.size, 1, none⟩) (by show w.heap.size < w.heap.size + 1; omega)).trans b1⟩
  rw [← alloc_size w (.cells #[.slice pr nr cr, .slice pw nw cw] 29)] at BX
  have HV := hid (h.below BA.out)
  have FR := hid (rfree_any HV.out hi t c)
  have HAL : Hid (askL X t c = if askE X t c = 0 then cirW X t.toNat c.toNat else []) := rfl
  have HOK : Hid (askE X t c = 0 → tkB t = true ∧ clB c = true ∧ (X.w t.toNat).is = false) := askE_ok
  have CI : Hid (∀ W (t c : Nat), c < 256 → (X.w t).is = false → RV W P (.slice pr nr cr) (.slice pw nw cw) X → Calls Try.prog 39 #[.agg #[.slice pr nr cr, .slice pw nw cw], .int .i64 t, .int .i64 c] W fun e w' => ∃ q cc, e = .returned (.slice q (cirW X t c).length cc) ∧ OwnG KI w' W.heap.size (.slice q (cirW X t c).length cc) (nI (cirW X t c)) ∧ Below W.heap.size W w') := fun W t c hc hw k => rcircleW_any k hi hc hw
  generalize askL X t c = AL at *
  generalize hae : askE X t c = ae at *
  by_cases h0 : ae = 0
  · subst h0
    obtain ⟨h1, h2, h3⟩ := HOK.out rfl
    obtain ⟨n, hn, hlt⟩ := tk_nat h1
    obtain ⟨m, hm, hlm⟩ := cl_nat h2
    subst hn hm
    have EA : Hid (AL = cirW X n m) := HAL.out
    have C1 := hid (fun W k => CI.out W n m hlm h3 k)
    rw [← EA.out] at C1
    clear h hi hae HOK HAL CI EA h1 h2 h3
    go_enter Try.func16, Try.ntmps16
    go_wp2_with (first | (go_at_call 34; refine FR.out.mono ?_; rintro e w2 ⟨rfl, hb2⟩; obtain ⟨d0, d1⟩ := BX.out _ hb2; have B2 := hid hb2; clear hb2) | (go_at_call 39; refine (C1.out _ (HV.out.below B2.out)).mono ?_; rintro e w3 ⟨q, cc, rfl, ho3, hb3⟩; have O3 := hid ho3; have B3 := hid (bl3 B2.out hb3); clear ho3 hb3))
    go_ret2
    exact ⟨_, _, rfl, O3.out.low (bl3 BA.out B2.out).size, bl3 BA.out B3.out⟩
  · have EA : Hid (AL = []) := by show _ = _; rw [HAL.out, if_neg h0]
    rw [EA.out]
    have hb : (ae != 0) = true := by simpa using h0
    clear h hi hae HOK HAL CI EA
    go_enter Try.func16, Try.ntmps16
    go_wp2_with (go_at_call 34; refine FR.out.mono ?_; rintro e w2 ⟨rfl, hb2⟩; have B2 := hid hb2; clear hb2)
    go_ret2
    exact ⟨none, 0, rfl, OwnG.nil _ _ _, bl3 BA.out B2.out⟩
end Go.Proofs.Ytkhcinpcoabphaa
