/- Depend: the document's Wake, Begin. -/
import Derived.Test.YtkhcinpcoabphaaDr6
namespace Go.Proofs.Ytkhcinpcoabphaa
open Go.RowKit

theorem RV.set {w : World} {R : Nat → Prop} {vr vw : Value} {X : Wb} (h : RV w R vr vw X) {b : Nat} (hb : ∀ x, R x → x ≠ b) (o : Nat) (u : Value) : RV (w.setCell ⟨b, o, none⟩ u) R vr vw X := h.far (by simp [World.setCell]) fun x _ hx => set_far (hb x hx)
theorem RV.now {w : World} {P : Nat → Prop} {vr vw : Value} {X : Wb} (h : RV w P vr vw X) : RV w (fun x => P x ∧ x < w.heap.size) vr vw X := h.imp fun _ hx hp => ⟨hp, hx⟩
/-- What a call of the document's web answers. -/
def ReO (w : World) (P : Nat → Prop) (X : Wb) (res : Array Value) (e : Ending) (w' : World) : Prop := ∃ p1 n1 c1 p2 n2 c2, e = .returned (.tuple (#[.agg #[.slice p1 n1 c1, .slice p2 n2 c2]] ++ res)) ∧ RV w' (fun x => P x ∨ w.heap.size ≤ x) (.slice p1 n1 c1) (.slice p2 n2 c2) X ∧ Below w.heap.size w w'
/-- Two boxes: the receiver and the answer. -/
structure TB (w : World) (sz : Nat) (a b : Value) (w2 : World) : Prop where
  bl : Below w.heap.size w w2
  z : w2.heap.size = sz + 2
  s : sz = w.heap.size
  h0 : w2.heap[sz]? = some (.cells #[a, b] 29)
  h1 : w2.heap[sz + 1]? = some (.cells #[.slice none 0 0, .slice none 0 0] 29)
theorem TB.mk_ (w : World) (a b : Value) : TB w w.heap.size a b ((w.alloc (.cells #[a, b] 29)).alloc (.cells #[.slice none 0 0, .slice none 0 0] 29)) := by
  refine ⟨bl3 (bal _ _) (bal _ _), by rw [alloc_size, alloc_size], rfl, (Below.heap_alloc _ _ _ (by rw [alloc_size]; omega)).trans (heap_alloc_new _ _), ?_⟩
  have := heap_alloc_new (w.alloc (.cells #[a, b] 29)) (.cells #[.slice none 0 0, .slice none 0 0] 29)
  rw [alloc_size] at this
  exact this
theorem TB.at {w : World} {sz : Nat} {a b : Value} {w2 : World} (h : TB w sz a b w2) {W : World} (hb : Below w2.heap.size w2 W) : W.cell? ⟨sz, 0, none⟩ = some a ∧ W.cell? ⟨sz, 1, none⟩ = some b ∧ W.cell? ⟨sz + 1, 0, none⟩ = some (.slice none 0 0) ∧ W.cell? ⟨sz + 1, 1, none⟩ = some (.slice none 0 0) ∧ (∀ o, W.frozen? ⟨sz, o, none⟩ = false) ∧ ∀ o, W.frozen? ⟨sz + 1, o, none⟩ = false := by
  have h0 := (hb.block sz (by rw [h.z]; omega)).trans h.h0
  have h1 := (hb.block (sz + 1) (by rw [h.z]; omega)).trans h.h1
  exact ⟨cell_of_row _ _ _ _ _ _ h0, cell_of_row _ _ _ _ _ _ h0, cell_of_row _ _ _ _ _ _ h1, cell_of_row _ _ _ _ _ _ h1, fun o => by simp [World.frozen?, h0], fun o => by simp [World.frozen?, h1]⟩
/-- The answer's box filled. -/
theorem TB.fin {w : World} {sz : Nat} {a b : Value} {w2 : World} (h : TB w sz a b w2) {W : World} (hb : Below w2.heap.size w2 W) {P : Nat → Prop} {vr vw : Value} {X : Wb} (hv : RV W (fun x => (P x ∧ x < w.heap.size) ∨ w2.heap.size ≤ x) vr vw X) (x y : Value) : RV ((W.setCell ⟨sz + 1, 0, none⟩ x).setCell ⟨sz + 1, 1, none⟩ y) (fun x => P x ∨ w.heap.size ≤ x) vr vw X ∧ Below w.heap.size w ((W.setCell ⟨sz + 1, 0, none⟩ x).setCell ⟨sz + 1, 1, none⟩ y) := by
  have hne : ∀ z, ((P z ∧ z < w.heap.size) ∨ w2.heap.size ≤ z) → z ≠ sz + 1 := fun z hz => by
    have h1 := h.z
    have h2 := h.s
    rcases hz with ⟨_, hz⟩ | hz <;> omega
  refine ⟨((hv.set hne 0 x).set hne 1 y).imp fun z _ hz => ?_, ((bl3 h.bl hb).setCell (by show w.heap.size ≤ sz + 1; rw [h.s]; omega) _).setCell (by show w.heap.size ≤ sz + 1; rw [h.s]; omega) _⟩
  rcases hz with ⟨hz, _⟩ | hz
  · exact Or.inl hz
  · exact Or.inr (by have h1 := h.z; have h2 := h.s; omega)
theorem TB.here {w : World} {sz : Nat} {a b : Value} {w2 : World} (h : TB w sz a b w2) {P : Nat → Prop} {vr vw : Value} {X : Wb} (hv : RV w P vr vw X) : RV w2 (fun x => (P x ∧ x < w.heap.size) ∨ w2.heap.size ≤ x) vr vw X := ((hv.now).below h.bl).imp fun _ _ hx => Or.inl hx
/-- With another stack. -/
theorem rwith_rv {w : World} {Q : Nat → Prop} {pr pw : Option Addr} {nr cr nw cw : Nat} {X X' : Wb} (h : RV w Q (.slice pr nr cr) (.slice pw nw cw) X) (hi : WI X) (t : Nat) {q : Option Addr} {n c : Nat} {s : List Nat} (hs : GP KI w Q (.slice q n c) (nI s)) (hsl : s.length ≤ 100000) (hS : ∀ t', stk X' t' = if t' = t then s else stk X t') (hW : X'.waits = X.waits) : Calls Try.prog 35 #[.agg #[.slice pr nr cr, .slice pw nw cw], .int .i64 t, .slice q n c] w fun e w' => ∃ p1 n1 c1, e = .returned (.agg #[.slice p1 n1 c1, .slice pw nw cw]) ∧ RV w' (fun x => Q x ∨ w.heap.size ≤ x) (.slice p1 n1 c1) (.slice pw nw cw) X' ∧ Below w.heap.size w w' := by
  obtain ⟨⟨l, hl⟩, m, hm⟩ := h
  refine (rwith_any hl (hl.len (stk_task hi)) t hs hsl).mono ?_
  rintro e w' ⟨q5, n5, c5, l', rfl, hR, hb⟩
  have e : (fun t' => if t' = t then s else stk X t') = stk X' := by funext t'; exact (hS t').symm
  rw [e] at hR
  have hw : ∀ z, X'.w z = X.w z := fun z => by unfold Wb.w; rw [hW]
  refine ⟨q5, n5, c5, rfl, ⟨⟨l', hR⟩, m, ?_⟩, hb⟩
  have hm2 := (hm.below hb).imp (Q := fun x => Q x ∨ w.heap.size ≤ x) fun _ _ hx => Or.inl hx
  exact ⟨hm2.gs, fun t' c' => by rw [hw]; exact hm2.mem t' c', hm2.up.imp fun {a b} hlt => by rw [hw, hw]; exact hlt⟩
theorem rwoken_rv {w : World} {Q : Nat → Prop} {pr pw : Option Addr} {nr cr nw cw : Nat} {X : Wb} (h : RV w Q (.slice pr nr cr) (.slice pw nw cw) X) (hi : WI X) {t : Nat} (ht : t < 128) : Calls Try.prog 38 #[.agg #[.slice pr nr cr, .slice pw nw cw], .int .i64 t] w fun e w' => ∃ p2 n2 c2, e = .returned (.agg #[.slice pr nr cr, .slice p2 n2 c2]) ∧ RV w' (fun x => Q x ∨ w.heap.size ≤ x) (.slice pr nr cr) (.slice p2 n2 c2) (wakW X t) ∧ Below w.heap.size w w' := by
  obtain ⟨⟨l, hl⟩, m, hm⟩ := h
  refine (rwoken_any hm hi ht).mono ?_
  rintro e w' ⟨q5, n5, c5, l', rfl, hW, hb⟩
  exact ⟨q5, n5, c5, rfl, ⟨⟨l, (hl.below hb).imp fun _ _ hx => Or.inl hx⟩, l', hW⟩, hb⟩
theorem rwaiting_rv {w : World} {Q : Nat → Prop} {vr vw : Value} {X : Wb} (h : RV w Q vr vw X) (hi : WI X) (t : Nat) : Calls Try.prog 25 #[.agg #[vr, vw], .int .i64 t] w fun e w' => e = .returned (.tuple #[.int .i64 (X.w t).to, .bool (X.w t).is]) ∧ Below w.heap.size w w' := by
  obtain ⟨m, hm⟩ := h.ww
  exact rwaiting_any hm hi h.forms.1 t
theorem rrunner_rv {w : World} {Q : Nat → Prop} {vr vw : Value} {X : Wb} (h : RV w Q vr vw X) (hi : WI X) (c : Nat) : Calls Try.prog 27 #[.agg #[vr, vw], .int .i64 c] w fun e w' => e = .returned (.tuple #[.int .i64 (X.r c).to, .bool (X.r c).is]) ∧ Below w.heap.size w w' := by
  obtain ⟨l, hl⟩ := h.rr
  exact rrunner_any hl hi h.forms.2 c
theorem rstack_rv {w : World} {Q : Nat → Prop} {vr vw : Value} {X : Wb} (h : RV w Q vr vw X) (hi : WI X) (t : Nat) : Calls Try.prog 26 #[.agg #[vr, vw], .int .i64 t] w fun e w' => ∃ q n c, e = .returned (.slice q n c) ∧ GP KI w' Q (.slice q n c) (nI (stk X t)) ∧ Below w.heap.size w w' := by
  obtain ⟨l, hl⟩ := h.rr
  refine (rstack_any hl (hl.len (stk_task hi)) h.forms.2 t).mono ?_
  rintro e w' ⟨q, n, c, rfl, hg, hb⟩
  exact ⟨q, n, c, rfl, hg.below hb, hb⟩
theorem rwaiters_rv {w : World} {Q : Nat → Prop} {vr vw : Value} {X : Wb} (h : RV w Q vr vw X) (hi : WI X) (c : Nat) : Calls Try.prog 28 #[.agg #[vr, vw], .int .i64 c] w fun e w' => ∃ q cc, e = .returned (.slice q (wai X c).length cc) ∧ OwnG KI w' w.heap.size (.slice q (wai X c).length cc) (nI (wai X c)) ∧ Below w.heap.size w w' := by
  obtain ⟨m, hm⟩ := h.ww
  exact rwaiters_any hm hi h.forms.1 c
set_option maxRecDepth 100000 in
set_option maxHeartbeats 16000000 in
theorem rwake_any {w : World} {P : Nat → Prop} {vr vw : Value} {X : Wb} (h : RV w P vr vw X) (hi : WI X) (t : Int) : Calls Try.prog 19 #[.agg #[vr, vw], .int .i64 t] w fun e w' => ReO w P (wakX X t) #[.int .i64 (wakE X t)] e w' := by
  obtain ⟨⟨pr, nr, cr, rfl⟩, pw, nw, cw, rfl⟩ := h.forms
  have T := hid (TB.mk_ w (.slice pr nr cr) (.slice pw nw cw))
  have HV := hid (T.out.here h)
  have WR := hid (fun W => wrong_any t 0 W)
  have h00 : clB 0 = true := rfl
  rw [h00, Bool.and_true] at WR
  cases h1 : tkB t with
  | false =>
    have E1 : Hid (wakE X t = 1) := by show _ = _; unfold wakE; rw [h1]; rfl
    have E2 : Hid (wakX X t = X) := by show _ = _; unfold wakX; rw [E1.out]; rfl
    rw [E1.out, E2.out]
    rw [h1] at WR
    clear h hi E1 E2 h00
    go_enter Try.func19, Try.ntmps19
    go_upto_region 1 with fail
    obtain ⟨w2, hw2⟩ : ∃ w2, w2 = ((w.alloc (.cells #[.slice pr nr cr, .slice pw nw cw] 29)).alloc (.cells #[.slice none 0 0, .slice none 0 0] 29)) := ⟨_, rfl⟩
    rw [← hw2] at T HV ⊢
    obtain ⟨sz, hsz⟩ : ∃ sz, sz = w.heap.size := ⟨_, rfl⟩
    rw [← hsz] at T ⊢
    obtain ⟨d0, d1, d2, d3, f1, f2⟩ := T.out.at (Below.refl _ _)
    clear hw2 hsz
    have FN := hid (T.out.fin (Below.refl _ _) HV.out)
    have x2 := d2
    have x3 := d3
    go_wp2_with (go_at_call 40; refine (WR.out _).mono ?_; rintro e w' ⟨rfl, hw⟩; rw [hw]; clear hw)
    refine bodyPost_ret (v := .tuple #[.agg #[.slice pr nr cr, .slice pw nw cw], .int .i64 1]) (by simp [results, Try.results19, go_sem, x2, x3]) rfl ?_
    exact ⟨_, _, _, _, _, _, rfl, (FN.out _ _).1, (FN.out _ _).2⟩
  | true =>
    rw [h1] at WR
    obtain ⟨n, hn, hlt⟩ := tk_nat h1
    subst hn
    have WT := hid (rwaiting_rv HV.out hi n)
    cases h2 : (X.w n).is with
    | false =>
      have E1 : Hid (wakE X n = 4) := by show _ = _; unfold wakE; rw [h1, show ((n : Int)).toNat = n from rfl, h2]; rfl
      have E2 : Hid (wakX X n = X) := by show _ = _; unfold wakX; rw [E1.out]; rfl
      rw [E1.out, E2.out]
      rw [h2] at WT
      clear h hi E1 E2 h00 h1 h2
      go_enter Try.func19, Try.ntmps19
      go_upto_region 1 with fail
      obtain ⟨w2, hw2⟩ : ∃ w2, w2 = ((w.alloc (.cells #[.slice pr nr cr, .slice pw nw cw] 29)).alloc (.cells #[.slice none 0 0, .slice none 0 0] 29)) := ⟨_, rfl⟩
      rw [← hw2] at T HV WT ⊢
      obtain ⟨sz, hsz⟩ : ∃ sz, sz = w.heap.size := ⟨_, rfl⟩
      rw [← hsz] at T ⊢
      obtain ⟨d0, d1, d2, d3, f1, f2⟩ := T.out.at (Below.refl _ _)
      clear hw2 hsz
      go_wp2_with (first | (go_at_call 40; refine (WR.out _).mono ?_; rintro e w' ⟨rfl, hw⟩; rw [hw]; clear hw) | (go_at_call 25; refine WT.out.mono ?_; rintro e w3 ⟨rfl, hb3⟩; obtain ⟨c0, c1, x2, x3, x4, x5⟩ := T.out.at hb3; have FN := hid (T.out.fin hb3 (HV.out.below hb3)); clear hb3))
      refine bodyPost_ret (v := .tuple #[.agg #[.slice pr nr cr, .slice pw nw cw], .int .i64 4]) (by simp [results, Try.results19, go_sem, x2, x3]) rfl ?_
      exact ⟨_, _, _, _, _, _, rfl, (FN.out _ _).1, (FN.out _ _).2⟩
    | true =>
      have E1 : Hid (wakE X n = 0) := by show _ = _; unfold wakE; rw [h1, show ((n : Int)).toNat = n from rfl, h2]; rfl
      have E2 : Hid (wakX X n = wakW X n) := by show _ = _; unfold wakX; rw [if_pos E1.out]; rfl
      rw [E1.out, E2.out]
      rw [h2] at WT
      have WO : Hid (∀ (W : World) (Q : Nat → Prop), RV W Q (.slice pr nr cr) (.slice pw nw cw) X → Calls Try.prog 38 #[.agg #[.slice pr nr cr, .slice pw nw cw], .int .i64 n] W fun e w' => ∃ p2 n2 c2, e = .returned (.agg #[.slice pr nr cr, .slice p2 n2 c2]) ∧ RV w' (fun x => Q x ∨ W.heap.size ≤ x) (.slice pr nr cr) (.slice p2 n2 c2) (wakW X n) ∧ Below W.heap.size W w') := fun W Q k => rwoken_rv k hi hlt
      clear h hi E1 E2 h00 h1 h2
      go_enter Try.func19, Try.ntmps19
      go_upto_region 1 with fail
      obtain ⟨w2, hw2⟩ : ∃ w2, w2 = ((w.alloc (.cells #[.slice pr nr cr, .slice pw nw cw] 29)).alloc (.cells #[.slice none 0 0, .slice none 0 0] 29)) := ⟨_, rfl⟩
      rw [← hw2] at T HV WT ⊢
      obtain ⟨sz, hsz⟩ : ∃ sz, sz = w.heap.size := ⟨_, rfl⟩
      rw [← hsz] at T ⊢
      obtain ⟨d0, d1, d2, d3, f1, f2⟩ := T.out.at (Below.refl _ _)
      clear hw2 hsz
      go_wp2_with (first | (go_at_call 40; refine (WR.out _).mono ?_; rintro e w' ⟨rfl, hw⟩; rw [hw]; clear hw) | (go_at_call 25; refine WT.out.mono ?_; rintro e w3 ⟨rfl, hb3⟩; obtain ⟨c0, c1, c2, c3, c4, c5⟩ := T.out.at hb3; have B3 := hid hb3; clear hb3) | (go_at_call 38; refine (WO.out _ _ (HV.out.below B3.out)).mono ?_; rintro e w4 ⟨p4, n4, cc4, rfl, hv4, hb4⟩; obtain ⟨y0, y1, x2, x3, x4, x5⟩ := T.out.at (bl3 B3.out hb4); have FN := hid (T.out.fin (bl3 B3.out hb4) (hv4.imp fun z _ hz => by rcases hz with hz | hz; exact hz; exact Or.inr (Nat.le_trans B3.out.size hz))); clear hv4 hb4))
      refine bodyPost_ret (v := .tuple #[.agg #[.slice pr nr cr, .slice p4 n4 cc4], .int .i64 0]) (by simp [results, Try.results19, go_sem, x2, x3]) rfl ?_
      exact ⟨_, _, _, _, _, _, rfl, (FN.out _ _).1, (FN.out _ _).2⟩
set_option maxRecDepth 100000 in
set_option maxHeartbeats 16000000 in
theorem rbegin_no {w : World} {P : Nat → Prop} {vr vw : Value} {X : Wb} (h : RV w P vr vw X) (hi : WI X) (t c : Int) (h0 : begE X t c ≠ 0) : Calls Try.prog 13 #[.agg #[vr, vw], .int .i64 t, .int .i64 c] w fun e w' => ReO w P (begX X t c) #[.int .i64 (begE X t c)] e w' := by
  obtain ⟨⟨pr, nr, cr, rfl⟩, pw, nw, cw, rfl⟩ := h.forms
  have T := hid (TB.mk_ w (.slice pr nr cr) (.slice pw nw cw))
  have HV := hid (T.out.here h)
  have E2 : Hid (begX X t c = X) := by show _ = _; unfold begX; rw [if_neg h0]
  rw [E2.out]
  have FR := hid (rfree_any HV.out hi t c)
  have HE : Hid (begE X t c = if askE X t c = 0 then (if (X.r c.toNat).is then 6 else if 48 ≤ (stk X t.toNat).length then 141 else 0) else askE X t c) := by
    show _ = _
    unfold begE askE
    cases tkB t <;> cases clB c <;> cases (X.w t.toNat).is <;> simp
  by_cases ha : askE X t c = 0
  · obtain ⟨h1, h2, h3⟩ := askE_ok ha
    obtain ⟨n, hn, hlt⟩ := tk_nat h1
    obtain ⟨m, hm, hlm⟩ := cl_nat h2
    subst hn hm
    rw [if_pos ha, show ((n : Int)).toNat = n from rfl, show ((m : Int)).toNat = m from rfl] at HE
    rw [ha] at FR
    have RN : Hid (∀ (W : World) (Q : Nat → Prop), RV W Q (.slice pr nr cr) (.slice pw nw cw) X → Calls Try.prog 27 #[.agg #[.slice pr nr cr, .slice pw nw cw], .int .i64 m] W fun e w' => e = .returned (.tuple #[.int .i64 (X.r m).to, .bool (X.r m).is]) ∧ Below W.heap.size W w') := fun W Q k => rrunner_rv k hi m
    have SK : Hid (∀ (W : World) (Q : Nat → Prop), RV W Q (.slice pr nr cr) (.slice pw nw cw) X → Calls Try.prog 26 #[.agg #[.slice pr nr cr, .slice pw nw cw], .int .i64 n] W fun e w' => ∃ q c, e = .returned (.slice q (stk X n).length c) ∧ Below W.heap.size W w') := fun W Q k => (rstack_rv k hi n).mono fun _ _ ⟨q, n', c, h0, hg, hb⟩ => ⟨q, c, by rw [h0, hg.cells.1], hb⟩
    have SL := stk_len hi n
    cases hr : (X.r m).is with
    | true =>
      rw [hr] at HE RN
      have E1 : Hid (begE X n m = 6) := HE.out
      rw [E1.out]
      generalize (X.r m).to = r0 at *
      clear h hi E1 E2 HE h0 ha h1 h2 h3 hr SK
      go_enter Try.func13, Try.ntmps13
      go_upto_region 1 with fail
      obtain ⟨w2, hw2⟩ : ∃ w2, w2 = ((w.alloc (.cells #[.slice pr nr cr, .slice pw nw cw] 29)).alloc (.cells #[.slice none 0 0, .slice none 0 0] 29)) := ⟨_, rfl⟩
      rw [← hw2] at T HV FR ⊢
      obtain ⟨sz, hsz⟩ : ∃ sz, sz = w.heap.size := ⟨_, rfl⟩
      rw [← hsz] at T ⊢
      obtain ⟨d0, d1, d2, d3, f1, f2⟩ := T.out.at (Below.refl _ _)
      clear hw2 hsz
      go_wp2_with (first | (go_at_call 34; refine FR.out.mono ?_; rintro e w3 ⟨rfl, hb3⟩; obtain ⟨c0, c1, c2, c3, c4, c5⟩ := T.out.at hb3; have B3 := hid hb3; clear hb3) | (go_at_call 27; refine (RN.out _ _ (HV.out.below B3.out)).mono ?_; rintro e w4 ⟨rfl, hb4⟩; obtain ⟨y0, y1, x2, x3, x4, x5⟩ := T.out.at (bl3 B3.out hb4); have FN := hid (T.out.fin (bl3 B3.out hb4) (HV.out.below (bl3 B3.out hb4))); clear hb4))
      refine bodyPost_ret (v := .tuple #[.agg #[.slice pr nr cr, .slice pw nw cw], .int .i64 6]) (by simp [results, Try.results13, go_sem, x2, x3]) rfl ?_
      exact ⟨_, _, _, _, _, _, rfl, (FN.out _ _).1, (FN.out _ _).2⟩
    | false =>
      rw [hr] at HE RN
      replace HE : Hid (begE X n m = if 48 ≤ (stk X n).length then 141 else 0) := HE.out
      have h48 : 48 ≤ (stk X n).length := Classical.byContradiction fun q => h0 (by rw [HE.out, if_neg q])
      have E1 : Hid (begE X n m = 141) := by show _ = _; rw [HE.out, if_pos h48]
      rw [E1.out]
      have h48i : (48 : Int) ≤ (stk X n).length := by omega
      generalize (X.r m).to = r0 at *
      generalize (stk X n).length = sl at *
      clear h hi E1 E2 HE h0 ha h1 h2 h3 hr
      go_enter Try.func13, Try.ntmps13
      go_upto_region 1 with fail
      obtain ⟨w2, hw2⟩ : ∃ w2, w2 = ((w.alloc (.cells #[.slice pr nr cr, .slice pw nw cw] 29)).alloc (.cells #[.slice none 0 0, .slice none 0 0] 29)) := ⟨_, rfl⟩
      rw [← hw2] at T HV FR ⊢
      obtain ⟨sz, hsz⟩ : ∃ sz, sz = w.heap.size := ⟨_, rfl⟩
      rw [← hsz] at T ⊢
      obtain ⟨d0, d1, d2, d3, f1, f2⟩ := T.out.at (Below.refl _ _)
      clear hw2 hsz
      go_wp2_with (first | (go_at_call 34; refine FR.out.mono ?_; rintro e w3 ⟨rfl, hb3⟩; obtain ⟨c0, c1, c2, c3, c4, c5⟩ := T.out.at hb3; have B3 := hid hb3; clear hb3) | (go_at_call 27; refine (RN.out _ _ (HV.out.below B3.out)).mono ?_; rintro e w4 ⟨rfl, hb4⟩; obtain ⟨y0, y1, y2, y3, y4, y5⟩ := T.out.at (bl3 B3.out hb4); have B4 := hid (bl3 B3.out hb4); clear hb4) | (go_at_call 26; refine (SK.out _ _ (HV.out.below B4.out)).mono ?_; rintro e w5 ⟨q5, cc5, rfl, hb5⟩; obtain ⟨z0, z1, x2, x3, x4, x5⟩ := T.out.at (bl3 B4.out hb5); have FN := hid (T.out.fin (bl3 B4.out hb5) (HV.out.below (bl3 B4.out hb5))); clear hb5))
      refine bodyPost_ret (v := .tuple #[.agg #[.slice pr nr cr, .slice pw nw cw], .int .i64 141]) (by simp [results, Try.results13, go_sem, x2, x3]) rfl ?_
      exact ⟨_, _, _, _, _, _, rfl, (FN.out _ _).1, (FN.out _ _).2⟩
  · have E1 : Hid (begE X t c = askE X t c) := by show _ = _; rw [HE.out, if_neg ha]
    rw [E1.out]
    have hb : (askE X t c != 0) = true := by simpa using ha
    generalize askE X t c = ae at *
    clear h hi E1 E2 HE h0
    go_enter Try.func13, Try.ntmps13
    go_upto_region 1 with fail
    obtain ⟨w2, hw2⟩ : ∃ w2, w2 = ((w.alloc (.cells #[.slice pr nr cr, .slice pw nw cw] 29)).alloc (.cells #[.slice none 0 0, .slice none 0 0] 29)) := ⟨_, rfl⟩
    rw [← hw2] at T HV FR ⊢
    obtain ⟨sz, hsz⟩ : ∃ sz, sz = w.heap.size := ⟨_, rfl⟩
    rw [← hsz] at T ⊢
    obtain ⟨d0, d1, d2, d3, f1, f2⟩ := T.out.at (Below.refl _ _)
    clear hw2 hsz
    go_wp2_with (go_at_call 34; refine FR.out.mono ?_; rintro e w3 ⟨rfl, hb3⟩; obtain ⟨c0, c1, x2, x3, x4, x5⟩ := T.out.at hb3; have FN := hid (T.out.fin hb3 (HV.out.below hb3)); clear hb3)
    refine bodyPost_ret (v := .tuple #[.agg #[.slice pr nr cr, .slice pw nw cw], .int .i64 ae]) (by simp [results, Try.results13, go_sem, x2, x3]) rfl ?_
    exact ⟨_, _, _, _, _, _, rfl, (FN.out _ _).1, (FN.out _ _).2⟩
end Go.Proofs.Ytkhcinpcoabphaa
