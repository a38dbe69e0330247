/- Depend: the document's End. -/
import Derived.Test.YtkhcinpcoabphaaDr9
namespace Go.Proofs.Ytkhcinpcoabphaa
open Go.RowKit

theorem GS.take {α : Type} {K : RK α} {w : World} {X o n cap m : Nat} {l : List α} (h : GS K w (.slice (some ⟨X, o, none⟩) n cap) l) (hm : m ≤ l.length) : GS K w (.slice (some ⟨X, o, none⟩) m cap) (l.take m) := by
  rcases h with ⟨_, rfl⟩ | ⟨X', o', cap', e, hX, hc, hcl⟩
  · simp at hm; subst hm; exact Or.inl ⟨Or.inr ⟨_, _, rfl⟩, by simp⟩
  · injection e with e1 e2 e3
    injection e1 with e1
    injection e1 with e1 e4 _
    subst e1 e4 e3
    have hl : (l.take m).length = m := by simp; omega
    refine Or.inr ⟨X, o, cap, by rw [hl], hX, by omega, fun k hk j u hu => hcl k (by omega) j u ?_⟩
    rw [List.getElem_take] at hu
    exact hu
/-- What the document's End answers. -/
def ReE (w : World) (P : Nat → Prop) (X : Wb) (C : Nat) (L : List Nat) (r : Int) (e : Ending) (w' : World) : Prop := ∃ p1 n1 c1 p2 n2 c2 q cc, e = .returned (.tuple #[.agg #[.slice p1 n1 c1, .slice p2 n2 c2], .int .i64 C, .slice q L.length cc, .int .i64 r]) ∧ RV w' (fun x => P x ∨ w.heap.size ≤ x) (.slice p1 n1 c1) (.slice p2 n2 c2) X ∧ OwnG KI w' w.heap.size (.slice q L.length cc) (nI L) ∧ Below w.heap.size w w'
/-- End's loop: the receiver's box holds what is so far. -/
structure ES (w : World) (sz : Nat) (P : Nat → Prop) (X : Wb) (c : Nat) (L : List Nat) (q8 : Option Addr) (c8 : Nat) (p1 : Option Addr) (n1 c1 : Nat) (k : Nat) (p2 : Option Addr) (n2 c2 : Nat) (W : World) : Prop where
  bl : Below w.heap.size w W
  s : sz = w.heap.size
  z : sz + 2 ≤ W.heap.size
  h0 : W.heap[sz]? = some (.cells #[.slice p1 n1 c1, .slice p2 n2 c2] 29)
  h1 : W.heap[sz + 1]? = some (.cells #[.slice none 0 0, .slice none 0 0] 29)
  rv : RV W (fun x => (P x ∧ x < sz) ∨ sz + 2 ≤ x) (.slice p1 n1 c1) (.slice p2 n2 c2) (endW (wakL X (L.take k)) c)
  ow : OwnG KI W (sz + 2) (.slice q8 L.length c8) (nI L)
theorem set2_box {W : World} {b : Nat} {a1 a2 : Value} {t : TypeId} (h : W.heap[b]? = some (.cells #[a1, a2] t)) (u1 u2 : Value) : ((W.setCell ⟨b, 0, none⟩ u1).setCell ⟨b, 1, none⟩ u2).heap[b]? = some (.cells #[u1, u2] t) := by
  have e1 := heap_setCell_same W b 0 _ _ u1 h
  have e2 := heap_setCell_same _ b 1 _ _ u2 e1
  rw [e2]
  rfl
/-- The box written anew. -/
theorem es_put {w : World} {sz : Nat} {P : Nat → Prop} {X : Wb} {c : Nat} {L : List Nat} {q8 : Option Addr} {c8 : Nat} {p1 : Option Addr} {n1 c1 k : Nat} {p2 : Option Addr} {n2 c2 : Nat} {W : World} {a1 a2 : Value}
    (hb : Below w.heap.size w W) (hs : sz = w.heap.size) (hz : sz + 2 ≤ W.heap.size) (h0 : W.heap[sz]? = some (.cells #[a1, a2] 29)) (h1 : W.heap[sz + 1]? = some (.cells #[.slice none 0 0, .slice none 0 0] 29))
    (hv : RV W (fun x => (P x ∧ x < sz) ∨ sz + 2 ≤ x) (.slice p1 n1 c1) (.slice p2 n2 c2) (endW (wakL X (L.take k)) c)) (ho : OwnG KI W (sz + 2) (.slice q8 L.length c8) (nI L)) :
    ES w sz P X c L q8 c8 p1 n1 c1 k p2 n2 c2 ((W.setCell ⟨sz, 0, none⟩ (.slice p1 n1 c1)).setCell ⟨sz, 1, none⟩ (.slice p2 n2 c2)) := by
  have hne0 : ∀ z, ((P z ∧ z < sz) ∨ sz + 2 ≤ z) → z ≠ sz := fun z hz => by
    rcases hz with ⟨_, hz⟩ | hz <;> omega
  refine ⟨(hb.setCell (by show w.heap.size ≤ sz; omega) _).setCell (by show w.heap.size ≤ sz; omega) _, hs, by simp [World.setCell]; exact hz, set2_box h0 _ _, ?_, (hv.set hne0 0 _).set hne0 1 _, ho.far fun z hz' => ?_⟩
  · rw [set_far (by omega), set_far (by omega)]; exact h1
  · have := (ho.lt hz').1
    rw [set_far (by omega), set_far (by omega)]
theorem ES.start {w : World} {sz : Nat} {a b : Value} {w2 : World} (h : TB w sz a b w2) {W : World} (hb : Below w2.heap.size w2 W) {P : Nat → Prop} {X : Wb} {c : Nat} {L : List Nat} {q8 : Option Addr} {c8 : Nat} {p1 : Option Addr} {n1 c1 : Nat} {p2 : Option Addr} {n2 c2 : Nat} (hv : RV W (fun x => (P x ∧ x < w.heap.size) ∨ w2.heap.size ≤ x) (.slice p1 n1 c1) (.slice p2 n2 c2) (endW X c)) (ho : OwnG KI W w2.heap.size (.slice q8 L.length c8) (nI L)) : ES w sz P X c L q8 c8 p1 n1 c1 0 p2 n2 c2 ((W.setCell ⟨sz, 0, none⟩ (.slice p1 n1 c1)).setCell ⟨sz, 1, none⟩ (.slice p2 n2 c2)) := by
  have h0 := (hb.block sz (by rw [h.z]; omega)).trans h.h0
  have h1 := (hb.block (sz + 1) (by rw [h.z]; omega)).trans h.h1
  have hz := h.z
  have hss := h.s
  refine es_put (bl3 h.bl hb) h.s (by have := hb.size; omega) h0 h1 ?_ ?_
  · rw [hz, ← hss] at hv
    exact hv
  · rw [hz] at ho
    exact ho
theorem ES.at {w : World} {sz : Nat} {P : Nat → Prop} {X : Wb} {c : Nat} {L : List Nat} {q8 : Option Addr} {c8 : Nat} {p1 : Option Addr} {n1 c1 k : Nat} {p2 : Option Addr} {n2 c2 : Nat} {V : World} (h : ES w sz P X c L q8 c8 p1 n1 c1 k p2 n2 c2 V) {W : World} (hb : Below V.heap.size V W) : W.cell? ⟨sz, 0, none⟩ = some (.slice p1 n1 c1) ∧ W.cell? ⟨sz, 1, none⟩ = some (.slice p2 n2 c2) ∧ W.cell? ⟨sz + 1, 0, none⟩ = some (.slice none 0 0) ∧ W.cell? ⟨sz + 1, 1, none⟩ = some (.slice none 0 0) ∧ (∀ o, W.frozen? ⟨sz, o, none⟩ = false) ∧ ∀ o, W.frozen? ⟨sz + 1, o, none⟩ = false := by
  have hz := h.z
  have h0 := (hb.block sz (by omega)).trans h.h0
  have h1 := (hb.block (sz + 1) (by omega)).trans h.h1
  exact ⟨cell_of_row _ _ _ _ _ _ h0, cell_of_row _ _ _ _ _ _ h0, cell_of_row _ _ _ _ _ _ h1, cell_of_row _ _ _ _ _ _ h1, fun o => by simp [World.frozen?, h0], fun o => by simp [World.frozen?, h1]⟩
theorem ES.wk {w : World} {sz : Nat} {P : Nat → Prop} {X : Wb} {c : Nat} {L : List Nat} {q8 : Option Addr} {c8 : Nat} {p1 : Option Addr} {n1 c1 k : Nat} {p2 : Option Addr} {n2 c2 : Nat} {V : World} (h : ES w sz P X c L q8 c8 p1 n1 c1 k p2 n2 c2 V) (hi : WI X) (hL : ∀ x ∈ L, x < 128) (hk : k < L.length) {W : World} (hb : Below V.heap.size V W) : Calls Try.prog 38 #[.agg #[.slice p1 n1 c1, .slice p2 n2 c2], .int .i64 L[k]] W fun e w' => ∃ p4 n4 c4, e = .returned (.agg #[.slice p1 n1 c1, .slice p4 n4 c4]) ∧ Below V.heap.size V w' ∧ ES w sz P X c L q8 c8 p1 n1 c1 (k + 1) p4 n4 c4 ((w'.setCell ⟨sz, 0, none⟩ (.slice p1 n1 c1)).setCell ⟨sz, 1, none⟩ (.slice p4 n4 c4)) := by
  have hT : ∀ x ∈ L.take k, x < 128 := fun x hx => hL x (List.mem_of_mem_take hx)
  have hY := (wakL_ok hi hT).1
  have SN : wakL X (L.take (k + 1)) = wakW (wakL X (L.take k)) L[k] := by rw [List.take_succ_eq_append_getElem hk, wakL_snoc]
  have hv := h.rv.below hb
  obtain ⟨⟨l, hl⟩, m, hm⟩ := hv
  have hm2 : WW W (fun x => (P x ∧ x < sz) ∨ sz + 2 ≤ x) (.slice p2 n2 c2) m (wakL X (L.take k)) := ⟨hm.gs, hm.mem, hm.up⟩
  refine (rwoken_any hm2 hY (hL _ (List.getElem_mem hk))).mono ?_
  rintro e w' ⟨q5, n5, c5, l', rfl, hW, hb2⟩
  have hz := h.z
  have hB := bl3 hb hb2
  refine ⟨q5, n5, c5, rfl, hB, es_put (bl3 h.bl hB) h.s (by have := hB.size; omega) ((hB.block sz (by omega)).trans h.h0) ((hB.block (sz + 1) (by omega)).trans h.h1) ?_ (h.ow.below hB)⟩
  rw [SN]
  have hW2 := hW.imp (Q := fun x => (P x ∧ x < sz) ∨ sz + 2 ≤ x) fun x _ hx => by
    rcases hx with hx | hx
    · exact hx
    · have := hb.size; exact Or.inr (by omega)
  exact ⟨⟨l, hl.below hb2⟩, l', ⟨hW2.gs, hW2.mem, hW2.up⟩⟩
theorem ES.fin {w : World} {sz : Nat} {P : Nat → Prop} {X : Wb} {c : Nat} {L : List Nat} {q8 : Option Addr} {c8 : Nat} {p1 : Option Addr} {n1 c1 k : Nat} {p2 : Option Addr} {n2 c2 : Nat} {V : World} (h : ES w sz P X c L q8 c8 p1 n1 c1 k p2 n2 c2 V) (hk : ¬ k < L.length) (x y : Value) : RV ((V.setCell ⟨sz + 1, 0, none⟩ x).setCell ⟨sz + 1, 1, none⟩ y) (fun x => P x ∨ w.heap.size ≤ x) (.slice p1 n1 c1) (.slice p2 n2 c2) (endW (wakL X L) c) ∧ OwnG KI ((V.setCell ⟨sz + 1, 0, none⟩ x).setCell ⟨sz + 1, 1, none⟩ y) w.heap.size (.slice q8 L.length c8) (nI L) ∧ Below w.heap.size w ((V.setCell ⟨sz + 1, 0, none⟩ x).setCell ⟨sz + 1, 1, none⟩ y) := by
  have hs := h.s
  have hne : ∀ z, ((P z ∧ z < sz) ∨ sz + 2 ≤ z) → z ≠ sz + 1 := fun z hz => by
    rcases hz with ⟨_, hz⟩ | hz <;> omega
  have hv := h.rv
  rw [List.take_of_length_le (by omega)] at hv
  refine ⟨((hv.set hne 0 x).set hne 1 y).imp fun z _ hz => ?_, (h.ow.far fun z hz' => ?_).low (by omega), (h.bl.setCell (by show w.heap.size ≤ sz + 1; omega) _).setCell (by show w.heap.size ≤ sz + 1; omega) _⟩
  · rcases hz with ⟨hz, _⟩ | hz
    · exact Or.inl hz
    · exact Or.inr (by omega)
  · have := (h.ow.lt hz').1
    rw [set_far (by omega), set_far (by omega)]
set_option maxRecDepth 100000 in
set_option maxHeartbeats 32000000 in
theorem rend_no {w : World} {P : Nat → Prop} {vr vw : Value} {X : Wb} (h : RV w P vr vw X) (hi : WI X) (t : Int) (h0 : endE X t ≠ 0) : Calls Try.prog 15 #[.agg #[vr, vw], .int .i64 t] w fun e w' => ReE w P (endX X t) (endC X t) (endL X t) (endE X t) e w' := by
  obtain ⟨⟨pr, nr, cr, rfl⟩, pw, nw, cw, rfl⟩ := h.forms
  have T := hid (TB.mk_ w (.slice pr nr cr) (.slice pw nw cw))
  have HV := hid (T.out.here h)
  have FR := hid (rfree_any HV.out hi t 0)
  have EC : Hid (endL X t = []) := by show _ = _; unfold endL; rw [if_neg h0]
  have EC2 : Hid (endC X t = 0) := by show _ = _; unfold endC; rw [if_neg h0]
  have EX : Hid (endX X t = X) := by show _ = _; unfold endX; rw [if_neg h0]
  rw [EC.out, EX.out, EC2.out]
  have h00 : clB 0 = true := rfl
  have HE : Hid (endE X t = if askE X t 0 = 0 then (if stk X t.toNat = [] then 4 else 0) else askE X t 0) := by
    show _ = _
    unfold endE askE
    rw [h00]
    cases tkB t <;> cases (X.w t.toNat).is <;> simp
  by_cases ha : askE X t 0 = 0
  · obtain ⟨h1, h2, h3⟩ := askE_ok ha
    obtain ⟨n, hn, hlt⟩ := tk_nat h1
    subst hn
    rw [if_pos ha, show ((n : Int)).toNat = n from rfl] at HE
    have hs : stk X n = [] := Classical.byContradiction fun q => h0 (by rw [HE.out, if_neg q])
    have E1 : Hid (endE X n = 4) := by show _ = _; rw [HE.out, if_pos hs]
    rw [E1.out]
    rw [ha] at FR
    have SK : Hid (∀ (W : World) (Q : Nat → Prop), RV W Q (.slice pr nr cr) (.slice pw nw cw) X → Calls Try.prog 26 #[.agg #[.slice pr nr cr, .slice pw nw cw], .int .i64 n] W fun e w' => ∃ q c, e = .returned (.slice q 0 c) ∧ Below W.heap.size W w') := fun W Q k => (rstack_rv k hi n).mono fun _ _ ⟨q, n', c, h0, hg, hb⟩ => ⟨q, c, by rw [h0, hg.cells.1, hs]; rfl, hb⟩
    clear h hi E1 EC EC2 EX HE h0 h00 ha h1 h2 h3 hs
    go_enter Try.func15, Try.ntmps15
    go_upto_region 1 with fail
    obtain ⟨w2, hw2⟩ : ∃ w2, w2 = ((w.alloc (.cells #[.slice pr nr cr, .slice pw nw cw] 29)).alloc (.cells #[.slice none 0 0, .slice none 0 0] 29)) := ⟨_, rfl⟩
    rw [← hw2] at T HV FR ⊢
    obtain ⟨sz, hsz⟩ : ∃ sz, sz = w.heap.size := ⟨_, rfl⟩
    rw [← hsz] at T ⊢
    obtain ⟨d0, d1, d2, d3, f1, f2⟩ := T.out.at (Below.refl _ _)
    clear hw2 hsz
    go_wp2_with (first | (go_at_call 34; refine FR.out.mono ?_; rintro e w3 ⟨rfl, hb3⟩; obtain ⟨c0, c1, c2, c3, c4, c5⟩ := T.out.at hb3; have B3 := hid hb3; clear hb3) | (go_at_call 26; refine (SK.out _ _ (HV.out.below B3.out)).mono ?_; rintro e w5 ⟨q5, cc5, rfl, hb5⟩; obtain ⟨z0, z1, x2, x3, x4, x5⟩ := T.out.at (bl3 B3.out hb5); have FN := hid (T.out.fin (bl3 B3.out hb5) (HV.out.below (bl3 B3.out hb5))); clear hb5))
    refine bodyPost_ret (v := .tuple #[.agg #[.slice pr nr cr, .slice pw nw cw], .int .i64 0, .slice none 0 0, .int .i64 4]) (by simp [results, Try.results15, go_sem, x2, x3]) rfl ?_
    exact ⟨_, _, _, _, _, _, _, _, rfl, (FN.out _ _).1, OwnG.nil _ _ _, (FN.out _ _).2⟩
  · have E1 : Hid (endE X t = askE X t 0) := by show _ = _; rw [HE.out, if_neg ha]
    rw [E1.out]
    have hb : (askE X t 0 != 0) = true := by simpa using ha
    generalize askE X t 0 = ae at *
    clear h hi E1 EC EC2 EX HE h0 h00
    go_enter Try.func15, Try.ntmps15
    go_upto_region 1 with fail
    obtain ⟨w2, hw2⟩ : ∃ w2, w2 = ((w.alloc (.cells #[.slice pr nr cr, .slice pw nw cw] 29)).alloc (.cells #[.slice none 0 0, .slice none 0 0] 29)) := ⟨_, rfl⟩
    rw [← hw2] at T HV FR ⊢
    obtain ⟨sz, hsz⟩ : ∃ sz, sz = w.heap.size := ⟨_, rfl⟩
    rw [← hsz] at T ⊢
    obtain ⟨d0, d1, d2, d3, f1, f2⟩ := T.out.at (Below.refl _ _)
    clear hw2 hsz
    go_wp2_with (go_at_call 34; refine FR.out.mono ?_; rintro e w3 ⟨rfl, hb3⟩; obtain ⟨c0, c1, x2, x3, x4, x5⟩ := T.out.at hb3; have FN := hid (T.out.fin hb3 (HV.out.below hb3)); clear hb3)
    refine bodyPost_ret (v := .tuple #[.agg #[.slice pr nr cr, .slice pw nw cw], .int .i64 0, .slice none 0 0, .int .i64 ae]) (by simp [results, Try.results15, go_sem, x2, x3]) rfl ?_
    exact ⟨_, _, _, _, _, _, _, _, rfl, (FN.out _ _).1, OwnG.nil _ _ _, (FN.out _ _).2⟩
end Go.Proofs.Ytkhcinpcoabphaa
