/- Depend: the document's Wait. -/
import Derived.Test.YtkhcinpcoabphaaDr8
namespace Go.Proofs.Ytkhcinpcoabphaa
open Go.RowKit

theorem WW.snoc {w : World} {Q : Nat → Prop} {vw vw' : Value} {l : List Wa} {X : Wb} (h : WW w Q vw l X) (hi : WI X) {t c : Nat} (ht : t < 128) (hw : (X.w t).is = false) {w' : World} {Q' : Nat → Prop} (hg : GP KA w' Q' vw' (l ++ [⟨t, c⟩])) : WW w' Q' vw' (l ++ [⟨t, c⟩]) (waiW X t c) := by
  have hne : ∀ a ∈ l, a.t ≠ t := fun a ha e => by
    have := ((h.mem a.t a.c).1 ha).1
    rw [e, hw] at this
    cases this
  refine ⟨hg, fun t' c' => ?_, ?_⟩
  · rw [List.mem_append, List.mem_singleton, h.mem, waiW_w hi ht]
    by_cases e : t' = t
    · subst e
      rw [if_pos rfl, hw]
      simp [eq_comm]
    · rw [if_neg e]; simp [e]
  · refine List.pairwise_append.2 ⟨h.up.imp_of_mem fun {a b} ha hb hlt => ?_, List.pairwise_singleton _ _, fun a ha b hb => ?_⟩
    · rw [waiW_w hi ht, if_neg (hne a ha), waiW_w hi ht, if_neg (hne b hb)]; exact hlt
    · rw [List.mem_singleton] at hb
      subst hb
      rw [waiW_w hi ht, if_neg (hne a ha), waiW_w hi ht, if_pos rfl]
      have := (hi.wm a.t ((h.mem a.t a.c).1 ha).1).1
      show _ < X.made + 1
      omega
/-- What the document's Wait answers. -/
def ReW (w : World) (P : Nat → Prop) (X : Wb) (L : List Nat) (r : Int) (e : Ending) (w' : World) : Prop := ∃ p1 n1 c1 p2 n2 c2 q cc, e = .returned (.tuple #[.agg #[.slice p1 n1 c1, .slice p2 n2 c2], .slice q L.length cc, .int .i64 r]) ∧ RV w' (fun x => P x ∨ w.heap.size ≤ x) (.slice p1 n1 c1) (.slice p2 n2 c2) X ∧ OwnG KI w' w.heap.size (.slice q L.length cc) (nI L) ∧ Below w.heap.size w w'
theorem TB.own {w : World} {sz : Nat} {a b : Value} {w2 : World} (h : TB w sz a b w2) {W : World} {α : Type} {K : RK α} {base : Nat} (hz : w2.heap.size ≤ base) {v : Value} {l : List α} (ho : OwnG K W base v l) (x y : Value) : OwnG K ((W.setCell ⟨sz + 1, 0, none⟩ x).setCell ⟨sz + 1, 1, none⟩ y) w.heap.size v l := by
  have h1 := h.z
  have h2 := h.s
  refine (ho.far fun z hz' => ?_).low (by omega)
  have := (ho.lt hz').1
  rw [set_far (by omega), set_far (by omega)]
theorem TB.fin3 {w : World} {sz : Nat} {a b : Value} {w2 : World} (h : TB w sz a b w2) {W : World} (hb : Below w2.heap.size w2 W) {P : Nat → Prop} {vr vw : Value} {X : Wb} (hv : RV W (fun x => (P x ∧ x < w.heap.size) ∨ w2.heap.size ≤ x) vr vw X) (u x y : Value) : RV (((W.setCell ⟨sz, 1, none⟩ u).setCell ⟨sz + 1, 0, none⟩ x).setCell ⟨sz + 1, 1, none⟩ y) (fun x => P x ∨ w.heap.size ≤ x) vr vw X ∧ Below w.heap.size w (((W.setCell ⟨sz, 1, none⟩ u).setCell ⟨sz + 1, 0, none⟩ x).setCell ⟨sz + 1, 1, none⟩ y) := by
  have h1 := h.z
  have h2 := h.s
  have hne : ∀ z, ((P z ∧ z < w.heap.size) ∨ w2.heap.size ≤ z) → z ≠ sz + 1 := fun z hz => by
    rcases hz with ⟨_, hz⟩ | hz <;> omega
  have hne0 : ∀ z, ((P z ∧ z < w.heap.size) ∨ w2.heap.size ≤ z) → z ≠ sz := fun z hz => by
    rcases hz with ⟨_, hz⟩ | hz <;> omega
  refine ⟨(((hv.set hne0 1 u).set hne 0 x).set hne 1 y).imp fun z _ hz => ?_, (((bl3 h.bl hb).setCell (by show w.heap.size ≤ sz; omega) _).setCell (by show w.heap.size ≤ sz + 1; omega) _).setCell (by show w.heap.size ≤ sz + 1; omega) _⟩
  rcases hz with ⟨hz, _⟩ | hz
  · exact Or.inl hz
  · exact Or.inr (by omega)
set_option maxRecDepth 100000 in
set_option maxHeartbeats 32000000 in
theorem rwait_any {w : World} {P : Nat → Prop} {vr vw : Value} {X : Wb} (h : RV w P vr vw X) (hi : WI X) (t c : Int) : Calls Try.prog 17 #[.agg #[vr, vw], .int .i64 t, .int .i64 c] w fun e w' => ReW w P (wtX X t c) (wtL X t c) (wtE X t c) e w' := by
  obtain ⟨⟨pr, nr, cr, rfl⟩, pw, nw, cw, rfl⟩ := h.forms
  have T := hid (TB.mk_ w (.slice pr nr cr) (.slice pw nw cw))
  have HV := hid (T.out.here h)
  have FR := hid (rfree_any HV.out hi t c)
  by_cases ha : askE X t c = 0
  · obtain ⟨h1, h2, h3⟩ := askE_ok ha
    obtain ⟨n, hn, hlt⟩ := tk_nat h1
    obtain ⟨m, hm, hlm⟩ := cl_nat h2
    subst hn hm
    rw [show ((n : Int)).toNat = n from rfl] at h3
    have RN : Hid (∀ (W : World) (Q : Nat → Prop), RV W Q (.slice pr nr cr) (.slice pw nw cw) X → Calls Try.prog 27 #[.agg #[.slice pr nr cr, .slice pw nw cw], .int .i64 m] W fun e w' => e = .returned (.tuple #[.int .i64 (X.r m).to, .bool (X.r m).is]) ∧ Below W.heap.size W w') := fun W Q k => rrunner_rv k hi m
    have CI : Hid (∀ (W : World) (Q : Nat → Prop), RV W Q (.slice pr nr cr) (.slice pw nw cw) X → Calls Try.prog 39 #[.agg #[.slice pr nr cr, .slice pw nw cw], .int .i64 n, .int .i64 m] W fun e w' => ∃ q cc, e = .returned (.slice q (cirW X n m).length cc) ∧ OwnG KI w' W.heap.size (.slice q (cirW X n m).length cc) (nI (cirW X n m)) ∧ Below W.heap.size W w') := fun W Q k => rcircleW_any k hi hlm h3
    rw [ha] at FR
    have HE : Hid (wtE X n m = if (X.r m).is then (if cirW X n m = [] then 0 else 140) else 4) := by show _ = _; unfold wtE; rw [if_pos ha]; rfl
    cases hr : (X.r m).is with
    | false =>
      rw [hr] at HE RN
      have E1 : Hid (wtE X n m = 4) := HE.out
      have E2 : Hid (wtX X n m = X) := by show _ = _; unfold wtX; rw [E1.out]; rfl
      have E3 : Hid (wtL X n m = []) := by show _ = _; unfold wtL; rw [E1.out]; rfl
      rw [E1.out, E2.out, E3.out]
      generalize (X.r m).to = r0 at *
      clear h hi E1 E2 E3 HE ha h1 h2 h3 hr CI
      go_enter Try.func17, Try.ntmps17
      go_upto_region 1 with fail
      obtain ⟨w2, hw2⟩ : ∃ w2, w2 = ((w.alloc (.cells #[.slice pr nr cr, .slice pw nw cw] 29)).alloc (.cells #[.slice none 0 0, .slice none 0 0] 29)) := ⟨_, rfl⟩
      rw [← hw2] at T HV FR ⊢
      obtain ⟨sz, hsz⟩ : ∃ sz, sz = w.heap.size := ⟨_, rfl⟩
      rw [← hsz] at T ⊢
      obtain ⟨d0, d1, d2, d3, f1, f2⟩ := T.out.at (Below.refl _ _)
      clear hw2 hsz
      go_wp2_with (first | (go_at_call 34; refine FR.out.mono ?_; rintro e w3 ⟨rfl, hb3⟩; obtain ⟨c0, c1, c2, c3, c4, c5⟩ := T.out.at hb3; have B3 := hid hb3; clear hb3) | (go_at_call 27; refine (RN.out _ _ (HV.out.below B3.out)).mono ?_; rintro e w4 ⟨rfl, hb4⟩; obtain ⟨y0, y1, x2, x3, x4, x5⟩ := T.out.at (bl3 B3.out hb4); have FN := hid (T.out.fin (bl3 B3.out hb4) (HV.out.below (bl3 B3.out hb4))); clear hb4))
      refine bodyPost_ret (v := .tuple #[.agg #[.slice pr nr cr, .slice pw nw cw], .slice none 0 0, .int .i64 4]) (by simp [results, Try.results17, go_sem, x2, x3]) rfl ?_
      exact ⟨_, _, _, _, _, _, _, _, rfl, (FN.out _ _).1, OwnG.nil _ _ _, (FN.out _ _).2⟩
    | true =>
      rw [hr] at HE RN
      by_cases hc : cirW X n m = []
      · have E1 : Hid (wtE X n m = 0) := by show _ = _; rw [HE.out, if_pos rfl, if_pos hc]
        have E2 : Hid (wtX X n m = waiW X n m) := by show _ = _; unfold wtX; rw [if_pos E1.out]; rfl
        have E3 : Hid (wtL X n m = []) := by show _ = _; unfold wtL; rw [E1.out]; rfl
        rw [E1.out, E2.out, E3.out]
        rw [hc] at CI
        obtain ⟨M, hM⟩ := h.ww
        obtain ⟨pw', cw', e⟩ := hM.gs.gs.form
        injection e with e1 e2 e3
        subst e1 e2 e3
        have HW := hid hM
        have hMl := hM.len hi
        have L1 : Hid ((([] : List Wa).length + M.length) * KA.B ≤ 140737488355328) := by
          show (0 + M.length) * 16 ≤ _
          omega
        have L2 : Hid ((M.length + 1) * KA.B ≤ 140737488355328) := by
          show (M.length + 1) * 16 ≤ _
          omega
        have SN : Hid (∀ (W : World) (Q : Nat → Prop) (v : Value), RV W Q (.slice pr nr cr) (.slice pw M.length cw) X → GP KA W Q v (M ++ [⟨n, m⟩]) → RV W Q (.slice pr nr cr) v (waiW X n m)) := fun W Q v k hg => by
          obtain ⟨l, hl⟩ := k.rr
          exact ⟨⟨l, hl⟩, _, hM.snoc hi hlt h3 hg⟩
        generalize (X.r m).to = r0 at *
        clear h hi E1 E2 E3 HE ha h1 h2 h3 hr hc hM hMl hlt hlm
        go_enter Try.func17, Try.ntmps17
        go_upto_region 1 with fail
        obtain ⟨w2, hw2⟩ : ∃ w2, w2 = ((w.alloc (.cells #[.slice pr nr cr, .slice pw M.length cw] 29)).alloc (.cells #[.slice none 0 0, .slice none 0 0] 29)) := ⟨_, rfl⟩
        rw [← hw2] at T HV FR ⊢
        obtain ⟨sz, hsz⟩ : ∃ sz, sz = w.heap.size := ⟨_, rfl⟩
        rw [← hsz] at T ⊢
        obtain ⟨d0, d1, d2, d3, f1, f2⟩ := T.out.at (Below.refl _ _)
        clear hw2 hsz
        go_upto_region 10 with (first | (go_at_call 34; refine FR.out.mono ?_; rintro e w3 ⟨rfl, hb3⟩; obtain ⟨c0, c1, c2, c3, c4, c5⟩ := T.out.at hb3; have B3 := hid hb3; clear hb3) | (go_at_call 27; refine (RN.out _ _ (HV.out.below B3.out)).mono ?_; rintro e w4 ⟨rfl, hb4⟩; obtain ⟨y0, y1, y2, y3, y4, y5⟩ := T.out.at (bl3 B3.out hb4); have B4 := hid (bl3 B3.out hb4); clear hb4) | (go_at_call 39; refine (CI.out _ _ (HV.out.below B4.out)).mono ?_; rintro e w5 ⟨q5, cc5, rfl, _, hb5⟩; obtain ⟨z0, z1, z2, z3, z4, z5⟩ := T.out.at (bl3 B4.out hb5); have B5 := hid (bl3 B4.out hb5); clear hb5))
        have HG5 := hid (HW.out.gs.gs.below (bl3 T.out.bl B5.out))
        have A0 := hid (ap_of KA w5 (.cells #[] 39) _ _ HG5.out)
        have B6 : Hid (Below w5.heap.size w5 (w5.alloc (.cells #[] 39))) := bal _ _
        obtain ⟨v0, v1, _⟩ := T.out.at (bl3 B5.out B6.out)
        clear B3 B4 c0 c1 c2 c3 c4 c5 y0 y1 y2 y3 y4 y5 d0 d1 d2 d3 f1 f2 FR RN CI A0
        go_wp2_with (at_builtin; first
          | (refine append_gs KA KA_ok rfl (.tmp 39) (.tmp 41) 27 rfl w5.heap.size Try.underlying27 _ _ (.slice pw M.length cw) [] M rfl rfl (OwnG.empty KA w5) (HG5.out.below (bal _ _)) L1.out (bal w5 _).size ?_; intro v8 w8 o8 b8 q8; rw [List.nil_append] at o8; obtain ⟨p8, c8, hv8, _⟩ := o8.form; subst hv8; have O8 := hid o8; have B8 : Hid (Below w5.heap.size w5 w8) := B6.out.trans b8; obtain ⟨y0, y1, y2, y3, y4, y5⟩ := T.out.at (bl3 B5.out B8.out); clear o8 b8 q8)
          | (refine append_g KA KA_ok rfl (.tmp 42) (.tmp 46) 27 rfl w5.heap.size Try.underlying27 w8 _ _ (.slice p8 M.length c8) M ⟨n, m⟩ _ rfl O8.out w8.heap.size rfl rfl rfl L2.out B8.out.size ?_; intro g9 c9 w9 o9 b9 _ _; have B9 : Hid (Below w2.heap.size w2 w9) := bl3 B5.out (B8.out.trans b9); have FN := hid (T.out.fin3 B9.out (SN.out _ _ _ (HV.out.below B9.out) (GP.of_own KA_ok.len o9 (P := fun x => (P x ∧ x < w.heap.size) ∨ w2.heap.size ≤ x) fun x hx => Or.inr (Nat.le_trans B5.out.size hx))) (.slice (some ⟨g9, 0, none⟩) (M.length + 1) c9)); obtain ⟨u0, u1, x2, x3, u4, u5⟩ := T.out.at B9.out; clear o9 b9))
        refine bodyPost_ret (v := .tuple #[.agg #[.slice pr nr cr, .slice (some ⟨g9, 0, none⟩) (M.length + 1) c9], .slice none 0 0, .int .i64 0]) (by simp [results, Try.results17, go_sem, x2, x3]) rfl ?_
        exact ⟨_, _, _, _, _, _, _, _, rfl, (FN.out _ _).1, OwnG.nil _ _ _, (FN.out _ _).2⟩
      · have E1 : Hid (wtE X n m = 140) := by show _ = _; rw [HE.out, if_pos rfl, if_neg hc]
        have E2 : Hid (wtX X n m = X) := by show _ = _; unfold wtX; rw [E1.out]; rfl
        have E3 : Hid (wtL X n m = cirW X n m) := by show _ = _; unfold wtL; rw [E1.out]; rfl
        rw [E1.out, E2.out, E3.out]
        have hcl : (0 : Int) < (cirW X n m).length := by have := List.length_pos_iff.2 hc; omega
        generalize (X.r m).to = r0 at *
        generalize cirW X n m = L at *
        clear h hi E1 E2 E3 HE ha h1 h2 h3 hr hc
        go_enter Try.func17, Try.ntmps17
        go_upto_region 1 with fail
        obtain ⟨w2, hw2⟩ : ∃ w2, w2 = ((w.alloc (.cells #[.slice pr nr cr, .slice pw nw cw] 29)).alloc (.cells #[.slice none 0 0, .slice none 0 0] 29)) := ⟨_, rfl⟩
        rw [← hw2] at T HV FR ⊢
        obtain ⟨sz, hsz⟩ : ∃ sz, sz = w.heap.size := ⟨_, rfl⟩
        rw [← hsz] at T ⊢
        obtain ⟨d0, d1, d2, d3, f1, f2⟩ := T.out.at (Below.refl _ _)
        clear hw2 hsz
        go_wp2_with (first | (go_at_call 34; refine FR.out.mono ?_; rintro e w3 ⟨rfl, hb3⟩; obtain ⟨c0, c1, c2, c3, c4, c5⟩ := T.out.at hb3; have B3 := hid hb3; clear hb3) | (go_at_call 27; refine (RN.out _ _ (HV.out.below B3.out)).mono ?_; rintro e w4 ⟨rfl, hb4⟩; obtain ⟨y0, y1, y2, y3, y4, y5⟩ := T.out.at (bl3 B3.out hb4); have B4 := hid (bl3 B3.out hb4); clear hb4) | (go_at_call 39; refine (CI.out _ _ (HV.out.below B4.out)).mono ?_; rintro e w5 ⟨q5, cc5, rfl, ho5, hb5⟩; obtain ⟨z0, z1, x2, x3, x4, x5⟩ := T.out.at (bl3 B4.out hb5); have FN := hid (T.out.fin (bl3 B4.out hb5) (HV.out.below (bl3 B4.out hb5))); have OW := hid (T.out.own B4.out.size ho5); clear hb5 ho5))
        refine bodyPost_ret (v := .tuple #[.agg #[.slice pr nr cr, .slice pw nw cw], .slice q5 L.length cc5, .int .i64 140]) (by simp [results, Try.results17, go_sem, x2, x3]) rfl ?_
        exact ⟨_, _, _, _, _, _, _, _, rfl, (FN.out _ _).1, OW.out _ _, (FN.out _ _).2⟩
  · have E1 : Hid (wtE X t c = askE X t c) := by show _ = _; unfold wtE; rw [if_neg ha]
    have E2 : Hid (wtX X t c = X) := by show _ = _; unfold wtX; rw [E1.out, if_neg ha]
    have E3 : Hid (wtL X t c = []) := by
      show _ = _; unfold wtL; rw [E1.out, if_neg]
      unfold askE
      cases tkB t <;> cases clB c <;> cases (X.w t.toNat).is <;> simp
    rw [E1.out, E2.out, E3.out]
    have hb : (askE X t c != 0) = true := by simpa using ha
    generalize askE X t c = ae at *
    clear h hi E1 E2 E3
    go_enter Try.func17, Try.ntmps17
    go_upto_region 1 with fail
    obtain ⟨w2, hw2⟩ : ∃ w2, w2 = ((w.alloc (.cells #[.slice pr nr cr, .slice pw nw cw] 29)).alloc (.cells #[.slice none 0 0, .slice none 0 0] 29)) := ⟨_, rfl⟩
    rw [← hw2] at T HV FR ⊢
    obtain ⟨sz, hsz⟩ : ∃ sz, sz = w.heap.size := ⟨_, rfl⟩
    rw [← hsz] at T ⊢
    obtain ⟨d0, d1, d2, d3, f1, f2⟩ := T.out.at (Below.refl _ _)
    clear hw2 hsz
    go_wp2_with (go_at_call 34; refine FR.out.mono ?_; rintro e w3 ⟨rfl, hb3⟩; obtain ⟨c0, c1, x2, x3, x4, x5⟩ := T.out.at hb3; have FN := hid (T.out.fin hb3 (HV.out.below hb3)); clear hb3)
    refine bodyPost_ret (v := .tuple #[.agg #[.slice pr nr cr, .slice pw nw cw], .slice none 0 0, .int .i64 ae]) (by simp [results, Try.results17, go_sem, x2, x3]) rfl ?_
    exact ⟨_, _, _, _, _, _, _, _, rfl, (FN.out _ _).1, OwnG.nil _ _ _, (FN.out _ _).2⟩
end Go.Proofs.Ytkhcinpcoabphaa
