/- Depend: the law's step: Ask, the clones. -/
import Derived.Test.YtkhcinpcoabphaaDs6
namespace Go.Proofs.Ytkhcinpcoabphaa
open Go.RowKit

theorem askL_len {X : Wb} (h : WI X) (t c : Int) : (askL X t c).length ≤ 256 := by
  unfold askL
  split
  · rename_i e
    obtain ⟨_, h2, _⟩ := askE_ok e
    exact cirW_len h (cl_lt h2)
  · simp
set_option maxRecDepth 100000 in
set_option maxHeartbeats 64000000 in
theorem step_ask {w0 w : World} {b : Nat} {X : Wb} {m : Nat} (h : PW w0 w b X m) {vr vw : Value} (hv : RV w (fun x => x ≠ b) vr vw X) (x : Ca) (hk : amF x.k 7 = 2) : Calls Try.prog 6 #[.pointer (some ⟨b, 0, none⟩), .agg #[vr, vw], .agg #[.int .i64 x.k, .int .i64 x.t, .int .i64 x.c]] w fun e w' => StO w0 w b m e w' := by
  obtain ⟨⟨pr, nr, cr, rfl⟩, pw, nw, cw, rfl⟩ := hv.forms
  have T := hid (T3.mk_ h.lt (.slice pr nr cr) (.slice pw nw cw) x)
  have AM := hid (fun W => among_any x.k 7 ⟨by omega, by omega⟩ W)
  rw [hk] at AM
  have LL : (askL X x.t x.c).length ≤ 256 := askL_len h.wi x.t x.c
  have PB : Hid (∀ W, But (fun y => y = b) w W → PW w0 W b X m → Calls Try.prog 10 #[.pointer (some ⟨b, 0, none⟩), .int .i64 x.t, .int .i64 x.c] W fun e w' => ∃ q cc, e = .returned (.tuple #[.slice q (askL X x.t x.c).length cc, .int .i64 (askE X x.t x.c)]) ∧ OwnG KI w' W.heap.size (.slice q (askL X x.t x.c).length cc) (nI (askL X x.t x.c)) ∧ PW w0 w' b X (m + 1) ∧ But (fun y => y = b) W w') := fun W _ hp => (ask_pw hp x.t x.c).mono fun _ _ ⟨q, cc, h0, h1, h2, h3⟩ => ⟨q, cc, h0, h1, h2.up (Nat.le_succ _), But.of_below h3⟩
  have HR : Hid (∀ W, But (fun y => y = b) w W → RV W (fun y => y ≠ b ∧ y < w.heap.size) (.slice pr nr cr) (.slice pw nw cw) X) := fun W hb => hv.now.but (fun y hy => hy.1) hb
  have RB : Hid (∀ W, But (fun y => y = b) w W → Calls Try.prog 16 #[.agg #[.slice pr nr cr, .slice pw nw cw], .int .i64 x.t, .int .i64 x.c] W fun e w' => ∃ q cc, e = .returned (.tuple #[.slice q (askL X x.t x.c).length cc, .int .i64 (askE X x.t x.c)]) ∧ OwnG KI w' W.heap.size (.slice q (askL X x.t x.c).length cc) (nI (askL X x.t x.c)) ∧ Below W.heap.size W w') := fun W hb => rask_any (HR.out W hb) h.wi x.t x.c
  have IN : Hid (∀ (W : World) (v u : Value), GS KI W v (nI (askL X x.t x.c)) → GS KI W u (nI (askL X x.t x.c)) → Calls Try.prog 11 #[v, u] W fun e w' => e = .returned (.bool true) ∧ Below W.heap.size W w') := fun W v u h1 h2 => by
    have := ints_any W v u (nI (askL X x.t x.c)) (nI (askL X x.t x.c)) h1 h2 (by rw [nI_len]; omega)
    rw [decide_eq_true rfl] at this
    exact this
  have HP := hid h
  generalize (askE X x.t x.c) = r at *
  obtain ⟨NL, hNL⟩ : ∃ NL, NL = nI (askL X x.t x.c) := ⟨_, rfl⟩
  have HNL : Hid (NL.length = (askL X x.t x.c).length) := by show _ = _; rw [hNL, nI_len]
  rw [← hNL] at PB RB IN
  generalize (askL X x.t x.c).length = ln at *
  try generalize endC X x.t = ec at *
  clear h hv hk hNL
  go_enter Try.func6, Try.ntmps6
  go_upto_region 1 with fail
  obtain ⟨w3, hw3⟩ : ∃ w3, w3 = (((w.alloc (.cells #[.slice pr nr cr, .slice pw nw cw] 29)).alloc (.cells #[.int .i64 x.k, .int .i64 x.t, .int .i64 x.c] 31)).alloc (.cells #[.slice none 0 0, .slice none 0 0] 29)) := ⟨_, rfl⟩
  rw [← hw3] at T ⊢
  have P3 : Hid (PW w0 w3 b X m) := by rw [hw3]; exact HP.out.below (bl3 (bal _ _) (bl3 (bal _ _) (bal _ _)))
  obtain ⟨sz, hsz⟩ : ∃ sz, sz = w.heap.size := ⟨_, rfl⟩
  rw [← hsz] at T HR ⊢
  obtain ⟨⟨d0, d1⟩, ⟨d2, d3, d4⟩, ⟨d5, d6⟩, f1, f2⟩ := T.out.at
  clear hw3 hsz
  go_wp2_with (first | (go_at_call 12; refine (AM.out _).mono ?_; rintro e w' ⟨rfl, hw⟩; rw [hw]; clear hw) | (go_at_call 10; refine (PB.out _ T.out.bl P3.out).mono ?_; rintro e w4 ⟨q4, cc4, rfl, ho4, hp4, hb4⟩; have O4 := hid (ho4.low T.out.z); have G4 : Hid (∀ y, q4 = some ⟨y, 0, none⟩ → y < w4.heap.size) := (fun y hy => (ho4.lt (by rw [hy]; simp [Value.ownBlock])).2); have P4 := hid hp4; have T4 := hid (T.out.but hb4); obtain ⟨⟨e0, e1⟩, ⟨e2, e3, e4⟩, ⟨e5, e6⟩, f3, f4⟩ := T4.out.at; clear hp4 hb4 ho4) | (go_at_call 16; refine (RB.out _ T4.out.bl).mono ?_; rintro e w5 ⟨q5, cc5, rfl, hg5, hb5⟩; have T5 := hid (T4.out.but (But.of_below hb5)); have K5 := hid (SC.mk T5.out (P4.out.below hb5) ((HR.out _ T5.out.bl).imp fun y _ hy => (Or.inl hy : _ ∨ w4.heap.size ≤ y)) T4.out.z ⟨NL, HNL.out, O4.out.below hb5⟩ G4.out); have SA := hid (And.intro ((O4.out.below hb5).gs KI_ok.len) (hg5.gs KI_ok.len)); obtain ⟨⟨g0, g1⟩, ⟨g2, g3, g4⟩, ⟨g5, g6⟩, f5, f6⟩ := T5.out.at; clear hb5 hg5) | (go_at_call 11; refine (IN.out _ _ _ SA.out.1 SA.out.2).mono ?_; rintro e w7 ⟨rfl, hb7⟩; have S7 := hid (K5.out.below hb7); clear hb7))
  go_loopw [154] (fun v wr => ∃ (k : Nat) (wk : World), k ≤ ln ∧ v = .int .i64 k ∧ wk = wr ∧ Hid (SC w0 w sz b w4.heap.size x X (m + 1) pr nr cr pw nw cw q4 ln cc4 wk)) (fun v _ => ln - (intOf v).toNat)
  case atStart => exact ⟨0, _, Nat.zero_le _, rfl, rfl, S7⟩
  case round =>
    obtain ⟨k, wr, hk, rfl, rfl, HS⟩ := hrel
    clear S7 K5 T T4 T5 SA
    by_cases hlt2 : k < ln
    · obtain ⟨g, s0, e, k3, k4, k5⟩ := HS.out.put hlt2
      subst e
      have D5 := hid k5
      have hki : (k : Int) < (ln : Nat) := by omega
      clear k5
      go_wp2
      go_roundw
      case rel => exact ⟨k + 1, _, by omega, by go_num, rfl, D5⟩
      case measure => simp [intOf]; omega
    · have hki : ¬ (k : Int) < (ln : Nat) := by omega
      have S0 := hid HS.out.sb
      have S8 : Hid (SB w0 w sz b x X (m + 1) pr nr cr pw nw cw wr.drew) := S0.out.below (drew_below _ 1)
      obtain ⟨⟨g0, g1⟩, _, ⟨g5, g6⟩, _, g7⟩ := S0.out.t.at
      obtain ⟨⟨k0, k1⟩, _, ⟨k5, k6⟩, _, k7⟩ := S8.out.t.at
      have F8 := hid (S8.out.t.fin S8.out.p S8.out.v)
      go_wp2_with fail
      go_region
      all_goals
        go_wp2_with fail
        refine bodyPost_ret (v := .tuple #[.pointer (some ⟨b, 0, none⟩), .agg #[.slice pr nr cr, .slice pw nw cw], .bool true]) (by simp [results, Try.results6, go_sem, g5, g6]) rfl ?_
        exact ⟨_, _, _, _, _, _, _, _, rfl, (F8.out _ _).1, (F8.out _ _).2.1, (F8.out _ _).2.2⟩
/-- The boxes stay where a clone is written. -/
theorem T3.butO {w : World} {sz b : Nat} {v1 v2 : Value} {x : Ca} {W W' : World} (h : T3 w sz b v1 v2 x W) {o : Nat} (ho : sz + 3 ≤ o) (k : But (fun x => x = o) W W') : T3 w sz b v1 v2 x W' := by
  have hz := h.z
  have hs := h.s
  have hl := h.lt
  exact ⟨h.s, h.lt, h.bl.trans k (fun y hy => Or.inr (by have hy : y = o := hy; omega)), Nat.le_trans hz k.size, (k.block _ (by omega) (by show ¬ _ = o; omega)).trans h.h0, (k.block _ (by omega) (by show ¬ _ = o; omega)).trans h.h1, (k.block _ (by omega) (by show ¬ _ = o; omega)).trans h.h2⟩
theorem PW.butO {w0 W W' : World} {b : Nat} {X : Wb} {m : Nat} (h : PW w0 W b X m) {o : Nat} (ho : b ≠ o) (hg : w0.heap.size ≤ o) (k : But (fun x => x = o) W W') : PW w0 W' b X m := ⟨h.wx.far (k.block _ h.lt ho), h.wi, h.ge, k.toB h.bl hg, h.md⟩
/-- What stands behind a clone. -/
structure SD (w0 w : World) (sz b b' : Nat) (x : Ca) (X : Wb) (m : Nat) (p1 : Option Addr) (n1 c1 : Nat) (p2 : Option Addr) (n2 c2 : Nat) (W : World) : Prop where
  t : T3 w sz b (.slice p1 n1 c1) (.slice p2 n2 c2) x W
  p : PW w0 W b' X m
  v : RV W (fun y => y ≠ b ∧ y < sz) (.slice p1 n1 c1) (.slice p2 n2 c2) X
  b : b' = b ∨ sz + 3 ≤ b'
  g : w0.heap.size ≤ sz
theorem SD.below {w0 w : World} {sz b b' : Nat} {x : Ca} {X : Wb} {m : Nat} {p1 : Option Addr} {n1 c1 : Nat} {p2 : Option Addr} {n2 c2 : Nat} {W W' : World} (h : SD w0 w sz b b' x X m p1 n1 c1 p2 n2 c2 W) (k : Below W.heap.size W W') : SD w0 w sz b b' x X m p1 n1 c1 p2 n2 c2 W' := ⟨h.t.but (But.of_below k), h.p.below k, h.v.below k, h.b, h.g⟩
theorem SD.fin {w0 w : World} {sz b b' : Nat} {x : Ca} {X : Wb} {m : Nat} {p1 : Option Addr} {n1 c1 : Nat} {p2 : Option Addr} {n2 c2 : Nat} {W : World} (h : SD w0 w sz b b' x X m p1 n1 c1 p2 n2 c2 W) (a c : Value) : PW w0 ((W.setCell ⟨sz + 2, 0, none⟩ a).setCell ⟨sz + 2, 1, none⟩ c) b' X m ∧ RV ((W.setCell ⟨sz + 2, 0, none⟩ a).setCell ⟨sz + 2, 1, none⟩ c) (fun y => y ≠ b') (.slice p1 n1 c1) (.slice p2 n2 c2) X ∧ But (fun y => y = b) w ((W.setCell ⟨sz + 2, 0, none⟩ a).setCell ⟨sz + 2, 1, none⟩ c) := by
  have hs := h.t.s
  have hl := h.t.lt
  have hb := h.b
  have hne : ∀ y, (y ≠ b ∧ y < sz) → y ≠ sz + 2 := fun y hy => by omega
  have hwz : w0.heap.size ≤ sz + 2 := by have := h.g; omega
  refine ⟨(h.p.set hwz (by rcases hb with e | e <;> omega) _ _).set hwz (by rcases hb with e | e <;> omega) _ _, ((h.v.set hne 0 a).set hne 1 c).imp fun y _ hy => ?_, ⟨by simp [World.setCell]; exact h.t.bl.os, by simp [World.setCell]; exact h.t.bl.tape, by simp [World.setCell]; exact h.t.bl.output, by simp [World.setCell]; exact h.t.bl.size, fun y hy hn => ?_⟩⟩
  · rcases hb with e | e
    · rw [e]; exact hy.1
    · omega
  · rw [set_far (by omega), set_far (by omega)]; exact h.t.bl.block y hy hn
set_option maxRecDepth 100000 in
set_option maxHeartbeats 64000000 in
theorem step_clone {w0 w : World} {b : Nat} {X : Wb} {m : Nat} (h : PW w0 w b X m) {vr vw : Value} (hv : RV w (fun x => x ≠ b) vr vw X) (x : Ca) (hk : amF x.k 7 = 5) : Calls Try.prog 6 #[.pointer (some ⟨b, 0, none⟩), .agg #[vr, vw], .agg #[.int .i64 x.k, .int .i64 x.t, .int .i64 x.c]] w fun e w' => StO w0 w b m e w' := by
  obtain ⟨⟨pr, nr, cr, rfl⟩, pw, nw, cw, rfl⟩ := hv.forms
  have T := hid (T3.mk_ h.lt (.slice pr nr cr) (.slice pw nw cw) x)
  have AM := hid (fun W => among_any x.k 7 ⟨by omega, by omega⟩ W)
  rw [hk] at AM
  have HR : Hid (∀ W, But (fun y => y = b) w W → RV W (fun y => y ≠ b ∧ y < w.heap.size) (.slice pr nr cr) (.slice pw nw cw) X) := fun W hb => hv.now.but (fun y hy => hy.1) hb
  have IN : Hid (∀ W : World, Calls Try.prog 11 #[.slice none 0 0, .slice none 0 0] W fun e w' => e = .returned (.bool true) ∧ Below W.heap.size W w') := fun W => by
    have := ints_any W (.slice none 0 0) (.slice none 0 0) [] [] (Or.inl ⟨Or.inl rfl, rfl⟩) (Or.inl ⟨Or.inl rfl, rfl⟩) (by simp)
    rw [decide_eq_true rfl] at this
    exact this
  have HP := hid h
  have GE : Hid (w0.heap.size ≤ w.heap.size) := h.bl.size
  have NB : b ≠ w.heap.size := by have := h.lt; omega
  clear h hv hk
  go_enter Try.func6, Try.ntmps6
  go_upto_region 1 with fail
  obtain ⟨w3, hw3⟩ : ∃ w3, w3 = (((w.alloc (.cells #[.slice pr nr cr, .slice pw nw cw] 29)).alloc (.cells #[.int .i64 x.k, .int .i64 x.t, .int .i64 x.c] 31)).alloc (.cells #[.slice none 0 0, .slice none 0 0] 29)) := ⟨_, rfl⟩
  rw [← hw3] at T ⊢
  have P3 : Hid (PW w0 w3 b X m) := by rw [hw3]; exact HP.out.below (bl3 (bal _ _) (bl3 (bal _ _) (bal _ _)))
  obtain ⟨sz, hsz⟩ : ∃ sz, sz = w.heap.size := ⟨_, rfl⟩
  rw [← hsz] at T HR GE ⊢
  obtain ⟨⟨d0, d1⟩, ⟨d2, d3, d4⟩, ⟨d5, d6⟩, f1, f2⟩ := T.out.at
  clear hw3 hsz NB
  have CL : Hid (Calls Try.prog 20 #[.pointer (some ⟨b, 0, none⟩)] w3 fun e w' => ∃ o, sz + 3 ≤ o ∧ b ≠ o ∧ e = .returned (.pointer (some ⟨o, 0, none⟩)) ∧ PW w0 w' o X m ∧ PW w0 w' b X m ∧ T3 w sz b (.slice pr nr cr) (.slice pw nw cw) x w') := (clone_pw P3.out).mono fun e w' ⟨h0, h1, h2⟩ => ⟨_, T.out.z, by have := P3.out.lt; omega, h0, h1, P3.out.below h2, T.out.but (But.of_below h2)⟩
  go_wp2_with (first | (go_at_call 12; refine (AM.out _).mono ?_; rintro e w' ⟨rfl, hw⟩; rw [hw]; clear hw) | (go_at_call 20; refine (CL.out).mono ?_; rintro e w4 ⟨o, hzo, hbo, rfl, hpo, hpb, ht4⟩; have ZO := hid hzo; have BO := hid hbo; have PO4 := hid hpo; have PB4 := hid hpb; have T4 := hid ht4; obtain ⟨⟨e0, e1⟩, ⟨e2, e3, e4⟩, ⟨e5, e6⟩, f3, f4⟩ := T4.out.at; clear hzo hbo hpo hpb ht4) | (go_at_call 11; refine (IN.out _).mono ?_; rintro e w9 ⟨rfl, hb9⟩; have S7 : Hid (SD w0 w sz b o x X (m + 1) pr nr cr pw nw cw w9) := (SD.mk T4.out (PO4.out.up (Nat.le_succ _)) (HR.out _ T4.out.bl) (Or.inr ZO.out) GE.out).below hb9; clear hb9))
  go_loopw [154] (fun v wr => v = .int .i64 0 ∧ ∃ wk, wk = wr ∧ Hid (SD w0 w sz b o x X (m + 1) pr nr cr pw nw cw wk)) (fun _ _ => 0)
  case atStart => exact ⟨rfl, _, rfl, S7⟩
  case round =>
    obtain ⟨rfl, wr, rfl, HS⟩ := hrel
    have S8 : Hid (SD w0 w sz b o x X (m + 1) pr nr cr pw nw cw wr.drew) := HS.out.below (drew_below _ 1)
    obtain ⟨⟨g0, g1⟩, _, ⟨g5, g6⟩, _, g7⟩ := HS.out.t.at
    obtain ⟨⟨k0, k1⟩, _, ⟨k5, k6⟩, _, k7⟩ := S8.out.t.at
    have F8 := hid S8.out.fin
    clear S7 T T4
    go_wp2_with fail
    go_region
    all_goals
      go_wp2_with fail
      refine bodyPost_ret (v := .tuple #[.pointer (some ⟨o, 0, none⟩), .agg #[.slice pr nr cr, .slice pw nw cw], .bool true]) (by simp [results, Try.results6, go_sem, g5, g6]) rfl ?_
      exact ⟨_, _, _, _, _, _, _, _, rfl, (F8.out _ _).1, (F8.out _ _).2.1, (F8.out _ _).2.2⟩
set_option maxRecDepth 100000 in
set_option maxHeartbeats 64000000 in
theorem step_let {w0 w : World} {b : Nat} {X : Wb} {m : Nat} (h : PW w0 w b X m) (hm : m ≤ 4611686018427387904) {vr vw : Value} (hv : RV w (fun x => x ≠ b) vr vw X) (x : Ca) (hk : amF x.k 7 = 6) : Calls Try.prog 6 #[.pointer (some ⟨b, 0, none⟩), .agg #[vr, vw], .agg #[.int .i64 x.k, .int .i64 x.t, .int .i64 x.c]] w fun e w' => StO w0 w b m e w' := by
  obtain ⟨⟨pr, nr, cr, rfl⟩, pw, nw, cw, rfl⟩ := hv.forms
  have T := hid (T3.mk_ h.lt (.slice pr nr cr) (.slice pw nw cw) x)
  have AM := hid (fun W => among_any x.k 7 ⟨by omega, by omega⟩ W)
  rw [hk] at AM
  have HM := hid hm
  have HR : Hid (∀ W, But (fun y => y = b) w W → RV W (fun y => y ≠ b ∧ y < w.heap.size) (.slice pr nr cr) (.slice pw nw cw) X) := fun W hb => hv.now.but (fun y hy => hy.1) hb
  have IN : Hid (∀ W : World, Calls Try.prog 11 #[.slice none 0 0, .slice none 0 0] W fun e w' => e = .returned (.bool true) ∧ Below W.heap.size W w') := fun W => by
    have := ints_any W (.slice none 0 0) (.slice none 0 0) [] [] (Or.inl ⟨Or.inl rfl, rfl⟩) (Or.inl ⟨Or.inl rfl, rfl⟩) (by simp)
    rw [decide_eq_true rfl] at this
    exact this
  have HP := hid h
  have GE : Hid (w0.heap.size ≤ w.heap.size) := h.bl.size
  have NB : b ≠ w.heap.size := by have := h.lt; omega
  clear h hv hk
  go_enter Try.func6, Try.ntmps6
  go_upto_region 1 with fail
  obtain ⟨w3, hw3⟩ : ∃ w3, w3 = (((w.alloc (.cells #[.slice pr nr cr, .slice pw nw cw] 29)).alloc (.cells #[.int .i64 x.k, .int .i64 x.t, .int .i64 x.c] 31)).alloc (.cells #[.slice none 0 0, .slice none 0 0] 29)) := ⟨_, rfl⟩
  rw [← hw3] at T ⊢
  have P3 : Hid (PW w0 w3 b X m) := by rw [hw3]; exact HP.out.below (bl3 (bal _ _) (bl3 (bal _ _) (bal _ _)))
  obtain ⟨sz, hsz⟩ : ∃ sz, sz = w.heap.size := ⟨_, rfl⟩
  rw [← hsz] at T HR GE ⊢
  obtain ⟨⟨d0, d1⟩, ⟨d2, d3, d4⟩, ⟨d5, d6⟩, f1, f2⟩ := T.out.at
  clear hw3 hsz NB
  have CL : Hid (Calls Try.prog 20 #[.pointer (some ⟨b, 0, none⟩)] w3 fun e w' => ∃ o, sz + 3 ≤ o ∧ b ≠ o ∧ e = .returned (.pointer (some ⟨o, 0, none⟩)) ∧ PW w0 w' o X m ∧ PW w0 w' b X m ∧ T3 w sz b (.slice pr nr cr) (.slice pw nw cw) x w') := (clone_pw P3.out).mono fun e w' ⟨h0, h1, h2⟩ => ⟨_, T.out.z, by have := P3.out.lt; omega, h0, h1, P3.out.below h2, T.out.but (But.of_below h2)⟩
  go_wp2_with (first | (go_at_call 12; refine (AM.out _).mono ?_; rintro e w' ⟨rfl, hw⟩; rw [hw]; clear hw) | (go_at_call 20; refine (CL.out).mono ?_; rintro e w4 ⟨o, hzo, hbo, rfl, hpo, hpb, ht4⟩; have ZO := hid hzo; have BO := hid hbo; have PO4 := hid hpo; have PB4 := hid hpb; have T4 := hid ht4; obtain ⟨⟨e0, e1⟩, ⟨e2, e3, e4⟩, ⟨e5, e6⟩, f3, f4⟩ := T4.out.at; clear hzo hbo hpo hpb ht4) | (go_at_call 8; refine (begin_pw PO4.out HM.out 3 200).mono ?_; rintro e w5 ⟨rfl, hp5, hb5⟩; have PO5 := hid hp5; have PB5 := hid (PB4.out.butO BO.out (Nat.le_trans GE.out (Nat.le_of_add_right_le ZO.out)) hb5); have T5 := hid (T4.out.butO ZO.out hb5); obtain ⟨_, ⟨_, g3, _⟩, _, _, _⟩ := T5.out.at; clear hp5 hb5) | (go_at_call 18; refine (wake_pw PO5.out x.t).mono ?_; rintro e w6 ⟨rfl, hp6, hb6⟩; have PO6 := hid hp6; have PB6 := hid (PB5.out.butO BO.out (Nat.le_trans GE.out (Nat.le_of_add_right_le ZO.out)) hb6); have T6 := hid (T5.out.butO ZO.out hb6); obtain ⟨_, ⟨_, g4, _⟩, _, _, _⟩ := T6.out.at; clear hp6 hb6) | (go_at_call 14; refine (end_pw PO6.out x.t).mono ?_; rintro e w7 ⟨q7, cc7, rfl, _, hp7, hb7⟩; have PB7 := hid (PB6.out.butO BO.out (Nat.le_trans GE.out (Nat.le_of_add_right_le ZO.out)) hb7); have T7 := hid (T6.out.butO ZO.out hb7); obtain ⟨_, ⟨_, _, _⟩, ⟨k5, k6⟩, _, _⟩ := T7.out.at; clear hp7 hb7) | (go_at_call 11; refine (IN.out _).mono ?_; rintro e w9 ⟨rfl, hb9⟩; have S7 : Hid (SD w0 w sz b b x X (m + 1) pr nr cr pw nw cw w9) := (SD.mk T7.out (PB7.out.up (Nat.le_succ _)) (HR.out _ T7.out.bl) (Or.inl rfl) GE.out).below hb9; clear hb9))
  go_loopw [154] (fun v wr => v = .int .i64 0 ∧ ∃ wk, wk = wr ∧ Hid (SD w0 w sz b b x X (m + 1) pr nr cr pw nw cw wk)) (fun _ _ => 0)
  case atStart => exact ⟨rfl, _, rfl, S7⟩
  case round =>
    obtain ⟨rfl, wr, rfl, HS⟩ := hrel
    have S8 : Hid (SD w0 w sz b b x X (m + 1) pr nr cr pw nw cw wr.drew) := HS.out.below (drew_below _ 1)
    obtain ⟨⟨g0, g1⟩, _, ⟨g5, g6⟩, _, g7⟩ := HS.out.t.at
    obtain ⟨⟨k0, k1⟩, _, ⟨k5, k6⟩, _, k7⟩ := S8.out.t.at
    have F8 := hid S8.out.fin
    clear S7 T T4
    go_wp2_with fail
    go_region
    all_goals
      go_wp2_with fail
      refine bodyPost_ret (v := .tuple #[.pointer (some ⟨b, 0, none⟩), .agg #[.slice pr nr cr, .slice pw nw cw], .bool true]) (by simp [results, Try.results6, go_sem, g5, g6]) rfl ?_
      exact ⟨_, _, _, _, _, _, _, _, rfl, (F8.out _ _).1, (F8.out _ _).2.1, (F8.out _ _).2.2⟩
theorem step_any {w0 w : World} {b : Nat} {X : Wb} {m : Nat} (h : PW w0 w b X m) (hm : m ≤ 4611686018427387904) {vr vw : Value} (hv : RV w (fun x => x ≠ b) vr vw X) (x : Ca) : Calls Try.prog 6 #[.pointer (some ⟨b, 0, none⟩), .agg #[vr, vw], .agg #[.int .i64 x.k, .int .i64 x.t, .int .i64 x.c]] w fun e w' => StO w0 w b m e w' := by
  have h7 := amF_bd x.k 7 (by omega)
  have hc : amF x.k 7 = 0 ∨ amF x.k 7 = 1 ∨ amF x.k 7 = 2 ∨ amF x.k 7 = 3 ∨ amF x.k 7 = 4 ∨ amF x.k 7 = 5 ∨ amF x.k 7 = 6 := by omega
  rcases hc with e | e | e | e | e | e | e
  · exact step_begin h hm hv x e
  · exact step_end h hv x e
  · exact step_ask h hv x e
  · exact step_wait h hm hv x e
  · exact step_wake h hv x e
  · exact step_clone h hv x e
  · exact step_let h hm hv x e
end Go.Proofs.Ytkhcinpcoabphaa
