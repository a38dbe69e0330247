/- Depend: the law's step: End, Ask, Wait: rows that are spoiled. -/
import Derived.Test.YtkhcinpcoabphaaDs5
namespace Go.Proofs.Ytkhcinpcoabphaa
open Go.RowKit

theorem wtL_len {X : Wb} (h : WI X) (t c : Int) : (wtL X t c).length ≤ 256 := by
  unfold wtL
  split
  · rename_i e
    by_cases ha : askE X t c = 0
    · obtain ⟨_, h2, _⟩ := askE_ok ha
      exact cirW_len h (cl_lt h2)
    · exfalso
      unfold wtE at e
      rw [if_neg ha] at e
      revert e
      unfold askE
      cases tkB t <;> cases clB c <;> cases (X.w t.toNat).is <;> simp
  · simp
/-- The same with a row of the program's, below z4, that may be spoiled. -/
structure SC (w0 w : World) (sz b z4 : Nat) (x : Ca) (X : Wb) (m : Nat) (p1 : Option Addr) (n1 c1 : Nat) (p2 : Option Addr) (n2 c2 : Nat) (q : Option Addr) (n c : Nat) (W : World) : Prop where
  t : T3 w sz b (.slice p1 n1 c1) (.slice p2 n2 c2) x W
  p : PW w0 W b X m
  v : RV W (fun y => (y ≠ b ∧ y < sz) ∨ z4 ≤ y) (.slice p1 n1 c1) (.slice p2 n2 c2) X
  z : sz + 3 ≤ z4
  r : ∃ l : List Int, l.length = n ∧ OwnG KI W (sz + 3) (.slice q n c) l
  g : ∀ y, q = some ⟨y, 0, none⟩ → y < z4
theorem SC.below {w0 w : World} {sz b z4 : Nat} {x : Ca} {X : Wb} {m : Nat} {p1 : Option Addr} {n1 c1 : Nat} {p2 : Option Addr} {n2 c2 : Nat} {q : Option Addr} {n c : Nat} {W W' : World} (h : SC w0 w sz b z4 x X m p1 n1 c1 p2 n2 c2 q n c W) (k : Below W.heap.size W W') : SC w0 w sz b z4 x X m p1 n1 c1 p2 n2 c2 q n c W' := by
  obtain ⟨l, hl, ho⟩ := h.r
  exact ⟨h.t.but (But.of_below k), h.p.below k, h.v.below k, h.z, ⟨l, hl, ho.below k⟩, h.g⟩
theorem SC.sb {w0 w : World} {sz b z4 : Nat} {x : Ca} {X : Wb} {m : Nat} {p1 : Option Addr} {n1 c1 : Nat} {p2 : Option Addr} {n2 c2 : Nat} {q : Option Addr} {n c : Nat} {W : World} (h : SC w0 w sz b z4 x X m p1 n1 c1 p2 n2 c2 q n c W) : SB w0 w sz b x X m p1 n1 c1 p2 n2 c2 W := by
  have hz := h.z
  exact ⟨h.t, h.p, h.v.imp fun y _ hy => by rcases hy with hy | hy; exact Or.inl hy; exact Or.inr (by omega)⟩
theorem T3.far {w : World} {sz b : Nat} {v1 v2 : Value} {x : Ca} {W : World} (h : T3 w sz b v1 v2 x W) {g : Nat} (hg : sz + 3 ≤ g) (o : Nat) (u : Value) : T3 w sz b v1 v2 x (W.setCell ⟨g, o, none⟩ u) := by
  have hs := h.s
  refine ⟨h.s, h.lt, ⟨by simp [World.setCell]; exact h.bl.os, by simp [World.setCell]; exact h.bl.tape, by simp [World.setCell]; exact h.bl.output, by simp [World.setCell]; exact h.bl.size, fun y hy hne => ?_⟩, by simp [World.setCell]; exact h.z, ?_, ?_, ?_⟩
  · rw [set_far (by omega)]; exact h.bl.block y hy hne
  · rw [set_far (by omega)]; exact h.h0
  · rw [set_far (by omega)]; exact h.h1
  · rw [set_far (by omega)]; exact h.h2
theorem SC.put {w0 w : World} {sz b z4 : Nat} {x : Ca} {X : Wb} {m : Nat} {p1 : Option Addr} {n1 c1 : Nat} {p2 : Option Addr} {n2 c2 : Nat} {q : Option Addr} {n c : Nat} {W : World} (h : SC w0 w sz b z4 x X m p1 n1 c1 p2 n2 c2 q n c W) {k : Nat} (hk : k < n) : ∃ g s0, q = some ⟨g, 0, none⟩ ∧ W.cell? ⟨g, k, none⟩ = some (.int .i64 s0) ∧ (∀ o, W.frozen? ⟨g, o, none⟩ = false) ∧ SC w0 w sz b z4 x X m p1 n1 c1 p2 n2 c2 q n c (W.setCell ⟨g, k, none⟩ (.int .i64 (-7))) := by
  obtain ⟨l, rfl, ho⟩ := h.r
  obtain ⟨Y, o, e1, hc⟩ := (ho.gs KI_ok.len).atI hk
  have hne : (Value.slice q l.length c).ownBlock ≠ none := by rw [e1]; simp [Value.ownBlock]
  obtain ⟨g, cp, e2, _⟩ := ho.place hne
  injection e2 with e2 _ e3
  subst e2
  injection e1 with e1
  injection e1 with e1 e4 _
  subst e1 e4
  rw [Nat.zero_add] at hc
  have hlt := ho.lt (g := g) rfl
  have hg := h.g g rfl
  have hl := h.t.lt
  have hs := h.t.s
  have hge := h.p.ge
  have hz := h.z
  exact ⟨g, _, rfl, hc, own_frozen ho, h.t.far hlt.1 _ _, h.p.set (by omega) (by omega) _ _, h.v.set (fun y hy => by rcases hy with ⟨_, hy⟩ | hy <;> omega) _ _, h.z, ⟨l.set k (-7), by rw [List.length_set], ho.set1 (k := k) rfl KI_ok.len (-7 : Int) _ rfl⟩, h.g⟩
/-- A row behind the boxes is read the same when the first box is written. -/
theorem own_box {sz n c : Nat} {q : Option Addr} {W : World} {l : List Int} (ho : OwnG KI W (sz + 3) (.slice q n c) l) (u1 u2 : Value) : GS KI ((W.setCell ⟨sz, 0, none⟩ u1).setCell ⟨sz, 1, none⟩ u2) (.slice q n c) l :=
  (ho.far fun y hy => by have := (ho.lt hy).1; rw [set_far (by omega), set_far (by omega)]).gs KI_ok.len
/-- Written back. -/
theorem sc_back {w0 w : World} {sz b z4 : Nat} {x : Ca} {X : Wb} {m : Nat} {v1 v2 : Value} {p1 : Option Addr} {n1 c1 : Nat} {p2 : Option Addr} {n2 c2 : Nat} {q : Option Addr} {n c : Nat} {W : World} (ht : T3 w sz b v1 v2 x W) (hp : PW w0 W b X m) (hv : RV W (fun y => (y ≠ b ∧ y < sz) ∨ z4 ≤ y) (.slice p1 n1 c1) (.slice p2 n2 c2) X) (hz : sz + 3 ≤ z4) {l : List Int} (hl : l.length = n) (ho : OwnG KI W (sz + 3) (.slice q n c) l) (hg : ∀ y, q = some ⟨y, 0, none⟩ → y < z4) : SC w0 w sz b z4 x X m p1 n1 c1 p2 n2 c2 q n c ((W.setCell ⟨sz, 0, none⟩ (.slice p1 n1 c1)).setCell ⟨sz, 1, none⟩ (.slice p2 n2 c2)) := by
  have hs := ht.s
  have hlt := ht.lt
  have hge := hp.ge
  have hne : ∀ y, ((y ≠ b ∧ y < sz) ∨ z4 ≤ y) → y ≠ sz := fun y hy => by rcases hy with ⟨_, hy⟩ | hy <;> omega
  exact ⟨ht.put _ _, (hp.set (by omega) (by omega) _ _).set (by omega) (by omega) _ _, (hv.set hne 0 _).set hne 1 _, hz, ⟨l, hl, ho.far fun y hy => by have := (ho.lt hy).1; rw [set_far (by omega), set_far (by omega)]⟩, hg⟩
set_option maxRecDepth 100000 in
set_option maxHeartbeats 64000000 in
theorem step_wait {w0 w : World} {b : Nat} {X : Wb} {m : Nat} (h : PW w0 w b X m) (hm : m ≤ 4611686018427387904) {vr vw : Value} (hv : RV w (fun x => x ≠ b) vr vw X) (x : Ca) (hk : amF x.k 7 = 3) : Calls Try.prog 6 #[.pointer (some ⟨b, 0, none⟩), .agg #[vr, vw], .agg #[.int .i64 x.k, .int .i64 x.t, .int .i64 x.c]] w fun e w' => StO w0 w b m e w' := by
  obtain ⟨⟨pr, nr, cr, rfl⟩, pw, nw, cw, rfl⟩ := hv.forms
  have T := hid (T3.mk_ h.lt (.slice pr nr cr) (.slice pw nw cw) x)
  have AM := hid (fun W => among_any x.k 7 ⟨by omega, by omega⟩ W)
  rw [hk] at AM
  have LL : (wtL X x.t x.c).length ≤ 256 := wtL_len h.wi x.t x.c
  have PB : Hid (∀ W, But (fun y => y = b) w W → PW w0 W b X m → Calls Try.prog 9 #[.pointer (some ⟨b, 0, none⟩), .int .i64 x.t, .int .i64 x.c] W fun e w' => ∃ q cc, e = .returned (.tuple #[.slice q (wtL X x.t x.c).length cc, .int .i64 (wtE X x.t x.c)]) ∧ OwnG KI w' W.heap.size (.slice q (wtL X x.t x.c).length cc) (nI (wtL X x.t x.c)) ∧ PW w0 w' b (wtX X x.t x.c) (m + 1) ∧ But (fun y => y = b) W w') := fun W _ hp => wait_pw hp hm x.t x.c
  have HR : Hid (∀ W, But (fun y => y = b) w W → RV W (fun y => y ≠ b ∧ y < w.heap.size) (.slice pr nr cr) (.slice pw nw cw) X) := fun W hb => hv.now.but (fun y hy => hy.1) hb
  have RB : Hid (∀ W, But (fun y => y = b) w W → Calls Try.prog 17 #[.agg #[.slice pr nr cr, .slice pw nw cw], .int .i64 x.t, .int .i64 x.c] W fun e w' => ∃ p1 n1 c1 p2 n2 c2 q cc, e = .returned (.tuple #[.agg #[.slice p1 n1 c1, .slice p2 n2 c2], .slice q (wtL X x.t x.c).length cc, .int .i64 (wtE X x.t x.c)]) ∧ RV w' (fun y => (y ≠ b ∧ y < w.heap.size) ∨ W.heap.size ≤ y) (.slice p1 n1 c1) (.slice p2 n2 c2) (wtX X x.t x.c) ∧ OwnG KI w' W.heap.size (.slice q (wtL X x.t x.c).length cc) (nI (wtL X x.t x.c)) ∧ Below W.heap.size W w') := fun W hb => rwait_any (HR.out W hb) h.wi x.t x.c
  have IN : Hid (∀ (W : World) (v u : Value), GS KI W v (nI (wtL X x.t x.c)) → GS KI W u (nI (wtL X x.t x.c)) → Calls Try.prog 11 #[v, u] W fun e w' => e = .returned (.bool true) ∧ Below W.heap.size W w') := fun W v u h1 h2 => by
    have := ints_any W v u (nI (wtL X x.t x.c)) (nI (wtL X x.t x.c)) h1 h2 (by rw [nI_len]; omega)
    rw [decide_eq_true rfl] at this
    exact this
  have HP := hid h
  generalize (wtE X x.t x.c) = r at *
  generalize (wtX X x.t x.c) = Y at *
  obtain ⟨NL, hNL⟩ : ∃ NL, NL = nI (wtL X x.t x.c) := ⟨_, rfl⟩
  have HNL : Hid (NL.length = (wtL X x.t x.c).length) := by show _ = _; rw [hNL, nI_len]
  rw [← hNL] at PB RB IN
  generalize (wtL X x.t x.c).length = ln at *
  try generalize endC X x.t = ec at *
  clear h hv hk hNL
  go_enter Try.func6, Try.ntmps6
  go_upto_region 1 with fail
  obtain ⟨w3, hw3⟩ : ∃ w3, w3 = (((w.alloc (.cells #[.slice pr nr cr, .slice pw nw cw] 29)).alloc (.cells #[.int .i64 x.k, .int .i64 x.t, .int .i64 x.c] 31)).alloc (.cells #[.slice none 0 0, .slice none 0 0] 29)) := ⟨_, rfl⟩
  rw [← hw3] at T ⊢
  have P3 : Hid (PW w0 w3 b X m) := by rw [hw3]; exact HP.out.below (bl3 (bal _ _) (bl3 (bal _ _) (bal _ _)))
  obtain ⟨sz, hsz⟩ : ∃ sz, sz = w.heap.size := ⟨_, rfl⟩
  rw [← hsz] at T HR RB ⊢
  obtain ⟨⟨d0, d1⟩, ⟨d2, d3, d4⟩, ⟨d5, d6⟩, f1, f2⟩ := T.out.at
  clear hw3 hsz
  go_wp2_with (first | (go_at_call 12; refine (AM.out _).mono ?_; rintro e w' ⟨rfl, hw⟩; rw [hw]; clear hw) | (go_at_call 9; refine (PB.out _ T.out.bl P3.out).mono ?_; rintro e w4 ⟨q4, cc4, rfl, ho4, hp4, hb4⟩; have O4 := hid (ho4.low T.out.z); have G4 : Hid (∀ y, q4 = some ⟨y, 0, none⟩ → y < w4.heap.size) := (fun y hy => (ho4.lt (by rw [hy]; simp [Value.ownBlock])).2); have P4 := hid hp4; have T4 := hid (T.out.but hb4); obtain ⟨⟨e0, e1⟩, ⟨e2, e3, e4⟩, ⟨e5, e6⟩, f3, f4⟩ := T4.out.at; clear hp4 hb4 ho4) | (go_at_call 17; refine (RB.out _ T4.out.bl).mono ?_; rintro e w5 ⟨p1, n1, c1, p2, n2, c2, q5, cc5, rfl, hv5, hg5, hb5⟩; have T5 := hid (T4.out.but (But.of_below hb5)); have K5 := hid (sc_back T5.out (P4.out.below hb5) hv5 T4.out.z HNL.out (O4.out.below hb5) G4.out); have SA := hid (And.intro (own_box (O4.out.below hb5) (.slice p1 n1 c1) (.slice p2 n2 c2)) (own_box (hg5.low T4.out.z) (.slice p1 n1 c1) (.slice p2 n2 c2))); obtain ⟨⟨g0, g1⟩, ⟨g2, g3, g4⟩, ⟨g5, g6⟩, f5, f6⟩ := T5.out.at; clear hv5 hb5 hg5) | (go_at_call 11; refine (IN.out _ _ _ SA.out.1 SA.out.2).mono ?_; rintro e w7 ⟨rfl, hb7⟩; have S7 := hid (K5.out.below hb7); clear hb7))
  go_loopw [154] (fun v wr => ∃ (k : Nat) (wk : World), k ≤ ln ∧ v = .int .i64 k ∧ wk = wr ∧ Hid (SC w0 w sz b w4.heap.size x Y (m + 1) p1 n1 c1 p2 n2 c2 q4 ln cc4 wk)) (fun v _ => ln - (intOf v).toNat)
  case atStart => exact ⟨0, _, Nat.zero_le _, rfl, rfl, S7⟩
  case round =>
    obtain ⟨k, wr, hk, rfl, rfl, HS⟩ := hrel
    clear S7 K5 T T4 T5 SA
    by_cases hlt2 : k < ln
    · obtain ⟨g, s0, e, k3, k4, k5⟩ := HS.out.put hlt2
      subst e
      have D5 := hid k5
      have hki : (k : Int) < (ln : Nat) := by omega
      clear k5
      go_wp2
      go_roundw
      case rel => exact ⟨k + 1, _, by omega, by go_num, rfl, D5⟩
      case measure => simp [intOf]; omega
    · have hki : ¬ (k : Int) < (ln : Nat) := by omega
      have S0 := hid HS.out.sb
      have S8 : Hid (SB w0 w sz b x Y (m + 1) p1 n1 c1 p2 n2 c2 wr.drew) := S0.out.below (drew_below _ 1)
      obtain ⟨⟨g0, g1⟩, _, ⟨g5, g6⟩, _, g7⟩ := S0.out.t.at
      obtain ⟨⟨k0, k1⟩, _, ⟨k5, k6⟩, _, k7⟩ := S8.out.t.at
      have F8 := hid (S8.out.t.fin S8.out.p S8.out.v)
      go_wp2_with fail
      go_region
      all_goals
        go_wp2_with fail
        refine bodyPost_ret (v := .tuple #[.pointer (some ⟨b, 0, none⟩), .agg #[.slice p1 n1 c1, .slice p2 n2 c2], .bool true]) (by simp [results, Try.results6, go_sem, g5, g6]) rfl ?_
        exact ⟨_, _, _, _, _, _, _, _, rfl, (F8.out _ _).1, (F8.out _ _).2.1, (F8.out _ _).2.2⟩
theorem endL_len {X : Wb} (h : WI X) (t : Int) : (endL X t).length ≤ 256 := by
  unfold endL
  split
  · have := wai_len h (endC X t); omega
  · simp
theorem rend_any {w : World} {P : Nat → Prop} {vr vw : Value} {X : Wb} (h : RV w P vr vw X) (hi : WI X) (t : Int) : Calls Try.prog 15 #[.agg #[vr, vw], .int .i64 t] w fun e w' => ReE w P (endX X t) (endC X t) (endL X t) (endE X t) e w' := by
  by_cases h0 : endE X t = 0
  · exact rend_ok h hi t h0
  · exact rend_no h hi t h0
set_option maxRecDepth 100000 in
set_option maxHeartbeats 64000000 in
theorem step_end {w0 w : World} {b : Nat} {X : Wb} {m : Nat} (h : PW w0 w b X m) {vr vw : Value} (hv : RV w (fun x => x ≠ b) vr vw X) (x : Ca) (hk : amF x.k 7 = 1) : Calls Try.prog 6 #[.pointer (some ⟨b, 0, none⟩), .agg #[vr, vw], .agg #[.int .i64 x.k, .int .i64 x.t, .int .i64 x.c]] w fun e w' => StO w0 w b m e w' := by
  obtain ⟨⟨pr, nr, cr, rfl⟩, pw, nw, cw, rfl⟩ := hv.forms
  have T := hid (T3.mk_ h.lt (.slice pr nr cr) (.slice pw nw cw) x)
  have AM := hid (fun W => among_any x.k 7 ⟨by omega, by omega⟩ W)
  rw [hk] at AM
  have LL : (endL X x.t).length ≤ 256 := endL_len h.wi x.t
  have PB : Hid (∀ W, But (fun y => y = b) w W → PW w0 W b X m → Calls Try.prog 14 #[.pointer (some ⟨b, 0, none⟩), .int .i64 x.t] W fun e w' => ∃ q cc, e = .returned (.tuple #[.int .i64 (endC X x.t), .slice q (endL X x.t).length cc, .int .i64 (endE X x.t)]) ∧ OwnG KI w' W.heap.size (.slice q (endL X x.t).length cc) (nI (endL X x.t)) ∧ PW w0 w' b (endX X x.t) (m + 1) ∧ But (fun y => y = b) W w') := fun W _ hp => (end_pw hp x.t).mono fun _ _ ⟨q, cc, h0, h1, h2, h3⟩ => ⟨q, cc, h0, h1, h2.up (Nat.le_succ _), h3⟩
  have HR : Hid (∀ W, But (fun y => y = b) w W → RV W (fun y => y ≠ b ∧ y < w.heap.size) (.slice pr nr cr) (.slice pw nw cw) X) := fun W hb => hv.now.but (fun y hy => hy.1) hb
  have RB : Hid (∀ W, But (fun y => y = b) w W → Calls Try.prog 15 #[.agg #[.slice pr nr cr, .slice pw nw cw], .int .i64 x.t] W fun e w' => ∃ p1 n1 c1 p2 n2 c2 q cc, e = .returned (.tuple #[.agg #[.slice p1 n1 c1, .slice p2 n2 c2], .int .i64 (endC X x.t), .slice q (endL X x.t).length cc, .int .i64 (endE X x.t)]) ∧ RV w' (fun y => (y ≠ b ∧ y < w.heap.size) ∨ W.heap.size ≤ y) (.slice p1 n1 c1) (.slice p2 n2 c2) (endX X x.t) ∧ OwnG KI w' W.heap.size (.slice q (endL X x.t).length cc) (nI (endL X x.t)) ∧ Below W.heap.size W w') := fun W hb => rend_any (HR.out W hb) h.wi x.t
  have IN : Hid (∀ (W : World) (v u : Value), GS KI W v (nI (endL X x.t)) → GS KI W u (nI (endL X x.t)) → Calls Try.prog 11 #[v, u] W fun e w' => e = .returned (.bool true) ∧ Below W.heap.size W w') := fun W v u h1 h2 => by
    have := ints_any W v u (nI (endL X x.t)) (nI (endL X x.t)) h1 h2 (by rw [nI_len]; omega)
    rw [decide_eq_true rfl] at this
    exact this
  have HP := hid h
  generalize (endE X x.t) = r at *
  generalize (endX X x.t) = Y at *
  obtain ⟨NL, hNL⟩ : ∃ NL, NL = nI (endL X x.t) := ⟨_, rfl⟩
  have HNL : Hid (NL.length = (endL X x.t).length) := by show _ = _; rw [hNL, nI_len]
  rw [← hNL] at PB RB IN
  generalize (endL X x.t).length = ln at *
  try generalize endC X x.t = ec at *
  clear h hv hk hNL
  go_enter Try.func6, Try.ntmps6
  go_upto_region 1 with fail
  obtain ⟨w3, hw3⟩ : ∃ w3, w3 = (((w.alloc (.cells #[.slice pr nr cr, .slice pw nw cw] 29)).alloc (.cells #[.int .i64 x.k, .int .i64 x.t, .int .i64 x.c] 31)).alloc (.cells #[.slice none 0 0, .slice none 0 0] 29)) := ⟨_, rfl⟩
  rw [← hw3] at T ⊢
  have P3 : Hid (PW w0 w3 b X m) := by rw [hw3]; exact HP.out.below (bl3 (bal _ _) (bl3 (bal _ _) (bal _ _)))
  obtain ⟨sz, hsz⟩ : ∃ sz, sz = w.heap.size := ⟨_, rfl⟩
  rw [← hsz] at T HR RB ⊢
  obtain ⟨⟨d0, d1⟩, ⟨d2, d3, d4⟩, ⟨d5, d6⟩, f1, f2⟩ := T.out.at
  clear hw3 hsz
  go_wp2_with (first | (go_at_call 12; refine (AM.out _).mono ?_; rintro e w' ⟨rfl, hw⟩; rw [hw]; clear hw) | (go_at_call 14; refine (PB.out _ T.out.bl P3.out).mono ?_; rintro e w4 ⟨q4, cc4, rfl, ho4, hp4, hb4⟩; have O4 := hid (ho4.low T.out.z); have G4 : Hid (∀ y, q4 = some ⟨y, 0, none⟩ → y < w4.heap.size) := (fun y hy => (ho4.lt (by rw [hy]; simp [Value.ownBlock])).2); have P4 := hid hp4; have T4 := hid (T.out.but hb4); obtain ⟨⟨e0, e1⟩, ⟨e2, e3, e4⟩, ⟨e5, e6⟩, f3, f4⟩ := T4.out.at; clear hp4 hb4 ho4) | (go_at_call 15; refine (RB.out _ T4.out.bl).mono ?_; rintro e w5 ⟨p1, n1, c1, p2, n2, c2, q5, cc5, rfl, hv5, hg5, hb5⟩; have T5 := hid (T4.out.but (But.of_below hb5)); have K5 := hid (sc_back T5.out (P4.out.below hb5) hv5 T4.out.z HNL.out (O4.out.below hb5) G4.out); have SA := hid (And.intro (own_box (O4.out.below hb5) (.slice p1 n1 c1) (.slice p2 n2 c2)) (own_box (hg5.low T4.out.z) (.slice p1 n1 c1) (.slice p2 n2 c2))); obtain ⟨⟨g0, g1⟩, ⟨g2, g3, g4⟩, ⟨g5, g6⟩, f5, f6⟩ := T5.out.at; clear hv5 hb5 hg5) | (go_at_call 11; refine (IN.out _ _ _ SA.out.1 SA.out.2).mono ?_; rintro e w7 ⟨rfl, hb7⟩; have S7 := hid (K5.out.below hb7); clear hb7))
  go_loopw [154] (fun v wr => ∃ (k : Nat) (wk : World), k ≤ ln ∧ v = .int .i64 k ∧ wk = wr ∧ Hid (SC w0 w sz b w4.heap.size x Y (m + 1) p1 n1 c1 p2 n2 c2 q4 ln cc4 wk)) (fun v _ => ln - (intOf v).toNat)
  case atStart => exact ⟨0, _, Nat.zero_le _, rfl, rfl, S7⟩
  case round =>
    obtain ⟨k, wr, hk, rfl, rfl, HS⟩ := hrel
    clear S7 K5 T T4 T5 SA
    by_cases hlt2 : k < ln
    · obtain ⟨g, s0, e, k3, k4, k5⟩ := HS.out.put hlt2
      subst e
      have D5 := hid k5
      have hki : (k : Int) < (ln : Nat) := by omega
      clear k5
      go_wp2
      go_roundw
      case rel => exact ⟨k + 1, _, by omega, by go_num, rfl, D5⟩
      case measure => simp [intOf]; omega
    · have hki : ¬ (k : Int) < (ln : Nat) := by omega
      have S0 := hid HS.out.sb
      have S8 : Hid (SB w0 w sz b x Y (m + 1) p1 n1 c1 p2 n2 c2 wr.drew) := S0.out.below (drew_below _ 1)
      obtain ⟨⟨g0, g1⟩, _, ⟨g5, g6⟩, _, g7⟩ := S0.out.t.at
      obtain ⟨⟨k0, k1⟩, _, ⟨k5, k6⟩, _, k7⟩ := S8.out.t.at
      have F8 := hid (S8.out.t.fin S8.out.p S8.out.v)
      go_wp2_with fail
      go_region
      all_goals
        go_wp2_with fail
        refine bodyPost_ret (v := .tuple #[.pointer (some ⟨b, 0, none⟩), .agg #[.slice p1 n1 c1, .slice p2 n2 c2], .bool true]) (by simp [results, Try.results6, go_sem, g5, g6]) rfl ?_
        exact ⟨_, _, _, _, _, _, _, _, rfl, (F8.out _ _).1, (F8.out _ _).2.1, (F8.out _ _).2.2⟩
end Go.Proofs.Ytkhcinpcoabphaa
