/- Depend: the law's step: Begin, Wake. -/
import Derived.Test.YtkhcinpcoabphaaDs4
namespace Go.Proofs.Ytkhcinpcoabphaa
open Go.RowKit

theorem PW.set {w0 W : World} {b : Nat} {X : Wb} {m : Nat} (h : PW w0 W b X m) {q : Nat} (hq : w0.heap.size ≤ q) (hb : b ≠ q) (o : Nat) (u : Value) : PW w0 (W.setCell ⟨q, o, none⟩ u) b X m := ⟨h.wx.far (set_far hb), h.wi, h.ge, h.bl.setCell hq _, h.md⟩
/-- What step answers. -/
def StO (w0 w : World) (b m : Nat) (e : Ending) (w' : World) : Prop := ∃ b' X' p1 n1 c1 p2 n2 c2, e = .returned (.tuple #[.pointer (some ⟨b', 0, none⟩), .agg #[.slice p1 n1 c1, .slice p2 n2 c2], .bool true]) ∧ PW w0 w' b' X' (m + 1) ∧ RV w' (fun x => x ≠ b') (.slice p1 n1 c1) (.slice p2 n2 c2) X' ∧ But (fun x => x = b) w w'
theorem T3.fin {w0 w : World} {sz b : Nat} {u1 u2 : Value} {x : Ca} {W : World} {X : Wb} {m : Nat} {vr vw : Value} (h : T3 w sz b u1 u2 x W) (hp : PW w0 W b X m) (hv : RV W (fun y => (y ≠ b ∧ y < sz) ∨ sz + 3 ≤ y) vr vw X) (a c : Value) : PW w0 ((W.setCell ⟨sz + 2, 0, none⟩ a).setCell ⟨sz + 2, 1, none⟩ c) b X m ∧ RV ((W.setCell ⟨sz + 2, 0, none⟩ a).setCell ⟨sz + 2, 1, none⟩ c) (fun y => y ≠ b) vr vw X ∧ But (fun y => y = b) w ((W.setCell ⟨sz + 2, 0, none⟩ a).setCell ⟨sz + 2, 1, none⟩ c) := by
  have hs := h.s
  have hl := h.lt
  have hg := hp.ge
  have hne : ∀ y, ((y ≠ b ∧ y < sz) ∨ sz + 3 ≤ y) → y ≠ sz + 2 := fun y hy => by rcases hy with ⟨_, hy⟩ | hy <;> omega
  refine ⟨(hp.set (by omega) (by omega) _ _).set (by omega) (by omega) _ _, ((hv.set hne 0 a).set hne 1 c).imp fun y _ hy => ?_, ⟨by simp [World.setCell]; exact h.bl.os, by simp [World.setCell]; exact h.bl.tape, by simp [World.setCell]; exact h.bl.output, by simp [World.setCell]; exact h.bl.size, fun y hy hn => ?_⟩⟩
  · rcases hy with ⟨hy, _⟩ | hy
    · exact hy
    · omega
  · rw [set_far (by omega), set_far (by omega)]; exact h.bl.block y hy hn
/-- Written back: all stays. -/
theorem T3.back {w0 w : World} {sz b : Nat} {v1 v2 : Value} {x : Ca} {W : World} {X : Wb} {m : Nat} {vr vw : Value} (h : T3 w sz b v1 v2 x W) (hp : PW w0 W b X m) (hv : RV W (fun y => (y ≠ b ∧ y < sz) ∨ sz + 3 ≤ y) vr vw X) : T3 w sz b vr vw x ((W.setCell ⟨sz, 0, none⟩ vr).setCell ⟨sz, 1, none⟩ vw) ∧ PW w0 ((W.setCell ⟨sz, 0, none⟩ vr).setCell ⟨sz, 1, none⟩ vw) b X m ∧ RV ((W.setCell ⟨sz, 0, none⟩ vr).setCell ⟨sz, 1, none⟩ vw) (fun y => (y ≠ b ∧ y < sz) ∨ sz + 3 ≤ y) vr vw X := by
  have hs := h.s
  have hl := h.lt
  have hg := hp.ge
  have hne : ∀ y, ((y ≠ b ∧ y < sz) ∨ sz + 3 ≤ y) → y ≠ sz := fun y hy => by rcases hy with ⟨_, hy⟩ | hy <;> omega
  exact ⟨h.put _ _, (hp.set (by omega) (by omega) _ _).set (by omega) (by omega) _ _, (hv.set hne 0 _).set hne 1 _⟩
/-- What stands behind a call that is written back. -/
structure SB (w0 w : World) (sz b : Nat) (x : Ca) (X : Wb) (m : Nat) (p1 : Option Addr) (n1 c1 : Nat) (p2 : Option Addr) (n2 c2 : Nat) (W : World) : Prop where
  t : T3 w sz b (.slice p1 n1 c1) (.slice p2 n2 c2) x W
  p : PW w0 W b X m
  v : RV W (fun y => (y ≠ b ∧ y < sz) ∨ sz + 3 ≤ y) (.slice p1 n1 c1) (.slice p2 n2 c2) X
theorem SB.below {w0 w : World} {sz b : Nat} {x : Ca} {X : Wb} {m : Nat} {p1 : Option Addr} {n1 c1 : Nat} {p2 : Option Addr} {n2 c2 : Nat} {W W' : World} (h : SB w0 w sz b x X m p1 n1 c1 p2 n2 c2 W) (k : Below W.heap.size W W') : SB w0 w sz b x X m p1 n1 c1 p2 n2 c2 W' := ⟨h.t.but (But.of_below k), h.p.below k, h.v.below k⟩
theorem rbegin_any {w : World} {P : Nat → Prop} {vr vw : Value} {X : Wb} (h : RV w P vr vw X) (hi : WI X) (t c : Int) : Calls Try.prog 13 #[.agg #[vr, vw], .int .i64 t, .int .i64 c] w fun e w' => ReO w P (begX X t c) #[.int .i64 (begE X t c)] e w' := by
  by_cases h0 : begE X t c = 0
  · exact rbegin_ok h hi t c h0
  · exact rbegin_no h hi t c h0
set_option maxRecDepth 100000 in
set_option maxHeartbeats 64000000 in
theorem step_begin {w0 w : World} {b : Nat} {X : Wb} {m : Nat} (h : PW w0 w b X m) (hm : m ≤ 4611686018427387904) {vr vw : Value} (hv : RV w (fun x => x ≠ b) vr vw X) (x : Ca) (hk : amF x.k 7 = 0) : Calls Try.prog 6 #[.pointer (some ⟨b, 0, none⟩), .agg #[vr, vw], .agg #[.int .i64 x.k, .int .i64 x.t, .int .i64 x.c]] w fun e w' => StO w0 w b m e w' := by
  obtain ⟨⟨pr, nr, cr, rfl⟩, pw, nw, cw, rfl⟩ := hv.forms
  have T := hid (T3.mk_ h.lt (.slice pr nr cr) (.slice pw nw cw) x)
  have AM := hid (fun W => among_any x.k 7 ⟨by omega, by omega⟩ W)
  rw [hk] at AM
  have PB : Hid (∀ W, But (fun y => y = b) w W → PW w0 W b X m → Calls Try.prog 8 #[.pointer (some ⟨b, 0, none⟩), .int .i64 x.t, .int .i64 x.c] W fun e w' => e = .returned (.int .i64 (begE X x.t x.c)) ∧ PW w0 w' b (begX X x.t x.c) (m + 1) ∧ But (fun y => y = b) W w') := fun W _ hp => begin_pw hp hm x.t x.c
  have HR : Hid (∀ W, But (fun y => y = b) w W → RV W (fun y => y ≠ b ∧ y < w.heap.size) (.slice pr nr cr) (.slice pw nw cw) X) := fun W hb => hv.now.but (fun y hy => hy.1) hb
  have RB : Hid (∀ W, But (fun y => y = b) w W → w.heap.size + 3 ≤ W.heap.size → Calls Try.prog 13 #[.agg #[.slice pr nr cr, .slice pw nw cw], .int .i64 x.t, .int .i64 x.c] W fun e w' => ∃ p1 n1 c1 p2 n2 c2, e = .returned (.tuple #[.agg #[.slice p1 n1 c1, .slice p2 n2 c2], .int .i64 (begE X x.t x.c)]) ∧ RV w' (fun y => (y ≠ b ∧ y < w.heap.size) ∨ w.heap.size + 3 ≤ y) (.slice p1 n1 c1) (.slice p2 n2 c2) (begX X x.t x.c) ∧ Below W.heap.size W w') := fun W hb hz => (rbegin_any (HR.out W hb) h.wi x.t x.c).mono fun e w' ⟨p1, n1, c1, p2, n2, c2, h0, h1, h2⟩ => ⟨p1, n1, c1, p2, n2, c2, h0, h1.imp fun y _ hy => by
    rcases hy with hy | hy
    · exact Or.inl hy
    · exact Or.inr (by omega), h2⟩
  have IN : Hid (∀ W : World, Calls Try.prog 11 #[.slice none 0 0, .slice none 0 0] W fun e w' => e = .returned (.bool true) ∧ Below W.heap.size W w') := fun W => by
    have := ints_any W (.slice none 0 0) (.slice none 0 0) [] [] (Or.inl ⟨Or.inl rfl, rfl⟩) (Or.inl ⟨Or.inl rfl, rfl⟩) (by simp)
    rw [decide_eq_true rfl] at this
    exact this
  have HP := hid h
  generalize (begE X x.t x.c) = r at *
  generalize (begX X x.t x.c) = Y at *
  clear h hv hk
  go_enter Try.func6, Try.ntmps6
  go_upto_region 1 with fail
  obtain ⟨w3, hw3⟩ : ∃ w3, w3 = (((w.alloc (.cells #[.slice pr nr cr, .slice pw nw cw] 29)).alloc (.cells #[.int .i64 x.k, .int .i64 x.t, .int .i64 x.c] 31)).alloc (.cells #[.slice none 0 0, .slice none 0 0] 29)) := ⟨_, rfl⟩
  rw [← hw3] at T ⊢
  have P3 : Hid (PW w0 w3 b X m) := by rw [hw3]; exact HP.out.below (bl3 (bal _ _) (bl3 (bal _ _) (bal _ _)))
  obtain ⟨sz, hsz⟩ : ∃ sz, sz = w.heap.size := ⟨_, rfl⟩
  rw [← hsz] at T HR RB ⊢
  obtain ⟨⟨d0, d1⟩, ⟨d2, d3, d4⟩, ⟨d5, d6⟩, f1, f2⟩ := T.out.at
  clear hw3 hsz
  go_wp2_with (first | (go_at_call 12; refine (AM.out _).mono ?_; rintro e w' ⟨rfl, hw⟩; rw [hw]; clear hw) | (go_at_call 8; refine (PB.out _ T.out.bl P3.out).mono ?_; rintro e w4 ⟨rfl, hp4, hb4⟩; have P4 := hid hp4; have T4 := hid (T.out.but hb4); obtain ⟨⟨e0, e1⟩, ⟨e2, e3, e4⟩, ⟨e5, e6⟩, f3, f4⟩ := T4.out.at; clear hp4 hb4) | (go_at_call 13; refine (RB.out _ T4.out.bl T4.out.z).mono ?_; rintro e w5 ⟨p1, n1, c1, p2, n2, c2, rfl, hv5, hb5⟩; have T5 := hid (T4.out.but (But.of_below hb5)); have K5 := hid (T5.out.back (P4.out.below hb5) hv5); obtain ⟨⟨g0, g1⟩, ⟨g2, g3, g4⟩, ⟨g5, g6⟩, f5, f6⟩ := T5.out.at; clear hv5 hb5) | (go_at_call 11; refine (IN.out _).mono ?_; rintro e w7 ⟨rfl, hb7⟩; have S7 : Hid (SB w0 w sz b x Y (m + 1) p1 n1 c1 p2 n2 c2 w7) := (SB.mk K5.out.1 K5.out.2.1 K5.out.2.2).below hb7; clear hb7))
  go_loopw [154] (fun v wr => v = .int .i64 0 ∧ ∃ wk, wk = wr ∧ Hid (SB w0 w sz b x Y (m + 1) p1 n1 c1 p2 n2 c2 wk)) (fun _ _ => 0)
  case atStart => exact ⟨rfl, _, rfl, S7⟩
  case round =>
    obtain ⟨rfl, wr, rfl, HS⟩ := hrel
    have S8 : Hid (SB w0 w sz b x Y (m + 1) p1 n1 c1 p2 n2 c2 wr.drew) := HS.out.below (drew_below _ 1)
    obtain ⟨⟨g0, g1⟩, _, ⟨g5, g6⟩, _, g7⟩ := HS.out.t.at
    obtain ⟨⟨k0, k1⟩, _, ⟨k5, k6⟩, _, k7⟩ := S8.out.t.at
    have F7 := hid (HS.out.t.fin HS.out.p HS.out.v)
    have F8 := hid (S8.out.t.fin S8.out.p S8.out.v)
    clear S7 K5 T T4 T5
    go_wp2_with fail
    go_region
    all_goals
      go_wp2_with fail
      refine bodyPost_ret (v := .tuple #[.pointer (some ⟨b, 0, none⟩), .agg #[.slice p1 n1 c1, .slice p2 n2 c2], .bool true]) (by simp [results, Try.results6, go_sem, g5, g6]) rfl ?_
      exact ⟨_, _, _, _, _, _, _, _, rfl, (F8.out _ _).1, (F8.out _ _).2.1, (F8.out _ _).2.2⟩
set_option maxRecDepth 100000 in
set_option maxHeartbeats 64000000 in
theorem step_wake {w0 w : World} {b : Nat} {X : Wb} {m : Nat} (h : PW w0 w b X m) {vr vw : Value} (hv : RV w (fun x => x ≠ b) vr vw X) (x : Ca) (hk : amF x.k 7 = 4) : Calls Try.prog 6 #[.pointer (some ⟨b, 0, none⟩), .agg #[vr, vw], .agg #[.int .i64 x.k, .int .i64 x.t, .int .i64 x.c]] w fun e w' => StO w0 w b m e w' := by
  obtain ⟨⟨pr, nr, cr, rfl⟩, pw, nw, cw, rfl⟩ := hv.forms
  have T := hid (T3.mk_ h.lt (.slice pr nr cr) (.slice pw nw cw) x)
  have AM := hid (fun W => among_any x.k 7 ⟨by omega, by omega⟩ W)
  rw [hk] at AM
  have PB : Hid (∀ W, But (fun y => y = b) w W → PW w0 W b X m → Calls Try.prog 18 #[.pointer (some ⟨b, 0, none⟩), .int .i64 x.t] W fun e w' => e = .returned (.int .i64 (wakE X x.t)) ∧ PW w0 w' b (wakX X x.t) (m + 1) ∧ But (fun y => y = b) W w') := fun W _ hp => (wake_pw hp x.t).mono fun _ _ ⟨h0, h1, h2⟩ => ⟨h0, h1.up (Nat.le_succ _), h2⟩
  have HR : Hid (∀ W, But (fun y => y = b) w W → RV W (fun y => y ≠ b ∧ y < w.heap.size) (.slice pr nr cr) (.slice pw nw cw) X) := fun W hb => hv.now.but (fun y hy => hy.1) hb
  have RB : Hid (∀ W, But (fun y => y = b) w W → w.heap.size + 3 ≤ W.heap.size → Calls Try.prog 19 #[.agg #[.slice pr nr cr, .slice pw nw cw], .int .i64 x.t] W fun e w' => ∃ p1 n1 c1 p2 n2 c2, e = .returned (.tuple #[.agg #[.slice p1 n1 c1, .slice p2 n2 c2], .int .i64 (wakE X x.t)]) ∧ RV w' (fun y => (y ≠ b ∧ y < w.heap.size) ∨ w.heap.size + 3 ≤ y) (.slice p1 n1 c1) (.slice p2 n2 c2) (wakX X x.t) ∧ Below W.heap.size W w') := fun W hb hz => (rwake_any (HR.out W hb) h.wi x.t).mono fun e w' ⟨p1, n1, c1, p2, n2, c2, h0, h1, h2⟩ => ⟨p1, n1, c1, p2, n2, c2, h0, h1.imp fun y _ hy => by
    rcases hy with hy | hy
    · exact Or.inl hy
    · exact Or.inr (by omega), h2⟩
  have IN : Hid (∀ W : World, Calls Try.prog 11 #[.slice none 0 0, .slice none 0 0] W fun e w' => e = .returned (.bool true) ∧ Below W.heap.size W w') := fun W => by
    have := ints_any W (.slice none 0 0) (.slice none 0 0) [] [] (Or.inl ⟨Or.inl rfl, rfl⟩) (Or.inl ⟨Or.inl rfl, rfl⟩) (by simp)
    rw [decide_eq_true rfl] at this
    exact this
  have HP := hid h
  generalize (wakE X x.t) = r at *
  generalize (wakX X x.t) = Y at *
  clear h hv hk
  go_enter Try.func6, Try.ntmps6
  go_upto_region 1 with fail
  obtain ⟨w3, hw3⟩ : ∃ w3, w3 = (((w.alloc (.cells #[.slice pr nr cr, .slice pw nw cw] 29)).alloc (.cells #[.int .i64 x.k, .int .i64 x.t, .int .i64 x.c] 31)).alloc (.cells #[.slice none 0 0, .slice none 0 0] 29)) := ⟨_, rfl⟩
  rw [← hw3] at T ⊢
  have P3 : Hid (PW w0 w3 b X m) := by rw [hw3]; exact HP.out.below (bl3 (bal _ _) (bl3 (bal _ _) (bal _ _)))
  obtain ⟨sz, hsz⟩ : ∃ sz, sz = w.heap.size := ⟨_, rfl⟩
  rw [← hsz] at T HR RB ⊢
  obtain ⟨⟨d0, d1⟩, ⟨d2, d3, d4⟩, ⟨d5, d6⟩, f1, f2⟩ := T.out.at
  clear hw3 hsz
  go_wp2_with (first | (go_at_call 12; refine (AM.out _).mono ?_; rintro e w' ⟨rfl, hw⟩; rw [hw]; clear hw) | (go_at_call 18; refine (PB.out _ T.out.bl P3.out).mono ?_; rintro e w4 ⟨rfl, hp4, hb4⟩; have P4 := hid hp4; have T4 := hid (T.out.but hb4); obtain ⟨⟨e0, e1⟩, ⟨e2, e3, e4⟩, ⟨e5, e6⟩, f3, f4⟩ := T4.out.at; clear hp4 hb4) | (go_at_call 19; refine (RB.out _ T4.out.bl T4.out.z).mono ?_; rintro e w5 ⟨p1, n1, c1, p2, n2, c2, rfl, hv5, hb5⟩; have T5 := hid (T4.out.but (But.of_below hb5)); have K5 := hid (T5.out.back (P4.out.below hb5) hv5); obtain ⟨⟨g0, g1⟩, ⟨g2, g3, g4⟩, ⟨g5, g6⟩, f5, f6⟩ := T5.out.at; clear hv5 hb5) | (go_at_call 11; refine (IN.out _).mono ?_; rintro e w7 ⟨rfl, hb7⟩; have S7 : Hid (SB w0 w sz b x Y (m + 1) p1 n1 c1 p2 n2 c2 w7) := (SB.mk K5.out.1 K5.out.2.1 K5.out.2.2).below hb7; clear hb7))
  go_loopw [154] (fun v wr => v = .int .i64 0 ∧ ∃ wk, wk = wr ∧ Hid (SB w0 w sz b x Y (m + 1) p1 n1 c1 p2 n2 c2 wk)) (fun _ _ => 0)
  case atStart => exact ⟨rfl, _, rfl, S7⟩
  case round =>
    obtain ⟨rfl, wr, rfl, HS⟩ := hrel
    have S8 : Hid (SB w0 w sz b x Y (m + 1) p1 n1 c1 p2 n2 c2 wr.drew) := HS.out.below (drew_below _ 1)
    obtain ⟨⟨g0, g1⟩, _, ⟨g5, g6⟩, _, g7⟩ := HS.out.t.at
    obtain ⟨⟨k0, k1⟩, _, ⟨k5, k6⟩, _, k7⟩ := S8.out.t.at
    have F7 := hid (HS.out.t.fin HS.out.p HS.out.v)
    have F8 := hid (S8.out.t.fin S8.out.p S8.out.v)
    clear S7 K5 T T4 T5
    go_wp2_with fail
    go_region
    all_goals
      go_wp2_with fail
      refine bodyPost_ret (v := .tuple #[.pointer (some ⟨b, 0, none⟩), .agg #[.slice p1 n1 c1, .slice p2 n2 c2], .bool true]) (by simp [results, Try.results6, go_sem, g5, g6]) rfl ?_
      exact ⟨_, _, _, _, _, _, _, _, rfl, (F8.out _ _).1, (F8.out _ _).2.1, (F8.out _ _).2.2⟩
end Go.Proofs.Ytkhcinpcoabphaa
