/- The law's works: the chapter's first example. -/
import Derived.Test.YteiadigafkollaaLw3
namespace Go.Proofs.Yteiadigafkollaa
open Go.RowKit Go.Sort Go.Shelf

theorem below_drewN' {w w' : World} {B : Nat} (h : Below B w w') (n : Nat) : Below B w (w'.drewN n) := ⟨h.os, h.tape, h.output, h.size, h.block⟩
theorem ex_at {w : World} {b : Nat} (h : CL w b none 0 0 []) : Calls Try.prog 24 #[.pointer (some ⟨b, 0, none⟩), .int .i64 5] w fun e w' => e = .returned (.tuple #[.int .i64 1, .int .i64 0]) ∧ ∃ xo, CL w' b xo 0 1 [⟨1, 5, 0⟩] ∧ NX w none xo ∧ KC b none w w' := by
  refine (at_any w b none 0 0 [] h (by omega) 5).mono fun e w' hr => ?_
  rw [if_pos (by omega)] at hr
  obtain ⟨xo, g', L', h1, h2, h3, ⟨h4, _⟩ | ⟨_, rfl, rfl, rfl⟩⟩ := hr
  · simp at h4
  · exact ⟨rfl, xo, h2, h1, h3⟩
theorem ex_every {w : World} {b : Nat} {xo : Option Nat} (h : CL w b xo 0 1 [⟨1, 5, 0⟩]) : Calls Try.prog 25 #[.pointer (some ⟨b, 0, none⟩), .int .i64 2, .int .i64 3] w fun e w' => e = .returned (.tuple #[.int .i64 2, .int .i64 0]) ∧ ∃ xo', CL w' b xo' 0 2 [⟨2, 2, 3⟩, ⟨1, 5, 0⟩] ∧ NX w xo xo' ∧ KC b xo w w' := by
  refine (every_any w b xo 0 1 _ h (by omega) 2 3).mono fun e w' hr => ?_
  rw [if_pos (by omega)] at hr
  obtain ⟨xo', g', L', h1, h2, h3, ⟨h4, _⟩ | ⟨_, rfl, rfl, rfl⟩⟩ := hr
  · simp at h4
  · exact ⟨rfl, xo', h2, h1, h3⟩
theorem ex_adv {w : World} {b : Nat} {xo : Option Nat} (h : CL w b xo 0 2 [⟨2, 2, 3⟩, ⟨1, 5, 0⟩]) : Calls Try.prog 15 #[.pointer (some ⟨b, 0, none⟩), .int .i64 5] w fun e w' => ∃ v, e = .returned (.tuple #[v, .int .i64 0]) ∧ OwnF w' w.heap.size v [(2, 2), (1, 5), (2, 5)] ∧ (∃ L, CL w' b xo 5 2 L) ∧ KC b xo w w' := by
  refine (advance_any w b xo 0 2 _ h 5).mono fun e w' hr => ?_
  obtain ⟨k, ⟨h1, _⟩ | ⟨_, h2, _⟩ | ⟨_, n, v, h3, _, rfl, h4, h5⟩⟩ := hr
  · omega
  · rw [show (0 : Int) + 5 = 5 by omega, ex_due] at h2; omega
  · rw [show (0 : Int) + 5 = 5 by omega, ex_due] at h3
    have hn : n = 3 := by omega
    subst hn
    rw [ex_told] at h4
    rw [show (0 : Int) + 5 = 5 by omega] at h5
    exact ⟨v, rfl, h4, ⟨_, h5⟩, k⟩
theorem now_cl {w : World} {b : Nat} {xo : Option Nat} {now given : Int} {L : List Tm} (h : CL w b xo now given L) : Calls Try.prog 17 #[.pointer (some ⟨b, 0, none⟩)] w fun e w' => e = .returned (.int .i64 now) ∧ w' = w := by
  obtain ⟨d, hk, _⟩ := h
  exact now_any w b xo now given d hk
theorem fs_lit (w : World) (t : TypeId) : FS (w.alloc (.cells #[.int .i64 2, .int .i64 2, .int .i64 1, .int .i64 5, .int .i64 2, .int .i64 5] t)) (.slice (some ⟨w.heap.size, 0, none⟩) 3 3) [(2, 2), (1, 5), (2, 5)] := by
  refine ⟨_, 3, rfl, fun k hk => ⟨w.heap.size, rfl, ?_, ?_⟩⟩
  · rw [cell_of_row _ _ _ _ _ _ (heap_alloc_new w _)]
    match k, hk with
    | 0, _ => rfl
    | 1, _ => rfl
    | 2, _ => rfl
  · rw [cell_of_row _ _ _ _ _ _ (heap_alloc_new w _)]
    match k, hk with
    | 0, _ => rfl
    | 1, _ => rfl
    | 2, _ => rfl
set_option maxHeartbeats 8000000 in
set_option maxRecDepth 100000 in
theorem works_any (w : World) : Calls Try.prog 8 #[] w fun e w' => e = .returned (.bool true) ∧ Below w.heap.size w w' := by
  have N := new_any w
  go_enter Try.func8, Try.ntmps8
  go_wp2_with (first | (go_at_call 9; refine N.mono ?_; rintro e w1 ⟨rfl, hck, hb1⟩; have C1 : Hid _ := CL.new hck; have B1 : Hid _ := hb1; clear hck hb1) | (go_at_call 24; refine (ex_at C1.out).mono ?_; rintro e w2 ⟨rfl, xo2, hc2, hn2, hk2⟩; have C2 : Hid _ := hc2; have N2 : Hid _ := hn2; have K2 : Hid _ := hk2; clear hc2 hn2 hk2) | (go_at_call 25; refine (ex_every C2.out).mono ?_; rintro e w3 ⟨rfl, xo3, hc3, hn3, hk3⟩; have C3 : Hid _ := hc3; have N3 : Hid _ := hn3; have K3 : Hid _ := hk3; clear hc3 hn3 hk3) | (go_at_call 15; refine (ex_adv C3.out).mono ?_; rintro e w4 ⟨v4, rfl, hf4, ⟨L4, hc4⟩, hk4⟩; have F4 : Hid (OwnF w4 w3.heap.size v4 [(2, 2), (1, 5), (2, 5)]) := hf4; have C4 : Hid (CL w4 w.heap.size xo3 5 2 L4) := hc4; have K4 : Hid _ := hk4; clear hf4 hk4 hc4))
  refine (firingsEq_same _ _ _ [(2, 2), (1, 5), (2, 5)] (OwnF.fs (base := w3.heap.size) (World.ownsRow.alloc F4.out _)) (fs_lit w4 _) (by simp)).mono ?_
  rintro e w5 ⟨rfl, n, rfl⟩
  have HB : Hid (∀ o, Below w4.heap.size w4 ((w4.alloc o).drewN n)) := fun o => below_drewN' ((Below.refl _ _).alloc (Nat.le_refl _) o) n
  have KA : Hid (KC w.heap.size none w1 w4) := (K2.out.trans K3.out N2.out).trans K4.out (NX.trans N2.out N3.out K2.out.size)
  have FIN : Hid (∀ o, Below w.heap.size w ((w4.alloc o).drewN n)) := fun o => (B1.out.trans (KA.out.below B1.out.size (Nat.le_refl _) (fun X e => by cases e))).trans ((HB.out o).mono (Nat.le_trans B1.out.size KA.out.size))
  go_wp2_with (go_at_call 17; refine (now_cl (C4.out.below (HB.out _))).mono ?_; rintro e w6 ⟨rfl, rfl⟩)
  go_ret
  exact ⟨rfl, FIN.out _⟩
end Go.Proofs.Yteiadigafkollaa
