/- The law's among; a clock behind any call. -/
import Derived.Test.YteiadigafkollaaCk11
import Derived.Test.YteiadigafkollaaCk7
namespace Go.Proofs.Yteiadigafkollaa
open Go.RowKit Go.Sort Go.Shelf

/-- A number from 0 to n - 1. -/
def amg (x n : Int) : Int := (x.tmod n + n).tmod n
theorem amg_bd {x n : Int} (h : 0 < n) : 0 ≤ amg x n ∧ amg x n < n := by
  have h1 := Int.tmod_lt_of_pos x h
  have h2 : -n < x.tmod n := Int.lt_tmod_of_pos x h
  have h3 : 0 ≤ x.tmod n + n := by omega
  exact ⟨Int.tmod_nonneg n h3, Int.tmod_lt_of_pos _ h⟩
set_option maxHeartbeats 1000000 in
theorem among_any (w : World) (x n : Int) (h1 : 0 < n) (h2 : n ≤ 1099511627776) :
    Calls Try.prog 13 #[.int .i64 x, .int .i64 n] w fun e w' => e = .returned (.int .i64 (amg x n)) ∧ w' = w := by
  have b1 := Int.tmod_lt_of_pos x h1
  have b2 : -n < x.tmod n := Int.lt_tmod_of_pos x h1
  have hne : ¬ n = 0 := by omega
  have hneb : (n == 0) = false := by simpa using hne
  have HA : Hid (amg x n = (x.tmod n + n).tmod n) := rfl
  generalize amg x n = r at *
  go_enter Try.func13, Try.ntmps13
  go_wp2
  go_ret
  exact ⟨ret_int (by rw [HA.out]; first | rfl | (rw [Int.tmod_eq_emod_of_nonneg (a := x.tmod n + n) (by omega)])), rfl⟩
/-- Behind a call there is a clock again. -/
def CW (w w' : World) (b : Nat) (xo : Option Nat) (given : Int) (e : Ending) : Prop :=
  (∃ v, e = .returned v) ∧ KC b xo w w' ∧ ∃ xo' now' given' L', CL w' b xo' now' given' L' ∧ NX w xo xo' ∧ given ≤ given' ∧ given' ≤ given + 1
theorem SetR.cw {w w' : World} {b : Nat} {xo : Option Nat} {now given at' ev : Int} {L : List Tm} {e : Ending} (h : SetR w w' b xo now given at' ev L e) : CW w w' b xo given e := by
  obtain ⟨xo', g', L', h1, h2, h3, ⟨_, rfl, rfl, rfl⟩ | ⟨_, rfl, rfl, rfl⟩⟩ := h
  · exact ⟨⟨_, rfl⟩, h3, xo', now, _, _, h2, h1, Int.le_refl _, by omega⟩
  · exact ⟨⟨_, rfl⟩, h3, xo', now, _, _, h2, h1, by omega, Int.le_refl _⟩
theorem CL.cw {w : World} {b : Nat} {xo : Option Nat} {now given : Int} {L : List Tm} (h : CL w b xo now given L) (v : Value) : CW w w b xo given (.returned v) :=
  ⟨⟨v, rfl⟩, KC.refl _ _ _, xo, now, given, L, h, NX.refl _ _, Int.le_refl _, by omega⟩
theorem StopR.cw {w w' : World} {b : Nat} {xo : Option Nat} {now given n : Int} {L : List Tm} {e : Ending} (h : StopR w w' b xo now given n L e) : CW w w' b xo given e := by
  obtain ⟨k, ⟨_, rfl, hc⟩ | ⟨_, rfl, hc⟩⟩ := h
  · exact ⟨⟨_, rfl⟩, k, xo, now, given, _, hc, NX.refl _ _, Int.le_refl _, by omega⟩
  · exact ⟨⟨_, rfl⟩, k, xo, now, given, _, hc, NX.refl _ _, Int.le_refl _, by omega⟩
theorem MoveR.cw {w w' : World} {b : Nat} {xo : Option Nat} {now given n x : Int} {L : List Tm} {e : Ending} (h : MoveR w w' b xo now given n x L e) : CW w w' b xo given e := by
  obtain ⟨k, ⟨_, rfl, hc⟩ | ⟨_, _, rfl, hc⟩ | ⟨_, rfl, t, _, _, hc⟩⟩ := h
  · exact ⟨⟨_, rfl⟩, k, xo, now, given, _, hc, NX.refl _ _, Int.le_refl _, by omega⟩
  · exact ⟨⟨_, rfl⟩, k, xo, now, given, _, hc, NX.refl _ _, Int.le_refl _, by omega⟩
  · exact ⟨⟨_, rfl⟩, k, xo, now, given, _, hc, NX.refl _ _, Int.le_refl _, by omega⟩
theorem AdvR.cw {w w' : World} {b : Nat} {xo : Option Nat} {now given x : Int} {L : List Tm} {e : Ending} (h : AdvR w w' b xo now given x L e) : CW w w' b xo given e := by
  obtain ⟨k, ⟨_, rfl, hc⟩ | ⟨_, _, rfl, hc⟩ | ⟨_, n, v, _, _, rfl, _, hc⟩⟩ := h
  · exact ⟨⟨_, rfl⟩, k, xo, now, given, _, hc, NX.refl _ _, Int.le_refl _, by omega⟩
  · exact ⟨⟨_, rfl⟩, k, xo, now, given, _, hc, NX.refl _ _, Int.le_refl _, by omega⟩
  · exact ⟨⟨_, rfl⟩, k, xo, now + x, given, _, hc, NX.refl _ _, Int.le_refl _, by omega⟩
theorem at_cw (w : World) (b : Nat) (xo : Option Nat) (now given : Int) (L : List Tm) (h : CL w b xo now given L) (hg : given ≤ 1000000000000000000) (x : Int) :
    Calls Try.prog 24 #[.pointer (some ⟨b, 0, none⟩), .int .i64 x] w fun e w' => CW w w' b xo given e :=
  (at_any w b xo now given L h hg x).mono fun e w' hr => by
    split at hr
    · exact hr.cw
    · obtain ⟨rfl, rfl⟩ := hr; exact h.cw _
theorem after_cw (w : World) (b : Nat) (xo : Option Nat) (now given : Int) (L : List Tm) (h : CL w b xo now given L) (hg : given ≤ 1000000000000000000) (x : Int) :
    Calls Try.prog 21 #[.pointer (some ⟨b, 0, none⟩), .int .i64 x] w fun e w' => CW w w' b xo given e :=
  (after_any w b xo now given L h hg x).mono fun e w' hr => by
    split at hr
    · exact hr.cw
    · obtain ⟨rfl, rfl⟩ := hr; exact h.cw _
theorem every_cw (w : World) (b : Nat) (xo : Option Nat) (now given : Int) (L : List Tm) (h : CL w b xo now given L) (hg : given ≤ 1000000000000000000) (x y : Int) :
    Calls Try.prog 25 #[.pointer (some ⟨b, 0, none⟩), .int .i64 x, .int .i64 y] w fun e w' => CW w w' b xo given e :=
  (every_any w b xo now given L h hg x y).mono fun e w' hr => by
    split at hr
    · exact hr.cw
    · obtain ⟨rfl, rfl⟩ := hr; exact h.cw _
theorem stop_cw (w : World) (b : Nat) (xo : Option Nat) (now given : Int) (L : List Tm) (h : CL w b xo now given L) (x : Int) :
    Calls Try.prog 22 #[.pointer (some ⟨b, 0, none⟩), .int .i64 x] w fun e w' => CW w w' b xo given e := (stop_any w b xo now given L h x).mono fun _ _ hr => hr.cw
theorem move_cw (w : World) (b : Nat) (xo : Option Nat) (now given : Int) (L : List Tm) (h : CL w b xo now given L) (x y : Int) :
    Calls Try.prog 23 #[.pointer (some ⟨b, 0, none⟩), .int .i64 x, .int .i64 y] w fun e w' => CW w w' b xo given e := (move_any w b xo now given L h x y).mono fun _ _ hr => hr.cw
theorem advance_cw (w : World) (b : Nat) (xo : Option Nat) (now given : Int) (L : List Tm) (h : CL w b xo now given L) (x : Int) :
    Calls Try.prog 15 #[.pointer (some ⟨b, 0, none⟩), .int .i64 x] w fun e w' => CW w w' b xo given e := (advance_any w b xo now given L h x).mono fun _ _ hr => hr.cw
end Go.Proofs.Yteiadigafkollaa
