/- Tokens: which are due, held against each other (due's closure). -/
import Derived.Test.YtkebflllbphkkaaDoorTq7
namespace Go.Proofs.YtkebflllbphkkaaDoor
open Go.RowKit

def cmpI (x y : Int) : Int := if x < y then -1 else if y < x then 1 else 0
set_option maxHeartbeats 4000000 in
theorem isNaN_any (x : Int) (w : World) :
    Calls Tryd.prog 70 #[.int .i64 x] w fun e w' => e = .returned (.bool false) ∧ w' = w := by
  go_enter Tryd.func70, Tryd.ntmps70
  go_wp2
  go_ret
  exact ⟨ret_bool (by simp), rfl⟩
set_option maxHeartbeats 4000000 in
theorem compare_any (x y : Int) (w : World) :
    Calls Tryd.prog 64 #[.int .i64 x, .int .i64 y] w fun e w' => e = .returned (.int .i64 (cmpI x y)) ∧ w' = w := by
  have NX := fun z => isNaN_any z w
  have HC : Hid (cmpI x y = if x < y then -1 else if y < x then 1 else 0) := rfl
  generalize cmpI x y = c at *
  by_cases h1 : x < y
  · have HC2 : Hid (c = -1) := by show _ = _; rw [HC.out, if_pos h1]
    clear HC
    go_enter Tryd.func64, Tryd.ntmps64
    go_wp2_with (go_at_call 70; refine (NX _).mono ?_; rintro e w2 ⟨rfl, hw2⟩; subst w2)
    go_ret
    exact ⟨by rw [HC2.out]; rfl, rfl⟩
  · by_cases h2 : y < x
    · have HC2 : Hid (c = 1) := by show _ = _; rw [HC.out, if_neg h1, if_pos h2]
      clear HC
      go_enter Tryd.func64, Tryd.ntmps64
      go_wp2_with (go_at_call 70; refine (NX _).mono ?_; rintro e w2 ⟨rfl, hw2⟩; subst w2)
      go_ret
      exact ⟨by rw [HC2.out]; rfl, rfl⟩
    · have HC2 : Hid (c = 0) := by show _ = _; rw [HC.out, if_neg h1, if_neg h2]
      clear HC
      go_enter Tryd.func64, Tryd.ntmps64
      go_wp2_with (go_at_call 70; refine (NX _).mono ?_; rintro e w2 ⟨rfl, hw2⟩; subst w2)
      go_ret
      exact ⟨by rw [HC2.out]; rfl, rfl⟩
set_option maxHeartbeats 8000000 in
theorem due1_any (w : World) (b cb mb : Nat) (nv ov : Value) (L : List NM) (T : Tr) (h : TX w b cb mb nv ov L T) (B1 x y : Nat) (h1 : w.cell? ⟨B1, 0, none⟩ = some (.pointer (some ⟨b, 0, none⟩))) (hx : x < T.ns.length) (hy : y < T.ns.length) :
    Calls Tryd.prog 63 #[.int .i64 x, .int .i64 y, .pointer (some ⟨B1, 0, none⟩)] w fun e w' => e = .returned (.int .i64 (cmpI (T.n x).til (T.n y).til)) ∧ ∃ n, w' = w.drewN n := by
  obtain ⟨c0, c1, c2, c3⟩ := h.cells
  obtain ⟨X, cap, hnv, hcap, hX, fz, n0, n1, n5, n6, n7, wp, wc, n8, ow⟩ := h.nd hx
  obtain ⟨X', cap', hnv', hcap', hX', fz', m0, m1, m5, m6, m7, wp', wc', m8, ow'⟩ := h.nd hy
  have hX2 : X' = X := by
    rw [hnv] at hnv'
    injection hnv' with e _ _
    injection e with e
    injection e with e _ _
    exact e.symm
  subst hX2
  rw [hnv] at c1
  have hnl := h.nl
  generalize (T.n x).til = tx at *
  generalize (T.n y).til = ty at *
  generalize T.ns.length = N at *
  clear h n0 n1 n6 n7 n8 ow m0 m1 m6 m7 m8 ow' c0 c2 c3 fz fz' hnv hnv'
  go_enter Tryd.func63, Tryd.ntmps63
  go_wp2
  go_quiet ((go_at_call 64; exact Calls.quiet_of_same (compare_any _ _ _)))
  go_wp2
  go_ret
  exact ⟨rfl, _, rfl⟩
end Go.Proofs.YtkebflllbphkkaaDoor
