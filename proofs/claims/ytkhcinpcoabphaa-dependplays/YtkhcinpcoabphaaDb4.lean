/- Depend: what is tied to one, in order. -/
import Derived.Test.YtkhcinpcoabphaaDb3
import Derived.Test.YtkhcinpcoabphaaSortF
namespace Go.Proofs.Ytkhcinpcoabphaa
open Go.RowKit

def cmpN (x y : Int) : Int := if x < y then -1 else if y < x then 1 else 0
set_option maxHeartbeats 2000000 in
theorem isNaN_any (x : Int) (w : World) : Calls Try.prog 51 #[.int .i64 x] w fun e w' => e = .returned (.bool false) ∧ w' = w := by
  go_enter Try.func51, Try.ntmps51
  go_wp2
  go_ret
  exact ⟨ret_bool (by simp), rfl⟩
set_option maxHeartbeats 2000000 in
theorem compare_any (x y : Int) (w : World) : Calls Try.prog 48 #[.int .i64 x, .int .i64 y] w fun e w' => e = .returned (.int .i64 (cmpN x y)) ∧ w' = w := by
  have N := hid (fun z w' => isNaN_any z w')
  have HE : Hid (cmpN x y = if x < y then -1 else if y < x then 1 else 0) := rfl
  generalize cmpN x y = r at *
  by_cases h1 : x < y
  · go_enter Try.func48, Try.ntmps48
    go_wp2_with (go_at_call 51; refine (N.out _ _).mono ?_; rintro e w' ⟨rfl, hw⟩; rw [hw]; clear hw)
    go_ret
    exact ⟨ret_i (by rw [HE.out, if_pos h1]), rfl⟩
  · by_cases h2 : y < x
    · go_enter Try.func48, Try.ntmps48
      go_wp2_with (go_at_call 51; refine (N.out _ _).mono ?_; rintro e w' ⟨rfl, hw⟩; rw [hw]; clear hw)
      go_ret
      exact ⟨ret_i (by rw [HE.out, if_neg (by omega), if_pos h2]), rfl⟩
    · go_enter Try.func48, Try.ntmps48
      go_wp2_with (go_at_call 51; refine (N.out _ _).mono ?_; rintro e w' ⟨rfl, hw⟩; rw [hw]; clear hw)
      go_ret
      exact ⟨ret_i (by rw [HE.out, if_neg (by omega), if_neg (by omega)]), rfl⟩
set_option maxHeartbeats 4000000 in
theorem tied1_any (ts : List Ti) (x y : Nat) (hx : x < ts.length) (hy : y < ts.length) (_hn : ts.length ≤ 1000) (B : Nat) (p : Option Addr) (c : Nat) (w : World) (hB : w.cell? ⟨B, 0, none⟩ = some (.slice p ts.length c)) (h : GS KT w (.slice p ts.length c) ts) : Calls Try.prog 47 #[.int .i64 x, .int .i64 y, .pointer (some ⟨B, 0, none⟩)] w fun e w' => e = .returned (.int .i64 (cmpN (tiA ts x).made (tiA ts y).made)) ∧ ∃ q os', w' = Go.Sort.grow (w.drewN q) os' := by
  obtain ⟨Y, o, e1, _, _, c1, _⟩ := h.atT hx
  obtain ⟨Y2, o2, e2, _, _, c2, _⟩ := h.atT hy
  rw [e1] at e2
  injection e2 with e2
  injection e2 with e3 e4 _
  subst e3 e4 e1
  have CM := hid (fun n => compare_any (tiA ts x).made (tiA ts y).made (w.drewN n))
  generalize cmpN (tiA ts x).made (tiA ts y).made = r at *
  generalize (tiA ts x).made = mx at *
  generalize (tiA ts y).made = my at *
  generalize ts.length = n at *
  have hx2 : (x : Int) < n := by omega
  have hy2 : (y : Int) < n := by omega
  clear h
  go_enter Try.func47, Try.ntmps47
  go_wp2
  go_quiet ((go_at_call 48; exact Calls.quiet_of_same (CM.out _)))
  go_wp2
  go_ret
  exact ⟨rfl, nq, #[], by rw [Go.Sort.grow_empty]⟩
end Go.Proofs.Ytkhcinpcoabphaa
