/- Values: Check. -/
import Derived.Test.YtbgeihgenckihaaDoorVb5
namespace Go.Proofs.YtbgeihgenckihaaDoor
open Go.RowKit

theorem depV_nn (l : List Atm) : 0 ≤ depV l := by
  unfold depV
  split
  · omega
  · omega
set_option maxHeartbeats 4000000 in
theorem vcheck_any (v : Value) (l : List Atm) (w : World) (h : AS w v l) (ht : AT l) (hlm : l.length ≤ 1000000000000000) :
    Calls Tryd.prog 58 #[v] w fun e w' => e = .returned (.int .i64 (chkV l)) ∧ Below w.heap.size w w' := by
  have HC : Hid (chkV l = if 1024 < l.length then 3 else if depV l = 0 ∨ 32 < depV l then 5 else 0) := rfl
  have BR : Hid (Below w.heap.size w w) := Below.refl _ _
  have hdn := depV_nn l
  by_cases h1 : 1024 < l.length
  · have h1I : (l.length : Int) > 1024 := by omega
    rw [if_pos h1] at HC
    obtain ⟨p, cap, rfl⟩ := h.form
    generalize chkV l = r at *
    clear h ht
    go_enter Tryd.func58, Tryd.ntmps58
    go_wp2_with fail
    go_ret
    exact ⟨by rw [HC.out]; rfl, BR.out⟩
  · have h1I : ¬ (l.length : Int) > 1024 := by omega
    rw [if_neg h1] at HC
    have DP : Hid _ := depthOf_any v l w h ht (by omega)
    obtain ⟨p, cap, rfl⟩ := h.form
    generalize chkV l = r at *
    generalize depV l = d at *
    clear h ht
    by_cases h2 : d = 0
    · subst h2
      rw [if_pos (Or.inl rfl)] at HC
      go_enter Tryd.func58, Tryd.ntmps58
      go_wp2_with fail
      refine Calls.mono DP.out ?_
      rintro e w1 ⟨rfl, hb1⟩
      have B1 : Hid (Below w.heap.size w w1) := hb1
      clear hb1 DP
      go_wp2_with fail
      go_ret
      exact ⟨by rw [HC.out]; rfl, B1.out⟩
    · by_cases h3 : 32 < d
      · rw [if_pos (Or.inr h3)] at HC
        have h3I : d > 32 := h3
        go_enter Tryd.func58, Tryd.ntmps58
        go_wp2_with fail
        refine Calls.mono DP.out ?_
        rintro e w1 ⟨rfl, hb1⟩
        have B1 : Hid (Below w.heap.size w w1) := hb1
        clear hb1 DP
        go_wp2_with fail
        go_ret
        exact ⟨by rw [HC.out]; rfl, B1.out⟩
      · rw [if_neg (by omega)] at HC
        have h3I : ¬ d > 32 := h3
        have hq : (d == 0 || decide (32 < d)) = false := by simp [h2]; omega
        have hq2 : (d == 0) = false := by simp [h2]
        have hq3 : decide (32 < d) = false := by simp; omega
        go_enter Tryd.func58, Tryd.ntmps58
        go_wp2_with fail
        refine Calls.mono DP.out ?_
        rintro e w1 ⟨rfl, hb1⟩
        have B1 : Hid (Below w.heap.size w w1) := hb1
        clear hb1 DP
        go_wp2_with fail
        go_ret
        exact ⟨by rw [HC.out]; rfl, B1.out⟩
end Go.Proofs.YtbgeihgenckihaaDoor
