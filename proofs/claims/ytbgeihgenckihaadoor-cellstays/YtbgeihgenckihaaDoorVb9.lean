/- Values, the reference: Check. -/
import Derived.Test.YtbgeihgenckihaaDoorVb8
namespace Go.Proofs.YtbgeihgenckihaaDoor
open Go.RowKit

theorem depV_one {l : List Atm} {t : Vt} (h : bV [] l = some [t]) : depV l = (dpV t : Nat) := by unfold depV; rw [h]
set_option maxHeartbeats 4000000 in
theorem rvcheck_any (v : Value) (l : List Atm) (w : World) (h : AS w v l) (ht : AT l) (hlm : l.length ≤ 1000000000000000) :
    Calls Tryd.prog 61 #[v] w fun e w' => e = .returned (.int .i64 (chkV l)) ∧ Below w.heap.size w w' := by
  have HC : Hid (chkV l = if 1024 < l.length then 3 else if depV l = 0 ∨ 32 < depV l then 5 else 0) := rfl
  have BR : Hid (Below w.heap.size w w) := Below.refl _ _
  by_cases h1 : 1024 < l.length
  · have h1I : (l.length : Int) > 1024 := by omega
    rw [if_pos h1] at HC
    obtain ⟨p, cap, rfl⟩ := h.form
    generalize chkV l = r at *
    clear h ht
    go_enter Tryd.func61, Tryd.ntmps61
    go_wp2_with fail
    go_ret
    exact ⟨by rw [HC.out]; rfl, BR.out⟩
  · have h1I : ¬ (l.length : Int) > 1024 := by omega
    rw [if_neg h1] at HC
    have DP : Hid _ := rbegins_any v l w h ht (by omega)
    have D1 : Hid (∀ t, bV [] l = some [t] → depV l = (dpV t : Nat)) := fun t e => depV_one e
    obtain ⟨p, cap, rfl⟩ := h.form
    generalize chkV l = r at *
    clear h ht
    go_enter Tryd.func61, Tryd.ntmps61
    go_wp2_with fail
    refine Calls.mono DP.out ?_
    rintro e w1 ⟨hb1, ⟨h0, rfl⟩ | ⟨t, F, q, c, hbv, rfl, _, _, _⟩⟩
    · have B1 : Hid (Below w.heap.size w w1) := hb1
      rw [if_pos (Or.inl h0)] at HC
      clear hb1 DP h0
      go_wp2_with fail
      go_ret
      exact ⟨by rw [HC.out]; rfl, B1.out⟩
    · have B1 : Hid (Below w.heap.size w w1) := hb1
      have hp := dpV_pos t
      rw [D1.out t hbv] at HC
      clear hb1 DP hbv D1
      generalize dpV t = d at *
      by_cases h3 : 32 < d
      · have h3I : (d : Int) > 32 := by omega
        rw [if_pos (Or.inr h3I)] at HC
        go_wp2_with fail
        go_ret
        exact ⟨by rw [HC.out]; rfl, B1.out⟩
      · have h3I : ¬ (d : Int) > 32 := by omega
        rw [if_neg (by omega)] at HC
        go_wp2_with fail
        go_ret
        exact ⟨by rw [HC.out]; rfl, B1.out⟩
end Go.Proofs.YtbgeihgenckihaaDoor
