/- Names: the reference's well, kind by kind. -/
import Derived.Test.YtmkgcgdfgagdlaaDoorPx3
import Derived.Test.YtmkgcgdfgagdlaaDoorPy2
import Derived.Deep.QuietTactic
import Derived.BigQuiet
import Derived.BigRegion
import Derived.Deep.RegionLaw
import Derived.Deep.RegionWith
namespace Go.Proofs.YtmkgcgdfgagdlaaDoor
open Go.RowKit

theorem below_drewY {w w' : World} {B : Nat} (h : Below B w w') (n : Nat) : Below B w (w'.drewN n) := ⟨h.os, h.tape, h.output, h.size, h.block⟩
/-- The ways of an operation's check. -/
theorem well_ways {k : Int} {m : Nat} {i : Int} {t : ByteArray} (hk : isX k = true) : ((((m : Int) != arO ⟨k, m, i, t⟩) = true) ∧ opB ⟨k, m, i, t⟩ = false) ∨ (((m : Int) != arO ⟨k, m, i, t⟩) = false ∧ opB ⟨k, m, i, t⟩ = (inB' ⟨k, m, i, t⟩ && txB ⟨k, m, i, t⟩)) := by
  have e := arB_eq (o := ⟨k, m, i, t⟩) hk
  have e2 : opB ⟨k, m, i, t⟩ = (isX k && (arB ⟨k, m, i, t⟩ && inB' ⟨k, m, i, t⟩ && txB ⟨k, m, i, t⟩)) := rfl
  by_cases h : (m : Int) = arO ⟨k, m, i, t⟩
  · right
    refine ⟨by rw [← h]; simp, ?_⟩
    rw [e2, hk, e, decide_eq_true (by exact ⟨Int.natCast_nonneg _, h⟩)]; simp
  · left
    refine ⟨by simpa using h, ?_⟩
    rw [e2, e, decide_eq_false (by exact fun h2 => h h2.2)]; simp
end Go.Proofs.YtmkgcgdfgagdlaaDoor
