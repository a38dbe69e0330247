/- Graph: nearest. -/
import Derived.Test.YthhjknpfaghfbaaYe7
import Derived.Test.YthhjknpfaghfbaaYe8
namespace Go.Proofs.Ythhjknpfaghfbaa
open Go.RowKit

theorem far_at {w : World} {p : Option Addr} {n cap N : Nat} {F : Nat → Int} (h : GS KI w (.slice p n cap) ((List.range N).map F)) {y : Nat} (hy : y < N) : ∃ X o, p = some ⟨X, o, none⟩ ∧ w.cell? ⟨X, o + y, none⟩ = some (.int .i64 (F y)) := by
  obtain ⟨X, o, e, hc⟩ := h.atI (k := y) (by simpa using hy)
  refine ⟨X, o, e, ?_⟩
  rw [hc]
  simp
end Go.Proofs.Ythhjknpfaghfbaa
