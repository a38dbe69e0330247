/- Names: the reference's arity. -/
import Derived.Test.YtmkgcgdfgagdlaaDoorPx1
namespace Go.Proofs.YtmkgcgdfgagdlaaDoor
open Go.RowKit

theorem isX_cases {k : Int} (h : isX k = true) : k = 1 ∨ k = 2 ∨ k = 3 ∨ k = 4 ∨ k = 5 ∨ k = 6 ∨ k = 7 ∨ k = 8 ∨ k = 9 ∨ k = 10 ∨ k = 11 ∨ k = 12 ∨ k = 13 ∨ k = 14 ∨ k = 15 ∨ k = 16 ∨ k = 17 ∨ k = 18 ∨ k = 19 := by
  rw [isX_iff] at h; omega
def arO (o : Opn) : Int := if o.kind = 5 then o.n else oprt o.kind
set_option maxHeartbeats 4000000 in
theorem rarity_any (o : Opn) (w : World) (hk : isX o.kind = true) : Calls Tryd.prog 100 #[opV o] w fun e w' => e = .returned (.int .i64 (arO o)) ∧ Below w.heap.size w w' := by
  have AL : Hid (∀ ob, Below w.heap.size w (w.alloc ob)) := fun ob => (Below.refl _ _).alloc (Nat.le_refl _) ob
  have HB : Hid (arO o = if o.kind = 5 then o.n else oprt o.kind) := rfl
  generalize arO o = r at *
  obtain ⟨k, n, i, t⟩ := o
  simp only [opV] at *
  rcases isX_cases hk with rfl | rfl | rfl | rfl | rfl | rfl | rfl | rfl | rfl | rfl | rfl | rfl | rfl | rfl | rfl | rfl | rfl | rfl | rfl
  all_goals
    clear hk
    go_enter Tryd.func100, Tryd.ntmps100
    go_wp2
    go_ret
    exact ⟨by rw [HB.out]; rfl, AL.out _⟩
end Go.Proofs.YtmkgcgdfgagdlaaDoor
