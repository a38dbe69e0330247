/- Names: the reference's well: what it needs. -/
import Derived.Test.YtmkgcgdfgagdlaaDoorPx1
namespace Go.Proofs.YtmkgcgdfgagdlaaDoor
open Go.RowKit

theorem isX_cases {k : Int} (h : isX k = true) : k = 1 ∨ k = 2 ∨ k = 3 ∨ k = 4 ∨ k = 5 ∨ k = 6 ∨ k = 7 ∨ k = 8 ∨ k = 9 ∨ k = 10 ∨ k = 11 ∨ k = 12 ∨ k = 13 ∨ k = 14 ∨ k = 15 ∨ k = 16 ∨ k = 17 ∨ k = 18 ∨ k = 19 := by
  rw [isX_iff] at h; omega
def arO (o : Opn) : Int := if o.kind = 5 then o.n else oprt o.kind
set_option maxHeartbeats 4000000 in
theorem rarity_any (o : Opn) (w : World) (hk : isX o.kind = true) : Calls Tryd.prog 100 #[opV o] w fun e w' => e = .returned (.int .i64 (arO o)) ∧ Below w.heap.size w w' := by
  have AL : Hid (∀ ob, Below w.heap.size w (w.alloc ob)) := fun ob => (Below.refl _ _).alloc (Nat.le_refl _) ob
  have HB : Hid (arO o = if o.kind = 5 then o.n else oprt o.kind) := rfl
  generalize arO o = r at *
  obtain ⟨k, n, i, t⟩ := o
  simp only [opV] at *
  rcases isX_cases hk with rfl | rfl | rfl | rfl | rfl | rfl | rfl | rfl | rfl | rfl | rfl | rfl | rfl | rfl | rfl | rfl | rfl | rfl | rfl
  all_goals
    clear hk
    go_enter Tryd.func100, Tryd.ntmps100
    go_wp2
    go_ret
    exact ⟨by rw [HB.out]; rfl, AL.out _⟩
end Go.Proofs.YtmkgcgdfgagdlaaDoor
namespace Go.Proofs.YtmkgcgdfgagdlaaDoor
open Go.RowKit

theorem oprt_nn {k : Int} (h : isX k = true) : 0 ≤ oprt k := by
  rcases isX_cases h with rfl | rfl | rfl | rfl | rfl | rfl | rfl | rfl | rfl | rfl | rfl | rfl | rfl | rfl | rfl | rfl | rfl | rfl | rfl <;> decide
theorem arB_eq {o : Opn} (h : isX o.kind = true) : arB o = decide (0 ≤ o.n ∧ o.n = arO o) := by
  have := oprt_nn h
  unfold arB arO
  split
  · simp
  · exact decide_eq_decide.2 (by omega)
/-- A box with an operation. -/
def OB (w0 w : World) (g : Nat) (k n i : Int) (t : ByteArray) : Prop := (w.cell? ⟨g, 0, none⟩ = some (.int .i64 k) ∧ w.cell? ⟨g, 1, none⟩ = some (.int .i64 n) ∧ w.cell? ⟨g, 2, none⟩ = some (.int .i64 i) ∧ w.cell? ⟨g, 3, none⟩ = some (.string t)) ∧ Below w0.heap.size w0 w
theorem OB.new (w : World) (k n i : Int) (t : ByteArray) : OB w (w.alloc (.cells #[.int .i64 k, .int .i64 n, .int .i64 i, .string t] 56)) w.heap.size k n i t := by
  have q : ∀ j, (w.alloc (.cells #[.int .i64 k, .int .i64 n, .int .i64 i, .string t] 56)).cell? ⟨w.heap.size, j, none⟩ = (#[.int .i64 k, .int .i64 n, .int .i64 i, .string t] : Array Value)[j]? := fun j => cell_of_row _ _ _ _ _ _ (heap_alloc_new _ _)
  exact ⟨⟨q 0, q 1, q 2, q 3⟩, (Below.refl _ _).alloc (Nat.le_refl _) _⟩
theorem OB.below {w0 w w' : World} {g : Nat} {k n i : Int} {t : ByteArray} (h : OB w0 w g k n i t) (hb : Below w.heap.size w w') : OB w0 w' g k n i t := by
  obtain ⟨⟨c0, c1, c2, c3⟩, b⟩ := h
  exact ⟨⟨(hb.cell (p := ⟨g, 0, none⟩) (block_lt_of_cell c0)).trans c0, (hb.cell (p := ⟨g, 1, none⟩) (block_lt_of_cell c1)).trans c1, (hb.cell (p := ⟨g, 2, none⟩) (block_lt_of_cell c2)).trans c2, (hb.cell (p := ⟨g, 3, none⟩) (block_lt_of_cell c3)).trans c3⟩, b.trans (hb.mono b.size)⟩
end Go.Proofs.YtmkgcgdfgagdlaaDoor
