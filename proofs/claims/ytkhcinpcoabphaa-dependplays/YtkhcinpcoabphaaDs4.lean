/- Depend: step's three boxes. -/
import Derived.Test.YtkhcinpcoabphaaDs3
namespace Go.Proofs.Ytkhcinpcoabphaa
open Go.RowKit

/-- The document's web stays where the program writes its own block only. -/
theorem RV.but {w w' : World} {b : Nat} {P : Nat → Prop} {vr vw : Value} {X : Wb} (h : RV w P vr vw X) (hP : ∀ x, P x → x ≠ b) (k : But (fun x => x = b) w w') : RV w' P vr vw X := h.far k.size fun x hx hp => k.block x hx (hP x hp)
/-- step's boxes: the document's web, the call, the answer. -/
structure T3 (w : World) (sz b : Nat) (v1 v2 : Value) (x : Ca) (W : World) : Prop where
  s : sz = w.heap.size
  lt : b < sz
  bl : But (fun x => x = b) w W
  z : sz + 3 ≤ W.heap.size
  h0 : W.heap[sz]? = some (.cells #[v1, v2] 29)
  h1 : W.heap[sz + 1]? = some (.cells #[.int .i64 x.k, .int .i64 x.t, .int .i64 x.c] 31)
  h2 : W.heap[sz + 2]? = some (.cells #[.slice none 0 0, .slice none 0 0] 29)
theorem T3.mk_ {w : World} {b : Nat} (hb : b < w.heap.size) (v1 v2 : Value) (x : Ca) : T3 w w.heap.size b v1 v2 x (((w.alloc (.cells #[v1, v2] 29)).alloc (.cells #[.int .i64 x.k, .int .i64 x.t, .int .i64 x.c] 31)).alloc (.cells #[.slice none 0 0, .slice none 0 0] 29)) := by
  refine ⟨rfl, hb, But.of_below (bl3 (bal _ _) (bl3 (bal _ _) (bal _ _))), by rw [alloc_size, alloc_size, alloc_size]; omega, ?_, ?_, ?_⟩
  · rw [Below.heap_alloc _ _ _ (by rw [alloc_size, alloc_size]; omega), Below.heap_alloc _ _ _ (by rw [alloc_size]; omega)]; exact heap_alloc_new _ _
  · rw [Below.heap_alloc _ _ _ (by rw [alloc_size, alloc_size]; omega)]
    have := heap_alloc_new (w.alloc (.cells #[v1, v2] 29)) (.cells #[.int .i64 x.k, .int .i64 x.t, .int .i64 x.c] 31)
    rw [alloc_size] at this
    exact this
  · have := heap_alloc_new ((w.alloc (.cells #[v1, v2] 29)).alloc (.cells #[.int .i64 x.k, .int .i64 x.t, .int .i64 x.c] 31)) (.cells #[.slice none 0 0, .slice none 0 0] 29)
    rw [alloc_size, alloc_size] at this
    exact this
theorem T3.but {w : World} {sz b : Nat} {v1 v2 : Value} {x : Ca} {W W' : World} (h : T3 w sz b v1 v2 x W) (k : But (fun x => x = b) W W') : T3 w sz b v1 v2 x W' := by
  have hz := h.z
  have hl := h.lt
  exact ⟨h.s, h.lt, h.bl.trans k (fun _ hx => Or.inl hx), Nat.le_trans hz k.size, (k.block _ (by omega) (by show ¬ _ = b; omega)).trans h.h0, (k.block _ (by omega) (by show ¬ _ = b; omega)).trans h.h1, (k.block _ (by omega) (by show ¬ _ = b; omega)).trans h.h2⟩
theorem T3.at {w : World} {sz b : Nat} {v1 v2 : Value} {x : Ca} {W : World} (h : T3 w sz b v1 v2 x W) : (W.cell? ⟨sz, 0, none⟩ = some v1 ∧ W.cell? ⟨sz, 1, none⟩ = some v2) ∧ (W.cell? ⟨sz + 1, 0, none⟩ = some (.int .i64 x.k) ∧ W.cell? ⟨sz + 1, 1, none⟩ = some (.int .i64 x.t) ∧ W.cell? ⟨sz + 1, 2, none⟩ = some (.int .i64 x.c)) ∧ (W.cell? ⟨sz + 2, 0, none⟩ = some (.slice none 0 0) ∧ W.cell? ⟨sz + 2, 1, none⟩ = some (.slice none 0 0)) ∧ (∀ o, W.frozen? ⟨sz, o, none⟩ = false) ∧ ∀ o, W.frozen? ⟨sz + 2, o, none⟩ = false :=
  ⟨⟨cell_of_row _ _ _ _ _ _ h.h0, cell_of_row _ _ _ _ _ _ h.h0⟩, ⟨cell_of_row _ _ _ _ _ _ h.h1, cell_of_row _ _ _ _ _ _ h.h1, cell_of_row _ _ _ _ _ _ h.h1⟩, ⟨cell_of_row _ _ _ _ _ _ h.h2, cell_of_row _ _ _ _ _ _ h.h2⟩, fun o => by simp [World.frozen?, h.h0], fun o => by simp [World.frozen?, h.h2]⟩
/-- The document's web written back into its box. -/
theorem T3.put {w : World} {sz b : Nat} {v1 v2 : Value} {x : Ca} {W : World} (h : T3 w sz b v1 v2 x W) (u1 u2 : Value) : T3 w sz b u1 u2 x ((W.setCell ⟨sz, 0, none⟩ u1).setCell ⟨sz, 1, none⟩ u2) := by
  have hs := h.s
  refine ⟨h.s, h.lt, ⟨by simp [World.setCell]; exact h.bl.os, by simp [World.setCell]; exact h.bl.tape, by simp [World.setCell]; exact h.bl.output, by simp [World.setCell]; exact h.bl.size, fun y hy hne => ?_⟩, by simp [World.setCell]; exact h.z, set2_box h.h0 _ _, ?_, ?_⟩
  · rw [set_far (by omega), set_far (by omega)]; exact h.bl.block y hy hne
  · rw [set_far (by omega), set_far (by omega)]; exact h.h1
  · rw [set_far (by omega), set_far (by omega)]; exact h.h2
end Go.Proofs.Ytkhcinpcoabphaa
