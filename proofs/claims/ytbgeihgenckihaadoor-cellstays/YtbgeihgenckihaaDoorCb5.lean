/- Cells: New. -/
import Derived.Test.YtbgeihgenckihaaDoorCb3
namespace Go.Proofs.YtbgeihgenckihaaDoor
open Go.RowKit

/-- What New answers. -/
def NewR (w : World) (ag : Bool) (p : Pol) (w' : World) (e : Ending) : Prop := Below w.heap.size w w' ∧ ((polB p = false ∧ e = .returned (.tuple #[.pointer none, .int .i64 50])) ∨ (polB p = true ∧ ∃ b, w.heap.size ≤ b ∧ e = .returned (.tuple #[.pointer (some ⟨b, 0, none⟩), .int .i64 0]) ∧ CX w' b (newC ag p) (.slice none 0 0) (.slice none 0 0)))
set_option maxHeartbeats 4000000 in
theorem cnew_any (w : World) (ag : Bool) (p : Pol) : Calls Tryd.prog 7 #[.bool ag, polV p] w fun e w' => NewR w ag p w' e := by
  have IP : Hid (∀ w', Calls Tryd.prog 23 #[.agg #[.int .i64 p.t, .int .i64 p.b, .int .i64 p.f, .int .i64 p.c]] w' fun e w'' => e = .returned (.bool (polB p)) ∧ Below w'.heap.size w' w'') := fun w' => isPolicy_any p w'
  have HN : Hid (∀ w' e, NewR w ag p w' e = (Below w.heap.size w w' ∧ ((polB p = false ∧ e = .returned (.tuple #[.pointer none, .int .i64 50])) ∨ (polB p = true ∧ ∃ b, w.heap.size ≤ b ∧ e = .returned (.tuple #[.pointer (some ⟨b, 0, none⟩), .int .i64 0]) ∧ CX w' b (newC ag p) (.slice none 0 0) (.slice none 0 0))))) := fun _ _ => rfl
  have AL : Hid (∀ ob, Below w.heap.size w (w.alloc ob)) := fun ob => (Below.refl _ _).alloc (Nat.le_refl _) ob
  have NW : Hid (∀ w1 : World, CX (w1.alloc (.cells (ceA (newC ag p) (.slice none 0 0) (.slice none 0 0)) 67)) w1.heap.size (newC ag p) (.slice none 0 0) (.slice none 0 0)) := fun w1 => ⟨heap_alloc_new w1 _, Or.inl ⟨Or.inl rfl, rfl⟩, Or.inl ⟨Or.inl rfl, rfl⟩, fun x hx => by simp [Value.ownBlock] at hx, fun x hx => by simp [Value.ownBlock] at hx⟩
  generalize NewR w ag p = NR at *
  have BX : Hid (∀ ob w5, Below (w.alloc ob).heap.size (w.alloc ob) w5 → ∀ o, w5.cell? ⟨w.heap.size, o, none⟩ = (w.alloc ob).cell? ⟨w.heap.size, o, none⟩) := fun ob w5 hb o => hb.cell (p := ⟨w.heap.size, o, none⟩) (by simp)
  cases hp : polB p with
  | false =>
    rw [hp] at IP HN
    obtain ⟨pt, pb, pf, pc⟩ := p
    simp only [polV] at *
    go_enter Tryd.func7, Tryd.ntmps7
    go_wp2_with (go_at_call 23; refine (IP.out _).mono ?_; rintro e w1 ⟨rfl, hb⟩; have B1 : Hid (Below w.heap.size w w1) := (AL.out _).trans (hb.mono (AL.out _).size); clear hb)
    try go_ret2
    rw [HN.out]
    exact ⟨B1.out, Or.inl ⟨by trivial, rfl⟩⟩
  | true =>
    rw [hp] at IP HN
    obtain ⟨pt, pb, pf, pc⟩ := p
    simp only [polV] at *
    go_enter Tryd.func7, Tryd.ntmps7
    go_wp2_with (go_at_call 23; refine (IP.out _).mono ?_; rintro e w1 ⟨rfl, hb⟩; have B1 : Hid (Below w.heap.size w w1) := (AL.out _).trans (hb.mono (AL.out _).size); have k0 : w1.cell? ⟨w.heap.size, 0, none⟩ = some (.int .i64 pt) := (BX.out _ _ hb 0).trans (cell_of_row _ _ _ _ _ _ (heap_alloc_new w _)); have k1 : w1.cell? ⟨w.heap.size, 1, none⟩ = some (.int .i64 pb) := (BX.out _ _ hb 1).trans (cell_of_row _ _ _ _ _ _ (heap_alloc_new w _)); have k2 : w1.cell? ⟨w.heap.size, 2, none⟩ = some (.int .i64 pf) := (BX.out _ _ hb 2).trans (cell_of_row _ _ _ _ _ _ (heap_alloc_new w _)); have k3 : w1.cell? ⟨w.heap.size, 3, none⟩ = some (.int .i64 pc) := (BX.out _ _ hb 3).trans (cell_of_row _ _ _ _ _ _ (heap_alloc_new w _)); clear hb)
    try go_ret2
    rw [HN.out]
    exact ⟨B1.out.alloc B1.out.size _, Or.inr ⟨by trivial, w1.heap.size, B1.out.size, rfl, NW.out w1⟩⟩
end Go.Proofs.YtbgeihgenckihaaDoor
