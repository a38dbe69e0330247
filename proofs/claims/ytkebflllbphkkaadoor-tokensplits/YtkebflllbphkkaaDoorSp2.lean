/- Sorting: rows of numbers in memory, what compares them; two ranges exchanged; rotation. -/
import Derived.Test.YtkebflllbphkkaaDoorSo1
import Derived.Test.YtkebflllbphkkaaDoorTb1
import Derived.BigRegion
import Derived.BigQuiet
import Derived.Deep.RegionWith
import Derived.Deep.RegionHeld3
namespace Go.Proofs.YtkebflllbphkkaaDoor
open Go.RowKit

/-- Nothing but one block, and new ones, is another. -/
structure Sm (g : Nat) (a b : World) : Prop where
  os : b.os = a.os
  tape : b.tape = a.tape
  output : b.output = a.output
  size : a.heap.size ≤ b.heap.size
  block : ∀ j, j < a.heap.size → j ≠ g → b.heap[j]? = a.heap[j]?
theorem Sm.refl (g : Nat) (a : World) : Sm g a a := ⟨rfl, rfl, rfl, Nat.le_refl _, fun _ _ _ => rfl⟩
theorem Sm.trans {g : Nat} {a b c : World} (h : Sm g a b) (k : Sm g b c) : Sm g a c := ⟨k.os.trans h.os, k.tape.trans h.tape, k.output.trans h.output, Nat.le_trans h.size k.size, fun j hj hg => (k.block j (Nat.lt_of_lt_of_le hj h.size) hg).trans (h.block j hj hg)⟩
theorem Sm.of_below {g : Nat} {a b : World} (h : Below a.heap.size a b) : Sm g a b := ⟨h.os, h.tape, h.output, h.size, fun j hj _ => h.block j hj⟩
theorem Sm.set {g : Nat} {a b : World} (h : Sm g a b) (o : Nat) (v : Value) : Sm g a (b.setCell ⟨g, o, none⟩ v) := ⟨h.os, h.tape, h.output, by simpa [World.setCell] using h.size, fun j hj hg => (Below.heap_setCell _ _ _ _ hg).trans (h.block j hj hg)⟩
theorem Sm.drew {g : Nat} {a b : World} (h : Sm g a b) : Sm g a b.drew := ⟨h.os, h.tape, h.output, h.size, h.block⟩
/-- The row to be sorted, where it stands. -/
structure SD (cap N : Nat) (w0 wk : World) (g n : Nat) (D : List Int) : Prop where
  ow : OwnG KI wk 0 (.slice (some ⟨g, 0, none⟩) n cap) D
  ln : D.length = n
  sm : Sm g w0 wk
  rg : ∀ k, k < n → 0 ≤ gD D k ∧ gD D k < (N : Int)
theorem SD.at {cap N : Nat} {w0 wk : World} {g n : Nat} {D : List Int} (h : SD cap N w0 wk g n D) {k : Nat} (hk : k < n) : wk.cell? ⟨g, k, none⟩ = some (.int .i64 (gD D k)) ∧ wk.frozen? ⟨g, k, none⟩ = false :=
  ⟨own_int h.ow h.ln.symm (by rw [h.ln]; exact hk), own_frozen h.ow k⟩
theorem SD.lt {cap N : Nat} {w0 wk : World} {g n : Nat} {D : List Int} (h : SD cap N w0 wk g n D) : g < wk.heap.size := (h.ow.lt rfl).2
theorem SD.below {cap N : Nat} {w0 wk w' : World} {g n : Nat} {D : List Int} (h : SD cap N w0 wk g n D) (b : Below wk.heap.size wk w') : SD cap N w0 w' g n D := ⟨h.ow.below b, h.ln, h.sm.trans (Sm.of_below b), h.rg⟩
theorem SD.drew {cap N : Nat} {w0 wk : World} {g n : Nat} {D : List Int} (h : SD cap N w0 wk g n D) : SD cap N w0 wk.drew g n D := h.below (Below.refl _ _).drew
theorem SD.swap {cap N : Nat} {w0 wk : World} {g n : Nat} {D : List Int} (h : SD cap N w0 wk g n D) {i j : Nat} (hi : i < n) (hj : j < n) : SD cap N w0 ((wk.setCell ⟨g, i, none⟩ (.int .i64 (gD D j))).setCell ⟨g, j, none⟩ (.int .i64 (gD D i))) g n (swp D i j) := by
  have h1 := h.ow.set1 rfl KI_ok.len (k := i) (gD D j) _ rfl
  have h2 := h1.set1 rfl KI_ok.len (k := j) (gD D i) _ rfl
  refine ⟨h2, by rw [swp_len]; exact h.ln, (h.sm.set _ _).set _ _, fun k hk => ?_⟩
  have hl := h.ln
  rw [swp_at (by omega) (by omega)]
  split
  · exact h.rg i hi
  · split
    · exact h.rg j hj
    · exact h.rg k hk
/-- Not less. -/
def NL (x : Int) : Prop := ¬ x < 0
/-- What compares. -/
structure CmpOk (N : Nat) (w0 : World) (g fn : Nat) (cp : Array Value) (c : Int → Int → Int) : Prop where
  en : ∀ args w, Sem.run Tryd.prog (callFunc fn args) w = .ok (.enter fn args) w
  ca : ∀ wk, Sm g w0 wk → ∀ x y : Int, 0 ≤ x → x < (N : Int) → 0 ≤ y → y < (N : Int) → Calls Tryd.prog fn (#[.int .i64 x, .int .i64 y] ++ cp) wk fun e w' => e = .returned (.int .i64 (c x y)) ∧ Below wk.heap.size wk w'
  bd : ∀ x y, -1 ≤ c x y ∧ c x y ≤ 1
  od : OrdC c
theorem SD.cmp {cap N : Nat} {w0 wk : World} {g n fn : Nat} {D : List Int} {cp : Array Value} {c : Int → Int → Int} (h : SD cap N w0 wk g n D) (C : CmpOk N w0 g fn cp c) {i j : Nat} (hi : i < n) (hj : j < n) : Calls Tryd.prog fn (#[.int .i64 (gD D i), .int .i64 (gD D j)] ++ cp) wk fun e w' => e = .returned (.int .i64 (c (gD D i) (gD D j))) ∧ SD cap N w0 w' g n D := by
  refine (C.ca wk h.sm _ _ (h.rg i hi).1 (h.rg i hi).2 (h.rg j hj).1 (h.rg j hj).2).mono ?_
  rintro e w' ⟨rfl, b⟩
  exact ⟨rfl, h.below b⟩
set_option maxHeartbeats 8000000 in
set_option maxRecDepth 100000 in
theorem swapRange_any {cap : Nat} (N : Nat) (w0 w : World) (g n fn : Nat) (cp : Array Value) (D : List Int) (a b t : Nat) (h : SD cap N w0 w g n D) (hab : a + t ≤ b) (hb : b + t ≤ n) (hn : n ≤ 100000) :
    Calls Tryd.prog 84 #[.slice (some ⟨g, 0, none⟩) n cap, .int .i64 a, .int .i64 b, .int .i64 t, .func (.func fn) #[] cp] w fun e w' => e = .returned (.tuple #[]) ∧ ∃ E, SD cap N w0 w' g n E ∧ SwR D E a b t ∧ Rel a (b + t) D E := by
  have H0 : Hid (SD cap N w0 w g n D ∧ SwR D D a b 0 ∧ Rel a (b + t) D D) := ⟨h, SwR.start D a b, Rel.refl _ _ _⟩
  have hln := h.ln
  clear h
  go_enter Tryd.func84, Tryd.ntmps84
  go_wp2_with fail
  go_loopw [10] (fun v10 wr => ∃ (k : Nat) (E : List Int) (wk : World), v10 = .int .i64 k ∧ wk = wr ∧ k ≤ t ∧ Hid (SD cap N w0 wk g n E ∧ SwR D E a b k ∧ Rel a (b + t) D E)) (fun v10 _ => t - (intOf v10).toNat)
  case atStart => exact ⟨0, D, _, rfl, rfl, Nat.zero_le _, H0⟩
  case round =>
    obtain ⟨k, E, wr, rfl, rfl, hk, HS⟩ := hrel
    clear H0
    by_cases hlt : k < t
    · obtain ⟨s1, s2, s3⟩ := HS.out
      obtain ⟨x1, f1⟩ := s1.at (k := a + k) (by omega)
      obtain ⟨x2, f2⟩ := s1.at (k := b + k) (by omega)
      have hel := s1.ln
      have N1 : Hid (SD cap N w0 ((wr.setCell ⟨g, a + k, none⟩ (.int .i64 (gD E (b + k)))).setCell ⟨g, b + k, none⟩ (.int .i64 (gD E (a + k)))) g n (swp E (a + k) (b + k)) ∧ SwR D (swp E (a + k) (b + k)) a b (k + 1) ∧ Rel a (b + t) D (swp E (a + k) (b + k))) := ⟨s1.swap (by omega) (by omega), s2.step (by omega) (by omega), s3.swap (by omega) (by omega) (by omega)⟩
      generalize gD E (a + k) = va at *
      generalize gD E (b + k) = vb at *
      have hne : a + k ≠ b + k := by omega
      clear s1 s2 s3 HS
      go_wp2_with fail
      go_region
      all_goals
        go_wp2_with fail
        go_roundw
        case rel => exact ⟨k + 1, _, _, by go_num, rfl, hlt, ⟨N1.out.1.drew, N1.out.2⟩⟩
        case measure => simp [intOf]; omega
    · obtain rfl : k = t := by omega
      go_wp2_with fail
      go_end0
      exact ⟨rfl, E, HS.out⟩
end Go.Proofs.YtkebflllbphkkaaDoor
