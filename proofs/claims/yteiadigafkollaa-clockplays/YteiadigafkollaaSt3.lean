/- sort.order2, median, medianAdjacent, choosePivot over a queue's address: what they tell lies where it was looked for. -/
import Derived.Test.YteiadigafkollaaRw3
namespace Go.Proofs.Yteiadigafkollaa
open Go.RowKit Go.Sort Go.Shelf

/-- A queue, and beside it a variable of the call's own. -/
structure QB (w : World) (qb qo X cap : Nat) (d : Array Tm) (B : Nat) : Prop where
  q : QAt w qb qo X cap d
  box : ∃ n : Int, w.cell? ⟨B, 0, none⟩ = some (.int .i64 n)
  free : w.frozen? ⟨B, 0, none⟩ = false
  neq : B ≠ qb
  nex : B ≠ X
theorem QB.drewN {w : World} {qb qo X cap : Nat} {d : Array Tm} {B : Nat} (h : QB w qb qo X cap d B) (n : Nat) : QB (w.drewN n) qb qo X cap d B := ⟨h.q.drewN n, h.box, h.free, h.neq, h.nex⟩
theorem QB.set {w : World} {qb qo X cap : Nat} {d : Array Tm} {B : Nat} (h : QB w qb qo X cap d B) (n : Int) : QB (w.setCell ⟨B, 0, none⟩ (.int .i64 n)) qb qo X cap d B := by
  obtain ⟨m, hm⟩ := h.box
  have b1 : ∀ k, k ≠ B → (w.setCell ⟨B, 0, none⟩ (.int .i64 n)).heap[k]? = w.heap[k]? := fun k hk => Below.heap_setCell _ _ _ _ hk
  refine ⟨⟨?_, ?_, h.q.row.keep (b1 X (fun e => h.nex e.symm)), h.q.ne, ?_⟩, ⟨n, World.cell?_setCell_same _ _ _ hm⟩, ?_, h.neq, h.nex⟩
  · rw [World.cell?_of_block (w := w) (b1 qb (fun e => h.neq e.symm))]; exact h.q.head
  · rw [World.frozen?_setCell]; exact h.q.free
  · simpa [World.setCell] using h.q.lt
  · rw [World.frozen?_setCell]; exact h.free
/-- Nothing has turned but the variable. -/
theorem below_set {w w' : World} {B : Nat} (h : Below B w w') (n : Int) : Below B w (w'.setCell ⟨B, 0, none⟩ (.int .i64 n)) := h.setCell (p := ⟨B, 0, none⟩) (Nat.le_refl _) _
theorem below_drewN {w w' : World} {B : Nat} (h : Below B w w') (n : Nat) : Below B w (w'.drewN n) := ⟨h.os, h.tape, h.output, h.size, h.block⟩

set_option maxHeartbeats 2000000 in
set_option maxRecDepth 100000 in
theorem order2_q (w : World) (qb qo X cap : Nat) (d : Array Tm) (B : Nat) (h : QB w qb qo X cap d B) (a b : Nat) (ha : a < d.size) (hb : b < d.size) (x y : Int) (hx : x = a) (hy : y = b) :
    Calls Try.prog 73 #[.iface 74 (.pointer (some ⟨qb, qo, none⟩)), .int .i64 x, .int .i64 y, .pointer (some ⟨B, 0, none⟩)] w fun e w' => (e = .returned (.tuple #[.int .i64 a, .int .i64 b]) ∨ e = .returned (.tuple #[.int .i64 b, .int .i64 a])) ∧ QB w' qb qo X cap d B ∧ Below B w w' := by
  subst hx hy
  have eL := ent_less
  have mL := inv_less h.q.head
  obtain ⟨n, hn⟩ := h.box
  have hf := h.free
  have HQ : Hid _ := h
  clear h
  cases hl : tlt d[b]! d[a]! with
  | true =>
    go_enter Try.func73, Try.ntmps73
    go_wp2_with (go_at_fn 92; refine (HQ.out.q.lessB rfl b a hb ha rfl rfl hl).mono ?_; rintro e w' ⟨rfl, n1, rfl⟩)
    go_ret2
    exact ⟨Or.inr rfl, (HQ.out.set _).drewN _, below_drewN (below_set (Below.refl _ _) _) _⟩
  | false =>
    go_enter Try.func73, Try.ntmps73
    go_wp2_with (go_at_fn 92; refine (HQ.out.q.lessB rfl b a hb ha rfl rfl hl).mono ?_; rintro e w' ⟨rfl, n1, rfl⟩)
    go_ret2
    exact ⟨Or.inl rfl, HQ.out.drewN _, below_drewN (Below.refl _ _) _⟩
theorem order2_r (w : World) (qb qo X cap : Nat) (d : Array Tm) (B : Nat) (h : QB w qb qo X cap d B) (lo hi : Nat) (hh : hi ≤ d.size) (x y : Int) (hx : (lo : Int) ≤ x ∧ x < hi) (hy : (lo : Int) ≤ y ∧ y < hi) :
    Calls Try.prog 73 #[.iface 74 (.pointer (some ⟨qb, qo, none⟩)), .int .i64 x, .int .i64 y, .pointer (some ⟨B, 0, none⟩)] w fun e w' => (∃ u v : Int, e = .returned (.tuple #[.int .i64 u, .int .i64 v]) ∧ ((lo : Int) ≤ u ∧ u < hi) ∧ ((lo : Int) ≤ v ∧ v < hi)) ∧ QB w' qb qo X cap d B ∧ Below B w w' := by
  refine (order2_q w qb qo X cap d B h x.toNat y.toNat (by omega) (by omega) x y (by omega) (by omega)).mono ?_
  rintro e w' ⟨rfl | rfl, h2, h3⟩
  · exact ⟨⟨_, _, rfl, by omega, by omega⟩, h2, h3⟩
  · exact ⟨⟨_, _, rfl, by omega, by omega⟩, h2, h3⟩
set_option maxHeartbeats 2000000 in
set_option maxRecDepth 100000 in
theorem median_q (w : World) (qb qo X cap : Nat) (d : Array Tm) (B : Nat) (h : QB w qb qo X cap d B) (lo hi : Nat) (hh : hi ≤ d.size) (x y z : Int) (hx : (lo : Int) ≤ x ∧ x < hi) (hy : (lo : Int) ≤ y ∧ y < hi) (hz : (lo : Int) ≤ z ∧ z < hi) :
    Calls Try.prog 72 #[.iface 74 (.pointer (some ⟨qb, qo, none⟩)), .int .i64 x, .int .i64 y, .int .i64 z, .pointer (some ⟨B, 0, none⟩)] w fun e w' => (∃ u : Int, e = .returned (.int .i64 u) ∧ ((lo : Int) ≤ u ∧ u < hi)) ∧ QB w' qb qo X cap d B ∧ Below B w w' := by
  have O1 := order2_r w qb qo X cap d B h lo hi hh x y hx hy
  have HH : Hid (hi ≤ d.size) := hh
  clear h hx
  go_enter Try.func72, Try.ntmps72
  go_wp2_with fail
  refine O1.mono ?_
  rintro e w1 ⟨⟨u1, v1, rfl, hu1, hv1⟩, hq1, hb1⟩
  have O2 := order2_r w1 qb qo X cap d B hq1 lo hi HH.out v1 z hv1 hz
  clear O1
  go_wp2_with fail
  refine O2.mono ?_
  rintro e w2 ⟨⟨u2, v2, rfl, hu2, hv2⟩, hq2, hb2⟩
  have O3 := order2_r w2 qb qo X cap d B hq2 lo hi HH.out u1 u2 hu1 hu2
  clear O2
  go_wp2_with fail
  refine O3.mono ?_
  rintro e w3 ⟨⟨u3, v3, rfl, hu3, hv3⟩, hq3, hb3⟩
  clear O3
  go_wp2
  go_ret
  exact ⟨⟨v3, rfl, hv3⟩, hq3, (hb1.trans hb2).trans hb3⟩
set_option maxHeartbeats 2000000 in
set_option maxRecDepth 100000 in
theorem medianAdj_q (w : World) (qb qo X cap : Nat) (d : Array Tm) (B : Nat) (h : QB w qb qo X cap d B) (lo hi : Nat) (hh : hi ≤ d.size) (hm : d.size ≤ 1000000000000) (x : Int) (hx : (lo : Int) + 1 ≤ x ∧ x + 1 < hi) :
    Calls Try.prog 71 #[.iface 74 (.pointer (some ⟨qb, qo, none⟩)), .int .i64 x, .pointer (some ⟨B, 0, none⟩)] w fun e w' => (∃ u : Int, e = .returned (.int .i64 u) ∧ ((lo : Int) ≤ u ∧ u < hi)) ∧ QB w' qb qo X cap d B ∧ Below B w w' := by
  have O1 := median_q w qb qo X cap d B h lo hi hh (x - 1) x (x + 1) (by omega) (by omega) (by omega)
  obtain ⟨hx1, hx2⟩ := hx
  clear h
  go_enter Try.func71, Try.ntmps71
  go_wp2_with (go_at_call 72; refine O1.mono ?_; rintro e w1 ⟨⟨u1, rfl, hu1⟩, hq1, hb1⟩)
  go_ret
  exact ⟨⟨u1, rfl, hu1⟩, hq1, hb1⟩
end Go.Proofs.Yteiadigafkollaa
