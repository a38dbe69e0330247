/- Timers in a row of memory; the queue's own Len, Less and Swap, and how they are reached through the interface. -/
import Derived.Test.YteiadigafkollaaHp1
import Derived.Test.YteiadigafkollaaChecked
import Derived.Deep.QuietTactic
import Derived.BigQuiet
import Derived.BigRegion
import Derived.LaidMore
import Derived.Carry
namespace Go.Proofs.Yteiadigafkollaa
open Go.RowKit Go.Sort

structure Tm where
  num : Int
  tm : Int
  ev : Int
instance : Inhabited Tm := ⟨⟨0, 0, 0⟩⟩
/-- Does a timer stand ahead of another one? -/
def tlt (a b : Tm) : Bool := if a.tm = b.tm then decide (a.num < b.num) else decide (a.tm < b.tm)
theorem tlt_iff (a b : Tm) : tlt a b = true ↔ a.tm < b.tm ∨ (a.tm = b.tm ∧ a.num < b.num) := by
  unfold tlt; split <;> simp <;> omega
theorem tlt_niff (a b : Tm) : tlt a b = false ↔ ¬ (a.tm < b.tm ∨ (a.tm = b.tm ∧ a.num < b.num)) := by
  rw [← tlt_iff]; simp
theorem tlt_swo : SWO tlt where
  irrefl x := by rw [tlt_niff]; omega
  trans x y z h1 h2 := by rw [tlt_iff] at *; omega
  ntrans x y z h1 h2 := by rw [tlt_niff] at *; omega
def tmC (t : Tm) : List Value := [.int .i64 t.num, .int .i64 t.tm, .int .i64 t.ev]
theorem tmC_len (l : List Tm) : (l.flatMap tmC).length = l.length * 3 := by
  induction l with
  | nil => rfl
  | cons t r ih => rw [List.flatMap_cons, List.length_append, ih]; simp [tmC]; omega
theorem tmC_at (l : List Tm) (k i : Nat) (hk : k < l.length) (hi : i < 3) : (l.flatMap tmC)[k * 3 + i]? = (tmC l[k])[i]? := by
  induction l generalizing k with
  | nil => simp at hk
  | cons t r ih =>
    rw [List.flatMap_cons]
    cases k with
    | zero => rw [List.getElem?_append_left (by simp [tmC]; omega)]; simp
    | succ k =>
      rw [List.getElem?_append_right (by simp [tmC]; omega)]
      have := ih k (by simpa using hk)
      rw [show (k + 1) * 3 + i - (tmC t).length = k * 3 + i by simp [tmC]; omega, this]
      simp
theorem tmC_set (l : List Tm) (k : Nat) (t : Tm) (hk : k < l.length) : (((l.flatMap tmC).set (k * 3) (.int .i64 t.num)).set (k * 3 + 1) (.int .i64 t.tm)).set (k * 3 + 2) (.int .i64 t.ev) = (l.set k t).flatMap tmC := by
  induction l generalizing k with
  | nil => simp at hk
  | cons x r ih =>
    cases k with
    | zero => simp [tmC]
    | succ k =>
      have := ih k (by simpa using hk)
      rw [List.set_cons_succ, List.flatMap_cons, List.flatMap_cons, ← this]
      rw [List.set_append_right _ _ (by simp [tmC]; omega), List.set_append_right _ _ (by simp [tmC]; omega), List.set_append_right _ _ (by simp [tmC]; omega)]
      congr 4 <;> simp [tmC] <;> omega
theorem tmC_one (l : List Tm) : ∀ u ∈ l.flatMap tmC, u.oneCell' = true := by
  intro u hu
  obtain ⟨t, _, ht⟩ := List.mem_flatMap.1 hu
  simp [tmC] at ht
  rcases ht with rfl | rfl | rfl <;> rfl

theorem ret_bool {a b : Bool} (h : a = b) : Ending.returned (.bool a) = .returned (.bool b) := by rw [h]
theorem ret_int {k : IntKind} {a b : Int} (h : a = b) : Ending.returned (.int k a) = .returned (.int k b) := by rw [h]
theorem drewN_two (w : World) (a b : Nat) : (w.drewN a).drewN b = w.drewN (a + b) := by unfold World.drewN; simp [Nat.add_assoc]
/-- Block X is a row of the type Timer with room for cap, which holds d. -/
def Row (w : World) (X cap : Nat) (d : Array Tm) : Prop := w.ownsRow X 47 3 (.slice (some ⟨X, 0, none⟩) d.size cap) d.size (d.toList.flatMap tmC)
theorem get!_list (d : Array Tm) (i : Nat) (h : i < d.size) : d[i]! = d.toList[i]'(by simpa using h) := by rw [getElem!_pos d i h]; simp
theorem Row.cells {w : World} {X cap : Nat} {d : Array Tm} (h : Row w X cap d) {i : Nat} (hi : i < d.size) :
    w.cell? ⟨X, i * 3, none⟩ = some (.int .i64 d[i]!.num) ∧ w.cell? ⟨X, i * 3 + 1, none⟩ = some (.int .i64 d[i]!.tm) ∧ w.cell? ⟨X, i * 3 + 2, none⟩ = some (.int .i64 d[i]!.ev) := by
  have hl : i < d.toList.length := by simpa using hi
  rw [get!_list d i hi]
  have c := fun j (hj : j < 3) => (World.ownsRow.cellAt h (i * 3 + j) (by omega)).trans (tmC_at d.toList i j hl hj)
  exact ⟨c 0 (by omega), c 1 (by omega), c 2 (by omega)⟩
theorem Row.frozen {w : World} {X cap : Nat} {d : Array Tm} (h : Row w X cap d) (j : Nat) : w.frozen? ⟨X, j, none⟩ = false := World.ownsRow.frozenAt h j
theorem Row.bound {w : World} {X cap : Nat} {d : Array Tm} (h : Row w X cap d) : d.size ≤ cap ∧ cap ≤ maxLen := by
  obtain ⟨_, h | ⟨g, c, cur, e1, _, _, e2, e3, _⟩⟩ := h
  · cases h.1
  · cases e1; exact ⟨e2, e3⟩
theorem Row.lt {w : World} {X cap : Nat} {d : Array Tm} (h : Row w X cap d) : X < w.heap.size := by
  obtain ⟨_, h | ⟨g, c, cur, e1, _, e0, _⟩⟩ := h
  · cases h.1
  · cases e1
    by_cases hlt : X < w.heap.size
    · exact hlt
    · rw [Array.getElem?_eq_none (by omega)] at e0; cases e0
theorem Row.keep {w w' : World} {X cap : Nat} {d : Array Tm} (h : Row w X cap d) (hb : w'.heap[X]? = w.heap[X]?) : Row w' X cap d := by
  obtain ⟨h0, h | ⟨g, c, cur, e1, e2, e0, e3⟩⟩ := h
  · cases h.1
  · cases e1; exact ⟨h0, Or.inr ⟨X, cap, cur, rfl, e2, by rw [hb]; exact e0, e3⟩⟩
/-- Three cells of a timer, written. -/
def putT (w : World) (X i : Nat) (t : Tm) : World := ((w.setCell ⟨X, i * 3, none⟩ (.int .i64 t.num)).setCell ⟨X, i * 3 + 1, none⟩ (.int .i64 t.tm)).setCell ⟨X, i * 3 + 2, none⟩ (.int .i64 t.ev)
theorem Row.put {w : World} {X cap : Nat} {d : Array Tm} (h : Row w X cap d) {i : Nat} (hi : i < d.size) (t : Tm) : Row (putT w X i t) X cap (d.setIfInBounds i t) := by
  have h3 := (World.ownsRow.stored (World.ownsRow.stored (World.ownsRow.stored h (i * 3) (.int .i64 t.num)).1 (i * 3 + 1) (.int .i64 t.tm)).1 (i * 3 + 2) (.int .i64 t.ev)).1
  unfold Row putT
  rw [Array.size_setIfInBounds, Array.toList_setIfInBounds, ← tmC_set _ _ _ (by simpa using hi)]
  exact h3
theorem putT_block (w : World) (X i : Nat) (t : Tm) (k : Nat) (hk : k ≠ X) : (putT w X i t).heap[k]? = w.heap[k]? := by
  unfold putT
  rw [Below.heap_setCell _ _ _ _ hk, Below.heap_setCell _ _ _ _ hk, Below.heap_setCell _ _ _ _ hk]
theorem putT_size (w : World) (X i : Nat) (t : Tm) : (putT w X i t).heap.size = w.heap.size := by simp [putT, World.setCell]

/-- All but one block stands as it stood. -/
structure Keep (X : Nat) (w w' : World) : Prop where
  os : w'.os = w.os
  tape : w'.tape = w.tape
  output : w'.output = w.output
  size : w.heap.size ≤ w'.heap.size
  block : ∀ k, k < w.heap.size → k ≠ X → w'.heap[k]? = w.heap[k]?
theorem Keep.refl (X : Nat) (w : World) : Keep X w w := ⟨rfl, rfl, rfl, Nat.le_refl _, fun _ _ _ => rfl⟩
theorem Keep.trans {X : Nat} {a b c : World} (h : Keep X a b) (k : Keep X b c) : Keep X a c :=
  ⟨k.os.trans h.os, k.tape.trans h.tape, k.output.trans h.output, Nat.le_trans h.size k.size, fun i hi hx => (k.block i (Nat.lt_of_lt_of_le hi h.size) hx).trans (h.block i hi hx)⟩
theorem Keep.drewN {X : Nat} {a b : World} (h : Keep X a b) (n : Nat) : Keep X a (b.drewN n) := h.trans ⟨rfl, rfl, rfl, Nat.le_refl _, fun _ _ _ => rfl⟩
theorem Keep.putT {X : Nat} {a b : World} (h : Keep X a b) (i : Nat) (t : Tm) : Keep X a (putT b X i t) := h.trans ⟨rfl, rfl, rfl, by rw [putT_size]; exact Nat.le_refl _, fun k _ hx => putT_block _ _ _ _ _ hx⟩
theorem Keep.cell {X : Nat} {w w' : World} (h : Keep X w w') {p : Addr} (hp : p.block < w.heap.size) (hx : p.block ≠ X) : w'.cell? p = w.cell? p := World.cell?_of_block (w := w) (h.block p.block hp hx)
theorem Keep.frozen {X : Nat} {w w' : World} (h : Keep X w w') {p : Addr} (hp : p.block < w.heap.size) (hx : p.block ≠ X) : w'.frozen? p = w.frozen? p := World.frozen?_of_block (w := w) (h.block p.block hp hx)
theorem Keep.below {X B : Nat} {w w' : World} (h : Keep X w w') (hX : B ≤ X) (hB : B ≤ w.heap.size) : Below B w w' := ⟨h.os, h.tape, h.output, h.size, fun k hk => h.block k (by omega) (by omega)⟩

set_option maxHeartbeats 2000000 in
theorem less_any (w : World) (X cap : Nat) (d : Array Tm) (h : Row w X cap d) (i j : Nat) (hi : i < d.size) (hj : j < d.size) (x y : Int) (hx : x = i) (hy : y = j) :
    Calls Try.prog 92 #[.slice (some ⟨X, 0, none⟩) d.size cap, .int .i64 x, .int .i64 y] w fun e w' => e = .returned (.bool (tlt d[i]! d[j]!)) ∧ ∃ n, w' = w.drewN n := by
  subst hx hy
  obtain ⟨a1, a2, _⟩ := h.cells hi
  obtain ⟨b1, b2, _⟩ := h.cells hj
  have hb := h.bound
  unfold maxLen at hb
  obtain ⟨hb1, hb2⟩ := hb
  have HT : Hid (tlt d[i]! d[j]! = if d[i]!.tm = d[j]!.tm then decide (d[i]!.num < d[j]!.num) else decide (d[i]!.tm < d[j]!.tm)) := rfl
  generalize tlt d[i]! d[j]! = r at *
  generalize d[i]! = s at *
  generalize d[j]! = t at *
  clear h
  by_cases he : s.tm = t.tm
  · have he' : (s.tm != t.tm) = false := by simp [he]
    go_enter Try.func92, Try.ntmps92
    go_wp2
    go_quiet (fail)
    go_wp2
    go_quiet (fail)
    go_wp2
    go_ret
    exact ⟨ret_bool (by rw [HT.out, if_pos he]), _, drewN_two _ _ _⟩
  · have he' : (s.tm != t.tm) = true := by simp [he]
    go_enter Try.func92, Try.ntmps92
    go_wp2
    go_quiet (fail)
    go_wp2
    go_quiet (fail)
    go_wp2
    go_ret
    exact ⟨ret_bool (by rw [HT.out, if_neg he]), _, drewN_two _ _ _⟩
theorem len_any (w : World) (p : Option Addr) (n cap : Nat) :
    Calls Try.prog 91 #[.slice p n cap] w fun e w' => e = .returned (.int .i64 n) ∧ w' = w := by
  go_enter Try.func91, Try.ntmps91
  go_wp2
  go_ret
  exact ⟨rfl, rfl⟩
set_option maxHeartbeats 2000000 in
theorem swap_any (w : World) (X cap : Nat) (d : Array Tm) (h : Row w X cap d) (i j : Nat) (hi : i < d.size) (hj : j < d.size) (x y : Int) (hx : x = i) (hy : y = j) :
    Calls Try.prog 93 #[.slice (some ⟨X, 0, none⟩) d.size cap, .int .i64 x, .int .i64 y] w fun e w' => e = .returned (.tuple #[]) ∧ Row w' X cap (swp d i j) ∧ Keep X w w' := by
  subst hx hy
  obtain ⟨a1, a2, a3⟩ := h.cells hi
  obtain ⟨b1, b2, b3⟩ := h.cells hj
  have hf := h.frozen
  have hb := h.bound
  unfold maxLen at hb
  obtain ⟨hb1, hb2⟩ := hb
  have hd : Row w.drew X cap d := h.keep rfl
  have hp := (hd.put hi d[j]!).cells (i := j) (by simpa using hj)
  generalize (d.setIfInBounds i d[j]!)[j]! = u at hp
  unfold putT at hp
  obtain ⟨c1, c2, c3⟩ := hp
  have FK : Hid (Row (putT (putT w.drew X i d[j]!) X j d[i]!) X cap (swp d i j) ∧ Keep X w (putT (putT w.drew X i d[j]!) X j d[i]!)) := ⟨(hd.put hi d[j]!).put (by simpa using hj) d[i]!, (((Keep.refl X w).drewN 1).putT _ _).putT _ _⟩
  generalize swp d i j = D at *
  generalize d[i]! = s at *
  generalize d[j]! = t at *
  clear h hd
  go_enter Try.func93, Try.ntmps93
  go_wp2
  go_region
  all_goals (try go_wp2)
  all_goals go_end0
  all_goals exact ⟨rfl, FK.out⟩
end Go.Proofs.Yteiadigafkollaa
