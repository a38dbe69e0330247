/- The clock's small calls. -/
import Derived.Test.YteiadigafkollaaCk3
namespace Go.Proofs.Yteiadigafkollaa
open Go.RowKit Go.Sort Go.Shelf

/-- The clock at block b: its time, the last number, its timers as they lie; xo: its row, if there is one yet. -/
structure CK (w : World) (b : Nat) (xo : Option Nat) (now given : Int) (d : Array Tm) : Prop where
  c0 : w.cell? ⟨b, 0, none⟩ = some (.int .i64 now)
  c1 : w.cell? ⟨b, 1, none⟩ = some (.int .i64 given)
  fr : ∀ o, w.frozen? ⟨b, o, none⟩ = false
  lt : b < w.heap.size
  q : (∃ X cap, xo = some X ∧ QAt w b 2 X cap d) ∨ (xo = none ∧ d = #[] ∧ w.cell? ⟨b, 2, none⟩ = some (.slice none 0 0))
/-- Nothing has turned but the clock and its row. -/
structure KC (b : Nat) (xo : Option Nat) (w w' : World) : Prop where
  os : w'.os = w.os
  tape : w'.tape = w.tape
  output : w'.output = w.output
  size : w.heap.size ≤ w'.heap.size
  block : ∀ k, k < w.heap.size → k ≠ b → some k ≠ xo → w'.heap[k]? = w.heap[k]?
/-- The row behind a call: the same, or a new one. -/
def NX (w : World) (xo xo' : Option Nat) : Prop := xo' = xo ∨ ∃ g, xo' = some g ∧ w.heap.size ≤ g
theorem NX.refl (w : World) (xo : Option Nat) : NX w xo xo := Or.inl rfl
theorem NX.trans {w w' : World} {x y z : Option Nat} (h : NX w x y) (k : NX w' y z) (hs : w.heap.size ≤ w'.heap.size) : NX w x z := by
  rcases k with rfl | ⟨g, rfl, hg⟩
  · exact h
  · exact Or.inr ⟨g, rfl, by omega⟩
theorem KC.refl (b : Nat) (xo : Option Nat) (w : World) : KC b xo w w := ⟨rfl, rfl, rfl, Nat.le_refl _, fun _ _ _ _ => rfl⟩
theorem KC.trans {b : Nat} {xo xo' : Option Nat} {u v w : World} (h : KC b xo u v) (k : KC b xo' v w) (hx : NX u xo xo') : KC b xo u w :=
  ⟨k.os.trans h.os, k.tape.trans h.tape, k.output.trans h.output, Nat.le_trans h.size k.size, fun i hi h1 h2 => (k.block i (Nat.lt_of_lt_of_le hi h.size) h1 (by
    rcases hx with rfl | ⟨g, rfl, hg⟩
    · exact h2
    · intro e; injection e with e; omega)).trans (h.block i hi h1 h2)⟩
theorem KC.of_below {b : Nat} {xo : Option Nat} {w w' : World} (h : Below w.heap.size w w') : KC b xo w w' := ⟨h.os, h.tape, h.output, h.size, fun k hk _ _ => h.block k hk⟩
theorem KC.below {b : Nat} {xo : Option Nat} {w w' : World} (h : KC b xo w w') {B : Nat} (hB : B ≤ w.heap.size) (hb : B ≤ b) (hx : ∀ X, xo = some X → B ≤ X) : Below B w w' :=
  ⟨h.os, h.tape, h.output, h.size, fun k hk => h.block k (by omega) (by omega) (fun e => by have := hx k e.symm; omega)⟩
theorem CK.below {w w' : World} {b : Nat} {xo : Option Nat} {now given : Int} {d : Array Tm} (h : CK w b xo now given d) (k : Below w.heap.size w w') : CK w' b xo now given d := by
  refine ⟨(k.cell (p := ⟨b, 0, none⟩) h.lt).trans h.c0, (k.cell (p := ⟨b, 1, none⟩) h.lt).trans h.c1, fun o => (k.frozen (p := ⟨b, o, none⟩) h.lt).trans (h.fr o), Nat.lt_of_lt_of_le h.lt k.size, ?_⟩
  rcases h.q with ⟨X, cap, e, q⟩ | ⟨e, hd, hc⟩
  · exact Or.inl ⟨X, cap, e, q.below k⟩
  · exact Or.inr ⟨e, hd, (k.cell (p := ⟨b, 2, none⟩) h.lt).trans hc⟩
/-- Another clock's call, or whatever else turns neither block. -/
theorem CK.keep {w w' : World} {b : Nat} {xo : Option Nat} {now given : Int} {d : Array Tm} (h : CK w b xo now given d) (hs : w.heap.size ≤ w'.heap.size) (hb : w'.heap[b]? = w.heap[b]?) (hx : ∀ X, xo = some X → w'.heap[X]? = w.heap[X]?) : CK w' b xo now given d := by
  refine ⟨(World.cell?_of_block (w := w) hb).trans h.c0, (World.cell?_of_block (w := w) hb).trans h.c1, fun o => (World.frozen?_of_block (w := w) hb).trans (h.fr o), Nat.lt_of_lt_of_le h.lt hs, ?_⟩
  rcases h.q with ⟨X, cap, e, q⟩ | ⟨e, hd, hc⟩
  · exact Or.inl ⟨X, cap, e, ⟨(World.cell?_of_block (w := w) hb).trans q.head, (World.frozen?_of_block (w := w) hb).trans q.free, q.row.keep (hx X e), q.ne, Nat.lt_of_lt_of_le q.lt hs⟩⟩
  · exact Or.inr ⟨e, hd, (World.cell?_of_block (w := w) hb).trans hc⟩
theorem CK.sl {w : World} {b : Nat} {xo : Option Nat} {now given : Int} {d : Array Tm} (h : CK w b xo now given d) : ∃ v, w.cell? ⟨b, 2, none⟩ = some v ∧ SL w v d := by
  rcases h.q with ⟨X, cap, e, q⟩ | ⟨e, hd, hc⟩
  · exact ⟨_, q.head, Or.inr ⟨X, cap, rfl, q.row⟩⟩
  · exact ⟨_, hc, Or.inl ⟨rfl, hd⟩⟩
theorem CK.of_q {w w' : World} {b : Nat} {xo : Option Nat} {now given : Int} {d d' : Array Tm} (h : CK w b xo now given d) {X X' cap : Nat} (q : QAt w' b 2 X' cap d') (k : KeepQ b 2 X w w') : CK w' b (some X') now given d' :=
  ⟨(k.cell 0 (by decide)).trans h.c0, (k.cell 1 (by decide)).trans h.c1, fun o => (k.frozen o).trans (h.fr o), Nat.lt_of_lt_of_le h.lt k.size, Or.inl ⟨X', cap, rfl, q⟩⟩
theorem KC.of_q {w w' : World} {b X : Nat} (k : KeepQ b 2 X w w') : KC b (some X) w w' := ⟨k.os, k.tape, k.output, k.size, fun i hi h1 h2 => k.block i hi h1 (fun e => h2 (by rw [e]))⟩

abbrev MT : Int := 1099511627776
set_option maxHeartbeats 1000000 in
theorem isAhead_any (w : World) (b : Nat) (xo : Option Nat) (now given : Int) (d : Array Tm) (h : CK w b xo now given d) (x : Int) :
    Calls Try.prog 41 #[.pointer (some ⟨b, 0, none⟩), .int .i64 x] w fun e w' => e = .returned (.bool (decide (now ≤ x ∧ x ≤ 1099511627776))) ∧ w' = w := by
  have c0 := h.c0
  clear h
  by_cases h1 : now ≤ x
  · by_cases h2 : x ≤ 1099511627776
    · go_enter Try.func41, Try.ntmps41
      go_wp2
      go_ret
      exact ⟨ret_bool (by simp [h1, h2]), rfl⟩
    · go_enter Try.func41, Try.ntmps41
      go_wp2
      go_ret
      exact ⟨ret_bool (by simp [h2]), rfl⟩
  · have h1d : decide (now ≤ x) = false := by simpa using h1
    go_enter Try.func41, Try.ntmps41
    go_wp2
    go_ret
    exact ⟨ret_bool (by simp), rfl⟩
set_option maxHeartbeats 1000000 in
theorem mayPass_any (w : World) (b : Nat) (xo : Option Nat) (now given : Int) (d : Array Tm) (h : CK w b xo now given d) (hn : 0 ≤ now ∧ now ≤ 1099511627776) (x : Int) :
    Calls Try.prog 34 #[.pointer (some ⟨b, 0, none⟩), .int .i64 x] w fun e w' => e = .returned (.bool (decide (0 ≤ x ∧ x ≤ 1099511627776 - now))) ∧ w' = w := by
  have c0 := h.c0
  obtain ⟨hn1, hn2⟩ := hn
  clear h
  by_cases h1 : 0 ≤ x
  · by_cases h2 : x ≤ 1099511627776 - now
    · go_enter Try.func34, Try.ntmps34
      go_wp2
      go_ret
      exact ⟨ret_bool (by simp [h1, h2]), rfl⟩
    · go_enter Try.func34, Try.ntmps34
      go_wp2
      go_ret
      exact ⟨ret_bool (by simp [h2]), rfl⟩
  · have h1d : decide (0 ≤ x) = false := by simpa using h1
    go_enter Try.func34, Try.ntmps34
    go_wp2
    go_ret
    exact ⟨ret_bool (by simp), rfl⟩
theorem now_any (w : World) (b : Nat) (xo : Option Nat) (now given : Int) (d : Array Tm) (h : CK w b xo now given d) :
    Calls Try.prog 17 #[.pointer (some ⟨b, 0, none⟩)] w fun e w' => e = .returned (.int .i64 now) ∧ w' = w := by
  have c0 := h.c0
  clear h
  go_enter Try.func17, Try.ntmps17
  go_wp2
  go_ret
  exact ⟨rfl, rfl⟩
theorem new_any (w : World) : Calls Try.prog 9 #[] w fun e w' => e = .returned (.pointer (some ⟨w.heap.size, 0, none⟩)) ∧ CK w' w.heap.size none 0 0 #[] ∧ Below w.heap.size w w' := by
  go_enter Try.func9, Try.ntmps9
  go_wp2
  go_ret
  refine ⟨rfl, ?_, (Below.refl _ _).alloc (Nat.le_refl _) _⟩
  refine ⟨?_, ?_, ?_, ?_, Or.inr ⟨rfl, rfl, ?_⟩⟩
  · rw [cell_of_row _ _ _ _ _ _ (heap_alloc_new w _)]; rfl
  · rw [cell_of_row _ _ _ _ _ _ (heap_alloc_new w _)]; rfl
  · intro o; simp
  · show w.heap.size < (w.heap.push _).size; simp
  · rw [cell_of_row _ _ _ _ _ _ (heap_alloc_new w _)]; rfl
end Go.Proofs.Yteiadigafkollaa
