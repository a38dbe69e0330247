/- Retry, the document's breakers: boxes of nine cells; NewBreaker, timed, turned. -/
import Derived.Test.YtddnagoljdhnlaaXb4
namespace Go.Proofs.Ytddnagoljdhnlaa
open Go.RowKit

theorem set9 {w : World} {b : Nat} {a0 a1 a2 a3 a4 a5 a6 a7 a8 : Value} {T : TypeId} (hp : w.heap[b]? = some (.cells #[a0, a1, a2, a3, a4, a5, a6, a7, a8] T)) (x0 x1 x2 x3 x4 x5 x6 x7 x8 : Value) : (((((((((w.setCell ⟨b, 0, none⟩ x0).setCell ⟨b, 1, none⟩ x1).setCell ⟨b, 2, none⟩ x2).setCell ⟨b, 3, none⟩ x3).setCell ⟨b, 4, none⟩ x4).setCell ⟨b, 5, none⟩ x5).setCell ⟨b, 6, none⟩ x6).setCell ⟨b, 7, none⟩ x7).setCell ⟨b, 8, none⟩ x8).heap[b]? = some (.cells #[x0, x1, x2, x3, x4, x5, x6, x7, x8] T) := by
  have h0 : (w.setCell ⟨b, 0, none⟩ x0).heap[b]? = some (.cells #[x0, a1, a2, a3, a4, a5, a6, a7, a8] T) := heap_setCell_same _ b 0 _ _ x0 hp
  have h1 : ((w.setCell ⟨b, 0, none⟩ x0).setCell ⟨b, 1, none⟩ x1).heap[b]? = some (.cells #[x0, x1, a2, a3, a4, a5, a6, a7, a8] T) := heap_setCell_same _ b 1 _ _ x1 h0
  have h2 : (((w.setCell ⟨b, 0, none⟩ x0).setCell ⟨b, 1, none⟩ x1).setCell ⟨b, 2, none⟩ x2).heap[b]? = some (.cells #[x0, x1, x2, a3, a4, a5, a6, a7, a8] T) := heap_setCell_same _ b 2 _ _ x2 h1
  have h3 : ((((w.setCell ⟨b, 0, none⟩ x0).setCell ⟨b, 1, none⟩ x1).setCell ⟨b, 2, none⟩ x2).setCell ⟨b, 3, none⟩ x3).heap[b]? = some (.cells #[x0, x1, x2, x3, a4, a5, a6, a7, a8] T) := heap_setCell_same _ b 3 _ _ x3 h2
  have h4 : (((((w.setCell ⟨b, 0, none⟩ x0).setCell ⟨b, 1, none⟩ x1).setCell ⟨b, 2, none⟩ x2).setCell ⟨b, 3, none⟩ x3).setCell ⟨b, 4, none⟩ x4).heap[b]? = some (.cells #[x0, x1, x2, x3, x4, a5, a6, a7, a8] T) := heap_setCell_same _ b 4 _ _ x4 h3
  have h5 : ((((((w.setCell ⟨b, 0, none⟩ x0).setCell ⟨b, 1, none⟩ x1).setCell ⟨b, 2, none⟩ x2).setCell ⟨b, 3, none⟩ x3).setCell ⟨b, 4, none⟩ x4).setCell ⟨b, 5, none⟩ x5).heap[b]? = some (.cells #[x0, x1, x2, x3, x4, x5, a6, a7, a8] T) := heap_setCell_same _ b 5 _ _ x5 h4
  have h6 : (((((((w.setCell ⟨b, 0, none⟩ x0).setCell ⟨b, 1, none⟩ x1).setCell ⟨b, 2, none⟩ x2).setCell ⟨b, 3, none⟩ x3).setCell ⟨b, 4, none⟩ x4).setCell ⟨b, 5, none⟩ x5).setCell ⟨b, 6, none⟩ x6).heap[b]? = some (.cells #[x0, x1, x2, x3, x4, x5, x6, a7, a8] T) := heap_setCell_same _ b 6 _ _ x6 h5
  have h7 : ((((((((w.setCell ⟨b, 0, none⟩ x0).setCell ⟨b, 1, none⟩ x1).setCell ⟨b, 2, none⟩ x2).setCell ⟨b, 3, none⟩ x3).setCell ⟨b, 4, none⟩ x4).setCell ⟨b, 5, none⟩ x5).setCell ⟨b, 6, none⟩ x6).setCell ⟨b, 7, none⟩ x7).heap[b]? = some (.cells #[x0, x1, x2, x3, x4, x5, x6, x7, a8] T) := heap_setCell_same _ b 7 _ _ x7 h6
  have h8 : (((((((((w.setCell ⟨b, 0, none⟩ x0).setCell ⟨b, 1, none⟩ x1).setCell ⟨b, 2, none⟩ x2).setCell ⟨b, 3, none⟩ x3).setCell ⟨b, 4, none⟩ x4).setCell ⟨b, 5, none⟩ x5).setCell ⟨b, 6, none⟩ x6).setCell ⟨b, 7, none⟩ x7).setCell ⟨b, 8, none⟩ x8).heap[b]? = some (.cells #[x0, x1, x2, x3, x4, x5, x6, x7, x8] T) := heap_setCell_same _ b 8 _ _ x8 h7
  exact h8
theorem cells9 {w : World} {b : Nat} {a0 a1 a2 a3 a4 a5 a6 a7 a8 : Value} {T : TypeId} (hp : w.heap[b]? = some (.cells #[a0, a1, a2, a3, a4, a5, a6, a7, a8] T)) : w.cell? ⟨b, 0, none⟩ = some a0 ∧ w.cell? ⟨b, 1, none⟩ = some a1 ∧ w.cell? ⟨b, 2, none⟩ = some a2 ∧ w.cell? ⟨b, 3, none⟩ = some a3 ∧ w.cell? ⟨b, 4, none⟩ = some a4 ∧ w.cell? ⟨b, 5, none⟩ = some a5 ∧ w.cell? ⟨b, 6, none⟩ = some a6 ∧ w.cell? ⟨b, 7, none⟩ = some a7 ∧ w.cell? ⟨b, 8, none⟩ = some a8 :=
  ⟨cell_of_row _ _ _ _ _ _ hp, cell_of_row _ _ _ _ _ _ hp, cell_of_row _ _ _ _ _ _ hp, cell_of_row _ _ _ _ _ _ hp, cell_of_row _ _ _ _ _ _ hp, cell_of_row _ _ _ _ _ _ hp, cell_of_row _ _ _ _ _ _ hp, cell_of_row _ _ _ _ _ _ hp, cell_of_row _ _ _ _ _ _ hp⟩
theorem below9 {a w : World} {base b : Nat} (h : Below base a w) (hb : base ≤ b) (x0 x1 x2 x3 x4 x5 x6 x7 x8 : Value) : Below base a (((((((((w.setCell ⟨b, 0, none⟩ x0).setCell ⟨b, 1, none⟩ x1).setCell ⟨b, 2, none⟩ x2).setCell ⟨b, 3, none⟩ x3).setCell ⟨b, 4, none⟩ x4).setCell ⟨b, 5, none⟩ x5).setCell ⟨b, 6, none⟩ x6).setCell ⟨b, 7, none⟩ x7).setCell ⟨b, 8, none⟩ x8) :=
  (((((((((h.setCell (p := ⟨b, 0, none⟩) hb x0).setCell (p := ⟨b, 1, none⟩) hb x1).setCell (p := ⟨b, 2, none⟩) hb x2).setCell (p := ⟨b, 3, none⟩) hb x3).setCell (p := ⟨b, 4, none⟩) hb x4).setCell (p := ⟨b, 5, none⟩) hb x5).setCell (p := ⟨b, 6, none⟩) hb x6).setCell (p := ⟨b, 7, none⟩) hb x7).setCell (p := ⟨b, 8, none⟩) hb x8)
theorem frz {w : World} {b : Nat} {A : Array Value} {T : TypeId} (h : w.heap[b]? = some (.cells A T)) (o : Nat) : w.frozen? ⟨b, o, none⟩ = false := by simp [World.frozen?, h]
/-- The document's breaker: its value, its cells. -/
def rbA (k : Bk) (v : Value) : Array Value := #[.int .i64 k.lim, .int .i64 k.rst, .int .i64 k.st, .int .i64 k.trn, .int .i64 k.row, .int .i64 k.unt, .int .i64 k.lst, .int .i64 k.trs, v]
def rbV (k : Bk) (v : Value) : Value := .agg (rbA k v)
def zB : Array Value := #[.int .i64 0, .int .i64 0, .int .i64 0, .int .i64 0, .int .i64 0, .int .i64 0, .int .i64 0, .int .i64 0, .slice none 0 0]
/-- Tries on their way, in a row. -/
def KW : RK (Int × Int) := ⟨63, 2, 16, .agg #[.int .i64 0, .int .i64 0], fun x => [.int .i64 x.1, .int .i64 x.2]⟩
theorem KW_ok : KW.Ok Try.prog :=
  ⟨fun _ => rfl, fun x u hu => by simp [KW] at hu; rcases hu with rfl | rfl <;> rfl, rfl, by decide, by decide, info_parts' (by kernel_rfl)⟩
/-- The receiver's box, and the answer's, of a call. -/
structure R2 (w : World) (A : Array Value) (w' : World) : Prop where
  p : w'.heap[w.heap.size]? = some (.cells A 30)
  q : w'.heap[w.heap.size + 1]? = some (.cells zB 30)
  bel : Below w.heap.size w w'
theorem R2.new (w : World) (A : Array Value) : R2 w A ((w.alloc (.cells A 30)).alloc (.cells zB 30)) := by
  refine ⟨(Below.heap_alloc _ _ _ (by simp)).trans (heap_alloc_new w _), ?_, ((Below.refl _ _).alloc (Nat.le_refl _) _).alloc (by simp) _⟩
  have := heap_alloc_new (w.alloc (.cells A 30)) (.cells zB 30)
  rw [show (w.alloc (.cells A 30)).heap.size = w.heap.size + 1 by simp] at this
  exact this
theorem R2.call {w w1 w2 : World} {A : Array Value} (h : R2 w A w1) (k : Below w1.heap.size w1 w2) : R2 w A w2 := ⟨(k.block _ (lt_of_heap h.p)).trans h.p, (k.block _ (lt_of_heap h.q)).trans h.q, bl3 h.bel k⟩
theorem R2.grow {w w1 w2 : World} {A : Array Value} (h : R2 w A w1) (k : Below (w.heap.size + 2) w1 w2) : R2 w A w2 := ⟨(k.block _ (by omega)).trans h.p, (k.block _ (by omega)).trans h.q, h.bel.trans (k.mono (by omega))⟩
theorem R2.lt {w w1 : World} {A : Array Value} (h : R2 w A w1) : w.heap.size + 2 ≤ w1.heap.size := lt_of_heap h.q
theorem R2.set {w w1 : World} {A : Array Value} (h : R2 w A w1) (o : Nat) (x : Value) : R2 w (A.setIfInBounds o x) (w1.setCell ⟨w.heap.size, o, none⟩ x) :=
  ⟨heap_setCell_same w1 _ o _ _ x h.p, (Below.heap_setCell _ _ _ _ (show w.heap.size + 1 ≠ w.heap.size by omega)).trans h.q, h.bel.setCell (p := ⟨w.heap.size, o, none⟩) (Nat.le_refl _) x⟩
theorem R2.drewO {w w1 : World} {A : Array Value} (h : R2 w A w1) : R2 w A w1.drew := h.call (Below.refl _ _).drew
set_option maxHeartbeats 4000000 in
theorem rtimed_any (w : World) (k : Bk) (v : Value) (a : Int) : Calls Try.prog 20 #[rbV k v, .int .i64 a] w fun e w' => e = .returned (.int .i64 (tdE k a)) ∧ Below w.heap.size w w' := by
  have HT : Hid (tdE k a = if timB a = false then 1 else if a < k.lst then 7 else 0) := rfl
  have AL : Hid (∀ ob, Below w.heap.size w (w.alloc ob)) := fun ob => (Below.refl _ _).alloc (Nat.le_refl _) ob
  generalize tdE k a = r at *
  simp only [rbV, rbA]
  cases ht : timB a with
  | false =>
    have hq : a < 0 ∨ 1099511627776 < a := by unfold timB at ht; simp at ht; omega
    rw [ht] at HT
    clear ht
    rcases hq with hq | hq
    · go_enter Try.func20, Try.ntmps20
      go_wp2
      go_ret
      exact ⟨ret_int (by rw [HT.out]; simp), AL.out _⟩
    · have hq0 : ¬ a < 0 := by omega
      go_enter Try.func20, Try.ntmps20
      go_wp2
      go_ret
      exact ⟨ret_int (by rw [HT.out]; simp), AL.out _⟩
  | true =>
    have hq : 0 ≤ a ∧ a ≤ 1099511627776 := by unfold timB at ht; simpa using ht
    obtain ⟨q0, q1⟩ := hq
    rw [ht] at HT
    clear ht
    by_cases hl : a < k.lst
    · go_enter Try.func20, Try.ntmps20
      go_wp2
      go_ret
      exact ⟨ret_int (by rw [HT.out]; simp [hl]), AL.out _⟩
    · go_enter Try.func20, Try.ntmps20
      go_wp2
      go_ret
      exact ⟨ret_int (by rw [HT.out]; rw [if_neg (by decide), if_neg (by omega)]), AL.out _⟩
set_option maxHeartbeats 4000000 in
theorem rturned_any (w : World) (k : Bk) (p : Option Addr) (ln cp : Nat) (hk : 0 ≤ k.trn ∧ k.trn ≤ 2000000000000000000) (s u : Int) : Calls Try.prog 21 #[rbV k (.slice p ln cp), .int .i64 s, .int .i64 u] w fun e w' => e = .returned (rbV (k.turn s u) (.slice p ln cp)) ∧ Below w.heap.size w w' := by
  have AL : Hid (∀ ob o2, Below w.heap.size w ((w.alloc ob).alloc o2)) := fun ob o2 => ((Below.refl _ _).alloc (Nat.le_refl _) ob).alloc (by simp) o2
  simp only [rbV, rbA, Bk.turn]
  go_enter Try.func21, Try.ntmps21
  go_wp2
  go_returns
  exact ⟨rfl, AL.out _ _⟩
set_option maxHeartbeats 4000000 in
theorem rnewBreaker_any (l r : Int) (w : World) : Calls Try.prog 6 #[.int .i64 l, .int .i64 r] w fun e w' => e = .returned (.tuple #[if nwkB l r then rbV (newK l r) (.slice none 0 0) else .agg zB, .int .i64 (if nwkB l r then 0 else 1)]) ∧ Below w.heap.size w w' := by
  have AL : Hid (∀ ob, Below w.heap.size w (w.alloc ob)) := fun ob => (Below.refl _ _).alloc (Nat.le_refl _) ob
  have HB : Hid (nwkB l r = (decide (1 ≤ l ∧ l ≤ 1000) && decide (1 ≤ r ∧ r ≤ 1099511627776))) := rfl
  cases hB : nwkB l r with
  | true =>
    rw [hB] at HB
    have hq : (1 ≤ l ∧ l ≤ 1000) ∧ (1 ≤ r ∧ r ≤ 1099511627776) := by have := HB.out; simpa using this.symm
    obtain ⟨⟨q1, q2⟩, q3, q4⟩ := hq
    rw [if_pos rfl, if_pos rfl]
    simp only [rbV, rbA, newK]
    clear hB HB
    go_enter Try.func6, Try.ntmps6
    go_wp2
    go_returns
    exact ⟨rfl, AL.out _⟩
  | false =>
    rw [hB] at HB
    have hq : (l < 1 ∨ 1000 < l) ∨ (¬ l < 1 ∧ ¬ 1000 < l) ∧ (r < 1 ∨ 1099511627776 < r) := by have := HB.out.symm; simp at this; omega
    rw [if_neg (by decide), if_neg (by decide)]
    simp only [zB]
    clear hB HB
    rcases hq with (hq | hq) | ⟨⟨q1, q2⟩, hq | hq⟩
    · go_enter Try.func6, Try.ntmps6
      go_wp2
      go_returns
      exact ⟨rfl, AL.out _⟩
    · have h0 : ¬ l < 1 := by omega
      go_enter Try.func6, Try.ntmps6
      go_wp2
      go_returns
      exact ⟨rfl, AL.out _⟩
    · go_enter Try.func6, Try.ntmps6
      go_wp2
      go_returns
      exact ⟨rfl, AL.out _⟩
    · have h0 : ¬ r < 1 := by omega
      go_enter Try.func6, Try.ntmps6
      go_wp2
      go_returns
      exact ⟨rfl, AL.out _⟩
end Go.Proofs.Ytddnagoljdhnlaa
