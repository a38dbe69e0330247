/- Retry: a breaker, and the document's in a box, behind a law's calls. -/
import Derived.Test.YtddnagoljdhnlaaXr4
import Derived.Test.YtddnagoljdhnlaaXe2
namespace Go.Proofs.Ytddnagoljdhnlaa
open Go.RowKit Go.Maps

/-- The document's tries on their way, clear of the blocks of the two breakers. -/
structure NX (b m B2 : Nat) (k : Bk) (p : Option Addr) (n c : Nat) (w : World) : Prop where
  nl : n = k.ways.length
  gs : GS KW w (.slice p n c) k.ways
  fr : ∀ g, (Value.slice p n c).ownBlock = some g → g ≠ b ∧ g ≠ m ∧ g ≠ B2
structure LB (w1 : World) (b m B2 : Nat) (k k2 : Bk) (p : Option Addr) (n c : Nat) (wk : World) : Prop where
  bx : BX wk b m k
  cb : wk.heap[B2]? = some (.cells (rbA k2 (.slice p n c)) 30)
  nx : NX b m B2 k2 p n c wk
  n1 : b ≠ B2
  n2 : m ≠ B2
  bel : Below w1.heap.size w1 wk
  g1 : w1.heap.size ≤ b
  g2 : w1.heap.size ≤ m
  g3 : w1.heap.size ≤ B2
theorem NX.bq {b m B2 : Nat} {k : Bk} {p : Option Addr} {n c : Nat} {w w' : World} (h : NX b m B2 k p n c w) (q : Bq b m w w') : NX b m B2 k p n c w' :=
  ⟨h.nl, h.gs.blk q.size (fun x hx hl => q.block x hl (h.fr x hx).1 (h.fr x hx).2.1), h.fr⟩
theorem NX.below {b m B2 : Nat} {k : Bk} {p : Option Addr} {n c : Nat} {w w' : World} (h : NX b m B2 k p n c w) (q : Below w.heap.size w w') : NX b m B2 k p n c w' := ⟨h.nl, h.gs.below q, h.fr⟩
theorem LB.bq {w1 wk w2 : World} {b m B2 : Nat} {k k2 k3 : Bk} {p : Option Addr} {n c : Nat} (h : LB w1 b m B2 k k2 p n c wk) (x : BX w2 b m k3) (q : Bq b m wk w2) : LB w1 b m B2 k3 k2 p n c w2 :=
  { h with bx := x, cb := (q.block _ (lt_of_heap h.cb) h.n1.symm h.n2.symm).trans h.cb, nx := h.nx.bq q, bel := h.bel.trans (q.to h.g1 h.g2 h.bel.size) }
theorem LB.below {w1 wk w2 : World} {b m B2 : Nat} {k k2 : Bk} {p : Option Addr} {n c : Nat} (h : LB w1 b m B2 k k2 p n c wk) (q : Below wk.heap.size wk w2) : LB w1 b m B2 k k2 p n c w2 :=
  { h with bx := h.bx.below q, cb := (q.block _ (lt_of_heap h.cb)).trans h.cb, nx := h.nx.below q, bel := bl3 h.bel q }
theorem LB.clear {w1 wk : World} {b m B2 : Nat} {k k2 : Bk} {p : Option Addr} {n c : Nat} (h : LB w1 b m B2 k k2 p n c wk) {g : Nat} (hg : wk.heap.size ≤ g) : g ≠ b ∧ g ≠ m ∧ g ≠ B2 := by
  have h1 := h.bx.lt
  have h2 := h.bx.mp.lt
  have h3 := lt_of_heap h.cb
  exact ⟨by omega, by omega, by omega⟩
theorem LB.store {w1 wk : World} {b m B2 : Nat} {k k2 k3 : Bk} {p p' : Option Addr} {n c n' c' : Nat} (h : LB w1 b m B2 k k2 p n c wk) (x : NX b m B2 k3 p' n' c' wk) :
    LB w1 b m B2 k k3 p' n' c' (((((((((wk.setCell ⟨B2, 0, none⟩ (.int .i64 k3.lim)).setCell ⟨B2, 1, none⟩ (.int .i64 k3.rst)).setCell ⟨B2, 2, none⟩ (.int .i64 k3.st)).setCell ⟨B2, 3, none⟩ (.int .i64 k3.trn)).setCell ⟨B2, 4, none⟩ (.int .i64 k3.row)).setCell ⟨B2, 5, none⟩ (.int .i64 k3.unt)).setCell ⟨B2, 6, none⟩ (.int .i64 k3.lst)).setCell ⟨B2, 7, none⟩ (.int .i64 k3.trs)).setCell ⟨B2, 8, none⟩ (.slice p' n' c')) := by
  have f : ∀ y, y ≠ B2 → (((((((((wk.setCell ⟨B2, 0, none⟩ (.int .i64 k3.lim)).setCell ⟨B2, 1, none⟩ (.int .i64 k3.rst)).setCell ⟨B2, 2, none⟩ (.int .i64 k3.st)).setCell ⟨B2, 3, none⟩ (.int .i64 k3.trn)).setCell ⟨B2, 4, none⟩ (.int .i64 k3.row)).setCell ⟨B2, 5, none⟩ (.int .i64 k3.unt)).setCell ⟨B2, 6, none⟩ (.int .i64 k3.lst)).setCell ⟨B2, 7, none⟩ (.int .i64 k3.trs)).setCell ⟨B2, 8, none⟩ (.slice p' n' c')).heap[y]? = wk.heap[y]? := fun y hy => by
    have g : ∀ (w : World) (o : Nat) (v : Value), (w.setCell ⟨B2, o, none⟩ v).heap[y]? = w.heap[y]? := fun w o v => Below.heap_setCell _ _ _ _ hy
    rw [g, g, g, g, g, g, g, g, g]
  have hc := set9 (show wk.heap[B2]? = some (.cells #[_, _, _, _, _, _, _, _, _] _) from h.cb) (.int .i64 k3.lim) (.int .i64 k3.rst) (.int .i64 k3.st) (.int .i64 k3.trn) (.int .i64 k3.row) (.int .i64 k3.unt) (.int .i64 k3.lst) (.int .i64 k3.trs) (.slice p' n' c')
  have hb := below9 h.bel h.g3 (.int .i64 k3.lim) (.int .i64 k3.rst) (.int .i64 k3.st) (.int .i64 k3.trn) (.int .i64 k3.row) (.int .i64 k3.unt) (.int .i64 k3.lst) (.int .i64 k3.trs) (.slice p' n' c')
  generalize World.setCell _ ⟨_, 8, none⟩ _ = w2 at f hc hb ⊢
  refine ⟨h.bx.far (f _ h.n1) (f _ h.n2), hc, ⟨x.nl, x.gs.blk ?_ (fun y hy _ => f y (x.fr y hy).2.2), x.fr⟩, h.n1, h.n2, hb, h.g1, h.g2, h.g3⟩
  have h1 := (Below.size hb)
  by_cases q : wk.heap.size ≤ w2.heap.size
  · exact q
  · exfalso
    have h3 : w2.heap.size < wk.heap.size := by omega
    by_cases e : w2.heap.size = B2
    · have := lt_of_heap hc; omega
    · have h4 := f _ e
      rw [Array.getElem?_eq_none (Nat.le_refl _)] at h4
      rw [Array.getElem?_eq_getElem h3] at h4
      cases h4
theorem lb_ask1 {w1 wk : World} {b m B2 : Nat} {k k2 : Bk} {p : Option Addr} {n c : Nat} {C : Int} (h : LB w1 b m B2 k k2 p n c wk) (hi : KI2 C k) (hC : C ≤ 1000000000000000000) (a : Int) : Calls Try.prog 8 #[.pointer (some ⟨b, 0, none⟩), .int .i64 a] wk fun e w' => e = .returned (.tuple #[.int .i64 (askN k a), .bool (askB k a), .int .i64 (askE k a)]) ∧ LB w1 b m B2 (askX k a) k2 p n c w' :=
  (ask_any wk b m k C h.bx hi hC a).mono (fun _ _ ⟨q1, q2, q3⟩ => ⟨q1, h.bq q2 q3⟩)
theorem lb_tell1 {w1 wk : World} {b m B2 : Nat} {k k2 : Bk} {p : Option Addr} {n c : Nat} {C : Int} (h : LB w1 b m B2 k k2 p n c wk) (hi : KI2 C k) (hC : C ≤ 1000000000000000000) (t : Int) (ht : (Lit.int .i64 t).wf = true) (f : Bool) (a : Int) : Calls Try.prog 10 #[.pointer (some ⟨b, 0, none⟩), .int .i64 t, .bool f, .int .i64 a] wk fun e w' => e = .returned (.int .i64 (telE k t a)) ∧ LB w1 b m B2 (telX k t f a) k2 p n c w' :=
  (tell_any wk b m k C h.bx hi hC t ht f a).mono (fun _ _ ⟨q1, q2, q3⟩ => ⟨q1, h.bq q2 q3⟩)
theorem lb_state {w1 wk : World} {b m B2 : Nat} {k k2 : Bk} {p : Option Addr} {n c : Nat} (h : LB w1 b m B2 k k2 p n c wk) : Calls Try.prog 12 #[.pointer (some ⟨b, 0, none⟩)] wk fun e w' => e = .returned (.tuple #[.int .i64 k.st, .int .i64 k.row, .int .i64 k.unt]) ∧ LB w1 b m B2 k k2 p n c w' :=
  (state_any wk b m k h.bx).mono (fun _ _ ⟨q1, n, q2⟩ => ⟨q1, by rw [q2]; exact h.below (drew_below _ _)⟩)
theorem lx_ask1 {w1 wk : World} {b m B2 : Nat} {k k2 : Bk} {p : Option Addr} {n c : Nat} {C : Int} (h : LB w1 b m B2 k k2 p n c wk) (hi : KI2 C k) (hC : C ≤ 1000000000000000000) (a : Int) {y : Nat} {o : Obj} (hy : wk.heap[y]? = some o) (y1 : y ≠ b) (y2 : y ≠ m) : Calls Try.prog 8 #[.pointer (some ⟨b, 0, none⟩), .int .i64 a] wk fun e w' => e = .returned (.tuple #[.int .i64 (askN k a), .bool (askB k a), .int .i64 (askE k a)]) ∧ LB w1 b m B2 (askX k a) k2 p n c w' ∧ w'.heap[y]? = some o :=
  (ask_any wk b m k C h.bx hi hC a).mono (fun _ _ ⟨q1, q2, q3⟩ => ⟨q1, h.bq q2 q3, (q3.block _ (lt_of_heap hy) y1 y2).trans hy⟩)
theorem lx_tell1 {w1 wk : World} {b m B2 : Nat} {k k2 : Bk} {p : Option Addr} {n c : Nat} {C : Int} (h : LB w1 b m B2 k k2 p n c wk) (hi : KI2 C k) (hC : C ≤ 1000000000000000000) (t : Int) (ht : (Lit.int .i64 t).wf = true) (f : Bool) (a : Int) {y : Nat} {o : Obj} (hy : wk.heap[y]? = some o) (y1 : y ≠ b) (y2 : y ≠ m) : Calls Try.prog 10 #[.pointer (some ⟨b, 0, none⟩), .int .i64 t, .bool f, .int .i64 a] wk fun e w' => e = .returned (.int .i64 (telE k t a)) ∧ LB w1 b m B2 (telX k t f a) k2 p n c w' ∧ w'.heap[y]? = some o :=
  (tell_any wk b m k C h.bx hi hC t ht f a).mono (fun _ _ ⟨q1, q2, q3⟩ => ⟨q1, h.bq q2 q3, (q3.block _ (lt_of_heap hy) y1 y2).trans hy⟩)
theorem box4L (w : World) (z0 z1 z2 z3 x0 x1 x2 x3 : Value) (T : TypeId) : (((((w.alloc (.cells #[z0, z1, z2, z3] T)).setCell ⟨w.heap.size, 0, none⟩ x0).setCell ⟨w.heap.size, 1, none⟩ x1).setCell ⟨w.heap.size, 2, none⟩ x2).setCell ⟨w.heap.size, 3, none⟩ x3).heap[w.heap.size]? = some (.cells #[x0, x1, x2, x3] T) ∧ Below w.heap.size w (((((w.alloc (.cells #[z0, z1, z2, z3] T)).setCell ⟨w.heap.size, 0, none⟩ x0).setCell ⟨w.heap.size, 1, none⟩ x1).setCell ⟨w.heap.size, 2, none⟩ x2).setCell ⟨w.heap.size, 3, none⟩ x3) := by
  have h0 := heap_setCell_same _ w.heap.size 0 _ _ x0 (heap_alloc_new w (.cells #[z0, z1, z2, z3] T))
  have h1 := heap_setCell_same _ w.heap.size 1 _ _ x1 h0
  have h2 := heap_setCell_same _ w.heap.size 2 _ _ x2 h1
  have h3 := heap_setCell_same _ w.heap.size 3 _ _ x3 h2
  exact ⟨h3, ((((bal w _).setCell (p := ⟨w.heap.size, 0, none⟩) (Nat.le_refl _) x0).setCell (p := ⟨w.heap.size, 1, none⟩) (Nat.le_refl _) x1).setCell (p := ⟨w.heap.size, 2, none⟩) (Nat.le_refl _) x2).setCell (p := ⟨w.heap.size, 3, none⟩) (Nat.le_refl _) x3⟩
theorem cells4 {w : World} {b : Nat} {a0 a1 a2 a3 : Value} {T : TypeId} (hp : w.heap[b]? = some (.cells #[a0, a1, a2, a3] T)) : w.cell? ⟨b, 0, none⟩ = some a0 ∧ w.cell? ⟨b, 1, none⟩ = some a1 ∧ w.cell? ⟨b, 2, none⟩ = some a2 ∧ w.cell? ⟨b, 3, none⟩ = some a3 :=
  ⟨cell_of_row _ _ _ _ _ _ hp, cell_of_row _ _ _ _ _ _ hp, cell_of_row _ _ _ _ _ _ hp, cell_of_row _ _ _ _ _ _ hp⟩
theorem box9 (w : World) (T : TypeId) (x0 x1 x2 x3 x4 x5 x6 x7 x8 : Value) : ((((((((((w.alloc (.cells zB T)).setCell ⟨w.heap.size, 0, none⟩ x0).setCell ⟨w.heap.size, 1, none⟩ x1).setCell ⟨w.heap.size, 2, none⟩ x2).setCell ⟨w.heap.size, 3, none⟩ x3).setCell ⟨w.heap.size, 4, none⟩ x4).setCell ⟨w.heap.size, 5, none⟩ x5).setCell ⟨w.heap.size, 6, none⟩ x6).setCell ⟨w.heap.size, 7, none⟩ x7).setCell ⟨w.heap.size, 8, none⟩ x8).heap[w.heap.size]? = some (.cells #[x0, x1, x2, x3, x4, x5, x6, x7, x8] T) ∧ Below w.heap.size w ((((((((((w.alloc (.cells zB T)).setCell ⟨w.heap.size, 0, none⟩ x0).setCell ⟨w.heap.size, 1, none⟩ x1).setCell ⟨w.heap.size, 2, none⟩ x2).setCell ⟨w.heap.size, 3, none⟩ x3).setCell ⟨w.heap.size, 4, none⟩ x4).setCell ⟨w.heap.size, 5, none⟩ x5).setCell ⟨w.heap.size, 6, none⟩ x6).setCell ⟨w.heap.size, 7, none⟩ x7).setCell ⟨w.heap.size, 8, none⟩ x8) :=
  ⟨set9 (heap_alloc_new w _) x0 x1 x2 x3 x4 x5 x6 x7 x8, below9 (bal w _) (Nat.le_refl _) x0 x1 x2 x3 x4 x5 x6 x7 x8⟩
end Go.Proofs.Ytddnagoljdhnlaa
