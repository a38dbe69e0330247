/- Failures: the wholes of a failure, walked. -/
import Derived.Test.YtaleagkhblokgaaDoorFx12
namespace Go.Proofs.YtaleagkhblokgaaDoor
open Go.RowKit

/-- One whole of the row. -/
def WC (w : World) (g j : Nat) (vs : Value) (a : Int × List Int) : Prop := ∃ v, w.cell? ⟨g, j * 2, none⟩ = some (.int .i64 a.1) ∧ w.cell? ⟨g, j * 2 + 1, none⟩ = some v ∧ IS w v a.2 ∧ ∀ x, v.ownBlock = some x → g < x ∧ vs.ownBlock ≠ some x
/-- The wholes so far, and the stack. -/
structure WI (w wk : World) (vs : Value) (E : List Int) (A : List (Int × List Int)) (k : Nat) (l : List Cr) : Prop where
  wb : WB wk w.heap.size l.length
  ce : ∀ j, j < k → WC wk w.heap.size j vs (A.getD j (0, []))
  s : OwnI wk (w.heap.size + 1) vs E
  bl : Below w.heap.size w wk
  la : A.length = k
  ls : E.length ≤ k
  me : ∀ x ∈ E, 0 ≤ x ∧ x < k
  eq : whS 0 [] [] l = whS k E A (l.drop k)
  wl : walkC E.length (l.drop k) = some 1
theorem OwnI.somewhere {w : World} {base cs J : Nat} {ps : Option Addr} {E : List Int} (h : OwnI w base (.slice ps E.length cs) E) (hJ : J ≤ E.length) (hc : ¬ cs = J) : ∃ gs, ps = some ⟨gs, 0, none⟩ ∧ E.length ≤ cs ∧ gs < w.heap.size := by
  have h0 := h
  rcases h.2 with ⟨e, e2⟩ | ⟨g, cap, cur, e, _, _, hcp, _⟩
  · injection e with e1 e3 e4; omega
  · injection e with e1 e3 e4
    subst e1 e4
    exact ⟨g, rfl, hcp, (World.ownsRow.lt h0 g rfl).2⟩
theorem OwnI.tail {w : World} {base cs J m gs : Nat} {E : List Int} (h : OwnI w base (.slice (some ⟨gs, 0, none⟩) E.length cs) E) (hJ : J ≤ E.length) (hm : E.length - J = m) : IS w (.slice (some ⟨gs, J, none⟩) m (cs - J)) (E.drop J) := by
  have hl : (E.drop J).length = m := by rw [List.length_drop]; exact hm
  refine Or.inr ⟨gs, J, cs - J, by rw [hl], (World.ownsRow.lt h gs rfl).2, fun i hi => ?_⟩
  rw [own_cell h rfl (j := J + i) (by omega)]
  simp
theorem WB.cell {w : World} {g n : Nat} (h : WB w g n) {o : Nat} (ho : o < n * 2) : ∃ v, w.cell? ⟨g, o, none⟩ = some v := by
  obtain ⟨cur, h1, h2⟩ := h
  exact ⟨cur[o]'(by omega), cell_of_row _ _ _ _ _ _ h1 |>.trans (by simp [h2, ho])⟩
theorem WB.frozen {w : World} {g n : Nat} (h : WB w g n) (o : Nat) : w.frozen? ⟨g, o, none⟩ = false := by
  obtain ⟨cur, h1, h2⟩ := h
  simp [World.frozen?, h1]
theorem WB.set {w : World} {g n : Nat} (h : WB w g n) (o : Nat) (v : Value) : WB (w.setCell ⟨g, o, none⟩ v) g n := by
  obtain ⟨cur, h1, h2⟩ := h
  exact ⟨cur.setIfInBounds o v, heap_setCell_same w g o cur _ v h1, by simpa using h2⟩
theorem WB.keep {w w' : World} {g n : Nat} (h : WB w g n) (k : w'.heap[g]? = w.heap[g]?) : WB w' g n := by
  obtain ⟨cur, h1, h2⟩ := h
  exact ⟨cur, k.trans h1, h2⟩
theorem WB.lt {w : World} {g n : Nat} (h : WB w g n) : g < w.heap.size := by
  obtain ⟨cur, h1, h2⟩ := h
  exact (Array.getElem?_eq_some_iff.1 h1).1
theorem set_other {w : World} {qb qo o : Nat} {v : Value} (h : o ≠ qo) : (w.setCell ⟨qb, qo, none⟩ v).cell? ⟨qb, o, none⟩ = w.cell? ⟨qb, o, none⟩ := World.cell?_setCell_other _ _ _ _ (by intro e; injection e with _ e2 _; exact h e2.symm)
/-- One whole is laid in its place. -/
structure ST (g k n : Nat) (x y : Value) (a b : World) : Prop where
  os : b.os = a.os
  tape : b.tape = a.tape
  output : b.output = a.output
  size : b.heap.size = a.heap.size
  block : ∀ j, j ≠ g → b.heap[j]? = a.heap[j]?
  cell : ∀ o, o ≠ k * 2 → o ≠ k * 2 + 1 → b.cell? ⟨g, o, none⟩ = a.cell? ⟨g, o, none⟩
  c0 : b.cell? ⟨g, k * 2, none⟩ = some x
  c1 : b.cell? ⟨g, k * 2 + 1, none⟩ = some y
  wb : WB b g n
theorem ST.two {g k n : Nat} {a : World} (h : WB a g n) (hk : k < n) (x y : Value) : ST g k n x y a ((a.setCell ⟨g, k * 2, none⟩ x).setCell ⟨g, k * 2 + 1, none⟩ y) := by
  obtain ⟨v0, h0⟩ := h.cell (o := k * 2) (by omega)
  obtain ⟨v1, h1⟩ := h.cell (o := k * 2 + 1) (by omega)
  refine ⟨rfl, rfl, rfl, by simp [World.setCell], fun j hj => (Below.heap_setCell _ _ _ _ hj).trans (Below.heap_setCell _ _ _ _ hj), fun o h2 h3 => by rw [set_other h3, set_other h2], ?_, ?_, (h.set _ _).set _ _⟩
  · rw [set_other (by omega)]; exact World.cell?_setCell_same _ _ _ h0
  · exact World.cell?_setCell_same _ _ _ (by rw [set_other (by omega)]; exact h1)
theorem ST.one {g k n : Nat} {a b : World} {x y : Value} (h : ST g k n x y a b) (z : Value) : ST g k n z y a (b.setCell ⟨g, k * 2, none⟩ z) :=
  ⟨h.os, h.tape, h.output, by simpa [World.setCell] using h.size, fun j hj => (Below.heap_setCell _ _ _ _ hj).trans (h.block j hj), fun o h2 h3 => by rw [set_other h2]; exact h.cell o h2 h3, World.cell?_setCell_same _ _ _ h.c0, by rw [set_other (by omega)]; exact h.c1, h.wb.set _ _⟩
theorem ST.below {g k n : Nat} {a b : World} {x y : Value} (h : ST g k n x y a b) {N : Nat} (hN : N ≤ g) : Below N a b :=
  ⟨h.os, h.tape, h.output, by rw [h.size]; exact Nat.le_refl _, fun j hj => h.block j (by omega)⟩
theorem WI.next {w wr w5 w6 w7 : World} {vs vs0 v5 : Value} {E E0 D : List Int} {A : List (Int × List Int)} {k g1 c1 : Nat} {l : List Cr} {f : Int} (h : WI w wr vs E A k l) (hlt : k < l.length) (hb0 : vs0.ownBlock = vs.ownBlock)
    (b5 : Below wr.heap.size wr w5) (o5 : OwnI w5 wr.heap.size v5 D) (s6 : ST w.heap.size k l.length (.int .i64 f) v5 w5 w6)
    (o7 : OwnI w7 (w.heap.size + 1) (.slice (some ⟨g1, 0, none⟩) (E0.length + 1) c1) (E0 ++ [(k : Int)])) (b7 : Below (w.heap.size + 1) w6 w7) (k7 : ∀ j, j < w6.heap.size → some j ≠ vs0.ownBlock → w7.heap[j]? = w6.heap[j]?) (g7 : vs0.ownBlock = some g1 ∨ w6.heap.size ≤ g1)
    (hE : ∀ x ∈ E0, x ∈ E) (hl : E0.length ≤ k) (heq : whS 0 [] [] l = whS (k + 1) (E0 ++ [(k : Int)]) (A ++ [(f, D)]) (l.drop (k + 1))) (hwl : walkC ((E0.length + 1 : Nat) : Int) (l.drop (k + 1)) = some 1) :
    WI w w7 (.slice (some ⟨g1, 0, none⟩) (E0.length + 1) c1) (E0 ++ [(k : Int)]) (A ++ [(f, D)]) (k + 1) l := by
  have hg : w.heap.size < wr.heap.size := h.wb.lt
  have hs5 := b5.size
  have hs6 := s6.size
  rw [hb0] at k7 g7
  have hvs : ∀ q, vs.ownBlock = some q → w.heap.size + 1 ≤ q ∧ q < wr.heap.size := fun q hq => World.ownsRow.lt h.s q hq
  have kg : w7.heap[w.heap.size]? = w6.heap[w.heap.size]? := k7 _ (by omega) (fun e => by have := hvs _ e.symm; omega)
  have kc : ∀ o, w7.cell? ⟨w.heap.size, o, none⟩ = w6.cell? ⟨w.heap.size, o, none⟩ := fun o => World.cell?_of_block (w := w6) (a := ⟨w.heap.size, o, none⟩) kg
  have far : ∀ (v : Value) (L : List Int), IS w5 v L → (∀ x, v.ownBlock = some x → x ≠ w.heap.size ∧ vs.ownBlock ≠ some x) → IS w7 v L := fun v L hi hx => by
    refine hi.blk (by have := b7.size; omega) (fun a n c e => ?_)
    have hxx := hx a.block (by rw [e]; rfl)
    have hlt5 : a.block < w5.heap.size := by
      rcases hi with ⟨e2, _⟩ | ⟨X, o, cap, e2, hX, _⟩
      · rw [e2] at e; cases e
      · rw [e2] at e; injection e with e _ _; injection e with e; subst e; exact hX
    exact (k7 _ (by omega) (fun e => hxx.2 e.symm)).trans (s6.block _ hxx.1)
  have lt5 : ∀ (v : Value) (L : List Int) (W : World), IS W v L → ∀ x, v.ownBlock = some x → x < W.heap.size := fun v L W hi x hx => by
    rcases hi with ⟨e2, _⟩ | ⟨X, o, cap, e2, hX, _⟩
    · rw [e2] at hx; cases hx
    · rw [e2] at hx; injection hx with hx; subst hx; exact hX
  refine ⟨(s6.wb.keep kg), fun j hj => ?_, ?_, (h.bl.trans ((b5.mono h.bl.size).trans (s6.below (Nat.le_refl _)))).trans (b7.mono (by omega)), by simp [h.la], by simp; omega, fun x hx => ?_, heq, ?_⟩
  · by_cases hjk : j < k
    · obtain ⟨v, e0, e1, e2, e3⟩ := h.ce j hjk
      have hA : (A ++ [(f, D)]).getD j (0, []) = A.getD j (0, []) := by have := h.la; simp [List.getD, List.getElem?_append_left (show j < A.length by omega)]
      rw [hA]
      have t0 : ∀ o, o ≠ k * 2 → o ≠ k * 2 + 1 → w7.cell? ⟨w.heap.size, o, none⟩ = wr.cell? ⟨w.heap.size, o, none⟩ := fun o h1 h2 => ((kc o).trans (s6.cell o h1 h2)).trans (b5.cell (p := ⟨w.heap.size, o, none⟩) hg)
      refine ⟨v, (t0 _ (by omega) (by omega)).trans e0, (t0 _ (by omega) (by omega)).trans e1, far v _ (e2.below b5) (fun x hx => ⟨Nat.ne_of_gt (e3 x hx).1, (e3 x hx).2⟩), fun x hx => ⟨(e3 x hx).1, fun e => ?_⟩⟩
      simp only [Value.ownBlock, Option.some.injEq] at e
      have := lt5 v _ _ e2 x hx
      rcases g7 with e4 | e4
      · exact (e3 x hx).2 (by rw [e4, e])
      · omega
    · have hjk2 : j = k := by omega
      subst hjk2
      have hA : (A ++ [(f, D)]).getD j (0, []) = (f, D) := by have := h.la; simp [List.getD, ← this]
      rw [hA]
      have hx5 : ∀ x, v5.ownBlock = some x → wr.heap.size ≤ x ∧ x < w5.heap.size := fun x hx => World.ownsRow.lt o5 x hx
      refine ⟨v5, (kc _).trans s6.c0, (kc _).trans s6.c1, far v5 _ o5.is (fun x hx => ⟨by have := hx5 x hx; omega, fun e => by have := hx5 x hx; have := hvs x e; omega⟩), fun x hx => ⟨by have := hx5 x hx; omega, fun e => ?_⟩⟩
      simp only [Value.ownBlock, Option.some.injEq] at e
      have := hx5 x hx
      rcases g7 with e4 | e4
      · have := hvs _ e4; omega
      · omega
  · exact o7
  · rw [List.mem_append, List.mem_singleton] at hx
    rcases hx with hx | hx
    · have := h.me x (hE x hx); omega
    · omega
  · rw [List.length_append]; exact hwl
end Go.Proofs.YtaleagkhblokgaaDoor
