/- Failures: the wholes of a failure, walked. -/
import Derived.Test.YtaleagkhblokgaaDoorFx10
namespace Go.Proofs.YtaleagkhblokgaaDoor
open Go.RowKit

/-- The slice reads as these numbers. -/
def IS (w : World) (v : Value) (l : List Int) : Prop := (v = .slice none 0 0 ∧ l = []) ∨ ∃ X o cap, v = .slice (some ⟨X, o, none⟩) l.length cap ∧ X < w.heap.size ∧ ∀ k, k < l.length → w.cell? ⟨X, o + k, none⟩ = some (.int .i64 (l.getD k 0))
theorem IS.form {w : World} {v : Value} {l : List Int} (h : IS w v l) : ∃ p cap, v = .slice p l.length cap := by
  rcases h with ⟨rfl, rfl⟩ | ⟨X, o, cap, rfl, _⟩
  · exact ⟨none, 0, rfl⟩
  · exact ⟨_, cap, rfl⟩
theorem IS.blk {w w' : World} {v : Value} {l : List Int} (h : IS w v l) (hs : w.heap.size ≤ w'.heap.size) (k : ∀ a n c, v = .slice (some a) n c → w'.heap[a.block]? = w.heap[a.block]?) : IS w' v l := by
  rcases h with h | ⟨X, o, cap, rfl, hX, hc⟩
  · exact Or.inl h
  · have kb : w'.heap[X]? = w.heap[X]? := k _ _ _ rfl
    exact Or.inr ⟨X, o, cap, rfl, by omega, fun i hi => (World.cell?_of_block (w := w) (a := ⟨X, o + i, none⟩) kb).trans (hc i hi)⟩
theorem IS.below {w w' : World} {v : Value} {l : List Int} (h : IS w v l) (k : Below w.heap.size w w') : IS w' v l := by
  refine h.blk k.size (fun a n c e => ?_)
  rcases h with ⟨e2, _⟩ | ⟨X, o, cap, e2, hX, _⟩
  · rw [e2] at e; cases e
  · rw [e2] at e; injection e with e _ _; injection e with e; subst e; exact k.block X hX
theorem OwnI.is {w : World} {base : Nat} {v : Value} {l : List Int} (h : OwnI w base v l) : IS w v l := by
  have h0 := h
  rcases h.2 with ⟨rfl, e⟩ | ⟨g, cap, cur, rfl, _⟩
  · exact Or.inl ⟨rfl, List.length_eq_zero_iff.1 e⟩
  · exact Or.inr ⟨g, 0, cap, rfl, (World.ownsRow.lt h0 g rfl).2, fun k hk => by rw [Nat.zero_add]; exact own_cell h0 rfl hk⟩
theorem IS.at {w : World} {p : Option Addr} {n cap k : Nat} {l : List Int} (h : IS w (.slice p n cap) l) (hk : k < l.length) : ∃ X o, p = some ⟨X, o, none⟩ ∧ w.cell? ⟨X, o + k, none⟩ = some (.int .i64 (l.getD k 0)) := by
  rcases h with ⟨_, rfl⟩ | ⟨X, o, cap, e, hX, hc⟩
  · simp at hk
  · injection e with e1 e2 e3
    exact ⟨X, o, e1, hc k hk⟩
theorem append_ints {P : Program} {ops : Array Oper} {rest : List Oper} {o : Oper} {a : Act} {Q : Exit → Act → World → Prop} (hgd : o.guard = none) (s x : Operand) (t : TypeId)
    (ho : o.op = .call { callee := .builtin .append, args := #[s, x], argTypes := #[t, t] })
    (base : Nat) (ht : P.underlying t = some (.slice 3)) (hi : (P.info? 3).map (fun i => (i.zero, i.size, i.bytes)) = some (some (.int .i64 0), 1, 8))
    (w : World) (v vx : Value) (l m : List Int) (hs : a.eval s = v) (hx : a.eval x = vx) (hown : OwnI w base v l) (hm : IS w vx m)
    (hlen : l.length + m.length ≤ 100000) (hbase : base ≤ w.heap.size)
    (h : ∀ v' w', OwnI w' base v' (l ++ m) → Below base w w' → wpList P ops Q rest (a.put o.dst v') w') : wpList P ops Q (o :: rest) a w := by
  obtain ⟨i0, hi0, hz0, hz1, hz2⟩ := info_parts hi
  rcases hm with ⟨rfl, hmn⟩ | ⟨X, ox, cap, rfl, hX, hc⟩
  · subst hmn
    refine Go.wpList_append_own_none hgd s x t ho base 3 i0 1 ht hi0 v l.length (iV l) hs hown hx ?_
    exact h v w (by rw [List.append_nil]; exact hown) (Below.refl _ _)
  · have one : ∀ u ∈ iV m, u.oneCell' = true := fun u hu => by
      obtain ⟨f, _, hf⟩ := List.mem_map.1 hu
      subst hf; rfl
    refine wpList_append_own _ hgd s x t ho base 3 i0 (.int .i64 0) 1 8 ht hi0 hz0 hz1 hz2 rfl (by decide) v l.length (iV l) hs hown ⟨X, ox, none⟩ m.length cap (iV m) hx (by rw [iV_len]; omega) ?_ one
      (by unfold maxLen; omega) (by omega) hbase ?_
    · intro j u hj
      have hjl : j < m.length := by
        by_cases hlt : j < m.length
        · exact hlt
        · rw [List.getElem?_eq_none (by rw [iV_len]; omega)] at hj; cases hj
      have hadd : (⟨X, ox, none⟩ : Addr).add j = ⟨X, ox + j, none⟩ := by
        unfold Addr.add; split
        · rename_i hz; rw [show ox + j = ox by omega]
        · rfl
      rw [hadd, hc j hjl, ← hj]
      simp [iV, hjl]
    · intro v' w' ho' hg _
      refine h v' w' ?_ ((Below.refl base w).grown hg hbase (fun q hq => (World.ownsRow.lt hown q hq).1))
      unfold OwnI
      rw [List.length_append]
      simpa [iV] using ho'
set_option maxHeartbeats 4000000 in
set_option maxRecDepth 100000 in
theorem clonei_any (w : World) (v : Value) (l : List Int) (h : IS w v l) (hl : l.length ≤ 10000) :
    Calls Tryd.prog 56 #[v] w fun e w' => ∃ p cap, e = .returned (.slice p l.length cap) ∧ OwnI w' w.heap.size (.slice p l.length cap) l ∧ Below w.heap.size w w' := by
  have h0 := h
  have EQ : ∀ a l c w, Sem.run Tryd.prog (binOp .eql 25 (.slice a l c) (.slice none 0 0)) w = .ok (.bool a.isNone) w := fun a l c w => by
    simp only [binOp]
    simp [run_equal_slice_nil w 25 _ a l c Tryd.underlying25]
  rcases h with ⟨rfl, rfl⟩ | ⟨X, o, cap, rfl, hX, hc⟩
  · clear h0
    go_enter Tryd.func56, Tryd.ntmps56
    go_wp2
    go_ret
    exact ⟨none, 0, rfl, World.ownsRow_nil _ _ _ _, Below.refl _ _⟩
  · have H0 : Hid (IS (w.alloc (.cells #[] 3)) (.slice (some ⟨X, o, none⟩) l.length cap) l) := h0.below ((Below.refl _ _).alloc (Nat.le_refl _) _)
    have E0 : Hid (OwnI (w.alloc (.cells #[] 3)) w.heap.size (.slice (some ⟨w.heap.size, 0, none⟩) 0 0) []) := ownI_empty w
    have HL : Hid (([] : List Int).length + l.length ≤ 100000) := by show ([] : List Int).length + l.length ≤ 100000; simp; omega
    clear h0 hc
    go_enter Tryd.func56, Tryd.ntmps56
    go_wp2_with (at_builtin; refine append_ints rfl (.tmp 5) (.tmp 6) 25 rfl w.heap.size Tryd.underlying25 info_int _ _ (.slice (some ⟨X, o, none⟩) l.length cap) [] l rfl rfl E0.out H0.out HL.out (by simp) ?_; intro v8 w8 ho8 hb8)
    go_ret
    rw [List.nil_append] at ho8
    obtain ⟨p, cap2, rfl⟩ := ho8.form
    exact ⟨p, cap2, rfl, ho8, ((Below.refl _ _).alloc (Nat.le_refl _) _).trans hb8⟩
/-- The wholes: where each begins, and where its parts end. -/
def whS : Nat → List Int → List (Int × List Int) → List Cr → List (Int × List Int)
  | _, _, A, [] => A
  | i, E, A, c :: r => whS (i + 1) (E.take (E.length - c.n.toNat) ++ [(i : Int)]) (A ++ [(if 0 < c.n then (A.getD (E.getD (E.length - c.n.toNat) 0).toNat (0, [])).1 else (i : Int), E.drop (E.length - c.n.toNat))]) r
theorem whS_len : ∀ (l : List Cr) (i : Nat) (E : List Int) (A : List (Int × List Int)), (whS i E A l).length = A.length + l.length
  | [], _, _, _ => by simp [whS]
  | c :: r, i, E, A => by rw [whS, whS_len r]; simp; omega
end Go.Proofs.YtaleagkhblokgaaDoor
namespace Go.Proofs.YtaleagkhblokgaaDoor
open Go.RowKit

theorem info_wh : (Tryd.prog.info? 61).map (fun i => (i.zero, i.size, i.bytes)) = some (some (.agg #[.int .i64 0, .slice none 0 0]), 2, 32) := by kernel_rfl
/-- A block of n wholes. -/
def WB (w : World) (g n : Nat) : Prop := ∃ cur, w.heap[g]? = some (.cells cur 61) ∧ cur.size = n * 2
theorem make_wh {P : Program} (w : World) {ops : Array Oper} {rest : List Oper} {o : Oper} {a : Act} {Q : Exit → Act → World → Prop}
    (hg : o.guard = none) (l c : Operand) (t : TypeId) (hop : o.op = Op.makeSlice t l c) (ht : P.underlying t = some (.slice 61)) (hi : (P.info? 61).map (fun i => (i.zero, i.size, i.bytes)) = some (some (.agg #[.int .i64 0, .slice none 0 0]), 2, 32))
    (n : Nat) (hl : a.eval l = .int .i64 n) (hc : a.eval c = .int .i64 n) (hn : n ≤ 100000)
    (hK : ∀ w', WB w' w.heap.size n → Below w.heap.size w w' → wpList P ops Q rest (a.put o.dst (.slice (some ⟨w.heap.size, 0, none⟩) n n)) w') : wpList P ops Q (o :: rest) a w := by
  obtain ⟨i0, hi0, hz0, hz1, hz2⟩ := info_parts hi
  refine wpList_make_full w hg l c t hop w.heap.size 61 i0 _ 2 ht hi0 hz0 hz1 .i64 .i64 n n n hl hc rfl rfl (by rw [hz2]; omega) (by unfold maxLen; omega) (Nat.le_refl _) ?_
  intro w' ho hgr
  refine hK w' ?_ ((Below.refl _ _).grown hgr (Nat.le_refl _) (fun k hk => by cases hk))
  rcases ho.2 with ⟨h2, _⟩ | ⟨g', cp, cur, e1, e2, e3, e4, e5, e6, e7⟩
  · cases h2
  · injection e1 with e1 e8 e9
    injection e1 with e1
    injection e1 with e1 _ _
    subst e1 e9
    exact ⟨cur, e3, e6⟩
theorem make_int {P : Program} (w : World) {ops : Array Oper} {rest : List Oper} {o : Oper} {a : Act} {Q : Exit → Act → World → Prop}
    (hg : o.guard = none) (l c : Operand) (t : TypeId) (hop : o.op = Op.makeSlice t l c) (ht : P.underlying t = some (.slice 3)) (hi : (P.info? 3).map (fun i => (i.zero, i.size, i.bytes)) = some (some (.int .i64 0), 1, 8))
    (n : Nat) (hl : a.eval l = .int .i64 n) (hc : a.eval c = .int .i64 n) (hn : n ≤ 100000)
    (hK : ∀ w' cur, w'.heap[w.heap.size]? = some (.cells cur 3) → cur.size = n → Below w.heap.size w w' → wpList P ops Q rest (a.put o.dst (.slice (some ⟨w.heap.size, 0, none⟩) n n)) w') : wpList P ops Q (o :: rest) a w := by
  obtain ⟨i0, hi0, hz0, hz1, hz2⟩ := info_parts hi
  refine wpList_make_full w hg l c t hop w.heap.size 3 i0 _ 1 ht hi0 hz0 hz1 .i64 .i64 n n n hl hc rfl rfl (by rw [hz2]; omega) (by unfold maxLen; omega) (Nat.le_refl _) ?_
  intro w' ho hgr
  rcases ho.2 with ⟨h2, _⟩ | ⟨g', cp, cur, e1, e2, e3, e4, e5, e6, e7⟩
  · cases h2
  · injection e1 with e1 e8 e9
    injection e1 with e1
    injection e1 with e1 _ _
    subst e1 e9
    exact hK w' cur e3 (by omega) ((Below.refl _ _).grown hgr (Nat.le_refl _) (fun k hk => by cases hk))
end Go.Proofs.YtaleagkhblokgaaDoor
namespace Go.Proofs.YtaleagkhblokgaaDoor
open Go.RowKit

/-- One whole of the row. -/
def WC (w : World) (g j : Nat) (vs : Value) (a : Int × List Int) : Prop := ∃ v, w.cell? ⟨g, j * 2, none⟩ = some (.int .i64 a.1) ∧ w.cell? ⟨g, j * 2 + 1, none⟩ = some v ∧ IS w v a.2 ∧ ∀ x, v.ownBlock = some x → g < x ∧ vs.ownBlock ≠ some x
/-- The wholes so far, and the stack. -/
structure WI (w wk : World) (vs : Value) (E : List Int) (A : List (Int × List Int)) (k : Nat) (l : List Cr) : Prop where
  wb : WB wk w.heap.size l.length
  ce : ∀ j, j < k → WC wk w.heap.size j vs (A.getD j (0, []))
  s : OwnI wk (w.heap.size + 1) vs E
  bl : Below w.heap.size w wk
  la : A.length = k
  ls : E.length ≤ k
  me : ∀ x ∈ E, 0 ≤ x ∧ x < k
  eq : whS 0 [] [] l = whS k E A (l.drop k)
  wl : walkC E.length (l.drop k) = some 1
theorem OwnI.somewhere {w : World} {base cs J : Nat} {ps : Option Addr} {E : List Int} (h : OwnI w base (.slice ps E.length cs) E) (hJ : J ≤ E.length) (hc : ¬ cs = J) : ∃ gs, ps = some ⟨gs, 0, none⟩ ∧ E.length ≤ cs ∧ gs < w.heap.size := by
  have h0 := h
  rcases h.2 with ⟨e, e2⟩ | ⟨g, cap, cur, e, _, _, hcp, _⟩
  · injection e with e1 e3 e4; omega
  · injection e with e1 e3 e4
    subst e1 e4
    exact ⟨g, rfl, hcp, (World.ownsRow.lt h0 g rfl).2⟩
theorem OwnI.tail {w : World} {base cs J m gs : Nat} {E : List Int} (h : OwnI w base (.slice (some ⟨gs, 0, none⟩) E.length cs) E) (hJ : J ≤ E.length) (hm : E.length - J = m) : IS w (.slice (some ⟨gs, J, none⟩) m (cs - J)) (E.drop J) := by
  have hl : (E.drop J).length = m := by rw [List.length_drop]; exact hm
  refine Or.inr ⟨gs, J, cs - J, by rw [hl], (World.ownsRow.lt h gs rfl).2, fun i hi => ?_⟩
  rw [own_cell h rfl (j := J + i) (by omega)]
  simp
theorem WB.cell {w : World} {g n : Nat} (h : WB w g n) {o : Nat} (ho : o < n * 2) : ∃ v, w.cell? ⟨g, o, none⟩ = some v := by
  obtain ⟨cur, h1, h2⟩ := h
  exact ⟨cur[o]'(by omega), cell_of_row _ _ _ _ _ _ h1 |>.trans (by simp [h2, ho])⟩
theorem WB.frozen {w : World} {g n : Nat} (h : WB w g n) (o : Nat) : w.frozen? ⟨g, o, none⟩ = false := by
  obtain ⟨cur, h1, h2⟩ := h
  simp [World.frozen?, h1]
theorem WB.set {w : World} {g n : Nat} (h : WB w g n) (o : Nat) (v : Value) : WB (w.setCell ⟨g, o, none⟩ v) g n := by
  obtain ⟨cur, h1, h2⟩ := h
  exact ⟨cur.setIfInBounds o v, heap_setCell_same w g o cur _ v h1, by simpa using h2⟩
theorem WB.keep {w w' : World} {g n : Nat} (h : WB w g n) (k : w'.heap[g]? = w.heap[g]?) : WB w' g n := by
  obtain ⟨cur, h1, h2⟩ := h
  exact ⟨cur, k.trans h1, h2⟩
theorem WB.lt {w : World} {g n : Nat} (h : WB w g n) : g < w.heap.size := by
  obtain ⟨cur, h1, h2⟩ := h
  exact (Array.getElem?_eq_some_iff.1 h1).1
theorem set_other {w : World} {qb qo o : Nat} {v : Value} (h : o ≠ qo) : (w.setCell ⟨qb, qo, none⟩ v).cell? ⟨qb, o, none⟩ = w.cell? ⟨qb, o, none⟩ := World.cell?_setCell_other _ _ _ _ (by intro e; injection e with _ e2 _; exact h e2.symm)
/-- One whole is laid in its place. -/
structure ST (g k n : Nat) (x y : Value) (a b : World) : Prop where
  os : b.os = a.os
  tape : b.tape = a.tape
  output : b.output = a.output
  size : b.heap.size = a.heap.size
  block : ∀ j, j ≠ g → b.heap[j]? = a.heap[j]?
  cell : ∀ o, o ≠ k * 2 → o ≠ k * 2 + 1 → b.cell? ⟨g, o, none⟩ = a.cell? ⟨g, o, none⟩
  c0 : b.cell? ⟨g, k * 2, none⟩ = some x
  c1 : b.cell? ⟨g, k * 2 + 1, none⟩ = some y
  wb : WB b g n
theorem ST.two {g k n : Nat} {a : World} (h : WB a g n) (hk : k < n) (x y : Value) : ST g k n x y a ((a.setCell ⟨g, k * 2, none⟩ x).setCell ⟨g, k * 2 + 1, none⟩ y) := by
  obtain ⟨v0, h0⟩ := h.cell (o := k * 2) (by omega)
  obtain ⟨v1, h1⟩ := h.cell (o := k * 2 + 1) (by omega)
  refine ⟨rfl, rfl, rfl, by simp [World.setCell], fun j hj => (Below.heap_setCell _ _ _ _ hj).trans (Below.heap_setCell _ _ _ _ hj), fun o h2 h3 => by rw [set_other h3, set_other h2], ?_, ?_, (h.set _ _).set _ _⟩
  · rw [set_other (by omega)]; exact World.cell?_setCell_same _ _ _ h0
  · exact World.cell?_setCell_same _ _ _ (by rw [set_other (by omega)]; exact h1)
theorem ST.one {g k n : Nat} {a b : World} {x y : Value} (h : ST g k n x y a b) (z : Value) : ST g k n z y a (b.setCell ⟨g, k * 2, none⟩ z) :=
  ⟨h.os, h.tape, h.output, by simpa [World.setCell] using h.size, fun j hj => (Below.heap_setCell _ _ _ _ hj).trans (h.block j hj), fun o h2 h3 => by rw [set_other h2]; exact h.cell o h2 h3, World.cell?_setCell_same _ _ _ h.c0, by rw [set_other (by omega)]; exact h.c1, h.wb.set _ _⟩
theorem ST.below {g k n : Nat} {a b : World} {x y : Value} (h : ST g k n x y a b) {N : Nat} (hN : N ≤ g) : Below N a b :=
  ⟨h.os, h.tape, h.output, by rw [h.size]; exact Nat.le_refl _, fun j hj => h.block j (by omega)⟩
theorem WI.next {w wr w5 w6 w7 : World} {vs vs0 v5 : Value} {E E0 D : List Int} {A : List (Int × List Int)} {k g1 c1 : Nat} {l : List Cr} {f : Int} (h : WI w wr vs E A k l) (hlt : k < l.length) (hb0 : vs0.ownBlock = vs.ownBlock)
    (b5 : Below wr.heap.size wr w5) (o5 : OwnI w5 wr.heap.size v5 D) (s6 : ST w.heap.size k l.length (.int .i64 f) v5 w5 w6)
    (o7 : OwnI w7 (w.heap.size + 1) (.slice (some ⟨g1, 0, none⟩) (E0.length + 1) c1) (E0 ++ [(k : Int)])) (b7 : Below (w.heap.size + 1) w6 w7) (k7 : ∀ j, j < w6.heap.size → some j ≠ vs0.ownBlock → w7.heap[j]? = w6.heap[j]?) (g7 : vs0.ownBlock = some g1 ∨ w6.heap.size ≤ g1)
    (hE : ∀ x ∈ E0, x ∈ E) (hl : E0.length ≤ k) (heq : whS 0 [] [] l = whS (k + 1) (E0 ++ [(k : Int)]) (A ++ [(f, D)]) (l.drop (k + 1))) (hwl : walkC ((E0.length + 1 : Nat) : Int) (l.drop (k + 1)) = some 1) :
    WI w w7 (.slice (some ⟨g1, 0, none⟩) (E0.length + 1) c1) (E0 ++ [(k : Int)]) (A ++ [(f, D)]) (k + 1) l := by
  have hg : w.heap.size < wr.heap.size := h.wb.lt
  have hs5 := b5.size
  have hs6 := s6.size
  rw [hb0] at k7 g7
  have hvs : ∀ q, vs.ownBlock = some q → w.heap.size + 1 ≤ q ∧ q < wr.heap.size := fun q hq => World.ownsRow.lt h.s q hq
  have kg : w7.heap[w.heap.size]? = w6.heap[w.heap.size]? := k7 _ (by omega) (fun e => by have := hvs _ e.symm; omega)
  have kc : ∀ o, w7.cell? ⟨w.heap.size, o, none⟩ = w6.cell? ⟨w.heap.size, o, none⟩ := fun o => World.cell?_of_block (w := w6) (a := ⟨w.heap.size, o, none⟩) kg
  have far : ∀ (v : Value) (L : List Int), IS w5 v L → (∀ x, v.ownBlock = some x → x ≠ w.heap.size ∧ vs.ownBlock ≠ some x) → IS w7 v L := fun v L hi hx => by
    refine hi.blk (by have := b7.size; omega) (fun a n c e => ?_)
    have hxx := hx a.block (by rw [e]; rfl)
    have hlt5 : a.block < w5.heap.size := by
      rcases hi with ⟨e2, _⟩ | ⟨X, o, cap, e2, hX, _⟩
      · rw [e2] at e; cases e
      · rw [e2] at e; injection e with e _ _; injection e with e; subst e; exact hX
    exact (k7 _ (by omega) (fun e => hxx.2 e.symm)).trans (s6.block _ hxx.1)
  have lt5 : ∀ (v : Value) (L : List Int) (W : World), IS W v L → ∀ x, v.ownBlock = some x → x < W.heap.size := fun v L W hi x hx => by
    rcases hi with ⟨e2, _⟩ | ⟨X, o, cap, e2, hX, _⟩
    · rw [e2] at hx; cases hx
    · rw [e2] at hx; injection hx with hx; subst hx; exact hX
  refine ⟨(s6.wb.keep kg), fun j hj => ?_, ?_, (h.bl.trans ((b5.mono h.bl.size).trans (s6.below (Nat.le_refl _)))).trans (b7.mono (by omega)), by simp [h.la], by simp; omega, fun x hx => ?_, heq, ?_⟩
  · by_cases hjk : j < k
    · obtain ⟨v, e0, e1, e2, e3⟩ := h.ce j hjk
      have hA : (A ++ [(f, D)]).getD j (0, []) = A.getD j (0, []) := by have := h.la; simp [List.getD, List.getElem?_append_left (show j < A.length by omega)]
      rw [hA]
      have t0 : ∀ o, o ≠ k * 2 → o ≠ k * 2 + 1 → w7.cell? ⟨w.heap.size, o, none⟩ = wr.cell? ⟨w.heap.size, o, none⟩ := fun o h1 h2 => ((kc o).trans (s6.cell o h1 h2)).trans (b5.cell (p := ⟨w.heap.size, o, none⟩) hg)
      refine ⟨v, (t0 _ (by omega) (by omega)).trans e0, (t0 _ (by omega) (by omega)).trans e1, far v _ (e2.below b5) (fun x hx => ⟨Nat.ne_of_gt (e3 x hx).1, (e3 x hx).2⟩), fun x hx => ⟨(e3 x hx).1, fun e => ?_⟩⟩
      simp only [Value.ownBlock, Option.some.injEq] at e
      have := lt5 v _ _ e2 x hx
      rcases g7 with e4 | e4
      · exact (e3 x hx).2 (by rw [e4, e])
      · omega
    · have hjk2 : j = k := by omega
      subst hjk2
      have hA : (A ++ [(f, D)]).getD j (0, []) = (f, D) := by have := h.la; simp [List.getD, ← this]
      rw [hA]
      have hx5 : ∀ x, v5.ownBlock = some x → wr.heap.size ≤ x ∧ x < w5.heap.size := fun x hx => World.ownsRow.lt o5 x hx
      refine ⟨v5, (kc _).trans s6.c0, (kc _).trans s6.c1, far v5 _ o5.is (fun x hx => ⟨by have := hx5 x hx; omega, fun e => by have := hx5 x hx; have := hvs x e; omega⟩), fun x hx => ⟨by have := hx5 x hx; omega, fun e => ?_⟩⟩
      simp only [Value.ownBlock, Option.some.injEq] at e
      have := hx5 x hx
      rcases g7 with e4 | e4
      · have := hvs _ e4; omega
      · omega
  · exact o7
  · rw [List.mem_append, List.mem_singleton] at hx
    rcases hx with hx | hx
    · have := h.me x (hE x hx); omega
    · omega
  · rw [List.length_append]; exact hwl
end Go.Proofs.YtaleagkhblokgaaDoor
