/- Failures: a row of wholes, and one of numbers, made whole. -/
import Derived.Test.YtaleagkhblokgaaDoorFx10
namespace Go.Proofs.YtaleagkhblokgaaDoor
open Go.RowKit

/-- The slice reads as these numbers. -/
def IS (w : World) (v : Value) (l : List Int) : Prop := (v = .slice none 0 0 ∧ l = []) ∨ ∃ X o cap, v = .slice (some ⟨X, o, none⟩) l.length cap ∧ X < w.heap.size ∧ ∀ k, k < l.length → w.cell? ⟨X, o + k, none⟩ = some (.int .i64 (l.getD k 0))
theorem IS.form {w : World} {v : Value} {l : List Int} (h : IS w v l) : ∃ p cap, v = .slice p l.length cap := by
  rcases h with ⟨rfl, rfl⟩ | ⟨X, o, cap, rfl, _⟩
  · exact ⟨none, 0, rfl⟩
  · exact ⟨_, cap, rfl⟩
theorem IS.blk {w w' : World} {v : Value} {l : List Int} (h : IS w v l) (hs : w.heap.size ≤ w'.heap.size) (k : ∀ a n c, v = .slice (some a) n c → w'.heap[a.block]? = w.heap[a.block]?) : IS w' v l := by
  rcases h with h | ⟨X, o, cap, rfl, hX, hc⟩
  · exact Or.inl h
  · have kb : w'.heap[X]? = w.heap[X]? := k _ _ _ rfl
    exact Or.inr ⟨X, o, cap, rfl, by omega, fun i hi => (World.cell?_of_block (w := w) (a := ⟨X, o + i, none⟩) kb).trans (hc i hi)⟩
theorem IS.below {w w' : World} {v : Value} {l : List Int} (h : IS w v l) (k : Below w.heap.size w w') : IS w' v l := by
  refine h.blk k.size (fun a n c e => ?_)
  rcases h with ⟨e2, _⟩ | ⟨X, o, cap, e2, hX, _⟩
  · rw [e2] at e; cases e
  · rw [e2] at e; injection e with e _ _; injection e with e; subst e; exact k.block X hX
theorem OwnI.is {w : World} {base : Nat} {v : Value} {l : List Int} (h : OwnI w base v l) : IS w v l := by
  have h0 := h
  rcases h.2 with ⟨rfl, e⟩ | ⟨g, cap, cur, rfl, _⟩
  · exact Or.inl ⟨rfl, List.length_eq_zero_iff.1 e⟩
  · exact Or.inr ⟨g, 0, cap, rfl, (World.ownsRow.lt h0 g rfl).2, fun k hk => by rw [Nat.zero_add]; exact own_cell h0 rfl hk⟩
theorem IS.at {w : World} {p : Option Addr} {n cap k : Nat} {l : List Int} (h : IS w (.slice p n cap) l) (hk : k < l.length) : ∃ X o, p = some ⟨X, o, none⟩ ∧ w.cell? ⟨X, o + k, none⟩ = some (.int .i64 (l.getD k 0)) := by
  rcases h with ⟨_, rfl⟩ | ⟨X, o, cap, e, hX, hc⟩
  · simp at hk
  · injection e with e1 e2 e3
    exact ⟨X, o, e1, hc k hk⟩
theorem append_ints {P : Program} {ops : Array Oper} {rest : List Oper} {o : Oper} {a : Act} {Q : Exit → Act → World → Prop} (hgd : o.guard = none) (s x : Operand) (t : TypeId)
    (ho : o.op = .call { callee := .builtin .append, args := #[s, x], argTypes := #[t, t] })
    (base : Nat) (ht : P.underlying t = some (.slice 3)) (hi : (P.info? 3).map (fun i => (i.zero, i.size, i.bytes)) = some (some (.int .i64 0), 1, 8))
    (w : World) (v vx : Value) (l m : List Int) (hs : a.eval s = v) (hx : a.eval x = vx) (hown : OwnI w base v l) (hm : IS w vx m)
    (hlen : l.length + m.length ≤ 100000) (hbase : base ≤ w.heap.size)
    (h : ∀ v' w', OwnI w' base v' (l ++ m) → Below base w w' → wpList P ops Q rest (a.put o.dst v') w') : wpList P ops Q (o :: rest) a w := by
  obtain ⟨i0, hi0, hz0, hz1, hz2⟩ := info_parts hi
  rcases hm with ⟨rfl, hmn⟩ | ⟨X, ox, cap, rfl, hX, hc⟩
  · subst hmn
    refine Go.wpList_append_own_none hgd s x t ho base 3 i0 1 ht hi0 v l.length (iV l) hs hown hx ?_
    exact h v w (by rw [List.append_nil]; exact hown) (Below.refl _ _)
  · have one : ∀ u ∈ iV m, u.oneCell' = true := fun u hu => by
      obtain ⟨f, _, hf⟩ := List.mem_map.1 hu
      subst hf; rfl
    refine wpList_append_own _ hgd s x t ho base 3 i0 (.int .i64 0) 1 8 ht hi0 hz0 hz1 hz2 rfl (by decide) v l.length (iV l) hs hown ⟨X, ox, none⟩ m.length cap (iV m) hx (by rw [iV_len]; omega) ?_ one
      (by unfold maxLen; omega) (by omega) hbase ?_
    · intro j u hj
      have hjl : j < m.length := by
        by_cases hlt : j < m.length
        · exact hlt
        · rw [List.getElem?_eq_none (by rw [iV_len]; omega)] at hj; cases hj
      have hadd : (⟨X, ox, none⟩ : Addr).add j = ⟨X, ox + j, none⟩ := by
        unfold Addr.add; split
        · rename_i hz; rw [show ox + j = ox by omega]
        · rfl
      rw [hadd, hc j hjl, ← hj]
      simp [iV, hjl]
    · intro v' w' ho' hg _
      refine h v' w' ?_ ((Below.refl base w).grown hg hbase (fun q hq => (World.ownsRow.lt hown q hq).1))
      unfold OwnI
      rw [List.length_append]
      simpa [iV] using ho'
set_option maxHeartbeats 4000000 in
set_option maxRecDepth 100000 in
theorem clonei_any (w : World) (v : Value) (l : List Int) (h : IS w v l) (hl : l.length ≤ 10000) :
    Calls Tryd.prog 56 #[v] w fun e w' => ∃ p cap, e = .returned (.slice p l.length cap) ∧ OwnI w' w.heap.size (.slice p l.length cap) l ∧ Below w.heap.size w w' := by
  have h0 := h
  have EQ : ∀ a l c w, Sem.run Tryd.prog (binOp .eql 25 (.slice a l c) (.slice none 0 0)) w = .ok (.bool a.isNone) w := fun a l c w => by
    simp only [binOp]
    simp [run_equal_slice_nil w 25 _ a l c Tryd.underlying25]
  rcases h with ⟨rfl, rfl⟩ | ⟨X, o, cap, rfl, hX, hc⟩
  · clear h0
    go_enter Tryd.func56, Tryd.ntmps56
    go_wp2
    go_ret
    exact ⟨none, 0, rfl, World.ownsRow_nil _ _ _ _, Below.refl _ _⟩
  · have H0 : Hid (IS (w.alloc (.cells #[] 3)) (.slice (some ⟨X, o, none⟩) l.length cap) l) := h0.below ((Below.refl _ _).alloc (Nat.le_refl _) _)
    have E0 : Hid (OwnI (w.alloc (.cells #[] 3)) w.heap.size (.slice (some ⟨w.heap.size, 0, none⟩) 0 0) []) := ownI_empty w
    have HL : Hid (([] : List Int).length + l.length ≤ 100000) := by show ([] : List Int).length + l.length ≤ 100000; simp; omega
    clear h0 hc
    go_enter Tryd.func56, Tryd.ntmps56
    go_wp2_with (at_builtin; refine append_ints rfl (.tmp 5) (.tmp 6) 25 rfl w.heap.size Tryd.underlying25 info_int _ _ (.slice (some ⟨X, o, none⟩) l.length cap) [] l rfl rfl E0.out H0.out HL.out (by simp) ?_; intro v8 w8 ho8 hb8)
    go_ret
    rw [List.nil_append] at ho8
    obtain ⟨p, cap2, rfl⟩ := ho8.form
    exact ⟨p, cap2, rfl, ho8, ((Below.refl _ _).alloc (Nat.le_refl _) _).trans hb8⟩
/-- The wholes: where each begins, and where its parts end. -/
def whS : Nat → List Int → List (Int × List Int) → List Cr → List (Int × List Int)
  | _, _, A, [] => A
  | i, E, A, c :: r => whS (i + 1) (E.take (E.length - c.n.toNat) ++ [(i : Int)]) (A ++ [(if 0 < c.n then (A.getD (E.getD (E.length - c.n.toNat) 0).toNat (0, [])).1 else (i : Int), E.drop (E.length - c.n.toNat))]) r
theorem whS_len : ∀ (l : List Cr) (i : Nat) (E : List Int) (A : List (Int × List Int)), (whS i E A l).length = A.length + l.length
  | [], _, _, _ => by simp [whS]
  | c :: r, i, E, A => by rw [whS, whS_len r]; simp; omega
end Go.Proofs.YtaleagkhblokgaaDoor
namespace Go.Proofs.YtaleagkhblokgaaDoor
open Go.RowKit

theorem info_wh : (Tryd.prog.info? 61).map (fun i => (i.zero, i.size, i.bytes)) = some (some (.agg #[.int .i64 0, .slice none 0 0]), 2, 32) := by kernel_rfl
/-- A block of n wholes. -/
def WB (w : World) (g n : Nat) : Prop := ∃ cur, w.heap[g]? = some (.cells cur 61) ∧ cur.size = n * 2
theorem make_wh {P : Program} (w : World) {ops : Array Oper} {rest : List Oper} {o : Oper} {a : Act} {Q : Exit → Act → World → Prop}
    (hg : o.guard = none) (l c : Operand) (t : TypeId) (hop : o.op = Op.makeSlice t l c) (ht : P.underlying t = some (.slice 61)) (hi : (P.info? 61).map (fun i => (i.zero, i.size, i.bytes)) = some (some (.agg #[.int .i64 0, .slice none 0 0]), 2, 32))
    (n : Nat) (hl : a.eval l = .int .i64 n) (hc : a.eval c = .int .i64 n) (hn : n ≤ 100000)
    (hK : ∀ w', WB w' w.heap.size n → Below w.heap.size w w' → wpList P ops Q rest (a.put o.dst (.slice (some ⟨w.heap.size, 0, none⟩) n n)) w') : wpList P ops Q (o :: rest) a w := by
  obtain ⟨i0, hi0, hz0, hz1, hz2⟩ := info_parts hi
  refine wpList_make_full w hg l c t hop w.heap.size 61 i0 _ 2 ht hi0 hz0 hz1 .i64 .i64 n n n hl hc rfl rfl (by rw [hz2]; omega) (by unfold maxLen; omega) (Nat.le_refl _) ?_
  intro w' ho hgr
  refine hK w' ?_ ((Below.refl _ _).grown hgr (Nat.le_refl _) (fun k hk => by cases hk))
  rcases ho.2 with ⟨h2, _⟩ | ⟨g', cp, cur, e1, e2, e3, e4, e5, e6, e7⟩
  · cases h2
  · injection e1 with e1 e8 e9
    injection e1 with e1
    injection e1 with e1 _ _
    subst e1 e9
    exact ⟨cur, e3, e6⟩
theorem make_int {P : Program} (w : World) {ops : Array Oper} {rest : List Oper} {o : Oper} {a : Act} {Q : Exit → Act → World → Prop}
    (hg : o.guard = none) (l c : Operand) (t : TypeId) (hop : o.op = Op.makeSlice t l c) (ht : P.underlying t = some (.slice 3)) (hi : (P.info? 3).map (fun i => (i.zero, i.size, i.bytes)) = some (some (.int .i64 0), 1, 8))
    (n : Nat) (hl : a.eval l = .int .i64 n) (hc : a.eval c = .int .i64 n) (hn : n ≤ 100000)
    (hK : ∀ w' cur, w'.heap[w.heap.size]? = some (.cells cur 3) → cur.size = n → Below w.heap.size w w' → wpList P ops Q rest (a.put o.dst (.slice (some ⟨w.heap.size, 0, none⟩) n n)) w') : wpList P ops Q (o :: rest) a w := by
  obtain ⟨i0, hi0, hz0, hz1, hz2⟩ := info_parts hi
  refine wpList_make_full w hg l c t hop w.heap.size 3 i0 _ 1 ht hi0 hz0 hz1 .i64 .i64 n n n hl hc rfl rfl (by rw [hz2]; omega) (by unfold maxLen; omega) (Nat.le_refl _) ?_
  intro w' ho hgr
  rcases ho.2 with ⟨h2, _⟩ | ⟨g', cp, cur, e1, e2, e3, e4, e5, e6, e7⟩
  · cases h2
  · injection e1 with e1 e8 e9
    injection e1 with e1
    injection e1 with e1 _ _
    subst e1 e9
    exact hK w' cur e3 (by omega) ((Below.refl _ _).grown hgr (Nat.le_refl _) (fun k hk => by cases hk))
end Go.Proofs.YtaleagkhblokgaaDoor
