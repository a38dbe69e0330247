/- Time goes on: the clock's Advance. -/
import Derived.Test.YteiadigafkollaaCk9
import Derived.OwnWalk
namespace Go.Proofs.Yteiadigafkollaa
open Go.RowKit Go.Sort Go.Shelf

def fC (f : Int × Int) : List Value := [.int .i64 f.1, .int .i64 f.2]
theorem fC_len (l : List (Int × Int)) : (l.flatMap fC).length = l.length * 2 := by
  induction l with
  | nil => rfl
  | cons t r ih => rw [List.flatMap_cons, List.length_append, ih]; simp [fC]; omega
theorem info_fi : (Try.prog.info? 49).map (fun i => (i.zero, i.size, i.bytes)) = some (some (.agg #[.int .i64 0, .int .i64 0]), 2, 16) := by kernel_rfl
/-- The slice owns these firings, in a row of the call's own. -/
def OwnF (w : World) (base : Nat) (v : Value) (l : List (Int × Int)) : Prop := w.ownsRow base 49 2 v l.length (l.flatMap fC)
theorem OwnF.kc {w w' : World} {base b : Nat} {xo : Option Nat} {v : Value} {l : List (Int × Int)} (h : OwnF w base v l) (hb : b < base) (hx : ∀ X, xo = some X → X < base) (k : KC b xo w w') : OwnF w' base v l := by
  obtain ⟨h1, h2⟩ := h
  refine ⟨h1, ?_⟩
  rcases h2 with h2 | ⟨g, cap, cur, e1, e2, e3, e4⟩
  · exact Or.inl h2
  · refine Or.inr ⟨g, cap, cur, e1, e2, ?_, e4⟩
    have hg : g < w.heap.size := by
      by_cases hlt : g < w.heap.size
      · exact hlt
      · rw [Array.getElem?_eq_none (by omega)] at e3; cases e3
    rw [k.block g hg (by omega) (fun e => by have := hx g e.symm; omega)]; exact e3
theorem append_fi {P : Program} {ops : Array Oper} {rest : List Oper} {o : Oper} {a : Act} {Q : Exit → Act → World → Prop} (hgd : o.guard = none) (s x : Operand) (t : TypeId)
    (ho : o.op = .call { callee := .builtin .append, args := #[s, x], argTypes := #[t, t] })
    (base : Nat) (ht : P.underlying t = some (.slice 49)) (hi : (P.info? 49).map (fun i => (i.zero, i.size, i.bytes)) = some (some (.agg #[.int .i64 0, .int .i64 0]), 2, 16))
    (w0 : World) (cells : Array Value) (tc : TypeId) (v : Value) (l : List (Int × Int)) (f : Int × Int) (c : Nat) (hs : a.eval s = v) (hown : OwnF w0 base v l) (b : Nat) (hb : w0.heap.size = b)
    (hx : a.eval x = .slice (some ⟨b, 0, none⟩) 1 c) (hc : cells.toList = fC f)
    (hlen : l.length ≤ 100000) (hbase : base ≤ w0.heap.size)
    (h : ∀ v' w', OwnF w' base v' (l ++ [f]) → Below base w0 w' → wpList P ops Q rest (a.put o.dst v') w') : wpList P ops Q (o :: rest) a (w0.alloc (.cells cells tc)) := by
  subst hb
  obtain ⟨i0, hi0, hz0, hz1, hz2⟩ := info_parts hi
  have hown2 : (w0.alloc (.cells cells tc)).ownsRow base 49 2 v l.length (l.flatMap fC) := World.ownsRow.alloc hown _
  have one : ∀ u ∈ fC f, u.oneCell' = true := fun u hu => by simp [fC] at hu; rcases hu with rfl | rfl <;> rfl
  refine wpList_append_own _ hgd s x t ho base 49 i0 (.agg #[.int .i64 0, .int .i64 0]) 2 16 ht hi0 hz0 hz1 hz2 rfl (by decide) v l.length (l.flatMap fC) hs hown2 ⟨w0.heap.size, 0, none⟩ 1 c (fC f) hx rfl (news_at w0 cells tc _ hc) one
    (by unfold maxLen; omega) (by omega) (by simp; omega) ?_
  intro v' w' ho' hg _
  have hgb : Below base w0 w' := ((Below.refl base w0).alloc hbase _).grown hg (by simp; omega) (fun q hq => (hown2.lt q hq).1)
  refine h v' w' ?_ hgb
  unfold OwnF
  rw [List.length_append, List.flatMap_append]
  simpa using ho'
theorem make_fi {P : Program} (w : World) {ops : Array Oper} {rest : List Oper} {o : Oper} {a : Act} {Q : Exit → Act → World → Prop}
    (hg : o.guard = none) (l c : Operand) (t : TypeId) (hop : o.op = Op.makeSlice t l c) (ht : P.underlying t = some (.slice 49)) (hi : (P.info? 49).map (fun i => (i.zero, i.size, i.bytes)) = some (some (.agg #[.int .i64 0, .int .i64 0]), 2, 16))
    (base : Nat) (n : Nat) (hl : a.eval l = .int .i64 0) (hc : a.eval c = .int .i64 n) (hn : n ≤ 100000) (hb : base ≤ w.heap.size)
    (hK : ∀ v' w', OwnF w' base v' [] → Below w.heap.size w w' → wpList P ops Q rest (a.put o.dst v') w') : wpList P ops Q (o :: rest) a w := by
  obtain ⟨i0, hi0, hz0, hz1, hz2⟩ := info_parts hi
  refine wpList_make_own w hg l c t hop base 49 i0 _ 2 ht hi0 hz0 hz1 .i64 .i64 n n hl hc rfl (by rw [hz2]; omega) (by unfold maxLen; omega) hb ?_
  intro w' ho hgr
  exact hK _ w' ho ((Below.refl _ _).grown hgr (Nat.le_refl _) (fun k hk => by cases hk))
end Go.Proofs.Yteiadigafkollaa
