/- The reference's Advance: its rows. -/
import Derived.Test.YteiadigafkollaaRg5
import Derived.Test.YteiadigafkollaaLw9
namespace Go.Proofs.Yteiadigafkollaa
open Go.RowKit Go.Sort Go.Shelf

theorem append_fil {P : Program} {ops : Array Oper} {rest : List Oper} {o : Oper} {a : Act} {Q : Exit → Act → World → Prop} (hgd : o.guard = none) (s x : Operand) (t : TypeId)
    (ho : o.op = .call { callee := .builtin .append, args := #[s, x], argTypes := #[t, t] })
    (base : Nat) (ht : P.underlying t = some (.slice 49)) (hi : (P.info? 49).map (fun i => (i.zero, i.size, i.bytes)) = some (some (.agg #[.int .i64 0, .int .i64 0]), 2, 16))
    (w0 : World) (cells : Array Value) (tc : TypeId) (v : Value) (l : List (Int × Int)) (f : Int × Int) (c : Nat) (hs : a.eval s = v) (hown : OwnF w0 base v l) (b : Nat) (hb : w0.heap.size = b)
    (hx : a.eval x = .slice (some ⟨b, 0, none⟩) 1 c) (hc : cells.toList = fC f)
    (hlen : l.length ≤ 100000) (hbase : base ≤ w0.heap.size)
    (h : ∀ g cap w', OwnF w' base (.slice (some ⟨g, 0, none⟩) (l.length + 1) cap) (l ++ [f]) → Below base w0 w' → (∀ k, k < w0.heap.size → some k ≠ v.ownBlock → w'.heap[k]? = w0.heap[k]?) → (v.ownBlock = some g ∨ w0.heap.size ≤ g) → wpList P ops Q rest (a.put o.dst (.slice (some ⟨g, 0, none⟩) (l.length + 1) cap)) w') : wpList P ops Q (o :: rest) a (w0.alloc (.cells cells tc)) := by
  subst hb
  obtain ⟨i0, hi0, hz0, hz1, hz2⟩ := info_parts hi
  have hown2 : (w0.alloc (.cells cells tc)).ownsRow base 49 2 v l.length (l.flatMap fC) := World.ownsRow.alloc hown _
  have one : ∀ u ∈ fC f, u.oneCell' = true := fun u hu => by simp [fC] at hu; rcases hu with rfl | rfl <;> rfl
  refine wpList_append_lies _ hgd s x t ho base 49 i0 (.agg #[.int .i64 0, .int .i64 0]) 2 16 ht hi0 hz0 hz1 hz2 rfl (by decide) v l.length (l.flatMap fC) hs hown2 ⟨w0.heap.size, 0, none⟩ 1 c (fC f) hx rfl (news_at w0 cells tc _ hc) one
    (by decide) (by unfold maxLen; omega) (by omega) (by simp; omega) _ rfl ?_
  intro g cap w' ho' hg hgg _
  have hgb : Below base w0 w' := ((Below.refl base w0).alloc hbase _).grown hg (by simp; omega) (fun q hq => (hown2.lt q hq).1)
  refine h g cap w' ?_ hgb ?_ ?_
  · unfold OwnF
    rw [List.length_append, List.flatMap_append]
    simpa using ho'
  · intro k hk hne
    rw [hg.block k (by simp; omega) hne]
    exact Below.heap_alloc w0 _ k hk
  · rcases hgg with hgg | hgg
    · exact Or.inl hgg
    · right; rw [hgg]; simp
/-- A list's tail, by its slice. -/
theorem RS.tail {w : World} {X o cap : Nat} {t : Tm} {r : List Tm} (h : RS w (.slice (some ⟨X, o, none⟩) (t :: r).length cap) (t :: r)) : RS w (.slice (some ⟨X, o + 3, none⟩) r.length (cap - 1)) r := by
  rcases h with ⟨h, _⟩ | ⟨X', o', cap', e, hX, hcp, hc⟩
  · cases h
  · injection e with e1 e2 e3
    injection e1 with e1
    injection e1 with e1 e4 _
    subst e1 e4 e3
    refine Or.inr ⟨X, o + 3, cap - 1, rfl, hX, by simp at hcp; omega, fun k hk => ?_⟩
    have := hc (k + 1) (by simp; omega)
    simp only [List.getElem_cons_succ] at this
    rw [show o + 3 + k * 3 = o + (k + 1) * 3 by omega]
    exact this
theorem RS.blk {w w' : World} {v : Value} {L : List Tm} (h : RS w v L) (hs : w.heap.size ≤ w'.heap.size) (k : ∀ a n c, v = .slice (some a) n c → w'.heap[a.block]? = w.heap[a.block]?) : RS w' v L := by
  rcases h with h | ⟨X, o, cap, rfl, hX, hcp, hc⟩
  · exact Or.inl h
  · have kb : w'.heap[X]? = w.heap[X]? := k _ _ _ rfl
    refine Or.inr ⟨X, o, cap, rfl, by omega, hcp, fun i hi => ?_⟩
    obtain ⟨c1, c2, c3⟩ := hc i hi
    exact ⟨(World.cell?_of_block (w := w) (a := ⟨X, _, none⟩) kb).trans c1, (World.cell?_of_block (w := w) (a := ⟨X, _, none⟩) kb).trans c2, (World.cell?_of_block (w := w) (a := ⟨X, _, none⟩) kb).trans c3⟩
/-- Where the block of a slice may lie: at an old slice's, or behind. -/
def Src (base : Nat) (p : Option Addr) (v : Value) : Prop := ∀ a n c, v = .slice (some a) n c → (∃ a0, p = some a0 ∧ a0.block = a.block) ∨ base ≤ a.block
theorem OwnF.lower {w : World} {base base' : Nat} {v : Value} {l : List (Int × Int)} (h : OwnF w base v l) (hb : base' ≤ base) : OwnF w base' v l := by
  obtain ⟨h1, h2⟩ := h
  refine ⟨h1, ?_⟩
  rcases h2 with h2 | ⟨g, cap, cur, e1, e2, e3⟩
  · exact Or.inl h2
  · exact Or.inr ⟨g, cap, cur, e1, Nat.le_trans hb e2, e3⟩
def RAdv (w w' : World) (time made x : Int) (p : Option Addr) (cap : Nat) (L : List Tm) (e : Ending) : Prop :=
  Below w.heap.size w w' ∧ ((¬ (0 ≤ x ∧ x ≤ 1099511627776 - time) ∧ e = .returned (.tuple #[.agg #[.int .i64 time, .int .i64 made, .slice p L.length cap], .slice none 0 0, .int .i64 1])) ∨
    ((0 ≤ x ∧ x ≤ 1099511627776 - time) ∧ 4096 < dueL (time + x) L ∧ e = .returned (.tuple #[.agg #[.int .i64 time, .int .i64 made, .slice p L.length cap], .slice none 0 0, .int .i64 3])) ∨
    ((0 ≤ x ∧ x ≤ 1099511627776 - time) ∧ ∃ (n : Nat) (p' pf : Option Addr) (cap' capf : Nat), (n : Int) = dueL (time + x) L ∧ n ≤ 4096 ∧ e = .returned (.tuple #[.agg #[.int .i64 (time + x), .int .i64 made, .slice p' (it n L).length cap'], .slice pf n capf, .int .i64 0]) ∧ RS w' (.slice p' (it n L).length cap') (it n L) ∧ Src w.heap.size p (.slice p' (it n L).length cap') ∧ OwnF w' w.heap.size (.slice pf n capf) (told n L)))
theorem three_boxes (w : World) (c1 c2 c3 : Array Value) (t1 t2 t3 : TypeId) : (((w.alloc (.cells c1 t1)).alloc (.cells c2 t2)).alloc (.cells c3 t3)).heap[w.heap.size]? = some (.cells c1 t1) ∧ (((w.alloc (.cells c1 t1)).alloc (.cells c2 t2)).alloc (.cells c3 t3)).heap[w.heap.size + 1]? = some (.cells c2 t2) ∧ (((w.alloc (.cells c1 t1)).alloc (.cells c2 t2)).alloc (.cells c3 t3)).heap[w.heap.size + 2]? = some (.cells c3 t3) := by
  refine ⟨(start3 w _ _ _).1, ?_, (start3 w _ _ _).2⟩
  rw [Below.heap_alloc _ _ _ (by simp)]
  have := heap_alloc_new (w.alloc (.cells c1 t1)) (.cells c2 t2)
  simpa using this
/-- How far the reference's clock has come. -/
structure AI (w wk : World) (p : Option Addr) (time made U : Int) (cap : Nat) (L : List Tm) (k : Nat) (vk vo : Value) : Prop where
  own : OwnF wk (w.heap.size + 3) vo (told k L)
  rs : RS wk vk (it k L)
  dj : ∀ a n c, vk = .slice (some a) n c → vo.ownBlock ≠ some a.block ∧ (a.block < w.heap.size ∨ w.heap.size + 3 ≤ a.block)
  src : Src w.heap.size p vk
  bl : Below w.heap.size w wk
  b0 : ∀ o, wk.cell? ⟨w.heap.size, o, none⟩ = #[.int .i64 time, .int .i64 made, .slice p L.length cap][o]?
  b1 : ∃ a b c, wk.cell? ⟨w.heap.size + 1, 0, none⟩ = some a ∧ wk.cell? ⟨w.heap.size + 1, 1, none⟩ = some b ∧ wk.cell? ⟨w.heap.size + 1, 2, none⟩ = some c
  b2 : ∀ o, wk.cell? ⟨w.heap.size + 2, o, none⟩ = #[.int .i64 U, .int .i64 made, vk][o]?
  fz : ∀ o b, w.heap.size ≤ b → b ≤ w.heap.size + 2 → wk.frozen? ⟨b, o, none⟩ = false
  sz : w.heap.size + 3 ≤ wk.heap.size
def lenV : Value → Nat
  | .slice _ n _ => n
  | _ => 0
theorem OwnF.form {w : World} {base : Nat} {v : Value} {l : List (Int × Int)} (h : OwnF w base v l) : ∃ p cap, v = .slice p l.length cap := by
  obtain ⟨p, cap, hv, _⟩ := h.fs
  exact ⟨p, cap, hv⟩
theorem AI.drewN {w wk : World} {p : Option Addr} {time made U : Int} {cap : Nat} {L : List Tm} {k : Nat} {vk vo : Value} (h : AI w wk p time made U cap L k vk vo) (n : Nat) : AI w (wk.drewN n) p time made U cap L k vk vo :=
  ⟨h.own.lt (below_drewN' (Below.refl _ _) n), h.rs.below (below_drewN' (Below.refl _ _) n), h.dj, h.src, below_drewN' h.bl n, h.b0, h.b1, h.b2, h.fz, h.sz⟩
/-- The clock's box, written into the answer's. -/
theorem AI.fin {w wk : World} {p : Option Addr} {time made U : Int} {cap : Nat} {L : List Tm} {k : Nat} {vk vo : Value} (h : AI w wk p time made U cap L k vk vo) (a b c : Value) :
    (let w' := ((wk.setCell ⟨w.heap.size + 1, 0, none⟩ a).setCell ⟨w.heap.size + 1, 1, none⟩ b).setCell ⟨w.heap.size + 1, 2, none⟩ c
     (w'.cell? ⟨w.heap.size + 1, 0, none⟩ = some a ∧ w'.cell? ⟨w.heap.size + 1, 1, none⟩ = some b ∧ w'.cell? ⟨w.heap.size + 1, 2, none⟩ = some c) ∧ Below w.heap.size w w' ∧ ((∀ q n c', vk = .slice (some q) n c' → q.block ≠ w.heap.size + 1) → RS w' vk (it k L)) ∧ OwnF w' w.heap.size vo (told k L)) := by
  obtain ⟨x, y, z, h1, h2, h3⟩ := h.b1
  have hb : ∀ g, g ≠ w.heap.size + 1 → (((wk.setCell ⟨w.heap.size + 1, 0, none⟩ a).setCell ⟨w.heap.size + 1, 1, none⟩ b).setCell ⟨w.heap.size + 1, 2, none⟩ c).heap[g]? = wk.heap[g]? := fun g hg => by
    rw [Below.heap_setCell _ _ _ _ hg, Below.heap_setCell _ _ _ _ hg, Below.heap_setCell _ _ _ _ hg]
  refine ⟨set3 h1 h2 h3, ((h.bl.setCell (by simp) _).setCell (by simp) _).setCell (by simp) _, ?_, ?_⟩
  · intro hq
    exact h.rs.blk (by simp [World.setCell]) (fun q n c' e => hb _ (hq q n c' e))
  · refine OwnF.lower (base := w.heap.size + 3) ?_ (by omega)
    obtain ⟨e1, e2⟩ := h.own
    refine ⟨e1, ?_⟩
    rcases e2 with e2 | ⟨g, cp, cur, f1, f2, f3, f4⟩
    · exact Or.inl e2
    · exact Or.inr ⟨g, cp, cur, f1, f2, by rw [hb g (by omega)]; exact f3, f4⟩
/-- A firing more is told: what stands. -/
theorem AI.app {w wr : World} {p : Option Addr} {time made U : Int} {cap : Nat} {L : List Tm} {k : Nat} {vk vo : Value} (h : AI w wr p time made U cap L k vk vo) {ob : Obj} {g : Nat} {w8 : World}
    (hb8 : Below (w.heap.size + 3) (wr.alloc ob) w8) (hk8 : ∀ j, j < (wr.alloc ob).heap.size → some j ≠ vo.ownBlock → w8.heap[j]? = (wr.alloc ob).heap[j]?) (hg8 : vo.ownBlock = some g ∨ (wr.alloc ob).heap.size ≤ g) :
    RS w8 vk (it k L) ∧ (∀ a n c, vk = .slice (some a) n c → g ≠ a.block ∧ a.block ≠ wr.heap.size ∧ (a.block < w.heap.size ∨ w.heap.size + 3 ≤ a.block)) ∧ Below w.heap.size w w8 ∧ (∀ b o, b < w.heap.size + 3 → w8.cell? ⟨b, o, none⟩ = wr.cell? ⟨b, o, none⟩) ∧ (∀ b o, b < w.heap.size + 3 → w8.frozen? ⟨b, o, none⟩ = wr.frozen? ⟨b, o, none⟩) ∧ w8.heap[wr.heap.size]? = some ob ∧ wr.heap.size + 1 ≤ w8.heap.size ∧ g ≠ wr.heap.size ∧ w.heap.size + 3 ≤ g := by
  have hs : (wr.alloc ob).heap.size = wr.heap.size + 1 := by show (wr.heap.push ob).size = _; simp
  have hs8 := hb8.size
  have hsz := h.sz
  have old : ∀ j, j < wr.heap.size → (wr.alloc ob).heap[j]? = wr.heap[j]? := fun j hj => Below.heap_alloc wr ob j hj
  have hvo : ∀ q, vo.ownBlock = some q → w.heap.size + 3 ≤ q ∧ q < wr.heap.size := fun q hq => World.ownsRow.lt h.own q hq
  have hg3 : w.heap.size + 3 ≤ g := by
    rcases hg8 with e | e
    · exact (hvo g e).1
    · omega
  have hgw : g ≠ wr.heap.size := by
    rcases hg8 with e | e
    · have := (hvo g e).2; omega
    · omega
  have hvk : ∀ a n c, vk = .slice (some a) n c → a.block < wr.heap.size := fun a n c e => by
    rcases h.rs with ⟨e2, _⟩ | ⟨X, o, cp, e2, hX, _⟩
    · rw [e2] at e; cases e
    · rw [e2] at e; injection e with e3 _ _; injection e3 with e3; subst e3; exact hX
  refine ⟨?_, ?_, ?_, ?_, ?_, ?_, by omega, hgw, hg3⟩
  · refine h.rs.blk (by omega) (fun a n c e => ?_)
    rw [hk8 _ (by have := hvk a n c e; omega) (fun e2 => (h.dj a n c e).1 e2.symm)]
    exact old _ (hvk a n c e)
  · intro a n c e
    have h1 := hvk a n c e
    refine ⟨?_, by omega, (h.dj a n c e).2⟩
    rcases hg8 with e2 | e2
    · intro e3; exact (h.dj a n c e).1 (by rw [e2, e3])
    · omega
  · exact (h.bl.alloc (by omega) ob).trans (hb8.mono (by omega))
  · intro b o hb
    rw [hb8.cell (p := ⟨b, o, none⟩) hb]
    exact World.cell?_of_block (w := wr) (a := ⟨b, o, none⟩) (old b (by omega))
  · intro b o hb
    rw [hb8.frozen (p := ⟨b, o, none⟩) hb]
    exact World.frozen?_of_block (w := wr) (a := ⟨b, o, none⟩) (old b (by omega))
  · rw [hk8 _ (by omega) (fun e => by have := (hvo _ e.symm).2; omega)]
    exact heap_alloc_new wr ob
/-- The next state, out of the one behind the append. -/
theorem AI.next {w wq w8 wf : World} {p : Option Addr} {time made U : Int} {cap : Nat} {L : List Tm} {k g cap8 : Nat} {vk vo vk' : Value} (h : AI w wq p time made U cap L k vk vo)
    (m4 : ∀ b o, b < w.heap.size + 3 → w8.cell? ⟨b, o, none⟩ = wq.cell? ⟨b, o, none⟩) (m5 : ∀ b o, b < w.heap.size + 3 → w8.frozen? ⟨b, o, none⟩ = wq.frozen? ⟨b, o, none⟩) (m8 : g ≠ wq.heap.size) (m9 : w.heap.size + 3 ≤ g) (_m7 : wq.heap.size + 1 ≤ w8.heap.size)
    (ho : OwnF w8 (w.heap.size + 3) (.slice (some ⟨g, 0, none⟩) (k + 1) cap8) (told (k + 1) L))
    (F0 : Below w.heap.size w wf) (F1 : ∀ j, j ≠ w.heap.size + 2 → j ≠ wq.heap.size → j < w8.heap.size → wf.heap[j]? = w8.heap[j]?) (F2 : ∀ o, wf.cell? ⟨w.heap.size + 2, o, none⟩ = #[.int .i64 U, .int .i64 made, vk'][o]?) (F3 : ∀ o, wf.frozen? ⟨w.heap.size + 2, o, none⟩ = false) (F4 : w8.heap.size ≤ wf.heap.size)
    (hrs : RS wf vk' (it (k + 1) L)) (hdj : ∀ a n c, vk' = .slice (some a) n c → g ≠ a.block ∧ (a.block < w.heap.size ∨ w.heap.size + 3 ≤ a.block)) (hsrc : Src w.heap.size p vk') : AI w wf p time made U cap L (k + 1) vk' (.slice (some ⟨g, 0, none⟩) (k + 1) cap8) := by
  have hsz := h.sz
  have gl : g < w8.heap.size := (World.ownsRow.lt ho g rfl).2
  have c : ∀ b o, b < w.heap.size + 2 → wf.cell? ⟨b, o, none⟩ = wq.cell? ⟨b, o, none⟩ := fun b o hb => (World.cell?_of_block (w := w8) (a := ⟨b, o, none⟩) (F1 b (by omega) (by omega) (by omega))).trans (m4 b o (by omega))
  have f : ∀ b o, b < w.heap.size + 2 → wf.frozen? ⟨b, o, none⟩ = wq.frozen? ⟨b, o, none⟩ := fun b o hb => (World.frozen?_of_block (w := w8) (a := ⟨b, o, none⟩) (F1 b (by omega) (by omega) (by omega))).trans (m5 b o (by omega))
  refine ⟨?_, hrs, fun a n c e => ⟨fun e2 => (hdj a n c e).1 (by simpa [Value.ownBlock] using e2), (hdj a n c e).2⟩, hsrc, F0, fun o => (c _ o (by omega)).trans (h.b0 o), ?_, F2, ?_, by omega⟩
  · obtain ⟨e1, e2⟩ := ho
    refine ⟨e1, ?_⟩
    rcases e2 with ⟨e2, _⟩ | ⟨g', cp, cur, f1, f2, f3, f4⟩
    · cases e2
    · have hgg : g' = g := by injection f1 with f1 _ _; injection f1 with f1; injection f1 with f1 _ _; exact f1.symm
      exact Or.inr ⟨g', cp, cur, f1, f2, by rw [F1 g' (by omega) (by omega) (by omega)]; exact f3, f4⟩
  · obtain ⟨a, b, d, h1, h2, h3⟩ := h.b1
    exact ⟨a, b, d, (c _ _ (by omega)).trans h1, (c _ _ (by omega)).trans h2, (c _ _ (by omega)).trans h3⟩
  · intro o b hb1 hb2
    by_cases hb : b = w.heap.size + 2
    · rw [hb]; exact F3 o
    · exact (f b o (by omega)).trans (h.fz o b hb1 hb2)
/-- The list's tail as the language cuts it. -/
theorem RS.cut {w : World} {X o N cap : Nat} {t : Tm} {r : List Tm} (h : RS w (.slice (some ⟨X, o, none⟩) N cap) (t :: r)) (hN : N = r.length + 1) : RS w (.slice (if cap = 1 then some ⟨X, o, none⟩ else some ⟨X, o + 3, none⟩) (N - 1) (cap - 1)) r := by
  subst hN
  by_cases hc : cap = 1
  · rw [if_pos hc]
    rcases h with ⟨h, _⟩ | ⟨X', o', cap', e, hX, hcp, _⟩
    · cases h
    · injection e with e1 e2 e3
      injection e1 with e1
      injection e1 with e1 e4 _
      subst e1 e4 e3
      have hr : r = [] := by simp at hcp; exact List.length_eq_zero_iff.1 (by omega)
      subst hr
      exact Or.inr ⟨X, o, cap - 1, rfl, hX, by simp, fun k hk => by simp at hk⟩
  · rw [if_neg hc]
    exact h.tail
theorem cut_blk {X o N cap : Nat} {a : Addr} {n c : Nat} (e : Value.slice (if cap = 1 then some (⟨X, o, none⟩ : Addr) else some ⟨X, o + 3, none⟩) (N - 1) (cap - 1) = .slice (some a) n c) : a.block = X := by
  injection e with e _ _
  by_cases hc : cap = 1
  · rw [if_pos hc] at e; injection e with e; rw [← e]
  · rw [if_neg hc] at e; injection e with e; rw [← e]
theorem AI.store {w wq w8 wx : World} {p : Option Addr} {time made U : Int} {cap : Nat} {L : List Tm} {k g cap8 : Nat} {vk vo v' : Value} (h : AI w wq p time made U cap L k vk vo)
    (m4 : ∀ b o, b < w.heap.size + 3 → w8.cell? ⟨b, o, none⟩ = wq.cell? ⟨b, o, none⟩) (m5 : ∀ b o, b < w.heap.size + 3 → w8.frozen? ⟨b, o, none⟩ = wq.frozen? ⟨b, o, none⟩) (m8 : g ≠ wq.heap.size) (m9 : w.heap.size + 3 ≤ g) (m7 : wq.heap.size + 1 ≤ w8.heap.size)
    (ho : OwnF w8 (w.heap.size + 3) (.slice (some ⟨g, 0, none⟩) (k + 1) cap8) (told (k + 1) L))
    (G0 : Below w.heap.size w wx) (G1 : ∀ j, j ≠ w.heap.size + 2 → j ≠ wq.heap.size → j < w8.heap.size → wx.heap[j]? = w8.heap[j]?) (G2 : ∀ o, o ≠ 2 → wx.cell? ⟨w.heap.size + 2, o, none⟩ = w8.cell? ⟨w.heap.size + 2, o, none⟩) (G2' : ∃ u, wx.cell? ⟨w.heap.size + 2, 2, none⟩ = some u) (G3 : ∀ o, wx.frozen? ⟨w.heap.size + 2, o, none⟩ = false) (G4 : w8.heap.size ≤ wx.heap.size)
    (hrs : RS wx v' (it (k + 1) L)) (hdj : ∀ a n c, v' = .slice (some a) n c → g ≠ a.block ∧ (a.block < w.heap.size ∨ w.heap.size + 3 ≤ a.block)) (hsrc : Src w.heap.size p v') : AI w (wx.setCell ⟨w.heap.size + 1 + 1, 2, none⟩ v') p time made U cap L (k + 1) v' (.slice (some ⟨g, 0, none⟩) (k + 1) cap8) := by
  obtain ⟨u, hu⟩ := G2'
  refine h.next m4 m5 m8 m9 m7 ho (G0.setCell (by simp; omega) _) (fun j h1 h2 h3 => (Below.heap_setCell _ _ _ _ (by simp; omega)).trans (G1 j h1 h2 h3)) ?_ (fun o => by rw [World.frozen?_setCell]; exact G3 o) (by simpa [World.setCell] using G4) ?_ hdj hsrc
  · intro o
    by_cases ho2 : o = 2
    · subst ho2; exact head_set hu
    · rw [other_set ho2, G2 o ho2, m4 _ o (by omega), h.b2 o]
      match o, ho2 with
      | 0, _ => rfl
      | 1, _ => rfl
      | n + 3, _ => rfl
  · exact hrs.blk (by simp [World.setCell]) (fun a n c e => Below.heap_setCell _ _ _ _ (by have := (hdj a n c e).2; simp; omega))
end Go.Proofs.Yteiadigafkollaa
