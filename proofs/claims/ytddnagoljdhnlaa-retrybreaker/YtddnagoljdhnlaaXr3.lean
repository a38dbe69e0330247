/- Retry, the document's breakers: nine cells stored anew; appends in regions that draw their order. -/
import Derived.Test.YtddnagoljdhnlaaXr2
import Derived.Deep.RegionLaw
namespace Go.Proofs.Ytddnagoljdhnlaa
open Go.RowKit

theorem R2.set9 {w w1 : World} {a0 a1 a2 a3 a4 a5 a6 a7 a8 : Value} (h : R2 w #[a0, a1, a2, a3, a4, a5, a6, a7, a8] w1) (x0 x1 x2 x3 x4 x5 x6 x7 x8 : Value) : R2 w #[x0, x1, x2, x3, x4, x5, x6, x7, x8] (((((((((w1.setCell ⟨w.heap.size, 0, none⟩ x0).setCell ⟨w.heap.size, 1, none⟩ x1).setCell ⟨w.heap.size, 2, none⟩ x2).setCell ⟨w.heap.size, 3, none⟩ x3).setCell ⟨w.heap.size, 4, none⟩ x4).setCell ⟨w.heap.size, 5, none⟩ x5).setCell ⟨w.heap.size, 6, none⟩ x6).setCell ⟨w.heap.size, 7, none⟩ x7).setCell ⟨w.heap.size, 8, none⟩ x8) := by
  refine ⟨Go.Proofs.Ytddnagoljdhnlaa.set9 h.p x0 x1 x2 x3 x4 x5 x6 x7 x8, ?_, below9 h.bel (Nat.le_refl _) x0 x1 x2 x3 x4 x5 x6 x7 x8⟩
  have f : ∀ (wx : World) (o : Nat) (v : Value), (wx.setCell ⟨w.heap.size, o, none⟩ v).heap[w.heap.size + 1]? = wx.heap[w.heap.size + 1]? := fun wx o v => Below.heap_setCell _ _ _ _ (show w.heap.size + 1 ≠ w.heap.size by omega)
  rw [f, f, f, f, f, f, f, f, f]
  exact h.q
theorem step_append_g {α : Type} {P : Program} (K : RK α) (hk : K.Ok P) {ops : Array Oper} {o : Oper} {a : Act} {C : Act → World → Prop} {Q : Exit → Act → World → Prop} {E : Prop} (hgd : o.guard = none) (s x : Operand) (t : TypeId)
    (ho : o.op = .call { callee := .builtin .append, args := #[s, x], argTypes := #[t, t] })
    (base : Nat) (ht : P.underlying t = some (.slice K.ty))
    (w1 : World) (b : Nat) (cells : Array Value) (tc : TypeId) (hblk : w1.heap[b]? = some (.cells cells tc)) (v : Value) (l : List α) (f : α) (c : Nat) (hs : a.eval s = v) (hown : OwnG K w1 base v l)
    (hx : a.eval x = .slice (some ⟨b, 0, none⟩) 1 c) (hc : cells.toList = K.f f)
    (hlen : (l.length + 1) * K.B ≤ 140737488355328) (hbase : base ≤ w1.heap.size)
    (h : ∀ g cap w', OwnG K w' base (.slice (some ⟨g, 0, none⟩) (l.length + 1) cap) (l ++ [f]) → Below base w1 w' → (∀ k, k < w1.heap.size → some k ≠ v.ownBlock → w'.heap[k]? = w1.heap[k]?) → (v.ownBlock = some g ∨ w1.heap.size ≤ g) → C (a.put o.dst (.slice (some ⟨g, 0, none⟩) (l.length + 1) cap)) w') :
    if Region.wanted o (yielded ops a.tmps) = true then Oper.wp P o a w1 C Q else E := by
  obtain ⟨i0, hi0, hz0, hz1, hz2⟩ := hk.info
  have hpb := hk.posB
  have hn : l.length + 1 ≤ 140737488355328 := Nat.le_trans (Nat.le_mul_of_pos_right _ hpb) hlen
  refine step_append_lies _ hgd s x t ho base K.ty i0 K.z K.W K.B ht hi0 hz0 hz1 hz2 hk.zs hk.pos v l.length (l.flatMap K.f) hs hown ⟨b, 0, none⟩ 1 c (K.f f) hx (by rw [hk.len]; omega) (by rw [← hc]; exact World.news_of_block hblk) (hk.one f)
    (by decide) (by unfold maxLen; omega) hlen hbase _ rfl ?_
  intro g cap w' ho' hg hgg _
  refine h g cap w' ?_ ((Below.refl base w1).grown hg hbase (fun q hq => (hown.lt hq).1)) (fun k hk hne => hg.block k hk hne) ?_
  · unfold OwnG
    rw [List.length_append, List.flatMap_append]
    simpa using ho'
  · rcases hgg with hgg | hgg
    · exact Or.inl hgg
    · right; rw [hgg]; exact Nat.le_refl _
theorem step_append_gs {α : Type} {P : Program} (K : RK α) (hk : K.Ok P) {ops : Array Oper} {o : Oper} {a : Act} {C : Act → World → Prop} {Q : Exit → Act → World → Prop} {E : Prop} (hgd : o.guard = none) (s x : Operand) (t : TypeId)
    (ho : o.op = .call { callee := .builtin .append, args := #[s, x], argTypes := #[t, t] })
    (base : Nat) (ht : P.underlying t = some (.slice K.ty))
    (w1 : World) (v : Value) (l m : List α) (X oX n c : Nat) (hs : a.eval s = v) (hown : OwnG K w1 base v l)
    (hx : a.eval x = .slice (some ⟨X, oX, none⟩) n c) (hn : n = m.length) (hm : GS K w1 (.slice (some ⟨X, oX, none⟩) n c) m)
    (hlen : (l.length + m.length) * K.B ≤ 140737488355328) (hbase : base ≤ w1.heap.size)
    (h : ∀ v' w', OwnG K w' base v' (l ++ m) → Below base w1 w' → (∀ k, k < w1.heap.size → some k ≠ v.ownBlock → w'.heap[k]? = w1.heap[k]?) → C (a.put o.dst v') w') :
    if Region.wanted o (yielded ops a.tmps) = true then Oper.wp P o a w1 C Q else E := by
  obtain ⟨i0, hi0, hz0, hz1, hz2⟩ := hk.info
  have hpb := hk.posB
  subst hn
  have hlm : l.length + m.length ≤ 140737488355328 := Nat.le_trans (Nat.le_mul_of_pos_right _ hpb) hlen
  have one : ∀ u ∈ m.flatMap K.f, u.oneCell' = true := fun u hu => by
    obtain ⟨f, _, hf⟩ := List.mem_flatMap.1 hu
    exact hk.one f u hf
  have hw : Region.wanted o (yielded ops a.tmps) = true := by simp [Region.wanted, hgd]
  rw [if_pos hw]
  refine wp_append_own w1 s x t ho base K.ty i0 K.z K.W K.B ht hi0 hz0 hz1 hz2 hk.zs hk.pos v l.length (l.flatMap K.f) hs hown ⟨X, oX, none⟩ m.length c (m.flatMap K.f) hx (RK.flat_len hk.len m) (hm.news hk.len hk.pos) one
    (by unfold maxLen; omega) hlen hbase ?_
  intro v' w' ho' hg _
  refine h v' w' ?_ ((Below.refl base w1).grown hg hbase (fun q hq => (hown.lt hq).1)) (fun k hk hne => hg.block k hk hne)
  unfold OwnG
  rw [List.length_append, List.flatMap_append]
  exact ho'
/-- Nothing appended. -/
theorem step_append_none {α : Type} {P : Program} (K : RK α) (hk : K.Ok P) {w : World} {ops : Array Oper} {o : Oper} {a : Act} {C : Act → World → Prop} {Q : Exit → Act → World → Prop} {E : Prop} (hgd : o.guard = none) (s x : Operand) (t : TypeId)
    (ho : o.op = .call { callee := .builtin .append, args := #[s, x], argTypes := #[t, t] })
    (base : Nat) (ht : P.underlying t = some (.slice K.ty)) (v : Value) (l : List α) (hs : a.eval s = v) (hown : OwnG K w base v l) (hx : a.eval x = .slice none 0 0)
    (h : C (a.put o.dst v) w) : if Region.wanted o (yielded ops a.tmps) = true then Oper.wp P o a w C Q else E := by
  obtain ⟨i0, hi0, _⟩ := hk.info
  have hw : Region.wanted o (yielded ops a.tmps) = true := by simp [Region.wanted, hgd]
  rw [if_pos hw]
  have hrun := run_append_owned_none (P := P) (w := w) base t o.type K.ty i0 K.W ht hi0 v l.length (l.flatMap K.f) hown
  unfold Oper.wp
  simp [execOp, ho, resolve, invoke, builtin, hs, hx, hrun, Result.andThen]
  exact h
end Go.Proofs.Ytddnagoljdhnlaa
