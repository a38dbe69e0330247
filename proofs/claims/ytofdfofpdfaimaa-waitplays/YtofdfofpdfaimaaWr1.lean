/- Waiting, the document's side: a row appended to an empty one, then one more: the region's laws. -/
import Derived.Test.YtofdfofpdfaimaaWe3
import Derived.Deep.RegionHeld3
namespace Go.Proofs.Ytofdfofpdfaimaa
open Go.RowKit Go.Maps

/-- A row of whatever length appended, at a step of a region that draws its order. -/
theorem step_append_any {α : Type} {P : Program} (K : RK α) (hk : K.Ok P) {ops : Array Oper} {o : Oper} {a : Act} {C : Act → World → Prop} {Q : Exit → Act → World → Prop} {E : Prop} (hgd : o.guard = none) (s x : Operand) (t : TypeId)
    (ho : o.op = .call { callee := .builtin .append, args := #[s, x], argTypes := #[t, t] })
    (base : Nat) (ht : P.underlying t = some (.slice K.ty))
    (w1 : World) (v vx : Value) (l m : List α) (hs : a.eval s = v) (hown : OwnG K w1 base v l) (hx : a.eval x = vx) (hm : GS K w1 vx m)
    (hlen : (l.length + m.length) * K.B ≤ 140737488355328) (hbase : base ≤ w1.heap.size)
    (h : ∀ v' w', OwnG K w' base v' (l ++ m) → Below base w1 w' → (∀ k, k < w1.heap.size → some k ≠ v.ownBlock → w'.heap[k]? = w1.heap[k]?) → C (a.put o.dst v') w') :
    if Region.wanted o (yielded ops a.tmps) = true then Oper.wp P o a w1 C Q else E := by
  obtain ⟨i0, hi0, hz0, hz1, hz2⟩ := hk.info
  have hpb := hk.posB
  have hlm : l.length + m.length ≤ 140737488355328 := Nat.le_trans (Nat.le_mul_of_pos_right _ hpb) hlen
  have hw : Region.wanted o (yielded ops a.tmps) = true := by simp [Region.wanted, hgd]
  rw [if_pos hw]
  have hm0 := hm
  rcases hm with ⟨rfl | ⟨ad, cap, rfl⟩, hmn⟩ | ⟨X, ox, cap, rfl, _⟩
  · subst hmn
    have hrun := run_append_owned_none (P := P) (w := w1) base t o.type K.ty i0 K.W ht hi0 v l.length (l.flatMap K.f) hown
    unfold Oper.wp
    simp [execOp, ho, resolve, invoke, builtin, hs, hx, hrun, Result.andThen]
    exact h v w1 (by rw [List.append_nil]; exact hown) (Below.refl _ _) (fun _ _ _ => rfl)
  · subst hmn
    refine wp_append_own w1 s x t ho base K.ty i0 K.z K.W K.B ht hi0 hz0 hz1 hz2 hk.zs hk.pos v l.length (l.flatMap K.f) hs hown ad 0 cap [] hx (by simp) (fun j u hj => by simp at hj) (fun u hu => by cases hu)
      (by unfold maxLen; simp at hlm; omega) (by simpa using hlen) hbase ?_
    intro v' w' ho' hg _
    refine h v' w' ?_ ((Below.refl base w1).grown hg hbase (fun q hq => (hown.lt hq).1)) (fun k hk hne => hg.block k hk hne)
    unfold OwnG
    rw [List.append_nil]
    simpa using ho'
  · have one : ∀ u ∈ m.flatMap K.f, u.oneCell' = true := fun u hu => by
      obtain ⟨f, _, hf⟩ := List.mem_flatMap.1 hu
      exact hk.one f u hf
    refine wp_append_own w1 s x t ho base K.ty i0 K.z K.W K.B ht hi0 hz0 hz1 hz2 hk.zs hk.pos v l.length (l.flatMap K.f) hs hown ⟨X, ox, none⟩ m.length cap (m.flatMap K.f) hx (RK.flat_len hk.len m) (hm0.news hk.len hk.pos) one
      (by unfold maxLen; omega) hlen hbase ?_
    intro v' w' ho' hg _
    refine h v' w' ?_ ((Below.refl base w1).grown hg hbase (fun q hq => (hown.lt hq).1)) (fun k hk hne => hg.block k hk hne)
    unfold OwnG
    rw [List.length_append, List.flatMap_append]
    exact ho'
/-- What the two appends are done with: the empty row e, the one more c, laid in either order, or the one more later. -/
structure AP {α : Type} (K : RK α) (w6 : World) (e c : Obj) (vx : Value) (L : List α) : Prop where
  a1 : OwnG K (w6.alloc e).drew w6.heap.size (.slice (some ⟨w6.heap.size, 0, none⟩) 0 0) [] ∧ GS K (w6.alloc e).drew vx L ∧ Below w6.heap.size w6 (w6.alloc e).drew ∧ w6.heap.size ≤ (w6.alloc e).drew.heap.size
  a2 : OwnG K ((w6.alloc e).alloc c).drew w6.heap.size (.slice (some ⟨w6.heap.size, 0, none⟩) 0 0) [] ∧ GS K ((w6.alloc e).alloc c).drew vx L ∧ Below w6.heap.size w6 ((w6.alloc e).alloc c).drew ∧ w6.heap.size ≤ ((w6.alloc e).alloc c).drew.heap.size ∧ ((w6.alloc e).alloc c).drew.heap[w6.heap.size + 1]? = some c
  a3 : OwnG K ((w6.alloc c).alloc e).drew w6.heap.size (.slice (some ⟨w6.heap.size + 1, 0, none⟩) 0 0) [] ∧ GS K ((w6.alloc c).alloc e).drew vx L ∧ Below w6.heap.size w6 ((w6.alloc c).alloc e).drew ∧ w6.heap.size ≤ ((w6.alloc c).alloc e).drew.heap.size ∧ ((w6.alloc c).alloc e).drew.heap[w6.heap.size]? = some c
theorem ap_of {α : Type} (K : RK α) (w6 : World) (c : Obj) (vx : Value) (L : List α) (h : GS K w6 vx L) : AP K w6 (.cells #[] K.ty) c vx L := by
  have z : ∀ (W : World) (o : Obj), (W.alloc o).heap.size = W.heap.size + 1 := fun W o => by simp
  have b1 : ∀ e, Below w6.heap.size w6 (w6.alloc e).drew := fun e => bl3 (bal w6 e) (drew_below _ 1)
  have b2 : ∀ e c, Below w6.heap.size w6 ((w6.alloc e).alloc c).drew := fun e c => bl3 (bal w6 e) (bl3 (bal _ c) (drew_below _ 1))
  refine ⟨⟨(OwnG.empty K w6).below (drew_below _ 1), h.below (b1 _), b1 _, (b1 _).size⟩, ⟨(OwnG.empty K w6).below (bl3 (bal _ c) (drew_below _ 1)), h.below (b2 _ _), b2 _ _, (b2 _ _).size, ?_⟩, ⟨?_, h.below (b2 _ _), b2 _ _, (b2 _ _).size, ?_⟩⟩
  · have := heap_alloc_new (w6.alloc (.cells #[] K.ty)) c
    rw [z] at this
    exact this
  · have h1 := ((OwnG.empty K (w6.alloc c)).below (drew_below _ 1)).low (show w6.heap.size ≤ (w6.alloc c).heap.size by rw [z]; omega)
    rw [z] at h1
    exact h1
  · exact (Below.heap_alloc _ _ _ (by rw [z]; omega)).trans (heap_alloc_new w6 c)
end Go.Proofs.Ytofdfofpdfaimaa
