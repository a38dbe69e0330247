/- Failures: CopyFail, SameFail, Leaf. -/
import Derived.Test.YtkebflllbphkkaaDoorFx6
import Derived.Laws.AppendOwnNone
namespace Go.Proofs.YtkebflllbphkkaaDoor
open Go.RowKit

/-- A list of cracks, appended to a row of the call's own. -/
theorem append_crs {P : Program} {ops : Array Oper} {rest : List Oper} {o : Oper} {a : Act} {Q : Exit → Act → World → Prop} (hgd : o.guard = none) (s x : Operand) (t : TypeId)
    (ho : o.op = .call { callee := .builtin .append, args := #[s, x], argTypes := #[t, t] })
    (base : Nat) (ht : P.underlying t = some (.slice 56)) (hi : (P.info? 56).map (fun i => (i.zero, i.size, i.bytes)) = some (some (.agg #[.int .i64 0, .int .i64 0, .string ByteArray.empty]), 3, 32))
    (w : World) (v vx : Value) (l m : List Cr) (hs : a.eval s = v) (hx : a.eval x = vx) (hown : OwnC w base v l) (hm : CS w vx m)
    (hlen : (l.length + m.length) * 32 ≤ 140737488355328) (hbase : base ≤ w.heap.size)
    (h : ∀ v' w', OwnC w' base v' (l ++ m) → Below base w w' → wpList P ops Q rest (a.put o.dst v') w') : wpList P ops Q (o :: rest) a w := by
  obtain ⟨i0, hi0, hz0, hz1, hz2⟩ := info_parts hi
  have hm0 := hm
  rcases hm with ⟨rfl | ⟨ad, cap, rfl⟩, hmn⟩ | ⟨X, ox, cap, rfl, _⟩
  · subst hmn
    refine wpList_append_own_none hgd s x t ho base 56 i0 3 ht hi0 v l.length (l.flatMap crC) hs hown hx ?_
    exact h v w (by rw [List.append_nil]; exact hown) (Below.refl _ _)
  · subst hmn
    refine wpList_append_own _ hgd s x t ho base 56 i0 (.agg #[.int .i64 0, .int .i64 0, .string ByteArray.empty]) 3 32 ht hi0 hz0 hz1 hz2 rfl (by decide) v l.length (l.flatMap crC) hs hown ad 0 cap [] hx rfl (fun j u hj => by simp at hj) (fun u hu => by cases hu)
      (by unfold maxLen; simp at hlen; omega) (by simpa using hlen) hbase ?_
    intro v' w' ho' hg _
    refine h v' w' ?_ ((Below.refl base w).grown hg hbase (fun q hq => (World.ownsRow.lt hown q hq).1))
    unfold OwnC
    rw [List.append_nil]
    simpa using ho'
  · have one : ∀ u ∈ m.flatMap crC, u.oneCell' = true := fun u hu => by
      obtain ⟨f, _, hf⟩ := List.mem_flatMap.1 hu
      simp [crC] at hf; rcases hf with rfl | rfl | rfl <;> rfl
    refine wpList_append_own _ hgd s x t ho base 56 i0 (.agg #[.int .i64 0, .int .i64 0, .string ByteArray.empty]) 3 32 ht hi0 hz0 hz1 hz2 rfl (by decide) v l.length (l.flatMap crC) hs hown ⟨X, ox, none⟩ m.length cap (m.flatMap crC) hx (crC_len m) hm0.news one
      (by unfold maxLen; omega) hlen hbase ?_
    intro v' w' ho' hg _
    refine h v' w' ?_ ((Below.refl base w).grown hg hbase (fun q hq => (World.ownsRow.lt hown q hq).1))
    unfold OwnC
    rw [List.length_append, List.flatMap_append]
    exact ho'
theorem OwnC.form {w : World} {base : Nat} {v : Value} {l : List Cr} (h : OwnC w base v l) : ∃ p cap, v = .slice p l.length cap := h.cs.form
end Go.Proofs.YtkebflllbphkkaaDoor
