/- Registry: append keeps what an older slice of the row reads. -/
import Derived.ArgAppend
import Derived.Test.YtffabehipcomfaaDoorRe1
namespace Go.Proofs.YtffabehipcomfaaDoor
open Go.RowKit Go.Maps

theorem GS.pre {α : Type} {K : RK α} {w : World} {X o n c cp : Nat} {l : List α} {f : α} (h : GS K w (.slice (some ⟨X, o, none⟩) n c) (l ++ [f])) (hcp : l.length ≤ cp) : GS K w (.slice (some ⟨X, o, none⟩) l.length cp) l := by
  rcases h with ⟨_, e⟩ | ⟨X', o', c', e, hX, _, hc⟩
  · simp at e
  · injection e with e1 e2 e3
    injection e1 with e1
    injection e1 with e1 e2 _
    subst e1 e2
    exact Or.inr ⟨X, o, cp, rfl, hX, hcp, fun k hk j u hu => hc k (by simp; omega) j u (by rw [List.getElem_append_left hk]; exact hu)⟩
/-- append of one, at a step of a region: the new row, and what the old slice reads on. -/
theorem step_append_gk {α : Type} {P : Program} (K : RK α) (hk : K.Ok P) {ops : Array Oper} {o : Oper} {a : Act} {C : Act → World → Prop} {Q : Exit → Act → World → Prop} {E : Prop} (hgd : o.guard = none) (s x : Operand) (t : TypeId)
    (ho : o.op = .call { callee := .builtin .append, args := #[s, x], argTypes := #[t, t] })
    (base : Nat) (ht : P.underlying t = some (.slice K.ty))
    (w1 : World) (b : Nat) (cells : Array Value) (tc : TypeId) (hblk : w1.heap[b]? = some (.cells cells tc)) (v : Value) (l : List α) (f : α) (c : Nat) (hs : a.eval s = v) (hown : OwnG K w1 base v l)
    (hx : a.eval x = .slice (some ⟨b, 0, none⟩) 1 c) (hc : cells.toList = K.f f)
    (hlen : (l.length + 1) * K.B ≤ 140737488355328) (hbase : base ≤ w1.heap.size)
    (h : ∀ g cap w', OwnG K w' base (.slice (some ⟨g, 0, none⟩) (l.length + 1) cap) (l ++ [f]) → Below base w1 w' → (∀ k, k < w1.heap.size → some k ≠ v.ownBlock → w'.heap[k]? = w1.heap[k]?) → (v.ownBlock = some g ∨ w1.heap.size ≤ g) → GS K w' v l → C (a.put o.dst (.slice (some ⟨g, 0, none⟩) (l.length + 1) cap)) w') :
    if Region.wanted o (yielded ops a.tmps) = true then Oper.wp P o a w1 C Q else E := by
  obtain ⟨i0, hi0, hz0, hz1, hz2⟩ := hk.info
  have hpb := hk.posB
  have hn : l.length + 1 ≤ 140737488355328 := Nat.le_trans (Nat.le_mul_of_pos_right _ hpb) hlen
  have hnl : (K.f f).length = 1 * K.W := by rw [hk.len]; omega
  have hnews : ∀ j u, (K.f f)[j]? = some u → w1.cell? ((⟨b, 0, none⟩ : Addr).add j) = some u := by rw [← hc]; exact World.news_of_block hblk
  have hmx : l.length + 1 ≤ maxLen := by unfold maxLen; omega
  have hw : Region.wanted o (yielded ops a.tmps) = true := by simp [Region.wanted, hgd]
  rw [if_pos hw]
  obtain ⟨g, cap, w', hr, h2, h3, h4, h5⟩ := run_append_lies (P := P) w1 t o.type base K.ty i0 K.z K.W K.B ht hi0 hz0 hz1 hz2 hk.zs hk.pos v l.length (l.flatMap K.f) hown ⟨b, 0, none⟩ 1 c (K.f f) hnl hnews (hk.one f) (by decide) hmx hlen hbase _ rfl
  have ho' : OwnG K w' base (.slice (some ⟨g, 0, none⟩) (l.length + 1) cap) (l ++ [f]) := by
    unfold OwnG
    rw [List.length_append, List.flatMap_append]
    simpa using h2
  have hgs : GS K w' v l := by
    have G0 := hown.gs hk.len
    have h0 := hown.2
    rcases h0 with ⟨rfl, e⟩ | ⟨q, cp, cur, rfl, hbq, hq, hnc, hcm, hcs, htake⟩
    · exact Or.inl ⟨Or.inl rfl, List.length_eq_zero_iff.1 e⟩
    · by_cases hroom : l.length + 1 ≤ cp
      · have hr2 := run_append_room (P := P) w1 t o.type K.ty i0 ht hi0 q l.length cp cur hq ⟨b, 0, none⟩ 1 c (K.f f) (by rw [hz1]; exact hnl) hnews (hk.one f) hroom (by rw [hnl, hcs, hz1, ← Nat.add_mul]; exact Nat.mul_le_mul_right _ hroom)
        rw [hr] at hr2
        injection hr2 with e1 e2
        injection e1 with e1 _ _
        injection e1 with e1
        injection e1 with e1 _ _
        subst e1
        exact (ho'.gs hk.len).pre hnc
      · obtain ⟨v', w'', hr2, _, hg2⟩ := run_append_arg_grows (P := P) w1 t o.type K.ty i0 K.z K.W K.B ht hi0 hz0 hz1 hz2 hk.zs hk.pos ⟨q, 0, none⟩ l.length cp (l.flatMap K.f) hown.1 (G0.news hk.len hk.pos) ⟨b, 0, none⟩ 1 c (K.f f) hnl hnews (by omega) hmx hlen
        rw [hr] at hr2
        injection hr2 with _ e2
        subst e2
        exact G0.blk hg2.size (fun x _ hlt => hg2.block x hlt (by simp))
  unfold Oper.wp execOp
  simp only [ho, resolve, invoke, builtin, Sem.run_bind, Sem.run_pure, Result.andThen_ok, List.map_toArray, List.map_cons, List.map_nil, hs, hx, hr]
  refine h g cap w' ho' ((Below.refl base w1).grown h3 hbase (fun q hq => (hown.lt hq).1)) (fun k hk hne => h3.block k hk hne) ?_ hgs
  rcases h4 with h4 | h4
  · exact Or.inl h4
  · right; rw [h4]; exact Nat.le_refl _
end Go.Proofs.YtffabehipcomfaaDoor
