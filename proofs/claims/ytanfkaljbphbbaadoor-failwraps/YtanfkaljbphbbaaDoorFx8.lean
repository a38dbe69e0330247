/- Failures: around without parts, Leaf. -/
import Derived.Test.YtanfkaljbphbbaaDoorFx7
namespace Go.Proofs.YtanfkaljbphbbaaDoor
open Go.RowKit

theorem append_cr {P : Program} {ops : Array Oper} {rest : List Oper} {o : Oper} {a : Act} {Q : Exit → Act → World → Prop} (hgd : o.guard = none) (s x : Operand) (t : TypeId)
    (ho : o.op = .call { callee := .builtin .append, args := #[s, x], argTypes := #[t, t] })
    (base : Nat) (ht : P.underlying t = some (.slice 64)) (hi : (P.info? 64).map (fun i => (i.zero, i.size, i.bytes)) = some (some (.agg #[.int .i64 0, .int .i64 0, .string ByteArray.empty]), 3, 32))
    (w0 : World) (cells : Array Value) (tc : TypeId) (v : Value) (l : List Cr) (f : Cr) (c : Nat) (hs : a.eval s = v) (hown : OwnC w0 base v l) (b : Nat) (hb : w0.heap.size = b)
    (hx : a.eval x = .slice (some ⟨b, 0, none⟩) 1 c) (hc : cells.toList = crC f)
    (hlen : (l.length + 1) * 32 ≤ 140737488355328) (hbase : base ≤ w0.heap.size)
    (h : ∀ v' w', OwnC w' base v' (l ++ [f]) → Below base w0 w' → wpList P ops Q rest (a.put o.dst v') w') : wpList P ops Q (o :: rest) a (w0.alloc (.cells cells tc)) := by
  subst hb
  obtain ⟨i0, hi0, hz0, hz1, hz2⟩ := info_parts hi
  have hown2 : (w0.alloc (.cells cells tc)).ownsRow base 64 3 v l.length (l.flatMap crC) := World.ownsRow.alloc hown _
  have one : ∀ u ∈ crC f, u.oneCell' = true := fun u hu => by simp [crC] at hu; rcases hu with rfl | rfl | rfl <;> rfl
  refine wpList_append_own _ hgd s x t ho base 64 i0 (.agg #[.int .i64 0, .int .i64 0, .string ByteArray.empty]) 3 32 ht hi0 hz0 hz1 hz2 rfl (by decide) v l.length (l.flatMap crC) hs hown2 ⟨w0.heap.size, 0, none⟩ 1 c (crC f) hx rfl (news_at w0 cells tc _ hc) one
    (by unfold maxLen; omega) hlen (by simp; omega) ?_
  intro v' w' ho' hg _
  have hgb : Below base w0 w' := ((Below.refl base w0).alloc hbase _).grown hg (by simp; omega) (fun q hq => (hown2.lt q hq).1)
  refine h v' w' ?_ hgb
  unfold OwnC
  rw [List.length_append, List.flatMap_append]
  simpa using ho'
theorem make_cr {P : Program} (w : World) {ops : Array Oper} {rest : List Oper} {o : Oper} {a : Act} {Q : Exit → Act → World → Prop}
    (hg : o.guard = none) (l c : Operand) (t : TypeId) (hop : o.op = Op.makeSlice t l c) (ht : P.underlying t = some (.slice 64)) (hi : (P.info? 64).map (fun i => (i.zero, i.size, i.bytes)) = some (some (.agg #[.int .i64 0, .int .i64 0, .string ByteArray.empty]), 3, 32))
    (base : Nat) (n : Nat) (hl : a.eval l = .int .i64 0) (hc : a.eval c = .int .i64 n) (hn : n ≤ 100000) (hb : base ≤ w.heap.size)
    (hK : ∀ v' w', OwnC w' base v' [] → Below w.heap.size w w' → wpList P ops Q rest (a.put o.dst v') w') : wpList P ops Q (o :: rest) a w := by
  obtain ⟨i0, hi0, hz0, hz1, hz2⟩ := info_parts hi
  refine wpList_make_own w hg l c t hop base 64 i0 _ 3 ht hi0 hz0 hz1 .i64 .i64 n n hl hc rfl (by rw [hz2]; omega) (by unfold maxLen; omega) hb ?_
  intro w' ho hgr
  exact hK _ w' ho ((Below.refl _ _).grown hgr (Nat.le_refl _) (fun k hk => by cases hk))
set_option maxHeartbeats 4000000 in
set_option maxRecDepth 100000 in
theorem around_nil (k : Int) (t : ByteArray) (w : World) :
    Calls Tryd.prog 46 #[.int .i64 k, .string t, .slice none 0 0] w fun e w' => ∃ p cap, e = .returned (.slice p 1 cap) ∧ OwnC w' w.heap.size (.slice p 1 cap) [⟨k, 0, t⟩] ∧ Below w.heap.size w w' := by
  go_enter Tryd.func46, Tryd.ntmps46
  go_wp2
  go_loop [7, 15] (fun a b => a = .int .i64 1 ∧ b = .int .i64 0) (fun _ _ => 0)
  case atStart => exact ⟨rfl, rfl⟩
  case round =>
    obtain ⟨rfl, rfl⟩ := hrel
    go_wp2_with (at_make; refine make_cr _ rfl _ _ 23 rfl Tryd.underlying23 info_cr w.heap.size 1 rfl rfl (by omega) (Nat.le_refl _) ?_; intro v2 w2 ho2 hb2)
    have O2 : Hid (OwnC w2 w.heap.size v2 []) := ho2
    have B2 : Hid (Below w.heap.size w w2) := hb2
    clear ho2 hb2
    go_loopw [10, 32] (fun a b wr => a = v2 ∧ b = .int .i64 0 ∧ wr = w2) (fun _ _ _ => 0)
    case atStart => exact ⟨rfl, rfl, rfl⟩
    case round =>
      obtain ⟨rfl, rfl, rfl⟩ := hrel
      go_wp2_with (at_builtin; refine append_cr rfl (.tmp 40) (.tmp 46) 23 rfl w.heap.size Tryd.underlying23 info_cr _ _ _ _ [] ⟨k, 0, t⟩ _ rfl O2.out _ rfl rfl rfl (by simp) B2.out.size ?_; intro v8 w8 ho8 hb8)
      go_ret
      obtain ⟨p, cap, rfl⟩ := ho8.form
      exact ⟨p, cap, rfl, ho8, B2.out.trans hb8⟩
/-- Leaf's answer. -/
def leafE (k : Int) (t : ByteArray) : Int := if isK k = false ∨ 0 < (frow k).least then 1 else if 4096 < t.size then 3 else if txT (frow k).text t = true then 0 else 2
def leafL (k : Int) (t : ByteArray) : List Cr := if leafE k t = 0 then [⟨k, 0, t⟩] else []
set_option maxHeartbeats 4000000 in
set_option maxRecDepth 100000 in
theorem leaf_any (k : Int) (t : ByteArray) (w : World) (ht : t.size ≤ maxLen) (hv : FV w) :
    Calls Tryd.prog 12 #[.int .i64 k, .string t] w fun e w' => ∃ p cap, e = .returned (.tuple #[.slice p (leafL k t).length cap, .int .i64 (leafE k t)]) ∧ OwnC w' w.heap.size (.slice p (leafL k t).length cap) (leafL k t) ∧ Below w.heap.size w w' := by
  have IK := fun w' => isKind_any k w'
  have AN := around_nil k t w
  have ht2 := ht
  unfold maxLen at ht2
  have NO : ∀ e : Int, e ≠ 0 → leafE k t = e → Hid (∃ p cap, Ending.returned (.tuple #[.slice none 0 0, .int .i64 e]) = .returned (.tuple #[.slice p (leafL k t).length cap, .int .i64 (leafE k t)]) ∧ OwnC w w.heap.size (.slice p (leafL k t).length cap) (leafL k t) ∧ Below w.heap.size w w) := fun e he h => by
    have e2 : leafL k t = [] := by unfold leafL; rw [h, if_neg he]
    rw [e2, h]
    exact ⟨none, 0, rfl, World.ownsRow_nil _ _ _ _, Below.refl _ _⟩
  cases hk : isK k with
  | false =>
    have F := NO 1 (by omega) (by unfold leafE; rw [if_pos (Or.inl hk)])
    rw [hk] at IK
    clear NO AN hv
    go_enter Tryd.func12, Tryd.ntmps12
    go_wp2_with (go_at_call 44; refine (IK _).mono ?_; rintro e w' ⟨rfl, rfl⟩)
    go_ret2
    exact F.out
  | true =>
    rw [hk] at IK
    have TX := isTextOf_any k t w hk ht hv
    obtain ⟨m, hm, hm2, q0, q1, q2, q3, q4, q5, q6⟩ := row_cells hv.rows hk
    have LE : Hid (∀ b : Bool, b = txT (frow k).text t → leafE k t = if 0 < (frow k).least then 1 else if 4096 < t.size then 3 else if b = true then 0 else 2) := fun b hb => by
      unfold leafE; rw [hb, hk]; simp
    clear q0 q1 q3 q4 q5 q6 hv
    by_cases hl : 0 < (frow k).least
    · have F := NO 1 (by omega) (by rw [LE.out _ rfl, if_pos hl])
      generalize (frow k).least = R at *
      subst hm
      clear NO AN TX LE
      go_enter Tryd.func12, Tryd.ntmps12
      go_wp2_with (go_at_call 44; refine (IK _).mono ?_; rintro e w' ⟨rfl, rfl⟩)
      go_ret2
      exact F.out
    · by_cases h4 : 4096 < t.size
      · have F := NO 3 (by omega) (by rw [LE.out _ rfl, if_neg hl, if_pos h4])
        have h4i : (t.size : Int) > 4096 := by omega
        generalize (frow k).least = R at *
        subst hm
        clear NO AN TX LE
        go_enter Tryd.func12, Tryd.ntmps12
        go_wp2_with (go_at_call 44; refine (IK _).mono ?_; rintro e w' ⟨rfl, rfl⟩)
        go_ret2
        exact F.out
      · have h4i : ¬ (t.size : Int) > 4096 := by omega
        cases htx : txT (frow k).text t with
        | false =>
          have F := NO 2 (by omega) (by rw [LE.out _ rfl, if_neg hl, if_neg h4, htx]; simp)
          rw [htx] at TX
          generalize (frow k).least = R at *
          subst hm
          clear NO AN LE
          go_enter Tryd.func12, Tryd.ntmps12
          go_wp2_with (first | (go_at_call 44; refine (IK _).mono ?_; rintro e w' ⟨rfl, rfl⟩) | (go_at_call 45; refine TX.mono ?_; rintro e w' ⟨rfl, rfl⟩))
          go_ret2
          exact F.out
        | true =>
          have e0 : leafE k t = 0 := by rw [LE.out _ rfl, if_neg hl, if_neg h4, htx]; simp
          have eL : leafL k t = [⟨k, 0, t⟩] := by unfold leafL; rw [e0, if_pos rfl]
          rw [e0, eL]
          rw [htx] at TX
          generalize (frow k).least = R at *
          clear NO LE e0 eL htx
          obtain ⟨k', hk'⟩ : ∃ k', k' = k := ⟨_, rfl⟩
          subst hm
          go_enter Tryd.func12, Tryd.ntmps12
          go_wp2_with (first | (go_at_call 44; refine (IK _).mono ?_; rintro e w' ⟨rfl, rfl⟩) | (go_at_call 45; refine TX.mono ?_; rintro e w' ⟨rfl, rfl⟩) | (go_at_call 46; refine AN.mono ?_; rintro e w5 ⟨p5, c5, rfl, ho5, hb5⟩))
          go_ret2
          exact ⟨p5, c5, rfl, ho5, hb5⟩
end Go.Proofs.YtanfkaljbphbbaaDoor
