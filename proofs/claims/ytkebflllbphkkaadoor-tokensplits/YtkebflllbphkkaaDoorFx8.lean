/- Failures: around without parts, Leaf. -/
import Derived.Test.YtkebflllbphkkaaDoorFx7
namespace Go.Proofs.YtkebflllbphkkaaDoor
open Go.RowKit

theorem append_cr {P : Program} {ops : Array Oper} {rest : List Oper} {o : Oper} {a : Act} {Q : Exit → Act → World → Prop} (hgd : o.guard = none) (s x : Operand) (t : TypeId)
    (ho : o.op = .call { callee := .builtin .append, args := #[s, x], argTypes := #[t, t] })
    (base : Nat) (ht : P.underlying t = some (.slice 56)) (hi : (P.info? 56).map (fun i => (i.zero, i.size, i.bytes)) = some (some (.agg #[.int .i64 0, .int .i64 0, .string ByteArray.empty]), 3, 32))
    (w0 : World) (cells : Array Value) (tc : TypeId) (v : Value) (l : List Cr) (f : Cr) (c : Nat) (hs : a.eval s = v) (hown : OwnC w0 base v l) (b : Nat) (hb : w0.heap.size = b)
    (hx : a.eval x = .slice (some ⟨b, 0, none⟩) 1 c) (hc : cells.toList = crC f)
    (hlen : (l.length + 1) * 32 ≤ 140737488355328) (hbase : base ≤ w0.heap.size)
    (h : ∀ v' w', OwnC w' base v' (l ++ [f]) → Below base w0 w' → wpList P ops Q rest (a.put o.dst v') w') : wpList P ops Q (o :: rest) a (w0.alloc (.cells cells tc)) := by
  subst hb
  obtain ⟨i0, hi0, hz0, hz1, hz2⟩ := info_parts hi
  have hown2 : (w0.alloc (.cells cells tc)).ownsRow base 56 3 v l.length (l.flatMap crC) := World.ownsRow.alloc hown _
  have one : ∀ u ∈ crC f, u.oneCell' = true := fun u hu => by simp [crC] at hu; rcases hu with rfl | rfl | rfl <;> rfl
  refine wpList_append_own _ hgd s x t ho base 56 i0 (.agg #[.int .i64 0, .int .i64 0, .string ByteArray.empty]) 3 32 ht hi0 hz0 hz1 hz2 rfl (by decide) v l.length (l.flatMap crC) hs hown2 ⟨w0.heap.size, 0, none⟩ 1 c (crC f) hx rfl (news_at w0 cells tc _ hc) one
    (by unfold maxLen; omega) hlen (by simp; omega) ?_
  intro v' w' ho' hg _
  have hgb : Below base w0 w' := ((Below.refl base w0).alloc hbase _).grown hg (by simp; omega) (fun q hq => (hown2.lt q hq).1)
  refine h v' w' ?_ hgb
  unfold OwnC
  rw [List.length_append, List.flatMap_append]
  simpa using ho'
theorem make_cr {P : Program} (w : World) {ops : Array Oper} {rest : List Oper} {o : Oper} {a : Act} {Q : Exit → Act → World → Prop}
    (hg : o.guard = none) (l c : Operand) (t : TypeId) (hop : o.op = Op.makeSlice t l c) (ht : P.underlying t = some (.slice 56)) (hi : (P.info? 56).map (fun i => (i.zero, i.size, i.bytes)) = some (some (.agg #[.int .i64 0, .int .i64 0, .string ByteArray.empty]), 3, 32))
    (base : Nat) (n : Nat) (hl : a.eval l = .int .i64 0) (hc : a.eval c = .int .i64 n) (hn : n ≤ 100000) (hb : base ≤ w.heap.size)
    (hK : ∀ v' w', OwnC w' base v' [] → Below w.heap.size w w' → wpList P ops Q rest (a.put o.dst v') w') : wpList P ops Q (o :: rest) a w := by
  obtain ⟨i0, hi0, hz0, hz1, hz2⟩ := info_parts hi
  refine wpList_make_own w hg l c t hop base 56 i0 _ 3 ht hi0 hz0 hz1 .i64 .i64 n n hl hc rfl (by rw [hz2]; omega) (by unfold maxLen; omega) hb ?_
  intro w' ho hgr
  exact hK _ w' ho ((Below.refl _ _).grown hgr (Nat.le_refl _) (fun k hk => by cases hk))
set_option maxHeartbeats 4000000 in
set_option maxRecDepth 100000 in
theorem around_nil (k : Int) (t : ByteArray) (w : World) :
    Calls Tryd.prog 49 #[.int .i64 k, .string t, .slice none 0 0] w fun e w' => ∃ p cap, e = .returned (.slice p 1 cap) ∧ OwnC w' w.heap.size (.slice p 1 cap) [⟨k, 0, t⟩] ∧ Below w.heap.size w w' := by
  go_enter Tryd.func49, Tryd.ntmps49
  go_wp2
  go_loop [7, 15] (fun a b => a = .int .i64 1 ∧ b = .int .i64 0) (fun _ _ => 0)
  case atStart => exact ⟨rfl, rfl⟩
  case round =>
    obtain ⟨rfl, rfl⟩ := hrel
    go_wp2_with (at_make; refine make_cr _ rfl _ _ 30 rfl Tryd.underlying30 info_cr w.heap.size 1 rfl rfl (by omega) (Nat.le_refl _) ?_; intro v2 w2 ho2 hb2)
    have O2 : Hid (OwnC w2 w.heap.size v2 []) := ho2
    have B2 : Hid (Below w.heap.size w w2) := hb2
    clear ho2 hb2
    go_loopw [10, 32] (fun a b wr => a = v2 ∧ b = .int .i64 0 ∧ wr = w2) (fun _ _ _ => 0)
    case atStart => exact ⟨rfl, rfl, rfl⟩
    case round =>
      obtain ⟨rfl, rfl, rfl⟩ := hrel
      go_wp2_with (at_builtin; refine append_cr rfl (.tmp 40) (.tmp 46) 30 rfl w.heap.size Tryd.underlying30 info_cr _ _ _ _ [] ⟨k, 0, t⟩ _ rfl O2.out _ rfl rfl rfl (by simp) B2.out.size ?_; intro v8 w8 ho8 hb8)
      go_ret
      obtain ⟨p, cap, rfl⟩ := ho8.form
      exact ⟨p, cap, rfl, ho8, B2.out.trans hb8⟩
/-- Leaf's answer. -/
def leafE (k : Int) (t : ByteArray) : Int := if isK k = false ∨ 0 < (frow k).least then 1 else if 4096 < t.size then 3 else if txT (frow k).text t = true then 0 else 2
def leafL (k : Int) (t : ByteArray) : List Cr := if leafE k t = 0 then [⟨k, 0, t⟩] else []
end Go.Proofs.YtkebflllbphkkaaDoor
