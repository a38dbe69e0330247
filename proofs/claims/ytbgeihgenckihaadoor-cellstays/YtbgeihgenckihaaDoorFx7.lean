/- Failures: CopyFail, SameFail, Leaf. -/
import Derived.Test.YtbgeihgenckihaaDoorFx6
import Derived.Laws.AppendOwnNone
namespace Go.Proofs.YtbgeihgenckihaaDoor
open Go.RowKit

/-- A list of cracks, appended to a row of the call's own. -/
theorem append_crs {P : Program} {ops : Array Oper} {rest : List Oper} {o : Oper} {a : Act} {Q : Exit → Act → World → Prop} (hgd : o.guard = none) (s x : Operand) (t : TypeId)
    (ho : o.op = .call { callee := .builtin .append, args := #[s, x], argTypes := #[t, t] })
    (base : Nat) (ht : P.underlying t = some (.slice 79)) (hi : (P.info? 79).map (fun i => (i.zero, i.size, i.bytes)) = some (some (.agg #[.int .i64 0, .int .i64 0, .string ByteArray.empty]), 3, 32))
    (w : World) (v vx : Value) (l m : List Cr) (hs : a.eval s = v) (hx : a.eval x = vx) (hown : OwnC w base v l) (hm : CS w vx m)
    (hlen : (l.length + m.length) * 32 ≤ 140737488355328) (hbase : base ≤ w.heap.size)
    (h : ∀ v' w', OwnC w' base v' (l ++ m) → Below base w w' → wpList P ops Q rest (a.put o.dst v') w') : wpList P ops Q (o :: rest) a w := by
  obtain ⟨i0, hi0, hz0, hz1, hz2⟩ := info_parts hi
  have hm0 := hm
  rcases hm with ⟨rfl | ⟨ad, cap, rfl⟩, hmn⟩ | ⟨X, ox, cap, rfl, _⟩
  · subst hmn
    refine wpList_append_own_none hgd s x t ho base 79 i0 3 ht hi0 v l.length (l.flatMap crC) hs hown hx ?_
    exact h v w (by rw [List.append_nil]; exact hown) (Below.refl _ _)
  · subst hmn
    refine wpList_append_own _ hgd s x t ho base 79 i0 (.agg #[.int .i64 0, .int .i64 0, .string ByteArray.empty]) 3 32 ht hi0 hz0 hz1 hz2 rfl (by decide) v l.length (l.flatMap crC) hs hown ad 0 cap [] hx rfl (fun j u hj => by simp at hj) (fun u hu => by cases hu)
      (by unfold maxLen; simp at hlen; omega) (by simpa using hlen) hbase ?_
    intro v' w' ho' hg _
    refine h v' w' ?_ ((Below.refl base w).grown hg hbase (fun q hq => (World.ownsRow.lt hown q hq).1))
    unfold OwnC
    rw [List.append_nil]
    simpa using ho'
  · have one : ∀ u ∈ m.flatMap crC, u.oneCell' = true := fun u hu => by
      obtain ⟨f, _, hf⟩ := List.mem_flatMap.1 hu
      simp [crC] at hf; rcases hf with rfl | rfl | rfl <;> rfl
    refine wpList_append_own _ hgd s x t ho base 79 i0 (.agg #[.int .i64 0, .int .i64 0, .string ByteArray.empty]) 3 32 ht hi0 hz0 hz1 hz2 rfl (by decide) v l.length (l.flatMap crC) hs hown ⟨X, ox, none⟩ m.length cap (m.flatMap crC) hx (crC_len m) hm0.news one
      (by unfold maxLen; omega) hlen hbase ?_
    intro v' w' ho' hg _
    refine h v' w' ?_ ((Below.refl base w).grown hg hbase (fun q hq => (World.ownsRow.lt hown q hq).1))
    unfold OwnC
    rw [List.length_append, List.flatMap_append]
    exact ho'
theorem OwnC.form {w : World} {base : Nat} {v : Value} {l : List Cr} (h : OwnC w base v l) : ∃ p cap, v = .slice p l.length cap := h.cs.form
set_option maxHeartbeats 2000000 in
theorem copyFail_any (v : Value) (l : List Cr) (w : World) (h : CS w v l) (hl : l.length * 32 ≤ 140737488355328) :
    Calls Tryd.prog 38 #[v] w fun e w' => ∃ p cap, e = .returned (.slice p l.length cap) ∧ OwnC w' w.heap.size (.slice p l.length cap) l ∧ Below w.heap.size w w' := by
  have H0 : Hid (CS (w.alloc (.cells #[] 79)) v l) := h.below ((Below.refl _ _).alloc (Nat.le_refl _) _)
  have E0 : Hid (OwnC (w.alloc (.cells #[] 79)) w.heap.size (.slice (some ⟨w.heap.size, 0, none⟩) 0 0) []) := ownC_empty w
  have HL : Hid ((([] : List Cr).length + l.length) * 32 ≤ 140737488355328) := by show (([] : List Cr).length + l.length) * 32 ≤ 140737488355328; simpa using hl
  clear h
  go_enter Tryd.func38, Tryd.ntmps38
  go_wp2_with (at_builtin; refine append_crs rfl (.tmp 3) (.tmp 4) 34 rfl w.heap.size Tryd.underlying34 info_cr _ _ v [] l rfl rfl E0.out H0.out HL.out (by simp) ?_; intro v8 w8 ho8 hb8)
  go_ret
  rw [List.nil_append] at ho8
  obtain ⟨p, cap, rfl⟩ := ho8.form
  exact ⟨p, cap, rfl, ho8, ((Below.refl _ _).alloc (Nat.le_refl _) _).trans hb8⟩
set_option maxHeartbeats 4000000 in
theorem sameFail_same (w : World) (v1 v2 : Value) (l : List Cr) (h1 : CS w v1 l) (h2 : CS w v2 l) (hl : l.length ≤ 100000000000000000) :
    Calls Tryd.prog 42 #[v1, v2] w fun e w' => e = .returned (.bool true) ∧ ∃ n, w' = w.drewN n := by
  obtain ⟨p1, c1, rfl⟩ := h1.form
  obtain ⟨p2, c2, rfl⟩ := h2.form
  have A1 : Hid (CS w (.slice p1 l.length c1) l) := h1
  have A2 : Hid (CS w (.slice p2 l.length c2) l) := h2
  clear h1 h2
  go_enter Tryd.func42, Tryd.ntmps42
  go_wp2
  go_loopw [5] (fun v5 wr => ∃ (k m : Nat), v5 = .int .i64 k ∧ k ≤ l.length ∧ wr = w.drewN m) (fun v5 _ => l.length - (intOf v5).toNat)
  case atStart => exact ⟨0, 0, rfl, Nat.zero_le _, rfl⟩
  case round =>
    obtain ⟨k, m, rfl, hk, rfl⟩ := hrel
    by_cases hlt : k < l.length
    · obtain ⟨X1, o1, e1, x1, x2, x3⟩ := A1.out.at hlt
      obtain rfl : p1 = some ⟨X1, o1, none⟩ := e1
      obtain ⟨X2, o2, e2, y1, y2, y3⟩ := A2.out.at hlt
      obtain rfl : p2 = some ⟨X2, o2, none⟩ := e2
      obtain ⟨f, hf⟩ : ∃ f, f = l[k] := ⟨_, rfl⟩
      rw [← hf] at x1 x2 x3 y1 y2 y3
      clear hf
      go_wp2
      go_quiet (fail)
      go_wp2
      all_goals
        go_roundw
        case rel => exact ⟨k + 1, _, by go_num, by omega, rfl⟩
        case measure => simp [intOf]; omega
    · go_wp2
      go_ret
      exact ⟨rfl, m, rfl⟩
end Go.Proofs.YtbgeihgenckihaaDoor
