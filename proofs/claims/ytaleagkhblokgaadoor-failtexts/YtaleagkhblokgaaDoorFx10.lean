/- Failures: the reference's Deep. -/
import Derived.Test.YtaleagkhblokgaaDoorFx6
import Derived.Laws.AppendOwnNone
namespace Go.Proofs.YtaleagkhblokgaaDoor
open Go.RowKit

/-- A list of cracks, appended to a row of the call's own. -/
theorem append_crs {P : Program} {ops : Array Oper} {rest : List Oper} {o : Oper} {a : Act} {Q : Exit → Act → World → Prop} (hgd : o.guard = none) (s x : Operand) (t : TypeId)
    (ho : o.op = .call { callee := .builtin .append, args := #[s, x], argTypes := #[t, t] })
    (base : Nat) (ht : P.underlying t = some (.slice 55)) (hi : (P.info? 55).map (fun i => (i.zero, i.size, i.bytes)) = some (some (.agg #[.int .i64 0, .int .i64 0, .string ByteArray.empty]), 3, 32))
    (w : World) (v vx : Value) (l m : List Cr) (hs : a.eval s = v) (hx : a.eval x = vx) (hown : OwnC w base v l) (hm : CS w vx m)
    (hlen : (l.length + m.length) * 32 ≤ 140737488355328) (hbase : base ≤ w.heap.size)
    (h : ∀ v' w', OwnC w' base v' (l ++ m) → Below base w w' → wpList P ops Q rest (a.put o.dst v') w') : wpList P ops Q (o :: rest) a w := by
  obtain ⟨i0, hi0, hz0, hz1, hz2⟩ := info_parts hi
  have hm0 := hm
  rcases hm with ⟨rfl | ⟨ad, cap, rfl⟩, hmn⟩ | ⟨X, ox, cap, rfl, _⟩
  · subst hmn
    refine wpList_append_own_none hgd s x t ho base 55 i0 3 ht hi0 v l.length (l.flatMap crC) hs hown hx ?_
    exact h v w (by rw [List.append_nil]; exact hown) (Below.refl _ _)
  · subst hmn
    refine wpList_append_own _ hgd s x t ho base 55 i0 (.agg #[.int .i64 0, .int .i64 0, .string ByteArray.empty]) 3 32 ht hi0 hz0 hz1 hz2 rfl (by decide) v l.length (l.flatMap crC) hs hown ad 0 cap [] hx rfl (fun j u hj => by simp at hj) (fun u hu => by cases hu)
      (by unfold maxLen; simp at hlen; omega) (by simpa using hlen) hbase ?_
    intro v' w' ho' hg _
    refine h v' w' ?_ ((Below.refl base w).grown hg hbase (fun q hq => (World.ownsRow.lt hown q hq).1))
    unfold OwnC
    rw [List.append_nil]
    simpa using ho'
  · have one : ∀ u ∈ m.flatMap crC, u.oneCell' = true := fun u hu => by
      obtain ⟨f, _, hf⟩ := List.mem_flatMap.1 hu
      simp [crC] at hf; rcases hf with rfl | rfl | rfl <;> rfl
    refine wpList_append_own _ hgd s x t ho base 55 i0 (.agg #[.int .i64 0, .int .i64 0, .string ByteArray.empty]) 3 32 ht hi0 hz0 hz1 hz2 rfl (by decide) v l.length (l.flatMap crC) hs hown ⟨X, ox, none⟩ m.length cap (m.flatMap crC) hx (crC_len m) hm0.news one
      (by unfold maxLen; omega) hlen hbase ?_
    intro v' w' ho' hg _
    refine h v' w' ?_ ((Below.refl base w).grown hg hbase (fun q hq => (World.ownsRow.lt hown q hq).1))
    unfold OwnC
    rw [List.length_append, List.flatMap_append]
    exact ho'
theorem OwnC.form {w : World} {base : Nat} {v : Value} {l : List Cr} (h : OwnC w base v l) : ∃ p cap, v = .slice p l.length cap := h.cs.form
set_option maxHeartbeats 2000000 in
theorem copyFail_any (v : Value) (l : List Cr) (w : World) (h : CS w v l) (hl : l.length * 32 ≤ 140737488355328) :
    Calls Tryd.prog 9 #[v] w fun e w' => ∃ p cap, e = .returned (.slice p l.length cap) ∧ OwnC w' w.heap.size (.slice p l.length cap) l ∧ Below w.heap.size w w' := by
  have H0 : Hid (CS (w.alloc (.cells #[] 55)) v l) := h.below ((Below.refl _ _).alloc (Nat.le_refl _) _)
  have E0 : Hid (OwnC (w.alloc (.cells #[] 55)) w.heap.size (.slice (some ⟨w.heap.size, 0, none⟩) 0 0) []) := ownC_empty w
  have HL : Hid ((([] : List Cr).length + l.length) * 32 ≤ 140737488355328) := by show (([] : List Cr).length + l.length) * 32 ≤ 140737488355328; simpa using hl
  clear h
  go_enter Tryd.func9, Tryd.ntmps9
  go_wp2_with (at_builtin; refine append_crs rfl (.tmp 3) (.tmp 4) 23 rfl w.heap.size Tryd.underlying23 info_cr _ _ v [] l rfl rfl E0.out H0.out HL.out (by simp) ?_; intro v8 w8 ho8 hb8)
  go_ret
  rw [List.nil_append] at ho8
  obtain ⟨p, cap, rfl⟩ := ho8.form
  exact ⟨p, cap, rfl, ho8, ((Below.refl _ _).alloc (Nat.le_refl _) _).trans hb8⟩
set_option maxHeartbeats 4000000 in
theorem sameFail_same (w : World) (v1 v2 : Value) (l : List Cr) (h1 : CS w v1 l) (h2 : CS w v2 l) (hl : l.length ≤ 100000000000000000) :
    Calls Tryd.prog 15 #[v1, v2] w fun e w' => e = .returned (.bool true) ∧ ∃ n, w' = w.drewN n := by
  obtain ⟨p1, c1, rfl⟩ := h1.form
  obtain ⟨p2, c2, rfl⟩ := h2.form
  have A1 : Hid (CS w (.slice p1 l.length c1) l) := h1
  have A2 : Hid (CS w (.slice p2 l.length c2) l) := h2
  clear h1 h2
  go_enter Tryd.func15, Tryd.ntmps15
  go_wp2
  go_loopw [5] (fun v5 wr => ∃ (k m : Nat), v5 = .int .i64 k ∧ k ≤ l.length ∧ wr = w.drewN m) (fun v5 _ => l.length - (intOf v5).toNat)
  case atStart => exact ⟨0, 0, rfl, Nat.zero_le _, rfl⟩
  case round =>
    obtain ⟨k, m, rfl, hk, rfl⟩ := hrel
    by_cases hlt : k < l.length
    · obtain ⟨X1, o1, e1, x1, x2, x3⟩ := A1.out.at hlt
      obtain rfl : p1 = some ⟨X1, o1, none⟩ := e1
      obtain ⟨X2, o2, e2, y1, y2, y3⟩ := A2.out.at hlt
      obtain rfl : p2 = some ⟨X2, o2, none⟩ := e2
      obtain ⟨f, hf⟩ : ∃ f, f = l[k] := ⟨_, rfl⟩
      rw [← hf] at x1 x2 x3 y1 y2 y3
      clear hf
      go_wp2
      go_quiet (fail)
      go_wp2
      all_goals
        go_roundw
        case rel => exact ⟨k + 1, _, by go_num, by omega, rfl⟩
        case measure => simp [intOf]; omega
    · go_wp2
      go_ret
      exact ⟨rfl, m, rfl⟩
end Go.Proofs.YtaleagkhblokgaaDoor
namespace Go.Proofs.YtaleagkhblokgaaDoor
open Go.RowKit

theorem append_cr {P : Program} {ops : Array Oper} {rest : List Oper} {o : Oper} {a : Act} {Q : Exit → Act → World → Prop} (hgd : o.guard = none) (s x : Operand) (t : TypeId)
    (ho : o.op = .call { callee := .builtin .append, args := #[s, x], argTypes := #[t, t] })
    (base : Nat) (ht : P.underlying t = some (.slice 55)) (hi : (P.info? 55).map (fun i => (i.zero, i.size, i.bytes)) = some (some (.agg #[.int .i64 0, .int .i64 0, .string ByteArray.empty]), 3, 32))
    (w0 : World) (cells : Array Value) (tc : TypeId) (v : Value) (l : List Cr) (f : Cr) (c : Nat) (hs : a.eval s = v) (hown : OwnC w0 base v l) (b : Nat) (hb : w0.heap.size = b)
    (hx : a.eval x = .slice (some ⟨b, 0, none⟩) 1 c) (hc : cells.toList = crC f)
    (hlen : (l.length + 1) * 32 ≤ 140737488355328) (hbase : base ≤ w0.heap.size)
    (h : ∀ v' w', OwnC w' base v' (l ++ [f]) → Below base w0 w' → wpList P ops Q rest (a.put o.dst v') w') : wpList P ops Q (o :: rest) a (w0.alloc (.cells cells tc)) := by
  subst hb
  obtain ⟨i0, hi0, hz0, hz1, hz2⟩ := info_parts hi
  have hown2 : (w0.alloc (.cells cells tc)).ownsRow base 55 3 v l.length (l.flatMap crC) := World.ownsRow.alloc hown _
  have one : ∀ u ∈ crC f, u.oneCell' = true := fun u hu => by simp [crC] at hu; rcases hu with rfl | rfl | rfl <;> rfl
  refine wpList_append_own _ hgd s x t ho base 55 i0 (.agg #[.int .i64 0, .int .i64 0, .string ByteArray.empty]) 3 32 ht hi0 hz0 hz1 hz2 rfl (by decide) v l.length (l.flatMap crC) hs hown2 ⟨w0.heap.size, 0, none⟩ 1 c (crC f) hx rfl (news_at w0 cells tc _ hc) one
    (by unfold maxLen; omega) hlen (by simp; omega) ?_
  intro v' w' ho' hg _
  have hgb : Below base w0 w' := ((Below.refl base w0).alloc hbase _).grown hg (by simp; omega) (fun q hq => (hown2.lt q hq).1)
  refine h v' w' ?_ hgb
  unfold OwnC
  rw [List.length_append, List.flatMap_append]
  simpa using ho'
theorem make_cr {P : Program} (w : World) {ops : Array Oper} {rest : List Oper} {o : Oper} {a : Act} {Q : Exit → Act → World → Prop}
    (hg : o.guard = none) (l c : Operand) (t : TypeId) (hop : o.op = Op.makeSlice t l c) (ht : P.underlying t = some (.slice 55)) (hi : (P.info? 55).map (fun i => (i.zero, i.size, i.bytes)) = some (some (.agg #[.int .i64 0, .int .i64 0, .string ByteArray.empty]), 3, 32))
    (base : Nat) (n : Nat) (hl : a.eval l = .int .i64 0) (hc : a.eval c = .int .i64 n) (hn : n ≤ 100000) (hb : base ≤ w.heap.size)
    (hK : ∀ v' w', OwnC w' base v' [] → Below w.heap.size w w' → wpList P ops Q rest (a.put o.dst v') w') : wpList P ops Q (o :: rest) a w := by
  obtain ⟨i0, hi0, hz0, hz1, hz2⟩ := info_parts hi
  refine wpList_make_own w hg l c t hop base 55 i0 _ 3 ht hi0 hz0 hz1 .i64 .i64 n n hl hc rfl (by rw [hz2]; omega) (by unfold maxLen; omega) hb ?_
  intro w' ho hgr
  exact hK _ w' ho ((Below.refl _ _).grown hgr (Nat.le_refl _) (fun k hk => by cases hk))
set_option maxHeartbeats 4000000 in
set_option maxRecDepth 100000 in
theorem around_nil (k : Int) (t : ByteArray) (w : World) :
    Calls Tryd.prog 54 #[.int .i64 k, .string t, .slice none 0 0] w fun e w' => ∃ p cap, e = .returned (.slice p 1 cap) ∧ OwnC w' w.heap.size (.slice p 1 cap) [⟨k, 0, t⟩] ∧ Below w.heap.size w w' := by
  go_enter Tryd.func54, Tryd.ntmps54
  go_wp2
  go_loop [7, 15] (fun a b => a = .int .i64 1 ∧ b = .int .i64 0) (fun _ _ => 0)
  case atStart => exact ⟨rfl, rfl⟩
  case round =>
    obtain ⟨rfl, rfl⟩ := hrel
    go_wp2_with (at_make; refine make_cr _ rfl _ _ 23 rfl Tryd.underlying23 info_cr w.heap.size 1 rfl rfl (by omega) (Nat.le_refl _) ?_; intro v2 w2 ho2 hb2)
    have O2 : Hid (OwnC w2 w.heap.size v2 []) := ho2
    have B2 : Hid (Below w.heap.size w w2) := hb2
    clear ho2 hb2
    go_loopw [10, 32] (fun a b wr => a = v2 ∧ b = .int .i64 0 ∧ wr = w2) (fun _ _ _ => 0)
    case atStart => exact ⟨rfl, rfl, rfl⟩
    case round =>
      obtain ⟨rfl, rfl, rfl⟩ := hrel
      go_wp2_with (at_builtin; refine append_cr rfl (.tmp 40) (.tmp 46) 23 rfl w.heap.size Tryd.underlying23 info_cr _ _ _ _ [] ⟨k, 0, t⟩ _ rfl O2.out _ rfl rfl rfl (by simp) B2.out.size ?_; intro v8 w8 ho8 hb8)
      go_ret
      obtain ⟨p, cap, rfl⟩ := ho8.form
      exact ⟨p, cap, rfl, ho8, B2.out.trans hb8⟩
/-- Leaf's answer. -/
def leafE (k : Int) (t : ByteArray) : Int := if isK k = false ∨ 0 < (frow k).least then 1 else if 4096 < t.size then 3 else if txT (frow k).text t = true then 0 else 2
def leafL (k : Int) (t : ByteArray) : List Cr := if leafE k t = 0 then [⟨k, 0, t⟩] else []
end Go.Proofs.YtaleagkhblokgaaDoor
namespace Go.Proofs.YtaleagkhblokgaaDoor
open Go.RowKit

theorem leaf_crR {k : Int} {t : ByteArray} (hk : isK k = true) (h9 : k ≠ 9) (h10 : k ≠ 10) : (frow k).least = 0 ∧ crR ⟨k, 0, t⟩ = txT (frow k).text t := by
  have e := crB_crR ⟨k, 0, t⟩
  have hk2 := (isK_iff k).1 hk
  have hkk : k = 1 ∨ k = 2 ∨ k = 3 ∨ k = 4 ∨ k = 5 ∨ k = 6 ∨ k = 7 ∨ k = 8 ∨ k = 11 := by omega
  have hr : (frow k).least = 0 ∧ (0 : Int) ≤ (frow k).most := by
    rcases hkk with e | e | e | e | e | e | e | e | e <;> rw [e] <;> decide
  refine ⟨hr.1, ?_⟩
  unfold crB at e
  simp only at e
  rw [hk, hr.1, decide_eq_true (show (0 : Int) ≤ 0 ∧ (0 : Int) ≤ (frow k).most from ⟨Int.le_refl _, hr.2⟩)] at e
  simpa using e.symm
theorem leafE_ref (k : Int) (t : ByteArray) : leafE k t = if k < 1 ∨ 11 < k ∨ k = 9 ∨ k = 10 then 1 else if 4096 < t.size then 3 else if crR ⟨k, 0, t⟩ = true then 0 else 2 := by
  unfold leafE
  by_cases h : k < 1 ∨ 11 < k ∨ k = 9 ∨ k = 10
  · rw [if_pos h, if_pos]
    rcases h with h | h | h | h
    · left; unfold isK; simp; omega
    · left; unfold isK; simp; omega
    · right; rw [h]; decide
    · right; rw [h]; decide
  · have hk : isK k = true := (isK_iff k).2 (by omega)
    obtain ⟨h1, h2⟩ := leaf_crR (t := t) hk (by omega) (by omega)
    rw [if_neg h, if_neg (by rw [hk, h1]; simp), h2]
end Go.Proofs.YtaleagkhblokgaaDoor
namespace Go.Proofs.YtaleagkhblokgaaDoor
open Go.RowKit

def mxL : List Int → Int
  | [] => 0
  | a :: r => max a (mxL r)
/-- The depths of the wholes that are left. -/
def dpS : List Int → List Cr → List Int
  | S, [] => S
  | S, c :: r => dpS (S.take (S.length - c.n.toNat) ++ [mxL (S.drop (S.length - c.n.toNat)) + 1]) r
def deepV (l : List Cr) : Int := (dpS [] l).getD 0 0
theorem mxL_bd : ∀ (L : List Int) (B : Int), 0 ≤ B → (∀ x ∈ L, x ≤ B) → 0 ≤ mxL L ∧ mxL L ≤ B
  | [], B, h, _ => ⟨Int.le_refl _, h⟩
  | a :: r, B, h, hx => by
    have h1 := mxL_bd r B h (fun x hx2 => hx x (List.mem_cons_of_mem _ hx2))
    have h2 := hx a (List.mem_cons_self ..)
    rw [mxL]; omega
theorem mxL_drop {S : List Int} {q : Nat} (h : q < S.length) : mxL (S.drop q) = max (S.getD q 0) (mxL (S.drop (q + 1))) := by
  rw [List.drop_eq_getElem_cons h, mxL]; simp [h]
theorem walk_step {c : Cr} {r : List Cr} {s t : Int} (h : walkC s (c :: r) = some t) : (crB c = true ∧ c.n ≤ s) ∧ walkC (s + (1 - c.n)) r = some t := by
  rw [walkC] at h
  split at h
  · rename_i hc; exact ⟨hc, h⟩
  · cases h
theorem chk_ok {l : List Cr} (h : chk l = 0) : l.length ≤ 1024 ∧ walkC 0 l = some 1 := by
  unfold chk at h
  split at h
  · omega
  · split at h
    · rename_i h1 h2; exact ⟨by omega, h2⟩
    · omega
/-- How far the reference's Deep has come. -/
structure DI (w wk : World) (g cs : Nat) (S : List Int) (k : Nat) (l : List Cr) : Prop where
  s : OwnI wk w.heap.size (.slice (some ⟨g, 0, none⟩) S.length cs) S
  bl : Below w.heap.size w wk
  wl : walkC S.length (l.drop k) = some 1
  dp : dpS [] l = dpS S (l.drop k)
  bd : ∀ x ∈ S, 0 ≤ x ∧ x ≤ k
  ls : S.length ≤ k
theorem own_cell {w : World} {base g n cap : Nat} {S : List Int} (h : OwnI w base (.slice (some ⟨g, 0, none⟩) n cap) S) (hn : n = S.length) {j : Nat} (hj : j < S.length) : w.cell? ⟨g, j, none⟩ = some (.int .i64 (S.getD j 0)) := by
  subst hn
  rw [World.ownsRow.cellAt h j (by omega)]
  simp [iV, hj]
theorem own_cap {w : World} {base g n cap : Nat} {S : List Int} (h : OwnI w base (.slice (some ⟨g, 0, none⟩) n cap) S) : S.length ≤ cap := by
  rcases h.2 with ⟨e, _⟩ | ⟨g', cp, cur, e, _, _, hcp, _⟩
  · cases e
  · injection e with _ _ e; omega
theorem mem_getD {S : List Int} {j : Nat} (h : j < S.length) : S.getD j 0 ∈ S := by
  rw [List.getD_eq_getElem?_getD, List.getElem?_eq_getElem h]; exact List.getElem_mem h
end Go.Proofs.YtaleagkhblokgaaDoor
