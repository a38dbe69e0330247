/- Failures, the reference: begins, Check. -/
import Derived.Test.YtbgeihgenckihaaDoorFx3b
import Derived.Test.YtbgeihgenckihaaDoorBytes
import Derived.Deep.AppendLies
import Derived.OwnWalk
namespace Go.Proofs.YtbgeihgenckihaaDoor
open Go.RowKit

theorem info_parts {P : Program} {t : TypeId} {z : Value} {n m : Nat} (h : (P.info? t).map (fun i => (i.zero, i.size, i.bytes)) = some (some z, n, m)) : ∃ i, P.info? t = some i ∧ i.zero = some z ∧ i.size = n ∧ i.bytes = m := by
  obtain ⟨i, h1, h2⟩ := Option.map_eq_some_iff.1 h
  simp only [Prod.mk.injEq] at h2
  exact ⟨i, h1, h2.1, h2.2.1, h2.2.2⟩
theorem info_int : (Tryd.prog.info? 3).map (fun i => (i.zero, i.size, i.bytes)) = some (some (.int .i64 0), 1, 8) := by kernel_rfl
def iV (l : List Int) : List Value := l.map (Value.int .i64)
theorem iV_len (l : List Int) : (iV l).length = l.length := by simp [iV]
/-- The slice owns these numbers. -/
def OwnI (w : World) (base : Nat) (v : Value) (l : List Int) : Prop := w.ownsRow base 3 1 v l.length (iV l)
theorem ownI_empty (w : World) : OwnI (w.alloc (.cells #[] 3)) w.heap.size (.slice (some ⟨w.heap.size, 0, none⟩) 0 0) [] :=
  ⟨rfl, Or.inr ⟨w.heap.size, 0, #[], rfl, Nat.le_refl _, heap_alloc_new w _, Nat.le_refl _, Nat.zero_le _, rfl, rfl⟩⟩
theorem OwnI.far {w w' : World} {base : Nat} {v : Value} {l : List Int} (h : OwnI w base v l) (k : ∀ g, v.ownBlock = some g → w'.heap[g]? = w.heap[g]?) : OwnI w' base v l := by
  obtain ⟨h1, h2⟩ := h
  refine ⟨h1, ?_⟩
  rcases h2 with h2 | ⟨g, cap, cur, e1, e2, e3, e4⟩
  · exact Or.inl h2
  · exact Or.inr ⟨g, cap, cur, e1, e2, by rw [k g (by rw [e1]; rfl)]; exact e3, e4⟩
theorem OwnI.below {w : World} {base : Nat} {v : Value} {l : List Int} (h : OwnI w base v l) {w' : World} (k : Below w.heap.size w w') : OwnI w' base v l :=
  h.far (fun g hg => k.block g (World.ownsRow.lt h g hg).2)
theorem OwnI.low {w : World} {base base' : Nat} {v : Value} {l : List Int} (h : OwnI w base v l) (hb : base' ≤ base) : OwnI w base' v l := by
  obtain ⟨h1, h2⟩ := h
  refine ⟨h1, ?_⟩
  rcases h2 with h2 | ⟨g, cap, cur, e1, e2, e3⟩
  · exact Or.inl h2
  · exact Or.inr ⟨g, cap, cur, e1, Nat.le_trans hb e2, e3⟩
/-- The first m of them. -/
theorem OwnI.cut {w : World} {base g n cap : Nat} {l : List Int} (h : OwnI w base (.slice (some ⟨g, 0, none⟩) n cap) l) (m : Nat) (hm : m ≤ l.length) : OwnI w base (.slice (some ⟨g, 0, none⟩) m cap) (l.take m) := by
  obtain ⟨h1, h2⟩ := h
  have hl : (l.take m).length = m := by simp; omega
  refine ⟨by rw [iV_len]; omega, ?_⟩
  rcases h2 with ⟨h2, _⟩ | ⟨g', cp, cur, e1, e2, e3, e4, e5, e6, e7⟩
  · cases h2
  · injection e1 with e1 e8 e9
    refine Or.inr ⟨g', cap, cur, by rw [hl, ← e1], e2, e3, by omega, by omega, by rw [e9]; exact e6, ?_⟩
    rw [hl]
    have : cur.toList.take (m * 1) = (cur.toList.take (l.length * 1)).take (m * 1) := by rw [List.take_take]; congr 1; omega
    rw [this, e7]
    simp [iV, List.map_take]
theorem append_int {P : Program} {ops : Array Oper} {rest : List Oper} {o : Oper} {a : Act} {Q : Exit → Act → World → Prop} (hgd : o.guard = none) (s x : Operand) (t : TypeId)
    (ho : o.op = .call { callee := .builtin .append, args := #[s, x], argTypes := #[t, t] })
    (base : Nat) (ht : P.underlying t = some (.slice 3)) (hi : (P.info? 3).map (fun i => (i.zero, i.size, i.bytes)) = some (some (.int .i64 0), 1, 8))
    (w0 : World) (cells : Array Value) (tc : TypeId) (v : Value) (l : List Int) (f : Int) (c : Nat) (hs : a.eval s = v) (hown : OwnI w0 base v l) (b : Nat) (hb : w0.heap.size = b)
    (hx : a.eval x = .slice (some ⟨b, 0, none⟩) 1 c) (hc : cells.toList = [.int .i64 f])
    (hlen : l.length ≤ 100000) (hbase : base ≤ w0.heap.size)
    (h : ∀ g cap w', OwnI w' base (.slice (some ⟨g, 0, none⟩) (l.length + 1) cap) (l ++ [f]) → Below base w0 w' → (∀ k, k < w0.heap.size → some k ≠ v.ownBlock → w'.heap[k]? = w0.heap[k]?) → (v.ownBlock = some g ∨ w0.heap.size ≤ g) → wpList P ops Q rest (a.put o.dst (.slice (some ⟨g, 0, none⟩) (l.length + 1) cap)) w') : wpList P ops Q (o :: rest) a (w0.alloc (.cells cells tc)) := by
  subst hb
  obtain ⟨i0, hi0, hz0, hz1, hz2⟩ := info_parts hi
  have hown2 : (w0.alloc (.cells cells tc)).ownsRow base 3 1 v l.length (iV l) := World.ownsRow.alloc hown _
  have one : ∀ u ∈ [Value.int .i64 f], u.oneCell' = true := fun u hu => by simp at hu; subst hu; rfl
  refine wpList_append_lies _ hgd s x t ho base 3 i0 (.int .i64 0) 1 8 ht hi0 hz0 hz1 hz2 rfl (by decide) v l.length (iV l) hs hown2 ⟨w0.heap.size, 0, none⟩ 1 c [.int .i64 f] hx rfl (news_at w0 cells tc _ hc) one
    (by decide) (by unfold maxLen; omega) (by omega) (by simp; omega) _ rfl ?_
  intro g cap w' ho' hg hgg _
  have hgb : Below base w0 w' := ((Below.refl base w0).alloc hbase _).grown hg (by simp; omega) (fun q hq => (hown2.lt q hq).1)
  refine h g cap w' ?_ hgb ?_ ?_
  · unfold OwnI
    rw [List.length_append]
    simpa [iV] using ho'
  · intro k hk hne
    rw [hg.block k (by simp; omega) hne]
    exact Below.heap_alloc w0 _ k hk
  · rcases hgg with hgg | hgg
    · exact Or.inl hgg
    · right; rw [hgg]; simp
/-- Of each crack where its sub-failure begins, and the stack behind all; none: the failure is not right. -/
def begS : Nat → List Int → List Cr → Option (List Int × List Int)
  | _, S, [] => some ([], S)
  | i, S, c :: r =>
    if crR c = true ∧ c.n ≤ S.length then
      let b := if 0 < c.n then S.getD (S.length - c.n.toNat) 0 else (i : Int)
      (begS (i + 1) (S.take (S.length - c.n.toNat) ++ [b]) r).map fun q => (b :: q.1, q.2)
    else none
theorem crR_n {c : Cr} (h : crR c = true) : 0 ≤ c.n := by
  unfold crR at h
  repeat' split at h
  all_goals simp at h
  all_goals omega
/-- Of the walk only the stack's length counts. -/
theorem beg_walk : ∀ (l : List Cr) (i : Nat) (S : List Int), S.length + l.length ≤ 1024 → (begS i S l).map (fun q => (q.2.length : Int)) = walkC S.length l
  | [], i, S, _ => rfl
  | c :: r, i, S, h => by
    simp only [List.length_cons] at h
    by_cases hc : crR c = true ∧ c.n ≤ S.length
    · have hn := crR_n hc.1
      obtain ⟨b, hb⟩ : ∃ b, b = (if 0 < c.n then S.getD (S.length - c.n.toNat) 0 else (i : Int)) := ⟨_, rfl⟩
      have e1 : begS i S (c :: r) = (begS (i + 1) (S.take (S.length - c.n.toNat) ++ [b]) r).map fun q => (b :: q.1, q.2) := by rw [begS, if_pos hc, hb]
      have hcc : crB c = true ∧ c.n ≤ S.length := ⟨by rw [crB_crR, hc.1]; simp; omega, hc.2⟩
      have e2 : walkC S.length (c :: r) = walkC (S.length + (1 - c.n)) r := by rw [walkC, if_pos hcc]
      have hl : (S.take (S.length - c.n.toNat) ++ [b]).length = S.length - c.n.toNat + 1 := by simp
      have ih := beg_walk r (i + 1) (S.take (S.length - c.n.toNat) ++ [b]) (by rw [hl]; omega)
      rw [hl] at ih
      rw [e1, e2, show (S.length : Int) + (1 - c.n) = ((S.length - c.n.toNat + 1 : Nat) : Int) by omega, ← ih, Option.map_map]
      rfl
    · have e1 : begS i S (c :: r) = none := by rw [begS, if_neg hc]
      have e2 : walkC S.length (c :: r) = none := by
        rw [walkC, if_neg (fun h2 => hc ⟨by have := h2.1; rw [crB_crR] at this; simp at this; exact this.1, h2.2⟩)]
      rw [e1, e2]; rfl
/-- What begins says is Check's answer. -/
theorem chk_beg (l : List Cr) (hl : l.length ≤ 1024) : chk l = match begS 0 [] l with | some q => if q.2.length = 1 then 0 else 5 | none => 5 := by
  have h := beg_walk l 0 [] (by simpa using hl)
  unfold chk
  rw [if_neg (by omega)]
  simp only [List.length_nil] at h
  rw [show (0 : Int) = ((0 : Nat) : Int) from rfl, ← h]
  cases begS 0 [] l with
  | none => rfl
  | some q =>
    simp only [Option.map_some, Option.some.injEq]
    by_cases e : q.2.length = 1
    · rw [if_pos e, if_pos (by omega)]
    · rw [if_neg e, if_neg (by omega)]
theorem beg_len : ∀ (l : List Cr) (i : Nat) (S : List Int) (q : List Int × List Int), begS i S l = some q → q.1.length = l.length
  | [], i, S, q, h => by rw [begS] at h; injection h with h; subst h; rfl
  | c :: r, i, S, q, h => by
    rw [begS] at h
    split at h
    · obtain ⟨q2, h1, h2⟩ := Option.map_eq_some_iff.1 h
      have := beg_len r _ _ q2 h1
      subst h2; simp [this]
    · cases h
theorem OwnI.form {w : World} {base : Nat} {v : Value} {l : List Int} (h : OwnI w base v l) : ∃ p cap, v = .slice p l.length cap := by
  rcases h.2 with ⟨rfl, e⟩ | ⟨g, cap, cur, rfl, _⟩
  · exact ⟨none, 0, by rw [e]⟩
  · exact ⟨_, cap, rfl⟩
/-- A row, and another one beside it. -/
structure BI (w wk : World) (vf vs : Value) (F S : List Int) (k : Nat) (l : List Cr) : Prop where
  f : OwnI wk w.heap.size vf F
  s : OwnI wk w.heap.size vs S
  nf : vf.ownBlock ≠ none
  ns : vs.ownBlock ≠ none
  ne : vf.ownBlock ≠ vs.ownBlock
  bl : Below w.heap.size w wk
  eq : begS 0 [] l = (begS k S (l.drop k)).map fun q => (F ++ q.1, q.2)
  lf : F.length = k
  ls : S.length ≤ k
theorem BI.below {w wk w' : World} {vf vs : Value} {F S : List Int} {k : Nat} {l : List Cr} (h : BI w wk vf vs F S k l) (B : Below wk.heap.size wk w') : BI w w' vf vs F S k l :=
  ⟨h.f.below B, h.s.below B, h.nf, h.ns, h.ne, h.bl.trans (B.mono h.bl.size), h.eq, h.lf, h.ls⟩
theorem BI.start (w : World) (l : List Cr) : BI w ((w.alloc (.cells #[] 3)).alloc (.cells #[] 3)) (.slice (some ⟨w.heap.size, 0, none⟩) 0 0) (.slice (some ⟨w.heap.size + 1, 0, none⟩) 0 0) [] [] 0 l := by
  have a := (ownI_empty w).below ((Below.refl _ _).alloc (Nat.le_refl _) (.cells #[] 3))
  have b := ownI_empty (w.alloc (.cells #[] 3))
  have hs : (w.alloc (.cells #[] 3)).heap.size = w.heap.size + 1 := by simp
  rw [hs] at b
  refine ⟨a, b.low (by omega), by simp [Value.ownBlock], by simp [Value.ownBlock], by simp [Value.ownBlock], ((Below.refl _ _).alloc (Nat.le_refl _) _).alloc (by simp) _, ?_, rfl, Nat.le_refl _⟩
  simp
end Go.Proofs.YtbgeihgenckihaaDoor
