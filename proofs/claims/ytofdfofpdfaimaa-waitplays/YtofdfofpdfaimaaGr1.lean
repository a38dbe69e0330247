/- Rows of anything: slices that read as a list, rows of a call's own, append, make: once for every type of element. -/
import Derived.WalkKit
import Derived.WalkSpells
import Derived.WalkLawsBesides
import Derived.Deep.AppendLies
import Derived.OwnWalk
import Derived.Laws.AppendOwnNone
namespace Go.Proofs.Ytofdfofpdfaimaa
open Go.RowKit

/-- A type of element: its number, its cells, its bytes, its zero, and what a member lays into its cells. -/
structure RK (α : Type) where
  ty : TypeId
  W : Nat
  B : Nat
  z : Value
  f : α → List Value
structure RK.Ok {α : Type} (K : RK α) (P : Program) : Prop where
  len : ∀ x, (K.f x).length = K.W
  one : ∀ x, ∀ u ∈ K.f x, u.oneCell' = true
  zs : K.z.cells.size = K.W
  pos : 0 < K.W
  posB : 0 < K.B
  info : ∃ i, P.info? K.ty = some i ∧ i.zero = some K.z ∧ i.size = K.W ∧ i.bytes = K.B
theorem RK.flat_len {α : Type} {K : RK α} (hk : ∀ x, (K.f x).length = K.W) (l : List α) : (l.flatMap K.f).length = l.length * K.W := by
  induction l with
  | nil => simp
  | cons t r ih => rw [List.flatMap_cons, List.length_append, ih, hk, List.length_cons, Nat.add_mul]; omega
theorem RK.flat_at {α : Type} {K : RK α} (hk : ∀ x, (K.f x).length = K.W) (l : List α) (k i : Nat) (hkl : k < l.length) (hi : i < K.W) : (l.flatMap K.f)[k * K.W + i]? = (K.f l[k])[i]? := by
  induction l generalizing k with
  | nil => simp at hkl
  | cons t r ih =>
    rw [List.flatMap_cons]
    cases k with
    | zero => rw [Nat.zero_mul, Nat.zero_add, List.getElem?_append_left (by rw [hk]; exact hi)]; rfl
    | succ k =>
      have e : (k + 1) * K.W + i = K.W + (k * K.W + i) := by rw [Nat.add_mul]; omega
      rw [e, List.getElem?_append_right (by rw [hk]; omega), hk, Nat.add_sub_cancel_left]
      exact ih k (by simpa using hkl)
/-- The slice reads as these. -/
def GS {α : Type} (K : RK α) (w : World) (v : Value) (l : List α) : Prop :=
  ((v = .slice none 0 0 ∨ ∃ a c, v = .slice (some a) 0 c) ∧ l = []) ∨ ∃ X o cap, v = .slice (some ⟨X, o, none⟩) l.length cap ∧ X < w.heap.size ∧ l.length ≤ cap ∧ ∀ k (h : k < l.length) j u, (K.f l[k])[j]? = some u → w.cell? ⟨X, o + k * K.W + j, none⟩ = some u
theorem GS.form {α : Type} {K : RK α} {w : World} {v : Value} {l : List α} (h : GS K w v l) : ∃ p cap, v = .slice p l.length cap := by
  rcases h with ⟨rfl | ⟨a, c, rfl⟩, rfl⟩ | ⟨X, o, cap, rfl, _⟩
  · exact ⟨none, 0, rfl⟩
  · exact ⟨some a, c, rfl⟩
  · exact ⟨_, cap, rfl⟩
theorem GS.blk {α : Type} {K : RK α} {w w' : World} {v : Value} {l : List α} (h : GS K w v l) (hs : w.heap.size ≤ w'.heap.size) (k : ∀ x, v.ownBlock = some x → x < w.heap.size → w'.heap[x]? = w.heap[x]?) : GS K w' v l := by
  rcases h with h | ⟨X, o, cap, rfl, hX, hcp, hc⟩
  · exact Or.inl h
  · have kb : w'.heap[X]? = w.heap[X]? := k X rfl hX
    exact Or.inr ⟨X, o, cap, rfl, by omega, hcp, fun i hi j u hu => (World.cell?_of_block (w := w) (a := ⟨X, _, none⟩) kb).trans (hc i hi j u hu)⟩
theorem GS.below {α : Type} {K : RK α} {w w' : World} {v : Value} {l : List α} (h : GS K w v l) (k : Below w.heap.size w w') : GS K w' v l :=
  h.blk k.size (fun x _ hx => k.block x hx)
theorem GS.lt {α : Type} {K : RK α} {w : World} {v : Value} {l : List α} (h : GS K w v l) (hl : 0 < l.length) {x : Nat} (hx : v.ownBlock = some x) : x < w.heap.size := by
  rcases h with ⟨_, rfl⟩ | ⟨X, o, cap, rfl, hX, _⟩
  · simp at hl
  · injection hx with hx; subst hx; exact hX
theorem GS.at {α : Type} {K : RK α} {w : World} {p : Option Addr} {n cap k : Nat} {l : List α} (h : GS K w (.slice p n cap) l) (hk : k < l.length) : ∃ X o, p = some ⟨X, o, none⟩ ∧ X < w.heap.size ∧ ∀ j u, (K.f l[k])[j]? = some u → w.cell? ⟨X, o + k * K.W + j, none⟩ = some u := by
  rcases h with ⟨_, rfl⟩ | ⟨X, o, cap, e, hX, _, hc⟩
  · simp at hk
  · injection e with e1 e2 e3
    exact ⟨X, o, e1, hX, hc k hk⟩
theorem GS.cap {α : Type} {K : RK α} {w : World} {p : Option Addr} {n cap : Nat} {l : List α} (h : GS K w (.slice p n cap) l) : l.length ≤ cap := by
  rcases h with ⟨_, rfl⟩ | ⟨X, o, cap, e, _, hc, _⟩
  · simp
  · injection e with _ _ e3; omega
theorem GS.news {α : Type} {K : RK α} (hf : ∀ x, (K.f x).length = K.W) (hp : 0 < K.W) {w : World} {X o n cap : Nat} {l : List α} (h : GS K w (.slice (some ⟨X, o, none⟩) n cap) l) : ∀ j u, (l.flatMap K.f)[j]? = some u → w.cell? ((⟨X, o, none⟩ : Addr).add j) = some u := by
  rcases h with ⟨_, rfl⟩ | ⟨X', o', cap', e, hX, _, hc⟩
  · intro j u hj; simp at hj
  · injection e with e1 _ _
    injection e1 with e1
    injection e1 with e1 e2 _
    subst e1 e2
    intro j u hj
    have hjl : j < (l.flatMap K.f).length := by
      by_cases hlt : j < (l.flatMap K.f).length
      · exact hlt
      · rw [List.getElem?_eq_none (by omega)] at hj; cases hj
    rw [RK.flat_len hf] at hjl
    have hadd : (⟨X, o, none⟩ : Addr).add j = ⟨X, o + j, none⟩ := by
      unfold Addr.add; split
      · rename_i hz; rw [show o + j = o by omega]
      · rfl
    have hq : j / K.W < l.length := (Nat.div_lt_iff_lt_mul hp).2 hjl
    have hr : j % K.W < K.W := Nat.mod_lt _ hp
    have e : j / K.W * K.W + j % K.W = j := Nat.div_add_mod' j K.W
    have h3 := RK.flat_at hf l (j / K.W) (j % K.W) hq hr
    rw [e, hj] at h3
    have := hc (j / K.W) hq (j % K.W) u h3.symm
    rw [Nat.add_assoc, e] at this
    rw [hadd]; exact this
/-- The slice owns these. -/
def OwnG {α : Type} (K : RK α) (w : World) (base : Nat) (v : Value) (l : List α) : Prop := w.ownsRow base K.ty K.W v l.length (l.flatMap K.f)
theorem OwnG.far {α : Type} {K : RK α} {w w' : World} {base : Nat} {v : Value} {l : List α} (h : OwnG K w base v l) (k : ∀ g, v.ownBlock = some g → w'.heap[g]? = w.heap[g]?) : OwnG K w' base v l := by
  obtain ⟨h1, h2⟩ := h
  refine ⟨h1, ?_⟩
  rcases h2 with h2 | ⟨g, cap, cur, e1, e2, e3, e4⟩
  · exact Or.inl h2
  · exact Or.inr ⟨g, cap, cur, e1, e2, by rw [k g (by rw [e1]; rfl)]; exact e3, e4⟩
theorem OwnG.lt {α : Type} {K : RK α} {w : World} {base : Nat} {v : Value} {l : List α} (h : OwnG K w base v l) {g : Nat} (hg : v.ownBlock = some g) : base ≤ g ∧ g < w.heap.size := World.ownsRow.lt h g hg
theorem OwnG.below {α : Type} {K : RK α} {w : World} {base : Nat} {v : Value} {l : List α} (h : OwnG K w base v l) {w' : World} (k : Below w.heap.size w w') : OwnG K w' base v l :=
  h.far (fun _ hg => k.block _ (h.lt hg).2)
theorem OwnG.low {α : Type} {K : RK α} {w : World} {base base' : Nat} {v : Value} {l : List α} (h : OwnG K w base v l) (hb : base' ≤ base) : OwnG K w base' v l := by
  obtain ⟨h1, h2⟩ := h
  refine ⟨h1, ?_⟩
  rcases h2 with h2 | ⟨g, cap, cur, e1, e2, e3⟩
  · exact Or.inl h2
  · exact Or.inr ⟨g, cap, cur, e1, Nat.le_trans hb e2, e3⟩
theorem OwnG.form {α : Type} {K : RK α} {w : World} {base : Nat} {v : Value} {l : List α} (h : OwnG K w base v l) : ∃ p cap, v = .slice p l.length cap ∧ l.length ≤ cap := by
  rcases h.2 with ⟨e, e2⟩ | ⟨g, cap, cur, e, _, _, hcp, _⟩
  · exact ⟨none, 0, by rw [e2]; exact e, by omega⟩
  · exact ⟨_, cap, e, hcp⟩
/-- Where it lies. -/
theorem OwnG.place {α : Type} {K : RK α} {w : World} {base : Nat} {v : Value} {l : List α} (h : OwnG K w base v l) (hn : v.ownBlock ≠ none) : ∃ g cap, v = .slice (some ⟨g, 0, none⟩) l.length cap ∧ l.length ≤ cap := by
  rcases h.2 with ⟨e, e2⟩ | ⟨g, cap, cur, e, _, _, hcp, _⟩
  · exact absurd (by rw [e]; rfl) hn
  · exact ⟨g, cap, e, hcp⟩
theorem OwnG.gs {α : Type} {K : RK α} (hf : ∀ x, (K.f x).length = K.W) {w : World} {base : Nat} {v : Value} {l : List α} (h : OwnG K w base v l) : GS K w v l := by
  have h0 := h
  rcases h.2 with ⟨rfl, e⟩ | ⟨g, cap, cur, rfl, hb, hg, hcp, _⟩
  · exact Or.inl ⟨Or.inl rfl, List.length_eq_zero_iff.1 e⟩
  · refine Or.inr ⟨g, 0, cap, rfl, (h0.lt rfl).2, hcp, fun k hk j u hu => ?_⟩
    have hj : j < K.W := by
      by_cases hlt : j < K.W
      · exact hlt
      · rw [List.getElem?_eq_none (by rw [hf]; omega)] at hu; cases hu
    have hb2 : k * K.W + j < l.length * K.W := by
      have : (k + 1) * K.W ≤ l.length * K.W := Nat.mul_le_mul_right _ hk
      rw [Nat.add_mul] at this; omega
    rw [Nat.zero_add, World.ownsRow.cellAt h0 (k * K.W + j) hb2, RK.flat_at hf l k j hk hj]; exact hu
theorem OwnG.empty {α : Type} (K : RK α) (w : World) : OwnG K (w.alloc (.cells #[] K.ty)) w.heap.size (.slice (some ⟨w.heap.size, 0, none⟩) 0 0) [] :=
  ⟨by simp, Or.inr ⟨w.heap.size, 0, #[], rfl, Nat.le_refl _, heap_alloc_new w _, Nat.le_refl _, Nat.zero_le _, by simp, by simp⟩⟩
theorem OwnG.nil {α : Type} (K : RK α) (w : World) (base : Nat) : OwnG K w base (.slice none 0 0) [] := World.ownsRow_nil _ _ _ _
/-- The first m of them. -/
theorem OwnG.cut {α : Type} {K : RK α} (hf : ∀ x, (K.f x).length = K.W) {w : World} {base g n cap : Nat} {l : List α} (h : OwnG K w base (.slice (some ⟨g, 0, none⟩) n cap) l) (m : Nat) (hm : m ≤ l.length) : OwnG K w base (.slice (some ⟨g, 0, none⟩) m cap) (l.take m) := by
  obtain ⟨h1, h2⟩ := h
  have hl : (l.take m).length = m := by simp; omega
  refine ⟨RK.flat_len hf _, ?_⟩
  rcases h2 with ⟨h2, _⟩ | ⟨g', cp, cur, e1, e2, e3, e4, e5, e6, e7⟩
  · cases h2
  · injection e1 with e1 e8 e9
    refine Or.inr ⟨g', cap, cur, by rw [hl, ← e1], e2, e3, by omega, by omega, by rw [e9]; exact e6, ?_⟩
    rw [hl]
    have hle : m * K.W ≤ l.length * K.W := Nat.mul_le_mul_right _ hm
    have e10 : cur.toList.take (m * K.W) = (cur.toList.take (l.length * K.W)).take (m * K.W) := by rw [List.take_take, Nat.min_eq_left hle]
    rw [e10, e7]
    have e11 : l.flatMap K.f = (l.take m).flatMap K.f ++ (l.drop m).flatMap K.f := by rw [← List.flatMap_append, List.take_append_drop]
    rw [e11]
    exact List.take_left' (by rw [RK.flat_len hf, hl])
theorem gr_news_at (w0 : World) (cells : Array Value) (t : TypeId) (news : List Value) (h : cells.toList = news) : ∀ j u, news[j]? = some u → (w0.alloc (.cells cells t)).cell? ((⟨w0.heap.size, 0, none⟩ : Addr).add j) = some u := by
  intro j u hj
  have hadd : (⟨w0.heap.size, 0, none⟩ : Addr).add j = ⟨w0.heap.size, j, none⟩ := by unfold Addr.add; split <;> simp_all
  rw [hadd, cell_of_row _ _ _ _ _ _ (heap_alloc_new w0 _), ← Array.getElem?_toList, h]; exact hj
/-- One more. -/
theorem append_g {α : Type} {P : Program} (K : RK α) (hk : K.Ok P) {ops : Array Oper} {rest : List Oper} {o : Oper} {a : Act} {Q : Exit → Act → World → Prop} (hgd : o.guard = none) (s x : Operand) (t : TypeId)
    (ho : o.op = .call { callee := .builtin .append, args := #[s, x], argTypes := #[t, t] })
    (base : Nat) (ht : P.underlying t = some (.slice K.ty))
    (w0 : World) (cells : Array Value) (tc : TypeId) (v : Value) (l : List α) (f : α) (c : Nat) (hs : a.eval s = v) (hown : OwnG K w0 base v l) (b : Nat) (hb : w0.heap.size = b)
    (hx : a.eval x = .slice (some ⟨b, 0, none⟩) 1 c) (hc : cells.toList = K.f f)
    (hlen : (l.length + 1) * K.B ≤ 140737488355328) (hbase : base ≤ w0.heap.size)
    (h : ∀ g cap w', OwnG K w' base (.slice (some ⟨g, 0, none⟩) (l.length + 1) cap) (l ++ [f]) → Below base w0 w' → (∀ k, k < w0.heap.size → some k ≠ v.ownBlock → w'.heap[k]? = w0.heap[k]?) → (v.ownBlock = some g ∨ w0.heap.size ≤ g) → wpList P ops Q rest (a.put o.dst (.slice (some ⟨g, 0, none⟩) (l.length + 1) cap)) w') : wpList P ops Q (o :: rest) a (w0.alloc (.cells cells tc)) := by
  subst hb
  obtain ⟨i0, hi0, hz0, hz1, hz2⟩ := hk.info
  have hpb := hk.posB
  have hn : l.length + 1 ≤ 140737488355328 := Nat.le_trans (Nat.le_mul_of_pos_right _ hpb) hlen
  have hown2 : (w0.alloc (.cells cells tc)).ownsRow base K.ty K.W v l.length (l.flatMap K.f) := World.ownsRow.alloc hown _
  refine wpList_append_lies _ hgd s x t ho base K.ty i0 K.z K.W K.B ht hi0 hz0 hz1 hz2 hk.zs hk.pos v l.length (l.flatMap K.f) hs hown2 ⟨w0.heap.size, 0, none⟩ 1 c (K.f f) hx (by rw [hk.len]; omega) (gr_news_at w0 cells tc _ hc) (hk.one f)
    (by decide) (by unfold maxLen; omega) hlen (by simp; omega) _ rfl ?_
  intro g cap w' ho' hg hgg _
  have hgb : Below base w0 w' := ((Below.refl base w0).alloc hbase _).grown hg (by simp; omega) (fun q hq => (hown2.lt q hq).1)
  refine h g cap w' ?_ hgb ?_ ?_
  · unfold OwnG
    rw [List.length_append, List.flatMap_append]
    simpa using ho'
  · intro k hk hne
    rw [hg.block k (by simp; omega) hne]
    exact Below.heap_alloc w0 _ k hk
  · rcases hgg with hgg | hgg
    · exact Or.inl hgg
    · right; rw [hgg]; simp
/-- A list more. -/
theorem append_gs {α : Type} {P : Program} (K : RK α) (hk : K.Ok P) {ops : Array Oper} {rest : List Oper} {o : Oper} {a : Act} {Q : Exit → Act → World → Prop} (hgd : o.guard = none) (s x : Operand) (t : TypeId)
    (ho : o.op = .call { callee := .builtin .append, args := #[s, x], argTypes := #[t, t] })
    (base : Nat) (ht : P.underlying t = some (.slice K.ty))
    (w : World) (v vx : Value) (l m : List α) (hs : a.eval s = v) (hx : a.eval x = vx) (hown : OwnG K w base v l) (hm : GS K w vx m)
    (hlen : (l.length + m.length) * K.B ≤ 140737488355328) (hbase : base ≤ w.heap.size)
    (h : ∀ v' w', OwnG K w' base v' (l ++ m) → Below base w w' → (∀ k, k < w.heap.size → some k ≠ v.ownBlock → w'.heap[k]? = w.heap[k]?) → wpList P ops Q rest (a.put o.dst v') w') : wpList P ops Q (o :: rest) a w := by
  obtain ⟨i0, hi0, hz0, hz1, hz2⟩ := hk.info
  have hpb := hk.posB
  have hn : l.length + m.length ≤ 140737488355328 := Nat.le_trans (Nat.le_mul_of_pos_right _ hpb) hlen
  have hm0 := hm
  rcases hm with ⟨rfl | ⟨ad, cap, rfl⟩, hmn⟩ | ⟨X, ox, cap, rfl, _⟩
  · subst hmn
    refine wpList_append_own_none hgd s x t ho base K.ty i0 K.W ht hi0 v l.length (l.flatMap K.f) hs hown hx ?_
    exact h v w (by rw [List.append_nil]; exact hown) (Below.refl _ _) (fun _ _ _ => rfl)
  · subst hmn
    refine wpList_append_own _ hgd s x t ho base K.ty i0 K.z K.W K.B ht hi0 hz0 hz1 hz2 hk.zs hk.pos v l.length (l.flatMap K.f) hs hown ad 0 cap [] hx (by simp) (fun j u hj => by simp at hj) (fun u hu => by cases hu)
      (by unfold maxLen; simp at hn; omega) (by simpa using hlen) hbase ?_
    intro v' w' ho' hg _
    refine h v' w' ?_ ((Below.refl base w).grown hg hbase (fun q hq => (World.ownsRow.lt hown q hq).1)) (fun k hk hne => hg.block k hk hne)
    unfold OwnG
    rw [List.append_nil]
    simpa using ho'
  · have one : ∀ u ∈ m.flatMap K.f, u.oneCell' = true := fun u hu => by
      obtain ⟨f, _, hf⟩ := List.mem_flatMap.1 hu
      exact hk.one f u hf
    refine wpList_append_own _ hgd s x t ho base K.ty i0 K.z K.W K.B ht hi0 hz0 hz1 hz2 hk.zs hk.pos v l.length (l.flatMap K.f) hs hown ⟨X, ox, none⟩ m.length cap (m.flatMap K.f) hx (RK.flat_len hk.len m) (hm0.news hk.len hk.pos) one
      (by unfold maxLen; omega) hlen hbase ?_
    intro v' w' ho' hg _
    refine h v' w' ?_ ((Below.refl base w).grown hg hbase (fun q hq => (World.ownsRow.lt hown q hq).1)) (fun k hk hne => hg.block k hk hne)
    unfold OwnG
    rw [List.length_append, List.flatMap_append]
    exact ho'
theorem madeCells_list (c : Array Value) (n : Nat) (d : Value) (hd : c.toList = [d]) : (madeCells c (n * 1)).toList = List.replicate n d := by
  obtain ⟨l⟩ := c
  simp only at hd
  subst hd
  simp [madeCells, Nat.mod_one, List.map_const']
theorem flat_rep {α : Type} (f : α → List Value) (x : α) (d : Value) (h : f x = [d]) (n : Nat) : (List.replicate n x).flatMap f = List.replicate n d := by
  induction n with
  | zero => rfl
  | succ n ih => rw [List.replicate_succ, List.flatMap_cons, ih, h, List.replicate_succ]; rfl
/-- So many zeros. -/
theorem make_g {α : Type} {P : Program} (K : RK α) (hk : K.Ok P) (x0 : α) (hW : K.W = 1) (hz : K.z.cells.toList = K.f x0) (w : World) {ops : Array Oper} {rest : List Oper} {o : Oper} {a : Act} {Q : Exit → Act → World → Prop}
    (hg : o.guard = none) (l c : Operand) (t : TypeId) (hop : o.op = Op.makeSlice t l c) (ht : P.underlying t = some (.slice K.ty))
    (n : Nat) (hl : a.eval l = .int .i64 n) (hc : a.eval c = .int .i64 n) (hn : n ≤ 100000) (hB : K.B ≤ 1000)
    (hK : ∀ w', OwnG K w' w.heap.size (.slice (some ⟨w.heap.size, 0, none⟩) n n) (List.replicate n x0) → Below w.heap.size w w' → wpList P ops Q rest (a.put o.dst (.slice (some ⟨w.heap.size, 0, none⟩) n n)) w') : wpList P ops Q (o :: rest) a w := by
  obtain ⟨i0, hi0, hz0, hz1, hz2⟩ := hk.info
  have hmul : K.B * n ≤ 1000 * 100000 := Nat.mul_le_mul hB hn
  refine wpList_make_full w hg l c t hop w.heap.size K.ty i0 K.z K.W ht hi0 hz0 hz1 .i64 .i64 n n n hl hc rfl rfl (by rw [hz2]; omega) (by unfold maxLen; omega) (Nat.le_refl _) ?_
  intro w' ho hgr
  refine hK w' ?_ ((Below.refl _ _).grown hgr (Nat.le_refl _) (fun k hk => by cases hk))
  obtain ⟨d, hd⟩ : ∃ d, K.f x0 = [d] := by
    have := hk.len x0
    rw [hW] at this
    obtain ⟨d, hd⟩ := List.length_eq_one_iff.1 this
    exact ⟨d, hd⟩
  unfold OwnG
  rw [List.length_replicate, flat_rep K.f x0 d hd, ← madeCells_list K.z.cells n d (by rw [hz, hd])]
  rw [hW] at ho ⊢
  exact ho
/-- A cell written. -/
theorem OwnG.set1 {α : Type} {K : RK α} (hW : K.W = 1) (hf : ∀ x, (K.f x).length = K.W) {w : World} {base g n cap : Nat} {l : List α} (h : OwnG K w base (.slice (some ⟨g, 0, none⟩) n cap) l) {k : Nat} (x : α) (u : Value) (hu : K.f x = [u]) : OwnG K (w.setCell ⟨g, k, none⟩ u) base (.slice (some ⟨g, 0, none⟩) n cap) (l.set k x) := by
  obtain ⟨h1, h2⟩ := h
  rcases h2 with ⟨h2, _⟩ | ⟨g', cp, cur, e1, e2, e3, e4, e5, e6, e7⟩
  · cases h2
  · injection e1 with e1 e8 e9
    injection e1 with e1
    injection e1 with e1 _ _
    subst e1 e9
    refine ⟨RK.flat_len hf _, Or.inr ⟨g, cap, cur.setIfInBounds k u, by rw [List.length_set, e8], e2, heap_setCell_same w g k cur _ _ e3, by rw [List.length_set]; exact e4, e5, by simpa using e6, ?_⟩⟩
    have one : ∀ y, ∃ d, K.f y = [d] := fun y => by
      have := hf y
      rw [hW] at this
      obtain ⟨d, hd⟩ := List.length_eq_one_iff.1 this
      exact ⟨d, hd⟩
    have fl : ∀ (l : List α) (k : Nat), (l.set k x).flatMap K.f = (l.flatMap K.f).set k u := fun l => by
      induction l with
      | nil => intro k; simp
      | cons y r ih =>
        intro k
        obtain ⟨d, hd⟩ := one y
        cases k with
        | zero => rw [List.set_cons_zero, List.flatMap_cons, List.flatMap_cons, hu, hd]; rfl
        | succ k => rw [List.set_cons_succ, List.flatMap_cons, List.flatMap_cons, ih, hd]; rfl
    rw [List.length_set, fl, ← e7, hW, Nat.mul_one]
    simp [Array.toList_setIfInBounds, List.take_set]
end Go.Proofs.Ytofdfofpdfaimaa
