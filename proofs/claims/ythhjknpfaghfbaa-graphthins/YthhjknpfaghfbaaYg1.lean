/- Graph, plain: the least order (Kahn); it is whole just if nobody goes round. -/
import Derived.Test.YthhjknpfaghfbaaYe1
namespace Go.Proofs.Ythhjknpfaghfbaa
open Go.RowKit

/-- It may stand next: it does not stand, and all that lead to it do. -/
def cnd (E : List (Nat × Nat)) (D : List Nat) (x : Nat) : Prop := x ∉ D ∧ ∀ m, (m, x) ∈ E → m ∈ D
/-- The beginnings of the least order. -/
inductive KO (N : Nat) (E : List (Nat × Nat)) : List Nat → Prop
  | nil : KO N E []
  | snoc {D : List Nat} {x : Nat} : KO N E D → x < N → cnd E D x → (∀ m, m < x → ¬ cnd E D m) → KO N E (D ++ [x])
theorem KO.cut {N : Nat} {E : List (Nat × Nat)} {D : List Nat} (h : KO N E D) : D = [] ∨ ∃ D' x, D = D' ++ [x] ∧ KO N E D' ∧ x < N ∧ cnd E D' x ∧ ∀ m, m < x → ¬ cnd E D' m := by
  cases h with
  | nil => exact Or.inl rfl
  | snoc h1 h2 h3 h4 => exact Or.inr ⟨_, _, rfl, h1, h2, h3, h4⟩
theorem KO.one {N : Nat} {E : List (Nat × Nat)} {D : List Nat} (h : KO N E D) : ∀ {D' : List Nat}, KO N E D' → D.length = D'.length → D = D' := by
  induction h with
  | nil => intro D' _ hl; exact (List.length_eq_zero_iff.1 hl.symm).symm
  | @snoc D x h1 h2 h3 h4 ih =>
    intro D' h' hl
    rcases h'.cut with e | ⟨D2, y, rfl, k1, k2, k3, k4⟩
    · subst e; simp at hl
    · have e := ih k1 (by simpa using hl)
      subst e
      rcases Nat.lt_trichotomy x y with z | z | z
      · exact absurd h3 (k4 x z)
      · rw [z]
      · exact absurd k3 (h4 y z)
theorem KO.lt {N : Nat} {E : List (Nat × Nat)} {D : List Nat} (h : KO N E D) : ∀ x ∈ D, x < N := by
  induction h with
  | nil => simp
  | snoc h1 h2 h3 h4 ih =>
    intro y hy
    rcases List.mem_append.1 hy with q | q
    · exact ih y q
    · rw [List.mem_singleton] at q; rw [q]; exact h2
theorem KO.nodup {N : Nat} {E : List (Nat × Nat)} {D : List Nat} (h : KO N E D) : D.Nodup := by
  induction h with
  | nil => exact List.nodup_nil
  | snoc h1 h2 h3 h4 ih =>
    rw [List.nodup_append]
    exact ⟨ih, by simp, fun a ha b hb e => h3.1 (by rw [List.mem_singleton] at hb; rw [← hb, ← e]; exact ha)⟩
/-- Whoever leads to one that stands stands ahead of it. -/
theorem KO.pre {N : Nat} {E : List (Nat × Nat)} {D : List Nat} (h : KO N E D) : ∀ {L R : List Nat} {x m : Nat}, D = L ++ x :: R → (m, x) ∈ E → m ∈ L := by
  induction h with
  | nil => intro L R x m e; simp at e
  | @snoc D y h1 h2 h3 h4 ih =>
    intro L R x m e hm
    rcases List.eq_nil_or_concat R with r | ⟨R', z, r⟩
    · subst r
      obtain ⟨e1, e2⟩ := List.append_inj' e rfl
      subst e1
      rw [List.cons.injEq] at e2
      rw [← e2.1] at hm
      exact h3.2 m hm
    · have r : R = R' ++ [z] := by rw [r]; simp
      subst r
      have e3 : D ++ [y] = (L ++ x :: R') ++ [z] := by rw [e]; simp
      obtain ⟨e1, _⟩ := List.append_inj' e3 rfl
      exact ih e1 hm
theorem KO.cl {N : Nat} {E : List (Nat × Nat)} {D : List Nat} (h : KO N E D) {x m : Nat} (hx : x ∈ D) (hm : (m, x) ∈ E) : m ∈ D := by
  obtain ⟨L, R, e⟩ := List.append_of_mem hx
  rw [e]
  exact List.mem_append.2 (Or.inl (h.pre e hm))
/-- Where it stands. -/
def pos (D : List Nat) (x : Nat) : Nat := D.idxOf x
theorem pos_lt {D : List Nat} {x : Nat} (hx : x ∈ D) : pos D x < D.length := List.idxOf_lt_length_iff.2 hx
theorem pos_pre {D L R : List Nat} {x m : Nat} (hn : D.Nodup) (e : D = L ++ x :: R) (hm : m ∈ L) : pos D m < pos D x := by
  subst e
  have hx : x ∉ L := fun q => by
    rw [List.nodup_append] at hn
    exact hn.2.2 x q x (.head _) rfl
  unfold pos
  rw [List.idxOf_append, List.idxOf_append, if_pos hm, if_neg hx, List.idxOf_cons_self]
  have := List.idxOf_lt_length_iff.2 hm
  omega
theorem KO.edge {N : Nat} {E : List (Nat × Nat)} {D : List Nat} (h : KO N E D) {x m : Nat} (hx : x ∈ D) (hm : (m, x) ∈ E) : pos D m < pos D x := by
  obtain ⟨L, R, e⟩ := List.append_of_mem hx
  exact pos_pre h.nodup e (h.pre e hm)
theorem KO.way {N : Nat} {E : List (Nat × Nat)} {D : List Nat} (h : KO N E D) {x y : Nat} (k : Wy (ed E) x y) : y ∈ D → x ∈ D ∧ pos D x < pos D y := by
  induction k with
  | one e => intro hy; exact ⟨h.cl hy e, h.edge hy e⟩
  | more e k ih =>
    intro hy
    obtain ⟨h1, h2⟩ := ih hy
    exact ⟨h.cl h1 e, Nat.lt_trans (h.edge h1 e) h2⟩
/-- Whoever stands does not go round. -/
theorem KO.still {N : Nat} {E : List (Nat × Nat)} {D : List Nat} (h : KO N E D) {x : Nat} (hx : x ∈ D) : ¬ Wy (ed E) x x := fun k => by
  have := (h.way k hx).2
  omega
theorem full_mem {N : Nat} {D : List Nat} (hn : D.Nodup) (hl : ∀ x ∈ D, x < N) (e : D.length = N) : ∀ x, x < N → x ∈ D := by
  intro x hx
  refine Classical.byContradiction fun hc => ?_
  have hn2 : (x :: D).Nodup := List.nodup_cons.2 ⟨hc, hn⟩
  have := List.Nodup.length_le_of_subset hn2 (l₂ := List.range N) (fun y hy => by
    rcases List.mem_cons.1 hy with q | q
    · rw [q]; exact List.mem_range.2 hx
    · exact List.mem_range.2 (hl y q))
  simp at this
  omega
theorem nodup_leN {N : Nat} {D : List Nat} (hn : D.Nodup) (hl : ∀ x ∈ D, x < N) : D.length ≤ N := by
  have := List.Nodup.length_le_of_subset hn (l₂ := List.range N) (fun y hy => List.mem_range.2 (hl y hy))
  simpa using this
theorem missing {N : Nat} {D : List Nat} (h : D.length < N) : ∃ x, x < N ∧ x ∉ D := by
  refine Classical.byContradiction fun hc => ?_
  have := List.Nodup.length_le_of_subset (List.nodup_range (n := N)) (l₂ := D) (fun y hy => Classical.byContradiction fun q => hc ⟨y, List.mem_range.1 hy, q⟩)
  simp at this
  omega
/-- A set of nodes of which each is led to by one of them: one goes round. -/
theorem rounds {N : Nat} {E : List (Nat × Nat)} {U : Nat → Prop} (hU : ∀ y, U y → y < N) (hp : ∀ y, U y → ∃ m, (m, y) ∈ E ∧ U m) {x : Nat} (hx : U x) : ∃ z, U z ∧ Wy (ed E) z z := by
  have key : ∀ n : Nat, ∃ l : List Nat, l.length = n + 1 ∧ (∀ y ∈ l, U y) ∧ l.Pairwise (fun a b => Wy (ed E) a b) := by
    intro n
    induction n with
    | zero => exact ⟨[x], rfl, by simpa using hx, List.pairwise_singleton _ _⟩
    | succ n ih =>
      obtain ⟨l, h1, h2, h3⟩ := ih
      match l, h1, h2, h3 with
      | a :: t, h1, h2, h3 =>
        obtain ⟨m, hm, hu⟩ := hp a (h2 a (.head _))
        refine ⟨m :: a :: t, by simpa using h1, fun y hy => ?_, List.pairwise_cons.2 ⟨fun y hy => ?_, h3⟩⟩
        · rcases List.mem_cons.1 hy with q | q
          · rw [q]; exact hu
          · exact h2 y q
        · rcases List.mem_cons.1 hy with q | q
          · rw [q]; exact .one hm
          · exact .more hm ((List.pairwise_cons.1 h3).1 y q)
  obtain ⟨l, h1, h2, h3⟩ := key N
  have hnn : ¬ l.Nodup := fun hd => by
    have := nodup_leN hd (fun y hy => hU y (h2 y hy))
    omega
  refine Classical.byContradiction fun hc => hnn ?_
  unfold List.Nodup
  have h4 : l.Pairwise fun a b => U a ∧ Wy (ed E) a b := by
    rw [List.pairwise_iff_getElem] at h3 ⊢
    exact fun i j hi hj hij => ⟨h2 _ (List.getElem_mem hi), h3 i j hi hj hij⟩
  exact h4.imp fun {a b} ⟨h5, h6⟩ e => hc ⟨a, h5, by rw [← e] at h6; exact h6⟩
/-- Where none may stand next, all stand just if nobody goes round. -/
theorem KO.whole {N : Nat} {E : List (Nat × Nat)} (hg : GOK N E) {D : List Nat} (h : KO N E D) (hm : ∀ x, x < N → ¬ cnd E D x) : D.length = N ↔ ∀ x, x < N → ¬ Wy (ed E) x x := by
  constructor
  · intro e x hx k
    exact h.still (full_mem h.nodup h.lt e x hx) k
  · intro hr
    have hle := nodup_leN h.nodup h.lt
    refine Classical.byContradiction fun hc => ?_
    obtain ⟨x, hx, hxD⟩ := missing (show D.length < N by omega)
    obtain ⟨z, hz, hw⟩ := rounds (N := N) (E := E) (U := fun y => y < N ∧ y ∉ D) (fun y h => h.1) (fun y hy => by
      refine Classical.byContradiction fun q => hm y hy.1 ⟨hy.2, fun m hm2 => Classical.byContradiction fun q2 => q ⟨m, hm2, (hg.lt _ hm2).1, q2⟩⟩) ⟨hx, hxD⟩
    exact hr z hz.1 hw
/-- Where nobody goes round and not all stand, one may. -/
theorem KO.more {N : Nat} {E : List (Nat × Nat)} (hg : GOK N E) {D : List Nat} (h : KO N E D) (hl : D.length < N) (hr : ∀ x, x < N → ¬ Wy (ed E) x x) : ∃ x, x < N ∧ cnd E D x := by
  refine Classical.byContradiction fun hc => ?_
  have := (h.whole hg (fun x hx q => hc ⟨x, hx, q⟩)).2 hr
  omega
theorem KO.len {N : Nat} {E : List (Nat × Nat)} {D : List Nat} (h : KO N E D) : D.length ≤ N := nodup_leN h.nodup h.lt
theorem rn_nil {N : Nat} {E : List (Nat × Nat)} : rnL N E = [] ↔ ∀ x, x < N → ¬ Wy (ed E) x x := by
  constructor
  · intro h x hx k
    have : x ∈ rnL N E := ris_mem.2 ⟨hx, wyB_self.2 k⟩
    rw [h] at this; cases this
  · intro h
    refine List.eq_nil_iff_forall_not_mem.2 fun x hx => ?_
    obtain ⟨h1, h2⟩ := ris_mem.1 hx
    exact h x h1 (wyB_self.1 h2)
open Classical in
/-- The least order, if there is one. -/
noncomputable def orL (N : Nat) (E : List (Nat × Nat)) : List Nat := if h : ∃ D, KO N E D ∧ D.length = N then h.choose else []
theorem orL_is {N : Nat} {E : List (Nat × Nat)} {D : List Nat} (h : KO N E D) (e : D.length = N) : orL N E = D := by
  have hx : ∃ D, KO N E D ∧ D.length = N := ⟨D, h, e⟩
  unfold orL
  rw [dif_pos hx]
  exact hx.choose_spec.1.one h (by rw [hx.choose_spec.2, e])
theorem orL_ko {N : Nat} {E : List (Nat × Nat)} (hg : GOK N E) (hr : rnL N E = []) : KO N E (orL N E) ∧ (orL N E).length = N := by
  have key : ∀ k, k ≤ N → ∃ D, KO N E D ∧ D.length = k := by
    intro k
    induction k with
    | zero => intro _; exact ⟨[], .nil, rfl⟩
    | succ k ih =>
      intro hk
      obtain ⟨D, h1, h2⟩ := ih (by omega)
      obtain ⟨x, hx, hc⟩ := h1.more hg (by omega) (rn_nil.1 hr)
      have : ∃ y, cnd E D y ∧ ∀ m, m < y → ¬ cnd E D m := by
        induction x using Nat.strongRecOn with
        | _ x ih2 =>
          by_cases q : ∃ m, m < x ∧ cnd E D m
          · obtain ⟨m, q1, q2⟩ := q
            exact ih2 m q1 (by omega) q2
          · exact ⟨x, hc, fun m hm hm2 => q ⟨m, hm, hm2⟩⟩
      obtain ⟨y, hy, hl⟩ := this
      have hyx : y < N := Classical.byContradiction fun q => by
        rcases Nat.lt_or_ge x y with z | z
        · exact hl x z hc
        · omega
      exact ⟨D ++ [y], .snoc h1 hyx hy hl, by simp [h2]⟩
  obtain ⟨D, h1, h2⟩ := key N (Nat.le_refl _)
  rw [orL_is h1 h2]
  exact ⟨h1, h2⟩
/-- Where the search for it ends. -/
theorem KO.told {N : Nat} {E : List (Nat × Nat)} (hg : GOK N E) {D : List Nat} (h : KO N E D) (hm : ∀ x, x < N → ¬ cnd E D x) : (D.length < N ∧ rnL N E ≠ []) ∨ (D.length = N ∧ rnL N E = [] ∧ D = orL N E) := by
  have hw := h.whole hg hm
  have := h.len
  by_cases e : D.length = N
  · exact Or.inr ⟨e, rn_nil.2 (hw.1 e), (orL_is h e).symm⟩
  · exact Or.inl ⟨by omega, fun q => e (hw.2 (rn_nil.1 q))⟩
end Go.Proofs.Ythhjknpfaghfbaa
