/- Graph: the document's Round. -/
import Derived.Test.YtkmokoiilmdfbaaYe3
namespace Go.Proofs.Ytkmokoiilmdfbaa
open Go.RowKit

noncomputable def rnA (n : Int) (e : List (Int × Int)) : List Int := if chkG n e = 0 then nI (rnL n.toNat (eN e)) else []
theorem rnA_ok {N : Nat} {E : List (Nat × Nat)} (hg : GOK N E) : rnA N (eI E) = nI (rnL N E) := by unfold rnA; rw [if_pos hg.chk, eN_eI]; simp
theorem rnA_no {n : Int} {e : List (Int × Int)} (h : chkG n e ≠ 0) : rnA n e = [] := by unfold rnA; rw [if_neg h]
/-- Who is told to go round so far: of the first lists; of one more, the first nodes; by the first edges. -/
def pO (Q : List (List Nat)) (i x : Nat) : Prop := ∃ j, j < i ∧ 1 < (Q.getD j []).length ∧ x ∈ Q.getD j []
def pI (Q : List (List Nat)) (i k x : Nat) : Prop := pO Q i x ∨ (1 < (Q.getD i []).length ∧ x ∈ (Q.getD i []).take k)
def pE (Q : List (List Nat)) (E : List (Nat × Nat)) (j x : Nat) : Prop := pO Q Q.length x ∨ (x, x) ∈ E.take j
theorem pI_zero {Q : List (List Nat)} {i x : Nat} : pO Q i x ↔ pI Q i 0 x := by unfold pI; simp
theorem pI_end {Q : List (List Nat)} {i k x : Nat} (h : ¬ (k < (Q.getD i []).length ∧ 1 < (Q.getD i []).length)) (hk : k ≤ (Q.getD i []).length) : pI Q i k x ↔ pO Q (i + 1) x := by
  unfold pI pO
  constructor
  · rintro (⟨j, h1, h2⟩ | ⟨h1, h2⟩)
    · exact ⟨j, by omega, h2⟩
    · exact ⟨i, by omega, h1, List.mem_of_mem_take h2⟩
  · rintro ⟨j, h1, h2, h3⟩
    by_cases e : j = i
    · subst e
      refine Or.inr ⟨h2, ?_⟩
      rw [List.take_of_length_le (by omega)]
      exact h3
    · exact Or.inl ⟨j, by omega, h2, h3⟩
theorem pI_put {Q : List (List Nat)} {i k x : Nat} (hk : k < (Q.getD i []).length) (h1 : 1 < (Q.getD i []).length) : (pI Q i k x ∨ x = (Q.getD i [])[k]) ↔ pI Q i (k + 1) x := by
  unfold pI
  rw [List.take_succ_eq_append_getElem hk, List.mem_append, List.mem_singleton]
  constructor
  · rintro ((h | ⟨_, h⟩) | h)
    · exact Or.inl h
    · exact Or.inr ⟨h1, Or.inl h⟩
    · exact Or.inr ⟨h1, Or.inr h⟩
  · rintro (h | ⟨_, h | h⟩)
    · exact Or.inl (Or.inl h)
    · exact Or.inl (Or.inr ⟨h1, h⟩)
    · exact Or.inr h
theorem pE_zero {Q : List (List Nat)} {E : List (Nat × Nat)} {x : Nat} : pO Q Q.length x ↔ pE Q E 0 x := by unfold pE; simp
theorem pE_put {Q : List (List Nat)} {E : List (Nat × Nat)} {j x : Nat} (hj : j < E.length) (he : E[j].1 = E[j].2) : (pE Q E j x ∨ x = E[j].1) ↔ pE Q E (j + 1) x := by
  unfold pE
  rw [List.take_succ_eq_append_getElem hj, List.mem_append, List.mem_singleton]
  have : (x, x) = E[j] ↔ x = E[j].1 := by
    constructor
    · intro h; rw [← h]
    · intro h; rw [Prod.ext_iff]; exact ⟨h, by rw [← he]; exact h⟩
  rw [this, or_assoc]
theorem pE_skip {Q : List (List Nat)} {E : List (Nat × Nat)} {j x : Nat} (hj : j < E.length) (he : E[j].1 ≠ E[j].2) : pE Q E j x ↔ pE Q E (j + 1) x := by
  unfold pE
  rw [List.take_succ_eq_append_getElem hj, List.mem_append, List.mem_singleton]
  have : ¬ (x, x) = E[j] := fun h => he (by rw [← h])
  simp [this]
theorem cmL_getD {N : Nat} {E : List (Nat × Nat)} {j : Nat} (h : j < (cmL N E).length) : (cmL N E).getD j [] = prt N E ((ris N (lst E)).getD j 0) ∧ (ris N (lst E)).getD j 0 < N := by
  unfold cmL at h ⊢
  rw [List.length_map] at h
  have e : (ris N (lst E)).getD j 0 = (ris N (lst E))[j] := by simp [List.getD, h]
  refine ⟨by simp [List.getD, h], ?_⟩
  rw [e]
  exact (ris_mem.1 (List.getElem_mem h)).1
theorem cmL_lt {N : Nat} {E : List (Nat × Nat)} {j x : Nat} (h : j < (cmL N E).length) (hx : x ∈ (cmL N E).getD j []) : x < N := by
  rw [(cmL_getD h).1] at hx
  exact (prt_mem.1 hx).1
theorem pE_end {N : Nat} {E : List (Nat × Nat)} (hg : GOK N E) {x : Nat} (hx : x < N) : pE (cmL N E) E E.length x ↔ wyB E (-1) [x] x = true := by
  rw [rn_iff hg hx]
  unfold pE pO
  rw [List.take_length]
  constructor
  · rintro (⟨j, h1, h2, h3⟩ | h)
    · rw [(cmL_getD h1).1] at h2 h3
      refine Or.inr ?_
      rw [prt_same (prt_mem.1 h3).2] at h2
      exact h2
    · exact Or.inl h
  · rintro (h | h)
    · exact Or.inr h
    · obtain ⟨s, h2, h3, h4⟩ := prt_hd (E := E) hx
      obtain ⟨j, hj, e⟩ := List.getElem_of_mem (ris_mem.2 ⟨h3, h2⟩)
      have hj2 : j < (cmL N E).length := by unfold cmL; rw [List.length_map]; exact hj
      have e2 : (cmL N E).getD j [] = prt N E x := by
        rw [(cmL_getD hj2).1, h4]
        have : (ris N (lst E)).getD j 0 = (ris N (lst E))[j] := by simp [List.getD, hj]
        rw [this, e]
      refine Or.inl ⟨j, hj2, by rw [e2]; exact h, by rw [e2]; exact prt_mem.2 ⟨hx, sc.refl _ _⟩⟩
/-- A row of bools of which each says so. -/
structure GR (V : World) (N bs : Nat) (P : Nat → Prop) (W : World) : Prop where
  bl : Below V.heap.size V W
  ow : ∃ f : Nat → Bool, OwnG KB W V.heap.size (.slice (some ⟨bs, 0, none⟩) N N) ((List.range N).map f) ∧ ∀ x, x < N → (f x = true ↔ P x)
theorem GR.imp {V W : World} {N bs : Nat} {P Q : Nat → Prop} (h : GR V N bs P W) (k : ∀ x, x < N → (P x ↔ Q x)) : GR V N bs Q W := by
  obtain ⟨f, h1, h2⟩ := h.ow
  exact ⟨h.bl, f, h1, fun x hx => (h2 x hx).trans (k x hx)⟩
theorem GR.below {V W W' : World} {N bs : Nat} {P : Nat → Prop} (h : GR V N bs P W) (k : Below W.heap.size W W') : GR V N bs P W' := by
  obtain ⟨f, h1, h2⟩ := h.ow
  exact ⟨bl3 h.bl k, f, h1.below k, h2⟩
theorem GR.put {V W : World} {N bs : Nat} {P : Nat → Prop} (h : GR V N bs P W) {y : Nat} (hy : y < N) : GR V N bs (fun x => P x ∨ x = y) (W.setCell ⟨bs, y, none⟩ (.bool true)) ∧ (∃ u, W.cell? ⟨bs, y, none⟩ = some (.bool u)) ∧ W.frozen? ⟨bs, y, none⟩ = false := by
  obtain ⟨f, h1, h2⟩ := h.ow
  refine ⟨⟨Below.setCell (p := ⟨bs, y, none⟩) h.bl (h1.lt (g := bs) rfl).1 _, adP f y, ?_, fun x hx => ?_⟩, ?_, own_frozen h1 y⟩
  · have := h1.set1 rfl KB_ok.len (k := y) true (.bool true) rfl
    rw [rmap_set] at this
    exact this
  · rw [adP_iff, h2 x hx]
  · obtain ⟨X, o, e, hc⟩ := (h1.gs KB_ok.len).atB (k := y) (by simpa using hy)
    injection e with e
    injection e with e1 e2 _
    subst e1 e2
    rw [Nat.zero_add] at hc
    exact ⟨_, hc⟩
theorem GR.told {V W : World} {N bs : Nat} {E : List (Nat × Nat)} (hg : GOK N E) (h : GR V N bs (pE (cmL N E) E E.length) W) : ∃ L : List Bool, GS KB W (.slice (some ⟨bs, 0, none⟩) N N) L ∧ L.length = N ∧ ris L.length (bF L) = rnL N E := by
  obtain ⟨f, h1, h2⟩ := h.ow
  refine ⟨_, h1.gs KB_ok.len, by simp, ?_⟩
  rw [List.length_map, List.length_range]
  refine ris_congr fun x hx => ?_
  have e : bF ((List.range N).map f) x = f x := by simp [bF, List.getD, hx]
  rw [e, Bool.eq_iff_iff, h2 x hx, pE_end hg hx]
end Go.Proofs.Ytkmokoiilmdfbaa
