/- Graphs, plain: the document's search; what can be reached. -/
import Derived.Test.YthhjknpfaghfbaaYa2
namespace Go.Proofs.Ythhjknpfaghfbaa
open Go.RowKit

/-- An edge that is no node's d. -/
def edW (E : List (Nat × Nat)) (d : Int) (a b : Nat) : Prop := (a, b) ∈ E ∧ (a : Int) ≠ d ∧ (b : Int) ≠ d
theorem edW_none {E : List (Nat × Nat)} {d : Int} (hd : d < 0) {a b : Nat} : edW E d a b ↔ ed E a b := ⟨fun h => h.1, fun h => ⟨h, by omega, by omega⟩⟩
/-- The search: what was seen, what is to be done, where it began. -/
structure WyS (E : List (Nat × Nat)) (d : Int) (F : List Nat) (S : Nat → Bool) (T : List Nat) : Prop where
  le : ∀ y, S y = true → ∃ r ∈ F, Wy (edW E d) r y
  td : ∀ t ∈ T, t ∈ F ∨ S t = true
  cl : ∀ x, (x ∈ F ∨ S x = true) → x ∉ T → ∀ y, edW E d x y → S y = true
/-- .. amid the edges of one node. -/
structure WyI (E : List (Nat × Nat)) (d : Int) (F : List Nat) (S : Nat → Bool) (T : List Nat) (n i : Nat) : Prop where
  nd : (n : Int) ≠ d
  nF : n ∈ F ∨ S n = true
  le : ∀ y, S y = true → ∃ r ∈ F, Wy (edW E d) r y
  td : ∀ t ∈ T, t ∈ F ∨ S t = true
  cl : ∀ x, (x ∈ F ∨ S x = true) → x ∉ T → x ≠ n → ∀ y, edW E d x y → S y = true
  of : ∀ y ∈ (tg E n).take i, (y : Int) ≠ d → S y = true
theorem WyS.start (E : List (Nat × Nat)) (d : Int) (F : List Nat) : WyS E d F (fun _ => false) F :=
  ⟨fun _ h => (by cases h), fun _ h => Or.inl h, fun x h hn => by
    rcases h with h | h
    · exact absurd h hn
    · cases h⟩
theorem WyS.skip {E : List (Nat × Nat)} {d : Int} {F : List Nat} {S : Nat → Bool} {T : List Nat} {n : Nat} (h : WyS E d F S (T ++ [n])) (hn : (n : Int) = d) : WyS E d F S T :=
  ⟨h.le, fun t ht => h.td t (List.mem_append_left _ ht), fun x hx hT y hy => by
    by_cases e : x = n
    · subst e; exact absurd hn hy.2.1
    · exact h.cl x hx (by simp [hT, e]) y hy⟩
theorem WyS.inner {E : List (Nat × Nat)} {d : Int} {F : List Nat} {S : Nat → Bool} {T : List Nat} {n : Nat} (h : WyS E d F S (T ++ [n])) (hn : (n : Int) ≠ d) : WyI E d F S T n 0 :=
  ⟨hn, h.td n (by simp), h.le, fun t ht => h.td t (List.mem_append_left _ ht), fun x hx hT hne y hy => h.cl x hx (by simp [hT, hne]) y hy, by simp⟩
theorem WyI.fin {E : List (Nat × Nat)} {d : Int} {F : List Nat} {S : Nat → Bool} {T : List Nat} {n : Nat} (h : WyI E d F S T n (tg E n).length) : WyS E d F S T :=
  ⟨h.le, h.td, fun x hx hT y hy => by
    by_cases e : x = n
    · subst e; exact h.of y (by rw [List.take_length]; exact tg_mem.2 hy.1) hy.2.2
    · exact h.cl x hx hT e y hy⟩
theorem take_in {α : Type} {l : List α} {i : Nat} (hi : i < l.length) {y : α} (hy : y ∈ l.take (i + 1)) : y ∈ l.take i ∨ y = l[i] := by
  rw [List.take_succ_eq_append_getElem hi, List.mem_append, List.mem_singleton] at hy
  exact hy
theorem WyI.skip {E : List (Nat × Nat)} {d : Int} {F : List Nat} {S : Nat → Bool} {T : List Nat} {n i : Nat} (h : WyI E d F S T n i) (hi : i < (tg E n).length) (hs : ((tg E n)[i] : Int) = d ∨ S (tg E n)[i] = true) : WyI E d F S T n (i + 1) :=
  ⟨h.nd, h.nF, h.le, h.td, h.cl, fun y hy hd => by
    rcases take_in hi hy with e | e
    · exact h.of y e hd
    · subst e
      rcases hs with e | e
      · exact absurd e hd
      · exact e⟩
theorem WyI.push {E : List (Nat × Nat)} {d : Int} {F : List Nat} {S : Nat → Bool} {T : List Nat} {n i : Nat} (h : WyI E d F S T n i) (hi : i < (tg E n).length) (hd : ((tg E n)[i] : Int) ≠ d) : WyI E d F (adP S (tg E n)[i]) (T ++ [(tg E n)[i]]) n (i + 1) := by
  have he : edW E d n (tg E n)[i] := ⟨tg_mem.1 (List.getElem_mem hi), h.nd, hd⟩
  refine ⟨h.nd, h.nF.imp id fun e => adP_iff.2 (Or.inl e), fun y hy => ?_, fun t ht => ?_, fun x hx hT hne y hy => ?_, fun y hy hd2 => ?_⟩
  · rcases adP_iff.1 hy with e | e
    · exact h.le y e
    · subst e
      rcases h.nF with e | e
      · exact ⟨n, e, .one he⟩
      · obtain ⟨r, hr, k⟩ := h.le n e
        exact ⟨r, hr, k.snoc he⟩
  · rw [List.mem_append, List.mem_singleton] at ht
    rcases ht with ht | ht
    · exact (h.td t ht).imp id fun e => adP_iff.2 (Or.inl e)
    · exact Or.inr (adP_iff.2 (Or.inr ht))
  · simp only [List.mem_append, List.mem_singleton, not_or] at hT
    refine adP_iff.2 (Or.inl (h.cl x ?_ hT.1 hne y hy))
    rcases hx with e | e
    · exact Or.inl e
    · rcases adP_iff.1 e with e | e
      · exact Or.inr e
      · exact absurd e hT.2
  · rcases take_in hi hy with e | e
    · exact adP_iff.2 (Or.inl (h.of y e hd2))
    · exact adP_iff.2 (Or.inr e)
theorem WyS.fin {E : List (Nat × Nat)} {d : Int} {F : List Nat} {S : Nat → Bool} (h : WyS E d F S []) (y : Nat) : S y = true ↔ ∃ r ∈ F, Wy (edW E d) r y := by
  constructor
  · exact h.le y
  · rintro ⟨r, hr, k⟩
    have key : ∀ x z, Wy (edW E d) x z → (x ∈ F ∨ S x = true) → S z = true := fun x z k => by
      induction k with
      | one e => intro hx; exact h.cl _ hx (by simp) _ e
      | more e _ ih => intro hx; exact ih (Or.inr (h.cl _ hx (by simp) _ e))
    exact key r y k (Or.inl hr)
open Classical in
/-- It is one of these, or they have a way to it. -/
noncomputable def rcB (E : List (Nat × Nat)) (F : List Nat) (x : Nat) : Bool := decide (∃ r ∈ F, Rs (ed E) r x)
theorem rcB_iff {E : List (Nat × Nat)} {F : List Nat} {x : Nat} : rcB E F x = true ↔ ∃ r ∈ F, Rs (ed E) r x := by simp [rcB]
open Classical in
/-- They have a way to it, not through d. -/
noncomputable def wyB (E : List (Nat × Nat)) (d : Int) (F : List Nat) (x : Nat) : Bool := decide (∃ r ∈ F, Wy (edW E d) r x)
theorem wyB_iff {E : List (Nat × Nat)} {d : Int} {F : List Nat} {x : Nat} : wyB E d F x = true ↔ ∃ r ∈ F, Wy (edW E d) r x := by simp [wyB]
theorem WyS.is {E : List (Nat × Nat)} {d : Int} {F : List Nat} {S : Nat → Bool} (h : WyS E d F S []) : S = wyB E d F := by
  funext y
  rw [Bool.eq_iff_iff, h.fin, wyB_iff]
/-- The nodes that are given, and all that they have a way to. -/
noncomputable def reL (N : Nat) (E : List (Nat × Nat)) (F : List Nat) : List Nat := ris N (rcB E F)
theorem reL_len (N : Nat) (E : List (Nat × Nat)) (F : List Nat) : (reL N E F).length ≤ N := ris_len _ _
/-- A walk over the nodes' lists. -/
theorem DL.rc {N : Nat} {E : List (Nat × Nat)} (h : GOK N E) {S : Nat → Bool} {F L : List Nat} (k : DL (nx N E) (fun _ => false) F S L) : S = rcB E F := by
  funext y
  rw [Bool.eq_iff_iff, k.reach, rcB_iff]
  constructor
  · rintro ⟨r, hr, q⟩; exact ⟨r, hr, q.imp fun a b e => (nx_mem h).1 e⟩
  · rintro ⟨r, hr, q⟩; exact ⟨r, hr, q.imp fun a b e => (nx_mem h).2 e⟩
theorem rc_lt {N : Nat} {E : List (Nat × Nat)} (h : GOK N E) {r x : Nat} (hr : r < N) (k : Rs (ed E) r x) : x < N := Rs.ind (P := fun x => x < N) (fun _ _ _ e => (h.lt _ e).2) k hr
theorem wy_rc {E : List (Nat × Nat)} {F : List Nat} {x : Nat} : rcB E F x = true ↔ x ∈ F ∨ wyB E (-1) F x = true := by
  rw [rcB_iff, wyB_iff]
  constructor
  · rintro ⟨r, hr, rfl | k⟩
    · exact Or.inl hr
    · exact Or.inr ⟨r, hr, k.imp fun a b e => (edW_none (by omega)).2 e⟩
  · rintro (h | ⟨r, hr, k⟩)
    · exact ⟨x, h, Or.inl rfl⟩
    · exact ⟨r, hr, Or.inr (k.imp fun a b e => (edW_none (by omega)).1 e)⟩
end Go.Proofs.Ythhjknpfaghfbaa
