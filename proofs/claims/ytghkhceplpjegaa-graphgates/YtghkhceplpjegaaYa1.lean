/- Graphs, plain: rising lists, ways, walks that go along all ways. -/
import Derived.RowKit
namespace Go.Proofs.Ytghkhceplpjegaa
open Go.RowKit

/-- The numbers below n that have it, rising. -/
def ris (n : Nat) (p : Nat → Bool) : List Nat := (List.range n).filter p
theorem ris_mem {n : Nat} {p : Nat → Bool} {x : Nat} : x ∈ ris n p ↔ x < n ∧ p x = true := by simp [ris]
theorem ris_up (n : Nat) (p : Nat → Bool) : (ris n p).Pairwise (· < ·) := List.Pairwise.filter _ List.pairwise_lt_range
theorem ris_succ (n : Nat) (p : Nat → Bool) : ris (n + 1) p = if p n = true then ris n p ++ [n] else ris n p := by
  unfold ris
  rw [List.range_succ, List.filter_append]
  by_cases h : p n = true
  · rw [if_pos h]; simp [h]
  · rw [if_neg h]; simp [h]
theorem ris_congr {n : Nat} {p q : Nat → Bool} (h : ∀ x, x < n → p x = q x) : ris n p = ris n q := List.filter_congr fun x hx => h x (by simpa using hx)
theorem ris_len (n : Nat) (p : Nat → Bool) : (ris n p).length ≤ n := by have := List.length_filter_le p (List.range n); simpa [ris] using this
theorem up_uniq {L M : List Nat} (hL : L.Pairwise (· < ·)) (hM : M.Pairwise (· < ·)) (h : ∀ x, x ∈ L ↔ x ∈ M) : L = M := by
  induction L generalizing M with
  | nil =>
    cases M with
    | nil => rfl
    | cons b t => exact absurd ((h b).2 (.head _)) (by simp)
  | cons a s ih =>
    cases M with
    | nil => exact absurd ((h a).1 (.head _)) (by simp)
    | cons b t =>
      rw [List.pairwise_cons] at hL hM
      have hab : a = b := by
        rcases List.mem_cons.1 ((h a).1 (.head _)) with e | e
        · exact e
        · rcases List.mem_cons.1 ((h b).2 (.head _)) with e2 | e2
          · exact e2.symm
          · have h1 := hM.1 a e
            have h2 := hL.1 b e2
            omega
      subst hab
      refine congrArg _ (ih hL.2 hM.2 fun x => ?_)
      constructor
      · intro hx
        rcases List.mem_cons.1 ((h x).1 (.tail _ hx)) with e | e
        · have := hL.1 x hx; omega
        · exact e
      · intro hx
        rcases List.mem_cons.1 ((h x).2 (.tail _ hx)) with e | e
        · have := hM.1 x hx; omega
        · exact e
theorem ris_uniq {n : Nat} {p : Nat → Bool} {L : List Nat} (hL : L.Pairwise (· < ·)) (h : ∀ x, x ∈ L ↔ x < n ∧ p x = true) : L = ris n p := up_uniq hL (ris_up n p) fun x => (h x).trans ris_mem.symm

/-- A way: one edge or more. -/
inductive Wy (R : Nat → Nat → Prop) : Nat → Nat → Prop
  | one {x y : Nat} : R x y → Wy R x y
  | more {x y z : Nat} : R x y → Wy R y z → Wy R x z
theorem Wy.trans {R : Nat → Nat → Prop} {x y z : Nat} (h : Wy R x y) (k : Wy R y z) : Wy R x z := by
  induction h with
  | one h => exact .more h k
  | more h _ ih => exact .more h (ih k)
theorem Wy.snoc {R : Nat → Nat → Prop} {x y z : Nat} (h : Wy R x y) (k : R y z) : Wy R x z := h.trans (.one k)
theorem Wy.imp {R Q : Nat → Nat → Prop} (k : ∀ x y, R x y → Q x y) {x y : Nat} (h : Wy R x y) : Wy Q x y := by
  induction h with
  | one h => exact .one (k _ _ h)
  | more h _ ih => exact .more (k _ _ h) ih
theorem Wy.flip {R : Nat → Nat → Prop} {x y : Nat} (h : Wy R x y) : Wy (fun a b => R b a) y x := by
  induction h with
  | one h => exact .one h
  | more h _ ih => exact ih.snoc h
/-- It is the other one, or has a way to it. -/
def Rs (R : Nat → Nat → Prop) (x y : Nat) : Prop := x = y ∨ Wy R x y
theorem Rs.refl (R : Nat → Nat → Prop) (x : Nat) : Rs R x x := Or.inl rfl
theorem Rs.trans {R : Nat → Nat → Prop} {x y z : Nat} (h : Rs R x y) (k : Rs R y z) : Rs R x z := by
  rcases h with rfl | h
  · exact k
  · rcases k with rfl | k
    · exact Or.inr h
    · exact Or.inr (h.trans k)
theorem Rs.imp {R Q : Nat → Nat → Prop} (k : ∀ x y, R x y → Q x y) {x y : Nat} (h : Rs R x y) : Rs Q x y := Or.imp id (Wy.imp k) h
theorem Wy.first {R : Nat → Nat → Prop} {x z : Nat} (h : Wy R x z) : ∃ y, R x y ∧ Rs R y z := by
  cases h with
  | one h => exact ⟨_, h, Or.inl rfl⟩
  | more h k => exact ⟨_, h, Or.inr k⟩
theorem Wy.last {R : Nat → Nat → Prop} {x z : Nat} (h : Wy R x z) : ∃ y, Rs R x y ∧ R y z := by
  induction h with
  | one h => exact ⟨_, Or.inl rfl, h⟩
  | more h _ ih =>
    obtain ⟨y, h1, h2⟩ := ih
    exact ⟨y, Rs.trans (Or.inr (.one h)) h1, h2⟩
theorem Rs.step {R : Nat → Nat → Prop} {x y z : Nat} (h : R x y) (k : Rs R y z) : Wy R x z := by
  rcases k with rfl | k
  · exact .one h
  · exact .more h k
theorem Rs.snoc {R : Nat → Nat → Prop} {x y z : Nat} (h : Rs R x y) (k : R y z) : Wy R x z := by
  rcases h with rfl | h
  · exact .one k
  · exact h.snoc k
theorem Rs.flip {R : Nat → Nat → Prop} {x y : Nat} (h : Rs R x y) : Rs (fun a b => R b a) y x := by
  rcases h with rfl | h
  · exact Or.inl rfl
  · exact Or.inr h.flip
/-- What holds of one, and is handed on by edges, holds of all behind it. -/
theorem Rs.ind {R : Nat → Nat → Prop} {P : Nat → Prop} (k : ∀ x y, P x → R x y → P y) {x y : Nat} (h : Rs R x y) (hx : P x) : P y := by
  rcases h with rfl | h
  · exact hx
  · induction h with
    | one h => exact k _ _ hx h
    | more h _ ih => exact ih (k _ _ hx h)

/-- One more that was seen. -/
def adP (S : Nat → Bool) (x : Nat) : Nat → Bool := fun y => S y || decide (y = x)
theorem adP_iff {S : Nat → Bool} {x y : Nat} : adP S x y = true ↔ S y = true ∨ y = x := by simp [adP]
theorem adP_no {S : Nat → Bool} {x y : Nat} (h : adP S x y = false) : S y = false ∧ y ≠ x := by simpa [adP] using h
/-- How many below n were not seen. -/
def un (n : Nat) (S : Nat → Bool) : Nat := ((List.range n).filter fun x => !S x).length
theorem un_le {n : Nat} {S T : Nat → Bool} (h : ∀ x, S x = true → T x = true) : un n T ≤ un n S := by
  induction n with
  | zero => simp [un]
  | succ n ih =>
    unfold un at ih ⊢
    rw [List.range_succ, List.filter_append, List.filter_append, List.length_append, List.length_append]
    cases hq : T n with
    | true => cases hp : S n <;> simp [hq, hp] <;> omega
    | false =>
      have hp : S n = false := by cases hp : S n with | false => rfl | true => rw [h n hp] at hq; cases hq
      simp [hq, hp]; omega
theorem un_lt {n : Nat} {S T : Nat → Bool} (h : ∀ x, S x = true → T x = true) {y : Nat} (hy : y < n) (h1 : S y = false) (h2 : T y = true) : un n T < un n S := by
  induction n with
  | zero => omega
  | succ n ih =>
    have hle := un_le (n := n) h
    unfold un at ih hle ⊢
    rw [List.range_succ, List.filter_append, List.filter_append, List.length_append, List.length_append]
    by_cases e : n = y
    · subst e; simp [h1, h2]; omega
    · have ih := ih (by omega)
      cases hq : T n with
      | true => cases hp : S n <;> simp [hq, hp] <;> omega
      | false =>
        have hp : S n = false := by cases hp : S n with | false => rfl | true => rw [h n hp] at hq; cases hq
        simp [hq, hp]; omega
theorem un_ad {n : Nat} {S : Nat → Bool} {y : Nat} (hy : y < n) (h1 : S y = false) : un n (adP S y) < un n S := un_lt (fun _ hx => adP_iff.2 (Or.inl hx)) hy h1 (adP_iff.2 (Or.inr rfl))
theorem un_top (n : Nat) (S : Nat → Bool) : un n S ≤ n := by have := List.length_filter_le (fun x => !S x) (List.range n); simpa [un] using this

/-- A walk from these, one behind the other: who was seen ahead of it, who is seen behind it, and who was visited, in order. -/
inductive DL (A : Nat → List Nat) : (Nat → Bool) → List Nat → (Nat → Bool) → List Nat → Prop
  | nil {S : Nat → Bool} : DL A S [] S []
  | seen {S S' : Nat → Bool} {x : Nat} {t L : List Nat} : S x = true → DL A S t S' L → DL A S (x :: t) S' L
  | new {S S1 S' : Nat → Bool} {x : Nat} {t L1 L2 : List Nat} : S x = false → DL A (adP S x) (A x) S1 L1 → DL A S1 t S' L2 → DL A S (x :: t) S' (L1 ++ [x] ++ L2)
theorem DL.app {A : Nat → List Nat} {S S1 S2 : Nat → Bool} {t u L M : List Nat} (h : DL A S t S1 L) (k : DL A S1 u S2 M) : DL A S (t ++ u) S2 (L ++ M) := by
  induction h with
  | nil => exact k
  | seen h _ ih => exact .seen h (ih k)
  | new h h1 _ _ ih2 =>
    have := DL.new h h1 (ih2 k)
    rw [List.append_assoc] at this ⊢
    rw [List.cons_append]
    simpa using this
theorem DL.one {A : Nat → List Nat} {S S1 : Nat → Bool} {x : Nat} {L : List Nat} (h : S x = false) (k : DL A (adP S x) (A x) S1 L) : DL A S [x] S1 (L ++ [x]) := by
  have := DL.new h k .nil
  simpa using this
theorem DL.mem {A : Nat → List Nat} {S S' : Nat → Bool} {t L : List Nat} (h : DL A S t S' L) : ∀ x, S' x = true ↔ S x = true ∨ x ∈ L := by
  induction h with
  | nil => simp
  | seen _ _ ih => exact ih
  | new h _ _ ih1 ih2 =>
    intro y
    rw [ih2, ih1, adP_iff]
    simp only [List.mem_append, List.mem_singleton]
    constructor
    · rintro (((h | h) | h) | h) <;> simp [h]
    · rintro (h | (h | h) | h) <;> simp [h]
theorem DL.up {A : Nat → List Nat} {S S' : Nat → Bool} {t L : List Nat} (h : DL A S t S' L) {x : Nat} (hx : S x = true) : S' x = true := (h.mem x).2 (Or.inl hx)
theorem DL.dis {A : Nat → List Nat} {S S' : Nat → Bool} {t L : List Nat} (h : DL A S t S' L) : ∀ x ∈ L, S x = false := by
  induction h with
  | nil => simp
  | seen _ _ ih => exact ih
  | @new S S1 S' x t L1 L2 h h1 h2 ih1 ih2 =>
    intro y hy
    rw [List.mem_append, List.mem_append, List.mem_singleton] at hy
    rcases hy with (hy | hy) | hy
    · exact (adP_no (ih1 y hy)).1
    · rw [hy]; exact h
    · have := ih2 y hy
      cases e : S y with
      | false => rfl
      | true => rw [h1.up (adP_iff.2 (Or.inl e))] at this; cases this
theorem DL.nodup {A : Nat → List Nat} {S S' : Nat → Bool} {t L : List Nat} (h : DL A S t S' L) : L.Nodup := by
  induction h with
  | nil => exact List.Pairwise.nil
  | seen _ _ ih => exact ih
  | @new S S1 S' x t L1 L2 h h1 h2 ih1 ih2 =>
    rw [List.nodup_append]
    refine ⟨?_, ih2, ?_⟩
    · rw [List.nodup_append]
      refine ⟨ih1, by simp, fun a ha b hb e => ?_⟩
      rw [List.mem_singleton] at hb
      have := adP_no (h1.dis a ha)
      exact this.2 (by rw [e, hb])
    · intro a ha b hb e
      subst e
      have h3 := h2.dis a hb
      rw [List.mem_append, List.mem_singleton] at ha
      rcases ha with ha | ha
      · rw [(h1.mem a).2 (Or.inr ha)] at h3; cases h3
      · rw [ha, h1.up (adP_iff.2 (Or.inr rfl))] at h3; cases h3
theorem DL.todo {A : Nat → List Nat} {S S' : Nat → Bool} {t L : List Nat} (h : DL A S t S' L) : ∀ x ∈ t, S' x = true := by
  induction h with
  | nil => simp
  | seen h h1 ih =>
    intro y hy
    rcases List.mem_cons.1 hy with e | e
    · subst e; exact h1.up h
    · exact ih y e
  | new h h1 h2 _ ih2 =>
    intro y hy
    rcases List.mem_cons.1 hy with e | e
    · subst e; exact h2.up (h1.up (adP_iff.2 (Or.inr rfl)))
    · exact ih2 y e
theorem DL.cl {A : Nat → List Nat} {S S' : Nat → Bool} {t L : List Nat} (h : DL A S t S' L) : ∀ x ∈ L, ∀ y ∈ A x, S' y = true := by
  induction h with
  | nil => simp
  | seen _ _ ih => exact ih
  | @new S S1 S' x t L1 L2 h h1 h2 ih1 ih2 =>
    intro z hz y hy
    rw [List.mem_append, List.mem_append, List.mem_singleton] at hz
    rcases hz with (hz | hz) | hz
    · exact h2.up (ih1 z hz y hy)
    · subst hz; exact h2.up (h1.todo y hy)
    · exact ih2 z hz y hy
/-- Whoever is visited has a way to it over nodes that were not seen. -/
theorem DL.le {A : Nat → List Nat} {S S' : Nat → Bool} {t L : List Nat} (h : DL A S t S' L) : ∀ x ∈ L, ∃ r ∈ t, Rs (fun a b => b ∈ A a ∧ S a = false ∧ S b = false) r x := by
  induction h with
  | nil => simp
  | seen _ _ ih =>
    intro z hz
    obtain ⟨r, hr, k⟩ := ih z hz
    exact ⟨r, .tail _ hr, k⟩
  | @new S S1 S' x t L1 L2 h h1 h2 ih1 ih2 =>
    intro z hz
    have up : ∀ y, S1 y = false → S y = false := fun y hy => by
      cases e : S y with
      | false => rfl
      | true => rw [h1.up (adP_iff.2 (Or.inl e))] at hy; cases hy
    rw [List.mem_append, List.mem_append, List.mem_singleton] at hz
    rcases hz with (hz | hz) | hz
    · obtain ⟨r, hr, k⟩ := ih1 z hz
      refine ⟨x, .head _, Or.inr (Rs.step ⟨hr, h, ?_⟩ (k.imp fun a b ⟨q1, q2, q3⟩ => ⟨q1, (adP_no q2).1, (adP_no q3).1⟩))⟩
      rcases k with rfl | k
      · exact (adP_no (h1.dis _ hz)).1
      · obtain ⟨y, ⟨_, q, _⟩, _⟩ := k.first
        exact (adP_no q).1
    · exact ⟨x, .head _, Or.inl hz.symm⟩
    · obtain ⟨r, hr, k⟩ := ih2 z hz
      exact ⟨r, .tail _ hr, k.imp fun a b ⟨q1, q2, q3⟩ => ⟨q1, up _ q2, up _ q3⟩⟩
/-- A walk over nothing that was seen comes to just what can be reached. -/
theorem DL.reach {A : Nat → List Nat} {S' : Nat → Bool} {t L : List Nat} (h : DL A (fun _ => false) t S' L) (x : Nat) : S' x = true ↔ ∃ r ∈ t, Rs (fun a b => b ∈ A a) r x := by
  constructor
  · intro hx
    rcases (h.mem x).1 hx with e | e
    · cases e
    · obtain ⟨r, hr, k⟩ := h.le x e
      exact ⟨r, hr, k.imp fun a b q => q.1⟩
  · rintro ⟨r, hr, k⟩
    refine Rs.ind (P := fun x => S' x = true) (fun a b ha hab => ?_) k (h.todo r hr)
    rcases (h.mem a).1 ha with e | e
    · cases e
    · exact h.cl a e b hab
/-- The same over all but some. -/
theorem DL.reachS {A : Nat → List Nat} {S S' : Nat → Bool} {t L : List Nat} (h : DL A S t S' L) (x : Nat) : S' x = true ↔ S x = true ∨ ∃ r ∈ t, S r = false ∧ Rs (fun a b => b ∈ A a ∧ S a = false ∧ S b = false) r x := by
  constructor
  · intro hx
    rcases (h.mem x).1 hx with e | e
    · exact Or.inl e
    · obtain ⟨r, hr, k⟩ := h.le x e
      refine Or.inr ⟨r, hr, ?_, k⟩
      rcases k with rfl | k
      · exact h.dis _ e
      · obtain ⟨y, ⟨_, q, _⟩, _⟩ := k.first
        exact q
  · rintro (hx | ⟨r, hr, hn, k⟩)
    · exact h.up hx
    · refine Rs.ind (P := fun x => S' x = true) (fun a b ha hab => ?_) k (h.todo r hr)
      rcases (h.mem a).1 ha with e | e
      · rw [hab.2.1] at e; cases e
      · exact h.cl a e b hab.1
/-- Of each that is visited: what was visited within its visit, and that nothing visited ahead of it leads there. -/
theorem DL.parts {A : Nat → List Nat} {S S' : Nat → Bool} {t L : List Nat} (h : DL A S t S' L) : ∀ r ∈ L, ∃ L0 L1 L2, L = L0 ++ L1 ++ r :: L2 ∧ (∀ p ∈ L1, Wy (fun a b => b ∈ A a) r p) ∧ ∀ p ∈ L0, ∀ y ∈ A p, y ∉ L1 ∧ y ≠ r := by
  induction h with
  | nil => simp
  | seen _ _ ih => exact ih
  | @new S S1 S' x t L1 L2 h h1 h2 ih1 ih2 =>
    intro r hr
    rw [List.mem_append, List.mem_append, List.mem_singleton] at hr
    rcases hr with (hr | hr) | hr
    · obtain ⟨K0, K1, K2, e, q1, q2⟩ := ih1 r hr
      exact ⟨K0, K1, K2 ++ [x] ++ L2, by rw [e]; simp, q1, q2⟩
    · refine ⟨[], L1, L2, by rw [hr]; simp, fun p hp => ?_, by simp⟩
      obtain ⟨s, hs, k⟩ := h1.le p hp
      rw [hr]
      exact Rs.step hs (k.imp fun a b q => q.1)
    · obtain ⟨K0, K1, K2, e, q1, q2⟩ := ih2 r hr
      refine ⟨L1 ++ [x] ++ K0, K1, K2, by rw [e]; simp, q1, fun p hp y hy => ?_⟩
      rw [List.mem_append, List.mem_append, List.mem_singleton] at hp
      have key : S1 y = true → y ∉ K1 ∧ y ≠ r := by
        intro hS
        constructor
        · intro hk
          have := h2.dis y (by rw [e]; simp [hk])
          rw [hS] at this; cases this
        · intro hk
          have := h2.dis y (by rw [e, hk]; simp)
          rw [hS] at this; cases this
      rcases hp with (hp | hp) | hp
      · exact key (h1.cl p hp y hy)
      · subst hp; exact key (h1.todo y hy)
      · exact q2 p hp y hy
end Go.Proofs.Ytghkhceplpjegaa
