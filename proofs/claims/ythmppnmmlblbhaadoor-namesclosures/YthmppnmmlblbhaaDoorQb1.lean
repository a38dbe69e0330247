/- What leads to what, plain: reaching, rounds, longest chains; walks that gather them. -/
import Derived.RowKit
namespace Go.Proofs.YthmppnmmlblbhaaDoor
open Go.RowKit

/-- By one step or more. -/
inductive Rch (A : ByteArray → List ByteArray) : ByteArray → ByteArray → Prop
  | one {x y : ByteArray} : y ∈ A x → Rch A x y
  | more {x y z : ByteArray} : y ∈ A x → Rch A y z → Rch A x z
theorem Rch.trans {A : ByteArray → List ByteArray} {x y z : ByteArray} (h : Rch A x y) (k : Rch A y z) : Rch A x z := by
  induction h with
  | one h => exact .more h k
  | more h _ ih => exact .more h (ih k)
theorem Rch.first {A : ByteArray → List ByteArray} {x z : ByteArray} (h : Rch A x z) : ∃ y ∈ A x, y = z ∨ Rch A y z := by
  cases h with
  | one h => exact ⟨_, h, Or.inl rfl⟩
  | more h k => exact ⟨_, h, Or.inr k⟩
/-- How many of a list are not gathered yet. -/
def mu (U : List ByteArray) (p : ByteArray → Bool) : Nat := (U.filter fun s => !p s).length
theorem mu_le (U : List ByteArray) {p q : ByteArray → Bool} (h : ∀ s, p s = true → q s = true) : mu U q ≤ mu U p := by
  induction U with
  | nil => simp [mu]
  | cons a r ih =>
    unfold mu at ih ⊢
    rw [List.filter_cons, List.filter_cons]
    cases hq : q a with
    | true => cases hp : p a <;> simp <;> omega
    | false =>
      have hp : p a = false := by cases hp : p a with | false => rfl | true => rw [h a hp] at hq; cases hq
      simp [hp]; omega
theorem mu_lt {U : List ByteArray} {p q : ByteArray → Bool} (h : ∀ s, p s = true → q s = true) {y : ByteArray} (hy : y ∈ U) (h1 : p y = false) (h2 : q y = true) : mu U q < mu U p := by
  induction U with
  | nil => cases hy
  | cons a r ih =>
    have hle := mu_le r h
    unfold mu at ih hle ⊢
    rw [List.filter_cons, List.filter_cons]
    by_cases e : a = y
    · subst e; simp [h1, h2]; omega
    · have ih := ih (by cases hy with | head => exact absurd rfl e | tail _ h => exact h)
      cases hq : q a with
      | true => cases hp : p a <;> simp <;> omega
      | false =>
        have hp : p a = false := by cases hp : p a with | false => rfl | true => rw [h a hp] at hq; cases hq
        simp [hp]; omega
theorem mu_top (U : List ByteArray) (p : ByteArray → Bool) : mu U p ≤ U.length := List.length_filter_le _ _
/-- What a walk from nm on makes of what was gathered. -/
structure DF (A : ByteArray → List ByteArray) (nm : ByteArray) (p q : ByteArray → Bool) : Prop where
  up : ∀ s, p s = true → q s = true
  one : ∀ y ∈ A nm, q y = true
  cl : ∀ x, q x = true → p x = false → ∀ y ∈ A x, q y = true
  le : ∀ x, q x = true → p x = true ∨ Rch A nm x
/-- .. behind its first k. -/
structure DK (A : ByteArray → List ByteArray) (nm : ByteArray) (p q : ByteArray → Bool) (k : Nat) : Prop where
  up : ∀ s, p s = true → q s = true
  one : ∀ y ∈ (A nm).take k, q y = true
  cl : ∀ x, q x = true → p x = false → ∀ y ∈ A x, q y = true
  le : ∀ x, q x = true → p x = true ∨ Rch A nm x
theorem DK.start (A : ByteArray → List ByteArray) (nm : ByteArray) (p : ByteArray → Bool) : DK A nm p p 0 := ⟨fun _ h => h, by simp, fun x h1 h2 => (by rw [h1] at h2; cases h2), fun _ h => Or.inl h⟩
theorem DK.skip {A : ByteArray → List ByteArray} {nm : ByteArray} {p r : ByteArray → Bool} {k : Nat} (h : DK A nm p r k) (hk : k < (A nm).length) (hr : r (A nm)[k] = true) : DK A nm p r (k + 1) :=
  ⟨h.up, fun y hy => by
    rw [List.take_add_one, List.getElem?_eq_getElem hk, Option.toList_some, List.mem_append, List.mem_singleton] at hy
    rcases hy with hy | rfl
    · exact h.one y hy
    · exact hr,
    h.cl, h.le⟩
def addP (p : ByteArray → Bool) (y : ByteArray) : ByteArray → Bool := fun x => p x || decide (x = y)
theorem addP_iff {p : ByteArray → Bool} {y x : ByteArray} : addP p y x = true ↔ p x = true ∨ x = y := by simp [addP]
theorem DK.go {A : ByteArray → List ByteArray} {nm : ByteArray} {p r q : ByteArray → Bool} {k : Nat} (h : DK A nm p r k) (hk : k < (A nm).length) (D : DF A (A nm)[k] (addP r (A nm)[k]) q) : DK A nm p q (k + 1) := by
  have hm : (A nm)[k] ∈ A nm := List.getElem_mem hk
  have up : ∀ s, r s = true → q s = true := fun s hs => D.up s (addP_iff.2 (Or.inl hs))
  refine ⟨fun s hs => up s (h.up s hs), fun y hy => ?_, fun x hx hp y hy => ?_, fun x hx => ?_⟩
  · rw [List.take_add_one, List.getElem?_eq_getElem hk, Option.toList_some, List.mem_append, List.mem_singleton] at hy
    rcases hy with hy | rfl
    · exact up y (h.one y hy)
    · exact D.up _ (addP_iff.2 (Or.inr rfl))
  · cases ha : addP r (A nm)[k] x with
    | false => exact D.cl x hx ha y hy
    | true =>
      rcases addP_iff.1 ha with e | e
      · exact up y (h.cl x e hp y hy)
      · subst e; exact D.one y hy
  · rcases D.le x hx with e | e
    · rcases addP_iff.1 e with e | e
      · exact h.le x e
      · subst e; exact Or.inr (.one hm)
    · exact Or.inr (.more hm e)
theorem DK.fin {A : ByteArray → List ByteArray} {nm : ByteArray} {p q : ByteArray → Bool} (h : DK A nm p q (A nm).length) : DF A nm p q := ⟨h.up, fun y hy => h.one y (by rw [List.take_length]; exact hy), h.cl, h.le⟩
/-- A walk that begins with nothing gathers just what is reached. -/
theorem DF.reach {A : ByteArray → List ByteArray} {nm : ByteArray} {q : ByteArray → Bool} (h : DF A nm (fun _ => false) q) (s : ByteArray) : q s = true ↔ Rch A nm s := by
  constructor
  · intro hs
    rcases h.le s hs with e | e
    · cases e
    · exact e
  · intro hr
    have key : ∀ x z, Rch A x z → (∀ y ∈ A x, q y = true) → q z = true := fun x z hr => by
      induction hr with
      | one hy => intro hx; exact hx _ hy
      | more hy _ ih => intro hx; exact ih (fun y hy2 => h.cl _ (hx _ hy) rfl y hy2)
    exact key nm s hr h.one
def mxN : List Nat → Nat
  | [] => 0
  | a :: r => max a (mxN r)
theorem mxN_snoc : ∀ (l : List Nat) (x : Nat), mxN (l ++ [x]) = max (mxN l) x
  | [], x => by simp [mxN]
  | a :: r, x => by rw [List.cons_append, mxN, mxN, mxN_snoc r x]; omega
theorem mxN_mem {l : List Nat} {x : Nat} (h : x ∈ l) : x ≤ mxN l := by
  induction l with
  | nil => cases h
  | cons a r ih =>
    rw [mxN]
    cases h with
    | head => omega
    | tail _ h => have := ih h; omega
theorem mxN_in : ∀ (l : List Nat), mxN l = 0 ∨ mxN l ∈ l
  | [] => Or.inl rfl
  | a :: r => by
    rw [mxN]
    rcases mxN_in r with e | e
    · rw [e]
      by_cases h : a = 0
      · left; omega
      · right; rw [Nat.max_zero]; exact .head _
    · by_cases h : mxN r ≤ a
      · right; rw [Nat.max_eq_left h]; exact .head _
      · right; rw [Nat.max_eq_right (by omega)]; exact .tail _ e
/-- How many of these the longest chain from a name on has; there is none where it leads to a round. -/
inductive Lg (A : ByteArray → List ByteArray) (P : ByteArray → Bool) : ByteArray → Nat → Prop
  | out {x : ByteArray} : P x = false → Lg A P x 0
  | step {x : ByteArray} (N : ByteArray → Nat) : P x = true → (∀ y ∈ A x, Lg A P y (N y)) → Lg A P x (mxN ((A x).map N) + 1)
theorem Lg.det {A : ByteArray → List ByteArray} {P : ByteArray → Bool} {x : ByteArray} {n : Nat} (h : Lg A P x n) : ∀ m, Lg A P x m → n = m := by
  induction h with
  | out hp =>
    intro m k
    cases k with
    | out _ => rfl
    | step N hq _ => rw [hp] at hq; cases hq
  | step N hp _ ih =>
    intro m k
    cases k with
    | out hq => rw [hp] at hq; cases hq
    | step N' _ h' =>
      congr 2
      exact List.map_congr_left fun y hy => ih y hy _ (h' y hy)
/-- It leads to a round, or is in one. -/
def RD (A : ByteArray → List ByteArray) (x : ByteArray) : Prop := ∃ c, (c = x ∨ Rch A x c) ∧ Rch A c c
theorem RD.up {A : ByteArray → List ByteArray} {x y : ByteArray} (hy : y ∈ A x) (h : RD A y) : RD A x := by
  obtain ⟨c, h1, h2⟩ := h
  rcases h1 with rfl | h1
  · exact ⟨c, Or.inr (.one hy), h2⟩
  · exact ⟨c, Or.inr (.more hy h1), h2⟩
theorem Lg.free {A : ByteArray → List ByteArray} {P : ByteArray → Bool} (hA : ∀ x, P x = false → A x = []) {x : ByteArray} {n : Nat} (h : Lg A P x n) : ¬ RD A x := by
  induction h with
  | out hp =>
    rintro ⟨c, h1, h2⟩
    have e := hA _ hp
    have no : ∀ z, ¬ Rch A _ z := fun z hr => by obtain ⟨y, hy, _⟩ := hr.first; rw [e] at hy; cases hy
    rcases h1 with rfl | h1
    · exact no _ h2
    · exact no _ h1
  | step N hp _ ih =>
    rintro ⟨c, h1, h2⟩
    rcases h1 with rfl | h1
    · obtain ⟨y, hy, h3⟩ := h2.first
      refine ih y hy ⟨c, ?_, h2⟩
      rcases h3 with rfl | h3
      · exact Or.inl rfl
      · exact Or.inr h3
    · obtain ⟨y, hy, h3⟩ := h1.first
      refine ih y hy ⟨c, ?_, h2⟩
      rcases h3 with rfl | h3
      · exact Or.inl rfl
      · exact Or.inr h3
/-- The table of a walk that looks for the longest chain: what is known; what is being looked at. -/
structure LI (A : ByteArray → List ByteArray) (P : ByteArray → Bool) (f : ByteArray → Option Int) (path : List ByteArray) : Prop where
  pos : ∀ x v, f x = some v → v ≠ -1 → ∃ n : Nat, v = (n : Int) ∧ Lg A P x n
  neg : ∀ x, f x = some (-1) → x ∈ path
def putI (f : ByteArray → Option Int) (s : ByteArray) (v : Int) : ByteArray → Option Int := fun x => if x = s then some v else f x
theorem LI.begin {A : ByteArray → List ByteArray} {P : ByteArray → Bool} {f : ByteArray → Option Int} {path : List ByteArray} (h : LI A P f path) (x : ByteArray) : LI A P (putI f x (-1)) (x :: path) := by
  refine ⟨fun y v hy hv => ?_, fun y hy => ?_⟩
  · unfold putI at hy
    split at hy
    · injection hy with hy; exact absurd hy.symm hv
    · exact h.pos y v hy hv
  · unfold putI at hy
    split at hy
    · rename_i e; subst e; exact .head _
    · exact .tail _ (h.neg y hy)
theorem LI.finish {A : ByteArray → List ByteArray} {P : ByteArray → Bool} {f : ByteArray → Option Int} {path : List ByteArray} {x : ByteArray} {n : Nat} (h : LI A P f (x :: path)) (hn : Lg A P x n) : LI A P (putI f x n) path := by
  refine ⟨fun y v hy hv => ?_, fun y hy => ?_⟩
  · unfold putI at hy
    split at hy
    · rename_i e; subst e; injection hy with hy; exact ⟨n, hy.symm, hn⟩
    · exact h.pos y v hy hv
  · unfold putI at hy
    split at hy
    · injection hy with hy; omega
    · rename_i e
      have := h.neg y hy
      cases this with
      | head => exact absurd rfl e
      | tail _ h => exact h
/-- What the walk answers. -/
def LgA (A : ByteArray → List ByteArray) (P : ByteArray → Bool) (x : ByteArray) (r : Int) : Prop := (r = -1 ∧ RD A x) ∨ ∃ n : Nat, r = (n : Int) ∧ Lg A P x n
theorem LgA.uniq {A : ByteArray → List ByteArray} {P : ByteArray → Bool} (hA : ∀ x, P x = false → A x = []) {x : ByteArray} {r r' : Int} (h : LgA A P x r) (h' : LgA A P x r') : r = r' := by
  rcases h with ⟨rfl, h⟩ | ⟨n, rfl, h⟩
  · rcases h' with ⟨rfl, _⟩ | ⟨m, rfl, h'⟩
    · rfl
    · exact absurd h (h'.free hA)
  · rcases h' with ⟨rfl, h'⟩ | ⟨m, rfl, h'⟩
    · exact absurd h' (h.free hA)
    · rw [h.det m h']
/-- Behind the first k of what is asked for: the longest of these. -/
def LK (A : ByteArray → List ByteArray) (P : ByteArray → Bool) (x : ByteArray) (k : Nat) (m : Nat) : Prop := ∃ N : ByteArray → Nat, (∀ y ∈ (A x).take k, Lg A P y (N y)) ∧ m = mxN (((A x).take k).map N)
theorem LK.start (A : ByteArray → List ByteArray) (P : ByteArray → Bool) (x : ByteArray) : LK A P x 0 0 := ⟨fun _ => 0, by simp, by simp [mxN]⟩
theorem LK.next {A : ByteArray → List ByteArray} {P : ByteArray → Bool} {x : ByteArray} {k m n : Nat} (h : LK A P x k m) (hk : k < (A x).length) (hn : Lg A P (A x)[k] n) : LK A P x (k + 1) (max m n) := by
  obtain ⟨N, h1, h2⟩ := h
  have e : (A x).take (k + 1) = (A x).take k ++ [(A x)[k]] := by rw [List.take_add_one, List.getElem?_eq_getElem hk]; rfl
  have hN : ∀ y ∈ (A x).take k, (if y = (A x)[k] then n else N y) = N y := fun y hy => by
    split
    · rename_i e2; subst e2; exact hn.det _ (h1 _ hy)
    · rfl
  refine ⟨fun y => if y = (A x)[k] then n else N y, fun y hy => ?_, ?_⟩
  · rw [e, List.mem_append, List.mem_singleton] at hy
    rcases hy with hy | rfl
    · show Lg A P y (if y = (A x)[k] then n else N y)
      rw [hN y hy]; exact h1 y hy
    · show Lg A P (A x)[k] (if (A x)[k] = (A x)[k] then n else N (A x)[k])
      rw [if_pos rfl]; exact hn
  · rw [e, List.map_append, List.map_singleton, mxN_snoc, if_pos rfl, h2]
    congr 2
    exact (List.map_congr_left fun y hy => hN y hy).symm
theorem LK.fin {A : ByteArray → List ByteArray} {P : ByteArray → Bool} {x : ByteArray} {m : Nat} (h : LK A P x (A x).length m) (hp : P x = true) : Lg A P x (m + 1) := by
  obtain ⟨N, h1, h2⟩ := h
  rw [List.take_length] at h1 h2
  rw [h2]
  exact .step N hp h1
theorem nodup_le : ∀ (C N : List ByteArray), C.Nodup → (∀ x ∈ C, x ∈ N) → C.length ≤ N.length
  | [], N, _, _ => by simp
  | a :: r, N, hn, hs => by
    rw [List.nodup_cons] at hn
    have ha := hs a (.head _)
    have ih := nodup_le r (N.filter fun x => decide (x ≠ a)) hn.2 (fun x hx => List.mem_filter.2 ⟨hs x (.tail _ hx), by
      simp only [ne_eq, decide_not, Bool.not_eq_true', decide_eq_false_iff_not]
      intro e; rw [e] at hx; exact hn.1 hx⟩)
    have hlt : (N.filter fun x => decide (x ≠ a)).length < N.length := List.length_filter_lt_length_iff_exists.2 ⟨a, ha, by simp⟩
    rw [List.length_cons]; omega
/-- The longest chain, as a list: none twice. -/
theorem Lg.chain {A : ByteArray → List ByteArray} {P : ByteArray → Bool} (hA : ∀ x, P x = false → A x = []) {x : ByteArray} {n : Nat} (h : Lg A P x n) : ∃ C : List ByteArray, C.length = n ∧ C.Nodup ∧ ∀ c ∈ C, P c = true ∧ (c = x ∨ Rch A x c) := by
  have hfree := fun {x n} (h : Lg A P x n) => h.free hA
  induction h with
  | out _ => exact ⟨[], rfl, .nil, by simp⟩
  | @step x N hp hc ih =>
    rcases mxN_in ((A x).map N) with e | e
    · exact ⟨[x], by rw [e]; rfl, by simp, fun c hc => by rw [List.mem_singleton] at hc; subst hc; exact ⟨hp, Or.inl rfl⟩⟩
    · obtain ⟨y, hy, e2⟩ := List.mem_map.1 e
      obtain ⟨C, h1, h2, h3⟩ := ih y hy
      refine ⟨x :: C, by rw [List.length_cons, h1, e2], ?_, fun c hc => ?_⟩
      · rw [List.nodup_cons]
        refine ⟨fun hx => hfree (.step N hp hc) ⟨x, Or.inl rfl, ?_⟩, h2⟩
        rcases (h3 x hx).2 with e3 | e3
        · exact .one (by rw [← e3] at hy; exact hy)
        · exact .more hy e3
      · cases hc with
        | head => exact ⟨hp, Or.inl rfl⟩
        | tail _ hc =>
          refine ⟨(h3 c hc).1, Or.inr ?_⟩
          rcases (h3 c hc).2 with e3 | e3
          · rw [e3]; exact .one hy
          · exact .more hy e3
theorem Lg.le {A : ByteArray → List ByteArray} {P : ByteArray → Bool} (hA : ∀ x, P x = false → A x = []) {x : ByteArray} {n : Nat} (h : Lg A P x n) {N : List ByteArray} (hN : ∀ s, P s = true → s ∈ N) : n ≤ N.length := by
  obtain ⟨C, h1, h2, h3⟩ := h.chain hA
  rw [← h1]
  exact nodup_le C N h2 (fun c hc => hN c (h3 c hc).1)
end Go.Proofs.YthmppnmmlblbhaaDoor
