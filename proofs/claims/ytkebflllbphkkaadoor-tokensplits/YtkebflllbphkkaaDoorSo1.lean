/- Sorting, plain: swaps, runs, insertion, rotation, the search of a symmetric merge. -/
import Derived.WalkKit
namespace Go.Proofs.YtkebflllbphkkaaDoor

def gD (D : List Int) (k : Nat) : Int := D.getD k 0
def swp (D : List Int) (i j : Nat) : List Int := (D.set i (gD D j)).set j (gD D i)
theorem swp_len (D : List Int) (i j : Nat) : (swp D i j).length = D.length := by simp [swp]
theorem gD_set {D : List Int} {i : Nat} (hi : i < D.length) (x : Int) (k : Nat) : gD (D.set i x) k = if k = i then x else gD D k := by
  unfold gD
  by_cases h : k = i
  · subst h; simp [List.getD, hi]
  · simp [List.getD, h, Ne.symm h]
theorem swp_at {D : List Int} {i j : Nat} (hi : i < D.length) (hj : j < D.length) (k : Nat) : gD (swp D i j) k = if k = j then gD D i else if k = i then gD D j else gD D k := by
  unfold swp
  rw [gD_set (by simpa using hj), gD_set hi]
theorem gD_get {D : List Int} {k : Nat} (h : k < D.length) : gD D k = D[k] := by simp [gD, List.getD, h]
theorem swp_perm {D : List Int} {i j : Nat} (hi : i < D.length) (hj : j < D.length) : (swp D i j).Perm D := by
  have h := Array.swap_perm (xs := D.toArray) (i := i) (j := j) (by simpa using hi) (by simpa using hj)
  rw [Array.perm_iff_toList_perm] at h
  have e : (D.toArray.swap i j (by simpa using hi) (by simpa using hj)).toList = swp D i j := by
    unfold swp
    rw [gD_get hi, gD_get hj]
    simp [Array.swap]
  rw [e] at h
  simpa using h
/-- Nothing but [a, b) was put into another order. -/
structure Rel (a b : Nat) (D E : List Int) : Prop where
  len : E.length = D.length
  pm : E.Perm D
  out : ∀ k, (k < a ∨ b ≤ k) → gD E k = gD D k
  inn : ∀ k, a ≤ k → k < b → ∃ j, a ≤ j ∧ j < b ∧ gD E k = gD D j
theorem Rel.refl (a b : Nat) (D : List Int) : Rel a b D D := ⟨rfl, List.Perm.refl _, fun _ _ => rfl, fun k h1 h2 => ⟨k, h1, h2, rfl⟩⟩
theorem Rel.trans {a b : Nat} {D E F : List Int} (h : Rel a b D E) (k : Rel a b E F) : Rel a b D F :=
  ⟨k.len.trans h.len, k.pm.trans h.pm, fun x hx => (k.out x hx).trans (h.out x hx), fun x h1 h2 => by
    obtain ⟨y, y1, y2, y3⟩ := k.inn x h1 h2
    obtain ⟨z, z1, z2, z3⟩ := h.inn y y1 y2
    exact ⟨z, z1, z2, y3.trans z3⟩⟩
theorem Rel.wide {a b a' b' : Nat} {D E : List Int} (h : Rel a b D E) (ha : a' ≤ a) (hb : b ≤ b') : Rel a' b' D E :=
  ⟨h.len, h.pm, fun k hk => h.out k (by omega), fun k h1 h2 => by
    by_cases hk : a ≤ k ∧ k < b
    · obtain ⟨j, j1, j2, j3⟩ := h.inn k hk.1 hk.2
      exact ⟨j, by omega, by omega, j3⟩
    · exact ⟨k, h1, h2, h.out k (by omega)⟩⟩
theorem Rel.swap {a b i j : Nat} {D E : List Int} (h : Rel a b D E) (hb : b ≤ D.length) (hi : a ≤ i ∧ i < b) (hj : a ≤ j ∧ j < b) : Rel a b D (swp E i j) := by
  have hl := h.len
  refine h.trans ⟨swp_len .., swp_perm (by omega) (by omega), fun k hk => ?_, fun k h1 h2 => ?_⟩
  · rw [swp_at (by omega) (by omega), if_neg (by omega), if_neg (by omega)]
  · rw [swp_at (by omega) (by omega)]
    by_cases e1 : k = j
    · exact ⟨i, hi.1, hi.2, by rw [if_pos e1]⟩
    · by_cases e2 : k = i
      · exact ⟨j, hj.1, hj.2, by rw [if_neg e1, if_pos e2]⟩
      · exact ⟨k, h1, h2, by rw [if_neg e1, if_neg e2]⟩
/-- An order of all. -/
structure OrdC (c : Int → Int → Int) : Prop where
  anti : ∀ x y, c x y = - c y x
  tr : ∀ x y z, c x y ≤ 0 → c y z ≤ 0 → c x z ≤ 0
theorem OrdC.refl {c : Int → Int → Int} (h : OrdC c) (x : Int) : c x x ≤ 0 := by have := h.anti x x; omega
theorem OrdC.le {c : Int → Int → Int} (h : OrdC c) {x y : Int} (k : ¬ c x y < 0) : c y x ≤ 0 := by have := h.anti x y; omega
/-- In order from lo to hi. -/
def Run (c : Int → Int → Int) (D : List Int) (lo hi : Nat) : Prop := ∀ i j, lo ≤ i → i < j → j < hi → c (gD D i) (gD D j) ≤ 0
theorem Run.sub {c : Int → Int → Int} {D : List Int} {lo hi lo' hi' : Nat} (h : Run c D lo hi) (h1 : lo ≤ lo') (h2 : hi' ≤ hi) : Run c D lo' hi' := fun i j a b d => h i j (by omega) b (by omega)
theorem Run.le {c : Int → Int → Int} (O : OrdC c) {D : List Int} {lo hi i j : Nat} (h : Run c D lo hi) (h1 : lo ≤ i) (h2 : i ≤ j) (h3 : j < hi) : c (gD D i) (gD D j) ≤ 0 := by
  rcases Nat.lt_or_ge i j with hlt | hge
  · exact h i j h1 hlt h3
  · have : i = j := by omega
    subst this; exact O.refl _
theorem Run.same {c : Int → Int → Int} {D E : List Int} {lo hi : Nat} (h : Run c D lo hi) (e : ∀ k, lo ≤ k → k < hi → gD E k = gD D k) : Run c E lo hi := fun i j a b d => by rw [e i a (by omega), e j (by omega) d]; exact h i j a b d
theorem Run.short (c : Int → Int → Int) (D : List Int) {lo hi : Nat} (h : hi ≤ lo + 1) : Run c D lo hi := fun i j a b d => by omega
/-- One is being put into its place. -/
def Ins (c : Int → Int → Int) (D : List Int) (a i j : Nat) : Prop := ∀ p q, a ≤ p → p < q → q ≤ i → (p ≠ j → q ≠ j → c (gD D p) (gD D q) ≤ 0) ∧ (p = j → c (gD D p) (gD D q) ≤ 0)
theorem Ins.start {c : Int → Int → Int} {D : List Int} {a i : Nat} (h : Run c D a i) : Ins c D a i i := fun p q h1 h2 h3 => ⟨fun _ hq => h p q h1 h2 (by omega), fun e => by omega⟩
theorem Ins.step {c : Int → Int → Int} {D : List Int} {a i j : Nat} (h : Ins c D a i j) (hj : a < j) (hi : j ≤ i) (hl : i < D.length) (hc : c (gD D j) (gD D (j - 1)) < 0) : Ins c (swp D j (j - 1)) a i (j - 1) := by
  have e : ∀ k, gD (swp D j (j - 1)) k = if k = j - 1 then gD D j else if k = j then gD D (j - 1) else gD D k := fun k => swp_at (by omega) (by omega) k
  intro p q h1 h2 h3
  rw [e, e]
  constructor
  · intro hp hq
    rw [if_neg hp, if_neg hq]
    by_cases p1 : p = j
    · rw [if_pos p1, if_neg (by omega)]
      exact (h (j - 1) q (by omega) (by omega) h3).1 (by omega) (by omega)
    · rw [if_neg p1]
      by_cases q1 : q = j
      · rw [if_pos q1]
        exact (h p (j - 1) h1 (by omega) (by omega)).1 p1 (by omega)
      · rw [if_neg q1]
        exact (h p q h1 h2 h3).1 p1 q1
  · intro hp
    rw [if_pos hp, if_neg (by omega)]
    by_cases q1 : q = j
    · rw [if_pos q1]; omega
    · rw [if_neg q1]
      exact (h j q (by omega) (by omega) h3).2 rfl
theorem Ins.fin {c : Int → Int → Int} (O : OrdC c) {D : List Int} {a i j : Nat} (h : Ins c D a i j) (hj : a ≤ j) (hi : j ≤ i) (hc : j = a ∨ ¬ c (gD D j) (gD D (j - 1)) < 0) : Run c D a (i + 1) := by
  intro p q h1 h2 h3
  by_cases p1 : p = j
  · exact (h p q h1 h2 (by omega)).2 p1
  · by_cases q1 : q = j
    · subst q1
      rcases hc with hc | hc
      · omega
      · have h4 := O.le hc
        by_cases p2 : p = q - 1
        · rw [p2]; exact h4
        · exact O.tr _ _ _ ((h p (q - 1) h1 (by omega) (by omega)).1 p1 (by omega)) h4
    · exact (h p q h1 h2 (by omega)).1 p1 q1
/-- The first of a row is moved up, so far. -/
def Mv (D E : List Int) (a k : Nat) : Prop := ∀ p, gD E p = if a ≤ p ∧ p < k then gD D (p + 1) else if p = k then gD D a else gD D p
theorem Mv.start (D : List Int) (a : Nat) : Mv D D a a := fun p => by
  rw [if_neg (by omega)]
  split
  · rename_i h; rw [h]
  · rfl
theorem Mv.step {D E : List Int} {a k : Nat} (h : Mv D E a k) (ha : a ≤ k) (hk : k + 1 < E.length) : Mv D (swp E k (k + 1)) a (k + 1) := fun p => by
  rw [swp_at (by omega) (by omega), h p, h k, h (k + 1)]
  by_cases h1 : p = k + 1
  · subst h1
    rw [if_pos rfl, if_neg (by omega), if_pos rfl, if_neg (by omega), if_pos rfl]
  · rw [if_neg h1]
    by_cases h2 : p = k
    · subst h2
      rw [if_pos rfl, if_neg (by omega), if_neg (by omega), if_pos (by omega)]
    · rw [if_neg h2, if_neg h1, if_neg h2]
      by_cases h3 : a ≤ p ∧ p < k
      · rw [if_pos h3, if_pos (by omega)]
      · rw [if_neg h3, if_neg (by omega)]
theorem Mv.run {c : Int → Int → Int} (O : OrdC c) {D E : List Int} {a b i : Nat} (h : Mv D E a (i - 1)) (hr : Run c D (a + 1) b) (h1 : a + 1 ≤ i) (h2 : i ≤ b) (f1 : a + 1 < i → c (gD D (i - 1)) (gD D a) < 0) (f2 : i < b → ¬ c (gD D i) (gD D a) < 0) : Run c E a b := by
  intro p q hp hq hb
  rw [h p, h q]
  by_cases q1 : q < i - 1
  · rw [if_pos (by omega), if_pos (by omega)]; exact hr _ _ (by omega) (by omega) (by omega)
  · by_cases q2 : q = i - 1
    · rw [if_pos (by omega), if_neg (by omega), if_pos q2]
      have := f1 (by omega)
      exact O.tr _ _ _ (hr.le O (by omega) (show p + 1 ≤ i - 1 by omega) (by omega)) (by omega)
    · rw [if_neg (c := a ≤ q ∧ q < i - 1) (by omega), if_neg q2]
      by_cases p1 : p < i - 1
      · rw [if_pos (by omega)]; exact hr _ _ (by omega) (by omega) (by omega)
      · rw [if_neg (by omega)]
        by_cases p2 : p = i - 1
        · rw [if_pos p2]
          exact O.tr _ _ _ (O.le (f2 (by omega))) (hr.le O (by omega) (by omega) hb)
        · rw [if_neg p2]; exact hr _ _ (by omega) hq hb
/-- The last of a row is moved down, so far. -/
def Md (D E : List Int) (k m : Nat) : Prop := ∀ p, gD E p = if k < p ∧ p ≤ m then gD D (p - 1) else if p = k then gD D m else gD D p
theorem Md.start (D : List Int) (m : Nat) : Md D D m m := fun p => by
  rw [if_neg (by omega)]
  split
  · rename_i h; rw [h]
  · rfl
theorem Md.step {D E : List Int} {k m : Nat} (h : Md D E k m) (hk : 0 < k) (hm : k ≤ m) (hl : m < E.length) : Md D (swp E k (k - 1)) (k - 1) m := fun p => by
  rw [swp_at (by omega) (by omega), h p, h k, h (k - 1)]
  by_cases h1 : p = k - 1
  · rw [if_pos h1, if_neg (by omega), if_pos rfl, if_neg (by omega), if_pos h1]
  · rw [if_neg h1]
    by_cases h2 : p = k
    · subst h2
      rw [if_pos rfl, if_neg (by omega), if_neg (by omega), if_pos (by omega)]
    · rw [if_neg h2, if_neg h1, if_neg h2]
      by_cases h3 : k < p ∧ p ≤ m
      · rw [if_pos h3, if_pos (by omega)]
      · rw [if_neg h3, if_neg (by omega)]
theorem Md.run {c : Int → Int → Int} (O : OrdC c) {D E : List Int} {a m i : Nat} (h : Md D E i m) (hr : Run c D a m) (h1 : a ≤ i) (h2 : i ≤ m) (f1 : a < i → ¬ c (gD D m) (gD D (i - 1)) < 0) (f2 : i < m → c (gD D m) (gD D i) < 0) : Run c E a (m + 1) := by
  intro p q hp hq hb
  rw [h p, h q]
  by_cases p1 : p < i
  · rw [if_neg (c := i < p ∧ p ≤ m) (by omega), if_neg (c := p = i) (by omega)]
    by_cases q1 : q < i
    · rw [if_neg (by omega), if_neg (by omega)]; exact hr _ _ hp hq (by omega)
    · by_cases q2 : q = i
      · rw [if_neg (by omega), if_pos q2]
        exact O.tr _ _ _ (hr.le O hp (show p ≤ i - 1 by omega) (by omega)) (O.le (f1 (by omega)))
      · rw [if_pos (by omega)]; exact hr _ _ hp (by omega) (by omega)
  · by_cases p2 : p = i
    · rw [if_neg (c := i < p ∧ p ≤ m) (by omega), if_pos p2, if_pos (by omega)]
      have := f2 (by omega)
      exact O.tr _ _ _ (show c (gD D m) (gD D i) ≤ 0 by omega) (hr.le O h1 (by omega) (by omega))
    · rw [if_pos (by omega), if_pos (by omega)]; exact hr _ _ (by omega) (by omega) (by omega)
/-- Two ranges exchanged, so far. -/
def SwR (D E : List Int) (a b t : Nat) : Prop := ∀ k, gD E k = if a ≤ k ∧ k < a + t then gD D (k + (b - a)) else if b ≤ k ∧ k < b + t then gD D (k - (b - a)) else gD D k
theorem SwR.start (D : List Int) (a b : Nat) : SwR D D a b 0 := fun k => by rw [if_neg (by omega), if_neg (by omega)]
theorem SwR.step {D E : List Int} {a b t : Nat} (h : SwR D E a b t) (hab : a + t < b) (hl : b + t < E.length) : SwR D (swp E (a + t) (b + t)) a b (t + 1) := fun k => by
  rw [swp_at (by omega) (by omega), h k, h (a + t), h (b + t)]
  by_cases h1 : k = b + t
  · subst h1
    rw [if_pos rfl, if_neg (by omega), if_neg (by omega), if_neg (by omega), if_pos (by omega), show b + t - (b - a) = a + t by omega]
  · rw [if_neg h1]
    by_cases h2 : k = a + t
    · subst h2
      rw [if_pos rfl, if_neg (by omega), if_neg (by omega), if_pos (by omega), show a + t + (b - a) = b + t by omega]
    · rw [if_neg h2]
      by_cases h3 : a ≤ k ∧ k < a + t
      · rw [if_pos h3, if_pos (by omega)]
      · rw [if_neg h3, if_neg (c := a ≤ k ∧ k < a + (t + 1)) (by omega)]
        by_cases h4 : b ≤ k ∧ k < b + t
        · rw [if_pos h4, if_pos (by omega)]
        · rw [if_neg h4, if_neg (by omega)]
/-- Two neighbouring ranges turned about. -/
def rotV (D : List Int) (a m b k : Nat) : Int := if a ≤ k ∧ k < a + (b - m) then gD D (k + (m - a)) else if a + (b - m) ≤ k ∧ k < b then gD D (k - (b - m)) else gD D k
theorem rot_left {D E : List Int} {m i j : Nat} (h : SwR D E (m - i) m j) (hij : j < i) (him : i ≤ m) (k : Nat) : rotV E (m - (i - j)) m (m + j) k = rotV D (m - i) m (m + j) k := by
  unfold rotV
  have e1 : m + j - m = j := by omega
  have e2 : m - (m - (i - j)) = i - j := by omega
  have e3 : m - (m - i) = i := by omega
  rw [e1, e2, e3]
  by_cases h1 : m - i ≤ k ∧ k < m - i + j
  · rw [if_neg (by omega), if_neg (by omega), if_pos h1, h k, if_pos h1, e3]
  · rw [if_neg h1]
    by_cases h2 : m - (i - j) ≤ k ∧ k < m - (i - j) + j
    · rw [if_pos h2, if_pos (by omega), h, if_neg (by omega), if_pos (by omega), e3]
      congr 1; omega
    · rw [if_neg h2]
      by_cases h3 : m - (i - j) + j ≤ k ∧ k < m + j
      · rw [if_pos h3, if_pos (by omega), h, if_neg (by omega), if_neg (by omega)]
      · rw [if_neg h3, if_neg (by omega), h, if_neg (by omega), if_neg (by omega)]
theorem rot_right {D E : List Int} {m i j : Nat} (h : SwR D E (m - i) (m + j - i) i) (hij : i < j) (him : i ≤ m) (k : Nat) : rotV E (m - i) m (m + (j - i)) k = rotV D (m - i) m (m + j) k := by
  unfold rotV
  have e1 : m + (j - i) - m = j - i := by omega
  have e2 : m + j - m = j := by omega
  have e3 : m - (m - i) = i := by omega
  have e4 : m + j - i - (m - i) = j := by omega
  rw [e1, e2, e3]
  by_cases h1 : m - i ≤ k ∧ k < m - i + (j - i)
  · rw [if_pos h1, if_pos (by omega), h, e4]
    by_cases h2 : m - i ≤ k + i ∧ k + i < m - i + i
    · rw [if_pos h2]; omega
    · rw [if_neg h2, if_neg (by omega)]
  · rw [if_neg h1]
    by_cases h2 : m - i + (j - i) ≤ k ∧ k < m + (j - i)
    · rw [if_pos h2, h, e4]
      by_cases h3 : m - i ≤ k - (j - i) ∧ k - (j - i) < m - i + i
      · rw [if_pos h3, if_pos (by omega)]
        congr 1; omega
      · omega
    · rw [if_neg h2, h, e4]
      by_cases h3 : m + j - i ≤ k ∧ k < m + j - i + i
      · rw [if_neg (by omega), if_pos h3, if_neg (by omega), if_pos (by omega)]
      · rw [if_neg (by omega), if_neg h3, if_neg (by omega), if_neg (by omega)]
theorem rot_end {D E : List Int} {m i : Nat} (h : SwR D E (m - i) m i) (him : i ≤ m) (k : Nat) : gD E k = rotV D (m - i) m (m + i) k := by
  unfold rotV
  rw [h k]
  have e3 : m - (m - i) = i := by omega
  have e1 : m + i - m = i := by omega
  rw [e1, e3]
  by_cases h1 : m - i ≤ k ∧ k < m - i + i
  · rw [if_pos h1, if_pos h1]
  · rw [if_neg h1, if_neg h1]
    by_cases h2 : m ≤ k ∧ k < m + i
    · rw [if_pos h2, if_pos (by omega)]
    · rw [if_neg h2, if_neg (by omega)]
end Go.Proofs.YtkebflllbphkkaaDoor
