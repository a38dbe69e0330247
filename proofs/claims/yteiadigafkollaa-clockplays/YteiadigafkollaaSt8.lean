/- Plain: what pdqsort's round keeps. -/
import Derived.Test.YteiadigafkollaaRw3
import Derived.Sort.LotC
import Derived.Sort.AssemblyPlain
namespace Go.Proofs.Yteiadigafkollaa
open Go.Sort

/-- All of [a, b) stands in order but for what lies in [p, q). -/
def Part (a b p q : Nat) (d : Array Tm) : Prop := ∀ i j, a ≤ i → i < j → j < b → ¬ (p ≤ i ∧ j < q) → tlt d[j]! d[i]! = false
theorem part_start (a b : Nat) (d : Array Tm) : Part a b a b d := fun _ _ h1 _ h3 h4 => absurd ⟨h1, h3⟩ h4
/-- What lies in [p, q) may change places. -/
theorem Part.perm {a b p q : Nat} {d d' : Array Tm} (h : Part a b p q d) (hap : a ≤ p) (hqb : q ≤ b) (hq : q ≤ d.size) (hp : PermIn p q d d') : Part a b p q d' := by
  intro i j h1 h2 h3 h4
  have out := hp.2.1
  by_cases hi : p ≤ i ∧ i < q
  · have hj : ¬ (p ≤ j ∧ j < q) := by omega
    rw [out j (by omega)]
    exact permIn_all d d' p q (fun x => tlt d[j]! x = false) hq hp (fun t ht1 ht2 => h t j (by omega) (by omega) h3 (by omega)) i hi.1 hi.2
  · rw [out i (by omega)]
    by_cases hj : p ≤ j ∧ j < q
    · exact permIn_all d d' p q (fun x => tlt x d[i]! = false) hq hp (fun t ht1 ht2 => h i t h1 (by omega) (by omega) (by omega)) j hj.1 hj.2
    · rw [out j (by omega)]; exact h i j h1 h2 h3 h4
theorem Part.sorted {a b p q : Nat} {d : Array Tm} (h : Part a b p q d) (hs : SortedIn tlt p q d) : SortedIn tlt a b d := by
  intro i j h1 h2 h3
  by_cases hc : p ≤ i ∧ j < q
  · exact hs i j hc.1 h2 hc.2
  · exact h i j h1 h2 h3 hc
/-- Nothing of [p, q) stands ahead of what lies just before it. -/
theorem Part.below {a b p q : Nat} {d : Array Tm} (h : Part a b p q d) (hap : a ≤ p) (hqb : q ≤ b) (h0 : Sort.Below tlt a b d) : Sort.Below tlt p q d := by
  by_cases hp : p = a
  · subst hp
    rcases h0 with h0 | h0
    · exact Or.inl h0
    · exact Or.inr fun i h1 h2 => h0 i h1 (by omega)
  · exact Or.inr fun i h1 h2 => h (p - 1) i (by omega) (by omega) (by omega) (by omega)
theorem below_perm {a b p q : Nat} {d d' : Array Tm} (hap : a ≤ p) (hqb : q ≤ b) (hb : b ≤ d.size) (h : Sort.Below tlt a b d) (hp : PermIn p q d d') : Sort.Below tlt a b d' := by
  rcases h with h | h
  · exact Or.inl h
  · by_cases h0 : a = 0
    · exact Or.inl h0
    · refine Or.inr ?_
      rw [hp.2.1 (a - 1) (by omega)]
      exact permIn_all d d' a b (fun x => tlt x d[a - 1]! = false) hb (permIn_mono d d' p q a b hap hqb hb hp) (fun i h1 h2 => h i h1 h2)
/-- Behind a partition at m, the left side sorted. -/
theorem Part.left {a b p q m : Nat} {d : Array Tm} (h : Part a b p q d) (_ : p ≤ m) (hm2 : m < q) (hl : ∀ i, p ≤ i → i < m → tlt d[i]! d[m]! = true) (hr : ∀ i, m < i → i < q → tlt d[i]! d[m]! = false) (hs : SortedIn tlt p m d) : Part a b (m + 1) q d := by
  intro i j h1 h2 h3 h4
  by_cases hc : p ≤ i ∧ j < q
  · by_cases hj : j < m
    · exact hs i j hc.1 h2 hj
    · by_cases hjm : j = m
      · subst hjm; exact tlt_swo.asymmA (hl i hc.1 h2)
      · by_cases hi : i < m
        · exact tlt_swo.ntrans _ _ _ (hr j (by omega) hc.2) (tlt_swo.asymmA (hl i hc.1 hi))
        · have : i = m := by omega
          subst this; exact hr j h2 hc.2
  · exact h i j h1 h2 h3 hc
/-- Behind a partition at m, the right side sorted. -/
theorem Part.right {a b p q m : Nat} {d : Array Tm} (h : Part a b p q d) (hm1 : p ≤ m) (_ : m < q) (hl : ∀ i, p ≤ i → i < m → tlt d[i]! d[m]! = true) (hr : ∀ i, m < i → i < q → tlt d[i]! d[m]! = false) (hs : SortedIn tlt (m + 1) q d) : Part a b p m d := by
  intro i j h1 h2 h3 h4
  by_cases hc : p ≤ i ∧ j < q
  · by_cases hi : m < i
    · exact hs i j (by omega) h2 hc.2
    · by_cases him : i = m
      · subst him; exact hr j h2 hc.2
      · by_cases hj : m < j
        · exact tlt_swo.ntrans _ _ _ (hr j hj hc.2) (tlt_swo.asymmA (hl i hc.1 (by omega)))
        · have : j = m := by omega
          subst this; exact tlt_swo.asymmA (hl i hc.1 h2)
  · exact h i j h1 h2 h3 hc
/-- The halves of a partition may be sorted apart. -/
theorem split_perm_left {p q m : Nat} {d d' : Array Tm} (hm2 : m < q) (hq : q ≤ d.size) (hp : PermIn p m d d') (hl : ∀ i, p ≤ i → i < m → tlt d[i]! d[m]! = true) (hr : ∀ i, m < i → i < q → tlt d[i]! d[m]! = false) :
    (∀ i, p ≤ i → i < m → tlt d'[i]! d'[m]! = true) ∧ (∀ i, m < i → i < q → tlt d'[i]! d'[m]! = false) := by
  have out := hp.2.1
  constructor
  · intro i h1 h2
    rw [out m (Or.inr (Nat.le_refl _))]
    exact permIn_all d d' p m (fun x => tlt x d[m]! = true) (by omega) hp hl i h1 h2
  · intro i h1 h2
    rw [out m (Or.inr (Nat.le_refl _)), out i (Or.inr (by omega))]; exact hr i h1 h2
theorem split_perm_right {p q m : Nat} {d d' : Array Tm} (hq : q ≤ d.size) (hp : PermIn (m + 1) q d d') (hl : ∀ i, p ≤ i → i < m → tlt d[i]! d[m]! = true) (hr : ∀ i, m < i → i < q → tlt d[i]! d[m]! = false) :
    (∀ i, p ≤ i → i < m → tlt d'[i]! d'[m]! = true) ∧ (∀ i, m < i → i < q → tlt d'[i]! d'[m]! = false) := by
  have out := hp.2.1
  constructor
  · intro i h1 h2
    rw [out m (Or.inl (by omega)), out i (Or.inl (by omega))]; exact hl i h1 h2
  · intro i h1 h2
    rw [out m (Or.inl (by omega))]
    exact permIn_all d d' (m + 1) q (fun x => tlt x d[m]! = false) hq hp (fun t h1 h2 => hr t (by omega) h2) i (by omega) h2
/-- Behind a partition of those that are the pivot's like. -/
theorem Part.equal {a b p q m : Nat} {d : Array Tm} {x : Tm} (h : Part a b p q d) (hl : ∀ i, p ≤ i → i < m → tlt x d[i]! = false) (hl2 : ∀ i, p ≤ i → i < q → tlt d[i]! x = false) (_hr : ∀ i, m ≤ i → i < q → tlt x d[i]! = true) : Part a b m q d := by
  intro i j h1 h2 h3 h4
  by_cases hc : p ≤ i ∧ j < q
  · have hi : i < m := by omega
    exact tlt_swo.ntrans _ _ _ (hl2 j (by omega) hc.2) (hl i hc.1 hi)
  · exact h i j h1 h2 h3 hc
end Go.Proofs.Yteiadigafkollaa
