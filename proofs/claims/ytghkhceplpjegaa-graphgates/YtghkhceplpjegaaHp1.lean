/- Plain: what the library's heap does to a row (up, down), and that it makes it a heap again. -/
import Derived.Sort.LotA
namespace Go.Proofs.Ytghkhceplpjegaa
open Go.Sort
variable {α : Type} [Inhabited α] (lt : α → α → Bool)

/-- heap.up from j. -/
def hUp (j : Nat) (d : Array α) : Array α :=
  if h : j = 0 then d else
    if lt d[j]! d[(j - 1) / 2]! then hUp ((j - 1) / 2) (swp d ((j - 1) / 2) j) else d
termination_by j
decreasing_by omega
/-- The child that heap.down looks at. -/
def kid (n i : Nat) (d : Array α) : Nat := if 2 * i + 2 < n && lt d[2 * i + 2]! d[2 * i + 1]! then 2 * i + 2 else 2 * i + 1
theorem kid_gt (n i : Nat) (d : Array α) : i < kid lt n i d := by unfold kid; split <;> omega
theorem kid_lt (n i : Nat) (d : Array α) (h : 2 * i + 1 < n) : kid lt n i d < n := by
  unfold kid; split
  · rename_i hc; simp at hc; exact hc.1
  · exact h
/-- heap.down from i, among the first n: where it ends, and the row. -/
def hDown (n i : Nat) (d : Array α) : Nat × Array α :=
  if _h : 2 * i + 1 < n then
    if lt d[kid lt n i d]! d[i]! then hDown n (kid lt n i d) (swp d i (kid lt n i d)) else (i, d)
  else (i, d)
termination_by n - i
decreasing_by have := kid_gt lt n i d; have := kid_lt lt n i d _h; omega

variable {lt}
theorem hUp_zero (d : Array α) : hUp lt 0 d = d := by rw [hUp]; simp
theorem hUp_go {j : Nat} {d : Array α} (h : 0 < j) (hl : lt d[j]! d[(j - 1) / 2]! = true) : hUp lt j d = hUp lt ((j - 1) / 2) (swp d ((j - 1) / 2) j) := by
  rw [hUp, dif_neg (by omega), if_pos hl]
theorem hUp_stop {j : Nat} {d : Array α} (hl : lt d[j]! d[(j - 1) / 2]! = false) : hUp lt j d = d := by
  rw [hUp]; split
  · rfl
  · rw [if_neg (by simp [hl])]
theorem hDown_end {n i : Nat} {d : Array α} (h : n ≤ 2 * i + 1) : hDown lt n i d = (i, d) := by rw [hDown, dif_neg (by omega)]
theorem hDown_stop {n i : Nat} {d : Array α} (hl : lt d[kid lt n i d]! d[i]! = false) : hDown lt n i d = (i, d) := by
  rw [hDown]; split
  · rw [if_neg (by simp [hl])]
  · rfl
theorem hDown_go {n i : Nat} {d : Array α} (h : 2 * i + 1 < n) (hl : lt d[kid lt n i d]! d[i]! = true) : hDown lt n i d = hDown lt n (kid lt n i d) (swp d i (kid lt n i d)) := by
  rw [hDown, dif_pos h, if_pos hl]

theorem swp_perm (d : Array α) {i j : Nat} (hi : i < d.size) (hj : j < d.size) : (swp d i j).toList.Perm d.toList := by
  have := perm_set_set d.toList i j (by simpa using hi) (by simpa using hj)
  unfold swp
  rw [Array.toList_setIfInBounds, Array.toList_setIfInBounds, getElem!_pos d j hj, getElem!_pos d i hi]
  simpa using this

theorem hUp_size (j : Nat) (d : Array α) : (hUp lt j d).size = d.size := by
  induction j using Nat.strongRecOn generalizing d with
  | _ j ih =>
    rw [hUp]; split
    · rfl
    · split
      · rw [ih _ (by omega), size_swp]
      · rfl
theorem hUp_perm (j : Nat) (d : Array α) (hj : j < d.size) : (hUp lt j d).toList.Perm d.toList := by
  induction j using Nat.strongRecOn generalizing d with
  | _ j ih =>
    rw [hUp]; split
    · exact List.Perm.refl _
    · split
      · exact (ih _ (by omega) _ (by rw [size_swp]; omega)).trans (swp_perm d (by omega) hj)
      · exact List.Perm.refl _
theorem hUp_above (j : Nat) (d : Array α) (hj : j < d.size) (k : Nat) (hk : j < k) : (hUp lt j d)[k]! = d[k]! := by
  induction j using Nat.strongRecOn generalizing d with
  | _ j ih =>
    rw [hUp]; split
    · rfl
    · split
      · rw [ih _ (by omega) _ (by rw [size_swp]; omega) (by omega), swp_other _ _ _ _ (by omega) (by omega)]
      · rfl
theorem hDown_all (m n : Nat) : ∀ (i : Nat) (d : Array α), n - i ≤ m → n ≤ d.size → (hDown lt n i d).2.size = d.size ∧ (hDown lt n i d).2.toList.Perm d.toList ∧ (∀ k, n ≤ k → (hDown lt n i d).2[k]! = d[k]!) ∧ i ≤ (hDown lt n i d).1 ∧ (i < n → (hDown lt n i d).1 < n) := by
  induction m with
  | zero =>
    intro i d hm hn
    rw [hDown_end (by omega)]
    exact ⟨rfl, List.Perm.refl _, fun _ _ => rfl, Nat.le_refl _, fun h => h⟩
  | succ m ih =>
    intro i d hm hn
    by_cases h : 2 * i + 1 < n
    · cases hl : lt d[kid lt n i d]! d[i]! with
      | false => rw [hDown_stop hl]; exact ⟨rfl, List.Perm.refl _, fun _ _ => rfl, Nat.le_refl _, fun h => h⟩
      | true =>
        have h1 := kid_gt lt n i d
        have h2 := kid_lt lt n i d h
        rw [hDown_go h hl]
        obtain ⟨a, b, c, e, f⟩ := ih (kid lt n i d) (swp d i (kid lt n i d)) (by omega) (by rw [size_swp]; exact hn)
        refine ⟨by rw [a, size_swp], b.trans (swp_perm d (by omega) (by omega)), fun k hk => ?_, by omega, fun _ => f h2⟩
        rw [c k hk, swp_other _ _ _ _ (by omega) (by omega)]
    · rw [hDown_end (by omega)]
      exact ⟨rfl, List.Perm.refl _, fun _ _ => rfl, Nat.le_refl _, fun h => h⟩

/-- The first n are a heap. -/
def Heap (lt : α → α → Bool) (n : Nat) (d : Array α) : Prop := ∀ k, 0 < k → k < n → lt d[k]! d[(k - 1) / 2]! = false
/-- A heap but for one place and what lies above it. -/
def HeapUp (lt : α → α → Bool) (n : Nat) (d : Array α) (j : Nat) : Prop := (∀ k, 0 < k → k < n → k ≠ j → lt d[k]! d[(k - 1) / 2]! = false) ∧ ∀ k, 0 < k → k < n → (k - 1) / 2 = j → 0 < j → lt d[k]! d[(j - 1) / 2]! = false
/-- A heap but for one place and what lies below it (and, with it, above it). -/
def HeapDn (lt : α → α → Bool) (n : Nat) (d : Array α) (i : Nat) : Prop := (∀ k, 0 < k → k < n → (k - 1) / 2 ≠ i → k ≠ i → lt d[k]! d[(k - 1) / 2]! = false) ∧ ∀ k, 0 < k → k < n → (k - 1) / 2 = i → 0 < i → lt d[k]! d[(i - 1) / 2]! = false

theorem heap_up (hS : SWO lt) (n j : Nat) (d : Array α) (hj : j < n) (hn : n ≤ d.size) (h : HeapUp lt n d j) : Heap lt n (hUp lt j d) := by
  induction j using Nat.strongRecOn generalizing d with
  | _ j ih =>
    by_cases h0 : j = 0
    · subst h0; rw [hUp_zero]; exact fun k hk hkn => h.1 k hk hkn (by omega)
    · cases hl : lt d[j]! d[(j - 1) / 2]! with
      | false =>
        rw [hUp_stop hl]
        intro k hk hkn
        by_cases hkj : k = j
        · subst hkj; exact hl
        · exact h.1 k hk hkn hkj
      | true =>
        rw [hUp_go (by omega) hl]
        have hi : (j - 1) / 2 < j := by omega
        obtain ⟨i, hI⟩ : ∃ i, i = (j - 1) / 2 := ⟨_, rfl⟩
        rw [← hI] at hl hi ⊢
        have g := swp_get d (i := i) (j := j) (by omega) (by omega)
        refine ih i hi _ (by omega) (by rw [size_swp]; exact hn) ⟨fun k hk hkn hki => ?_, fun k hk hkn hki hi0 => ?_⟩
        · rw [g k, g ((k - 1) / 2)]
          by_cases e1 : k = j
          · subst e1
            rw [if_pos rfl, ← hI, if_neg (by omega), if_pos rfl]; exact hS.asymmA hl
          · rw [if_neg e1, if_neg hki]
            by_cases e2 : (k - 1) / 2 = j
            · rw [if_pos e2]; rw [hI]; exact h.2 k hk hkn e2 (by omega)
            · rw [if_neg e2]
              by_cases e3 : (k - 1) / 2 = i
              · rw [if_pos e3]
                have := h.1 k hk hkn e1
                rw [e3] at this
                exact hS.ntrans _ _ _ this (hS.asymmA hl)
              · rw [if_neg e3]; exact h.1 k hk hkn e1
        · have e4 := h.1 i hi0 (by omega) (by omega)
          rw [g k, g ((i - 1) / 2), if_neg (by omega : (i - 1) / 2 ≠ j), if_neg (by omega : (i - 1) / 2 ≠ i)]
          by_cases e1 : k = j
          · rw [if_pos e1]; exact e4
          · rw [if_neg e1, if_neg (by omega)]
            have := h.1 k hk hkn e1
            rw [hki] at this
            exact hS.ntrans _ _ _ this e4

theorem heapDn_step (hS : SWO lt) (n i : Nat) (d : Array α) (hi : 2 * i + 1 < n) (hn : n ≤ d.size) (h : HeapDn lt n d i) (hl : lt d[kid lt n i d]! d[i]! = true) :
    HeapDn lt n (swp d i (kid lt n i d)) (kid lt n i d) ∧ (0 < i → lt (swp d i (kid lt n i d))[i]! (swp d i (kid lt n i d))[(i - 1) / 2]! = false) ∧ ∀ k, 0 < k → k < n → (k - 1) / 2 = i → lt (swp d i (kid lt n i d))[k]! (swp d i (kid lt n i d))[i]! = false := by
  have hk1 := kid_gt lt n i d
  have hk2 := kid_lt lt n i d hi
  have hk3 : kid lt n i d = 2 * i + 2 ∨ kid lt n i d = 2 * i + 1 := by unfold kid; split <;> simp
  have hmin : ∀ k, k < n → (k = 2 * i + 1 ∨ k = 2 * i + 2) → lt d[k]! d[kid lt n i d]! = false := by
    intro k hkn hk
    unfold kid
    split
    · rename_i hc
      simp at hc
      rcases hk with rfl | rfl
      · exact hS.asymmA hc.2
      · exact hS.irrefl _
    · rename_i hc
      rcases hk with rfl | rfl
      · exact hS.irrefl _
      · simpa [hkn] using hc
  obtain ⟨j, hJ⟩ : ∃ j, j = kid lt n i d := ⟨_, rfl⟩
  rw [← hJ] at hl hk1 hk2 hk3 hmin ⊢
  have g := swp_get d (i := i) (j := j) (by omega) (by omega)
  refine ⟨⟨fun k hk hkn e1 e2 => ?_, fun k hk hkn e1 hj0 => ?_⟩, fun h0 => ?_, fun k hk hkn e1 => ?_⟩
  · rw [g k, g ((k - 1) / 2), if_neg e2, if_neg e1]
    by_cases e3 : k = i
    · rw [if_pos e3, if_neg (by omega)]
      subst e3
      exact h.2 j (by omega) hk2 (by omega) hk
    · rw [if_neg e3]
      by_cases e4 : (k - 1) / 2 = i
      · rw [if_pos e4]; exact hmin k hkn (by omega)
      · rw [if_neg e4]; exact h.1 k hk hkn e4 e3
  · have e5 : (j - 1) / 2 = i := by omega
    rw [g k, e5, g i, if_neg (by omega : k ≠ j), if_neg (by omega : k ≠ i), if_neg (by omega : i ≠ j), if_pos rfl]
    have := h.1 k hk hkn (by omega) (by omega)
    rw [e1] at this
    exact this
  · rw [g i, g ((i - 1) / 2), if_neg (by omega : i ≠ j), if_pos rfl, if_neg (by omega : (i - 1) / 2 ≠ j), if_neg (by omega : (i - 1) / 2 ≠ i)]
    exact h.2 j (by omega) hk2 (by omega) h0
  · rw [g k, g i, if_neg (by omega : i ≠ j), if_pos rfl]
    by_cases e3 : k = j
    · rw [if_pos e3]; exact hS.asymmA hl
    · rw [if_neg e3, if_neg (by omega)]; exact hmin k hkn (by omega)

/-- From a place that stands right to what is above it. -/
theorem heap_down (hS : SWO lt) (n m : Nat) : ∀ (i : Nat) (d : Array α), n - i ≤ m → n ≤ d.size → HeapDn lt n d i → (0 < i → i < n → lt d[i]! d[(i - 1) / 2]! = false) → Heap lt n (hDown lt n i d).2 := by
  induction m with
  | zero =>
    intro i d hm hn h hu
    rw [hDown_end (by omega)]
    intro k hk hkn
    exact h.1 k hk hkn (by omega) (by omega)
  | succ m ih =>
    intro i d hm hn h hu
    have stop : (∀ k, 0 < k → k < n → (k - 1) / 2 = i → lt d[k]! d[i]! = false) → Heap lt n d := by
      intro hc k hk hkn
      by_cases e1 : (k - 1) / 2 = i
      · have := hc k hk hkn e1; rw [← e1] at this; exact this
      · by_cases e2 : k = i
        · subst e2; exact hu hk hkn
        · exact h.1 k hk hkn e1 e2
    by_cases hi : 2 * i + 1 < n
    · cases hl : lt d[kid lt n i d]! d[i]! with
      | false =>
        rw [hDown_stop hl]
        refine stop fun k hk hkn e1 => ?_
        unfold kid at hl
        split at hl
        · rename_i hc
          simp at hc
          have : k = 2 * i + 1 ∨ k = 2 * i + 2 := by omega
          rcases this with rfl | rfl
          · exact hS.ntrans _ _ _ (hS.asymmA hc.2) hl
          · exact hl
        · rename_i hc
          have : k = 2 * i + 1 ∨ k = 2 * i + 2 := by omega
          rcases this with rfl | rfl
          · exact hl
          · have hc' : lt d[2 * i + 2]! d[2 * i + 1]! = false := by simpa [hkn] using hc
            exact hS.ntrans _ _ _ hc' hl
      | true =>
        have h1 := kid_gt lt n i d
        obtain ⟨s1, s2, s3⟩ := heapDn_step hS n i d hi hn h hl
        rw [hDown_go hi hl]
        refine ih _ _ (by omega) (by rw [size_swp]; exact hn) s1 (fun hk hkn => ?_)
        have hk3 : (kid lt n i d - 1) / 2 = i := by unfold kid; split <;> omega
        rw [hk3]
        exact s3 _ hk hkn hk3
    · rw [hDown_end (by omega)]
      exact stop fun k hk hkn e1 => by omega
/-- heap.Fix: whatever stands at i. -/
theorem heap_fix (hS : SWO lt) (n i : Nat) (d : Array α) (hi : i < n) (hn : n ≤ d.size) (h : HeapDn lt n d i) :
    Heap lt n (if i < (hDown lt n i d).1 then (hDown lt n i d).2 else hUp lt i (hDown lt n i d).2) := by
  have stay : (∀ k, 0 < k → k < n → (k - 1) / 2 = i → lt d[k]! d[i]! = false) → HeapUp lt n d i := by
    intro hc
    refine ⟨fun k hk hkn e2 => ?_, h.2⟩
    by_cases e1 : (k - 1) / 2 = i
    · have := hc k hk hkn e1; rw [← e1] at this; exact this
    · exact h.1 k hk hkn e1 e2
  by_cases hc : 2 * i + 1 < n
  · cases hl : lt d[kid lt n i d]! d[i]! with
    | false =>
      rw [hDown_stop hl]
      simp only [Nat.lt_irrefl, if_false]
      refine heap_up hS n i d hi hn (stay fun k hk hkn e1 => ?_)
      unfold kid at hl
      split at hl
      · rename_i hc
        simp at hc
        have : k = 2 * i + 1 ∨ k = 2 * i + 2 := by omega
        rcases this with rfl | rfl
        · exact hS.ntrans _ _ _ (hS.asymmA hc.2) hl
        · exact hl
      · rename_i hc
        have : k = 2 * i + 1 ∨ k = 2 * i + 2 := by omega
        rcases this with rfl | rfl
        · exact hl
        · have hc' : lt d[2 * i + 2]! d[2 * i + 1]! = false := by simpa [hkn] using hc
          exact hS.ntrans _ _ _ hc' hl
    | true =>
      have h1 := kid_gt lt n i d
      obtain ⟨s1, s2, s3⟩ := heapDn_step hS n i d hc hn h hl
      rw [hDown_go hc hl]
      have hge := (hDown_all (lt := lt) (n - kid lt n i d) n (kid lt n i d) (swp d i (kid lt n i d)) (Nat.le_refl _) (by rw [size_swp]; exact hn)).2.2.2.1
      rw [if_pos (by omega)]
      refine heap_down hS n _ _ _ (Nat.le_refl _) (by rw [size_swp]; exact hn) s1 (fun hk hkn => ?_)
      have hk3 : (kid lt n i d - 1) / 2 = i := by unfold kid; split <;> omega
      rw [hk3]
      exact s3 _ hk hkn hk3
  · rw [hDown_end (by omega)]
    simp only [Nat.lt_irrefl, if_false]
    exact heap_up hS n i d hi hn (stay fun k hk hkn e1 => by omega)
/-- A heap's front is not behind any of it. -/
theorem heap_front (hS : SWO lt) (n : Nat) (d : Array α) (h : Heap lt n d) (k : Nat) (hk : k < n) : lt d[k]! d[0]! = false := by
  induction k using Nat.strongRecOn with
  | _ k ih =>
    by_cases h0 : k = 0
    · subst h0; exact hS.irrefl _
    · exact hS.ntrans _ _ _ (h k (by omega) hk) (ih _ (by omega) (by omega))
end Go.Proofs.Ytghkhceplpjegaa
