/- Graph, plain: the numbers that the document's Gates keeps, step by step. -/
import Derived.Test.YtghkhceplpjegaaYq2
import Derived.Test.YtghkhceplpjegaaYl0
namespace Go.Proofs.Ytghkhceplpjegaa
open Go.RowKit

/-- n is none but the root, is reached, and closes y. -/
noncomputable def goB (E : List (Nat × Nat)) (r n y : Nat) : Bool := decide (n ≠ r) && (wyB E (-1) [r] n && (decide (y ≠ n) && (decide (y ≠ r) && (wyB E (-1) [r] y && !wyB E n [r] y))))
theorem wy_one {E : List (Nat × Nat)} {d : Int} {r y : Nat} : wyB E d [r] y = true ↔ Wy (edW E d) r y := by
  rw [wyB_iff]
  constructor
  · rintro ⟨r', h1, h2⟩
    have e : r' = r := by simpa using h1
    rw [← e]; exact h2
  · exact fun h => ⟨r, by simp, h⟩
theorem wy_rs {E : List (Nat × Nat)} {r y : Nat} (h : y ≠ r) : wyB E (-1) [r] y = true ↔ Rs (ed E) r y := by
  rw [wy_one]
  constructor
  · exact fun k => Or.inr (k.imp fun _ _ q => (edW_none (by decide)).1 q)
  · rintro (e | k)
    · exact absurd e.symm h
    · exact k.imp fun _ _ q => (edW_none (by decide)).2 q
theorem wy_av {E : List (Nat × Nat)} {r n y : Nat} (h1 : n ≠ r) (h2 : y ≠ r) : wyB E n [r] y = true ↔ Av E r n y := by
  rw [wy_one]
  constructor
  · exact fun k => ⟨fun e => h1 e.symm, Or.inr k⟩
  · rintro ⟨_, e | k⟩
    · exact absurd e.symm h2
    · exact k
theorem goB_iff {E : List (Nat × Nat)} {r n y : Nat} : goB E r n y = true ↔ n ≠ r ∧ Rs (ed E) r n ∧ Gt E r n y ∧ Rs (ed E) r y ∧ y ≠ r := by
  unfold goB
  simp only [Bool.and_eq_true, decide_eq_true_iff, Bool.not_eq_true']
  constructor
  · rintro ⟨h1, h2, h3, h4, h5, h6⟩
    refine ⟨h1, (wy_rs h1).1 h2, ⟨h3, fun k => ?_⟩, (wy_rs h4).1 h5, h4⟩
    rw [(wy_av h1 h4).2 k] at h6
    cases h6
  · rintro ⟨h1, h2, ⟨h3, h6⟩, h5, h4⟩
    refine ⟨h1, (wy_rs h1).2 h2, h3, h4, (wy_rs h4).2 h5, ?_⟩
    rw [← Bool.not_eq_true]
    exact fun k => h6 ((wy_av h1 h4).1 k)
/-- What the document's Gates answers of a node. -/
noncomputable def gdF (N : Nat) (E : List (Nat × Nat)) (r k : Nat) : Int := if k = r ∨ wyB E (-1) [r] k = false then -1 else (bsF r (fun n => goB E r n k) (fun y => (ris N fun n => goB E r n y).length) N : Nat)
theorem gd_ga {N : Nat} {E : List (Nat × Nat)} (hlt : ∀ e ∈ E, e.1 < N ∧ e.2 < N) (r k : Nat) : GA E r k (gdF N E r k) := by
  constructor
  · rintro ⟨h1, h2⟩
    refine ⟨_, ?_, gd_lg (N := N) hlt h1 h2 (fun n y => goB_iff)⟩
    unfold gdF
    rw [if_neg]
    rintro (q | q)
    · exact h2 q
    · rw [(wy_rs h2).2 h1] at q; cases q
  · intro h
    unfold gdF
    rw [if_pos]
    by_cases e : k = r
    · exact Or.inl e
    · right
      rw [← Bool.not_eq_true]
      exact fun q => h ⟨(wy_rs e).1 q, e⟩
end Go.Proofs.Ytghkhceplpjegaa
namespace Go.Proofs.Ytghkhceplpjegaa
open Go.RowKit

/-- Of the first n nodes, how many close k. -/
noncomputable def dpF (E : List (Nat × Nat)) (r n k : Nat) : Int := ((ris n fun m => goB E r m k).length : Nat)
/-- Amid the row of n. -/
noncomputable def dpJ (E : List (Nat × Nat)) (r n j k : Nat) : Int := if k < j then dpF E r (n + 1) k else dpF E r n k
def o1F (n k : Nat) : Int := if k < n then -1 else 0
noncomputable def rwF (E : List (Nat × Nat)) (r n j k : Nat) : Bool := decide (k < j) && goB E r n k
noncomputable def hhB (E : List (Nat × Nat)) (r n i : Nat) : Bool := decide (i < n) && (decide (i ≠ r) && wyB E (-1) [r] i)
noncomputable def o2F (N : Nat) (E : List (Nat × Nat)) (r k y : Nat) : Int := if y < k then gdF N E r y else -1
noncomputable def bsG (N : Nat) (E : List (Nat × Nat)) (r k m : Nat) : Nat := bsF r (fun n => goB E r n k) (fun y => (ris N fun n => goB E r n y).length) m
noncomputable def o3F (N : Nat) (E : List (Nat × Nat)) (r k m y : Nat) : Int := if y = k then (bsG N E r k m : Nat) else o2F N E r k y
theorem goB_no {E : List (Nat × Nat)} {r n k : Nat} (h : n = r ∨ wyB E (-1) [r] n = false) : goB E r n k = false := by
  unfold goB
  rcases h with h | h
  · simp [h]
  · simp [h]
theorem goB_is {E : List (Nat × Nat)} {r n k : Nat} (h1 : n ≠ r) (h2 : wyB E (-1) [r] n = true) : goB E r n k = (decide (k ≠ n) && (decide (k ≠ r) && (wyB E (-1) [r] k && !wyB E n [r] k))) := by
  unfold goB
  rw [h2]
  simp [h1]
theorem dpF_succ (E : List (Nat × Nat)) (r n k : Nat) : dpF E r (n + 1) k = if goB E r n k = true then dpF E r n k + 1 else dpF E r n k := by
  unfold dpF
  rw [ris_succ]
  by_cases h : goB E r n k = true
  · rw [if_pos h, if_pos h, List.length_append]
    simp
  · rw [if_neg h, if_neg h]
theorem dpF_skip {E : List (Nat × Nat)} {r n : Nat} (h : n = r ∨ wyB E (-1) [r] n = false) (k : Nat) : dpF E r n k = dpF E r (n + 1) k := by
  rw [dpF_succ, if_neg (by rw [goB_no h]; decide)]
theorem dpF_bd (E : List (Nat × Nat)) (r n k : Nat) : 0 ≤ dpF E r n k ∧ dpF E r n k ≤ n := by
  unfold dpF
  have := ris_len n fun m => goB E r m k
  omega
theorem o1F_succ (n x : Nat) : upF (o1F n) n (-1) x = o1F (n + 1) x := by
  unfold upF o1F
  by_cases e : x = n
  · rw [if_pos e, if_pos (by omega)]
  · rw [if_neg e]
    by_cases h : x < n
    · rw [if_pos h, if_pos (by omega)]
    · rw [if_neg h, if_neg (by omega)]
theorem rwF_succ (E : List (Nat × Nat)) (r n k x : Nat) : upB (rwF E r n k) k (goB E r n k) x = rwF E r n (k + 1) x := by
  unfold upB rwF
  by_cases e : x = k
  · rw [if_pos e, e]; simp
  · rw [if_neg e]
    by_cases h : x < k
    · simp [h, show x < k + 1 by omega]
    · simp [h, show ¬ x < k + 1 by omega]
theorem rwF_zero (E : List (Nat × Nat)) (r n x : Nat) : false = rwF E r n 0 x := by unfold rwF; simp
theorem rwF_all {E : List (Nat × Nat)} {r n N x : Nat} (h : x < N) : rwF E r n N x = goB E r n x := by unfold rwF; simp [h]
theorem dpJ_zero (E : List (Nat × Nat)) (r n x : Nat) : dpF E r n x = dpJ E r n 0 x := by unfold dpJ; rw [if_neg (by omega)]
theorem dpJ_all {E : List (Nat × Nat)} {r n N x : Nat} (h : x < N) : dpJ E r n N x = dpF E r (n + 1) x := by unfold dpJ; rw [if_pos h]
theorem dpJ_at (E : List (Nat × Nat)) (r n k : Nat) : dpJ E r n k k = dpF E r n k := by unfold dpJ; rw [if_neg (by omega)]
theorem dpJ_yes {E : List (Nat × Nat)} {r n k : Nat} (h : goB E r n k = true) (x : Nat) : upF (dpJ E r n k) k (dpF E r n k + 1) x = dpJ E r n (k + 1) x := by
  unfold upF dpJ
  by_cases e : x = k
  · rw [if_pos e, if_pos (by omega), dpF_succ, e, if_pos h]
  · rw [if_neg e]
    by_cases h : x < k
    · rw [if_pos h, if_pos (by omega)]
    · rw [if_neg h, if_neg (by omega)]
theorem dpJ_no {E : List (Nat × Nat)} {r n k : Nat} (h : goB E r n k = false) (x : Nat) : dpJ E r n k x = dpJ E r n (k + 1) x := by
  unfold dpJ
  by_cases e : x = k
  · rw [if_neg (by omega), if_pos (by omega), dpF_succ, e, if_neg (by rw [h]; decide)]
  · by_cases h : x < k
    · rw [if_pos h, if_pos (by omega)]
    · rw [if_neg h, if_neg (by omega)]
theorem hhB_next {E : List (Nat × Nat)} {r n i : Nat} (h : hhB E r (n + 1) i = true) (hi : i ≠ n) : hhB E r n i = true := by
  unfold hhB at *
  simp only [Bool.and_eq_true, decide_eq_true_iff] at *
  exact ⟨by omega, h.2⟩
theorem hhB_skip {E : List (Nat × Nat)} {r n i : Nat} (hs : n = r ∨ wyB E (-1) [r] n = false) (h : hhB E r (n + 1) i = true) : hhB E r n i = true := by
  refine hhB_next h fun e => ?_
  unfold hhB at h
  simp only [Bool.and_eq_true, decide_eq_true_iff] at h
  rcases hs with q | q
  · exact h.2.1 (by rw [e]; exact q)
  · rw [e, q] at h; exact absurd h.2.2 (by decide)
theorem hhB_all {E : List (Nat × Nat)} {r N i : Nat} (hi : i < N) (h1 : i ≠ r) (h2 : wyB E (-1) [r] i = true) : hhB E r N i = true := by unfold hhB; simp [hi, h1, h2]
theorem hhB_zero {E : List (Nat × Nat)} {r i : Nat} (h : hhB E r 0 i = true) : False := by unfold hhB at h; simp at h
theorem o2F_zero (N : Nat) (E : List (Nat × Nat)) (r : Nat) {y : Nat} (h : y < N) : o1F N y = o2F N E r 0 y := by unfold o1F o2F; rw [if_pos h, if_neg (by omega)]
theorem o2F_skip {N : Nat} {E : List (Nat × Nat)} {r k : Nat} (h : k = r ∨ wyB E (-1) [r] k = false) (y : Nat) : o2F N E r k y = o2F N E r (k + 1) y := by
  unfold o2F
  by_cases e : y = k
  · rw [if_neg (by omega), if_pos (by omega), e]
    unfold gdF
    rw [if_pos h]
  · by_cases q : y < k
    · rw [if_pos q, if_pos (by omega)]
    · rw [if_neg q, if_neg (by omega)]
theorem o2F_all {N : Nat} {E : List (Nat × Nat)} {r y : Nat} (h : y < N) : o2F N E r N y = gdF N E r y := by unfold o2F; rw [if_pos h]
theorem o3F_zero (N : Nat) (E : List (Nat × Nat)) (r k y : Nat) : upF (o2F N E r k) k (r : Nat) y = o3F N E r k 0 y := rfl
theorem o3F_at (N : Nat) (E : List (Nat × Nat)) (r k m : Nat) : o3F N E r k m k = (bsG N E r k m : Nat) := by unfold o3F; rw [if_pos rfl]
theorem bsG_succ (N : Nat) (E : List (Nat × Nat)) (r k m : Nat) : bsG N E r k (m + 1) = if goB E r m k = true ∧ (bsG N E r k m = r ∨ dpF E r N (bsG N E r k m) < dpF E r N m) then m else bsG N E r k m := by
  have e : (dpF E r N (bsG N E r k m) < dpF E r N m) ↔ ((ris N fun n => goB E r n (bsG N E r k m)).length < (ris N fun n => goB E r n m).length) := by unfold dpF; omega
  simp only [e]
  rfl
theorem o3F_yes {N : Nat} {E : List (Nat × Nat)} {r k m : Nat} (h : goB E r m k = true ∧ (bsG N E r k m = r ∨ dpF E r N (bsG N E r k m) < dpF E r N m)) (y : Nat) : upF (o3F N E r k m) k (m : Nat) y = o3F N E r k (m + 1) y := by
  unfold upF o3F
  by_cases e : y = k
  · rw [if_pos e, if_pos e, bsG_succ, if_pos h]
  · rw [if_neg e, if_neg e, if_neg e]
theorem o3F_no {N : Nat} {E : List (Nat × Nat)} {r k m : Nat} (h : ¬ (goB E r m k = true ∧ (bsG N E r k m = r ∨ dpF E r N (bsG N E r k m) < dpF E r N m))) (y : Nat) : o3F N E r k m y = o3F N E r k (m + 1) y := by
  unfold o3F
  by_cases e : y = k
  · rw [if_pos e, if_pos e, bsG_succ, if_neg h]
  · rw [if_neg e, if_neg e]
theorem bsG_lt {N : Nat} {E : List (Nat × Nat)} {r k m : Nat} (hr : r < N) (hm : m ≤ N) : bsG N E r k m < N := by
  rcases bsF_is (P := fun n => goB E r n k) (dp := fun y => (ris N fun n => goB E r n y).length) (r := r) (goB_no (Or.inl rfl)) m with ⟨q, _⟩ | ⟨_, q, _⟩
  · unfold bsG; rw [q]; exact hr
  · unfold bsG; omega
theorem o3F_all {N : Nat} {E : List (Nat × Nat)} {r k : Nat} (h1 : k ≠ r) (h2 : wyB E (-1) [r] k = true) (y : Nat) : o3F N E r k N y = o2F N E r (k + 1) y := by
  unfold o3F o2F
  by_cases e : y = k
  · rw [if_pos e, if_pos (by omega), e]
    unfold gdF
    rw [if_neg (by rw [h2]; simp [h1])]
    rfl
  · rw [if_neg e]
    by_cases q : y < k
    · rw [if_pos q, if_pos (by omega)]
    · rw [if_neg q, if_neg (by omega)]
end Go.Proofs.Ytghkhceplpjegaa
