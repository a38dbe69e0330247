/- Retry: the law RetryRises. -/
import Derived.Test.YtgoffnagdpmpnaaXd1
namespace Go.Proofs.Ytgoffnagdpmpnaa
open Go.RowKit Go.Maps

/-- The policy has so many tries, at least one. -/
theorem nwt_t {p : Pol} (h : polB p = true) : (max p.t 1 : Int) = (nwt p : Int) + 1 := by
  have := pol_bd h
  unfold nwt
  omega
/-- What the law looks at, of a right policy and time, at the failure number j + 1. -/
structure RZ (p : Pol) (a : Int) (j : Nat) : Prop where
  w0 : watE p ((j : Int) + 1) = 0 ∧ watN p ((j : Int) + 1) = wtP p j ∧ wtP p j ≤ p.c
  fit : ∀ (h : j + 1 < (timL p a).length), dueE p ((j : Int) + 1) (timL p a)[j] = 0 ∧ dueN p ((j : Int) + 1) (timL p a)[j] = (timL p a)[j + 1] ∧ mayE p ((j : Int) + 1) (timL p a)[j] (timL p a)[j + 1] = 0 ∧ mayB p ((j : Int) + 1) (timL p a)[j] (timL p a)[j + 1] = true ∧ ((timL p a)[j] < (timL p a)[j + 1] → mayE p ((j : Int) + 1) (timL p a)[j] ((timL p a)[j + 1] - 1) = 0 ∧ mayB p ((j : Int) + 1) (timL p a)[j] ((timL p a)[j + 1] - 1) = false)
  out : ∀ (h : j + 1 = (timL p a).length), dueE p ((j : Int) + 1) (timL p a)[j] = 3
theorem tmL_bd (a : Int) (l : List Int) (ha : 0 ≤ a ∧ a ≤ 1099511627776) (hl : ∀ x ∈ l, 0 ≤ x) : ∀ x ∈ a :: tmL a l, 0 ≤ x ∧ x ≤ 1099511627776 := by
  induction l generalizing a with
  | nil => intro x hx; simp [tmL] at hx; subst hx; exact ha
  | cons y r ih =>
    intro x hx
    rcases List.mem_cons.1 hx with rfl | hx
    · exact ha
    · rw [tmL] at hx
      split at hx
      · cases hx
      · rename_i hn
        have := hl y (by simp)
        exact ih (a + y) ⟨by omega, by omega⟩ (fun z hz => hl z (by simp [hz])) x hx
theorem rz {p : Pol} {a : Int} (hp : polB p = true) (ht : timB a = true) {j : Nat} (hj : j < nwt p) : RZ p a j := by
  obtain ⟨_, hL⟩ := timE_ok hp ht
  have hw : watE p ((j : Int) + 1) = 0 ∧ watN p ((j : Int) + 1) = wtP p j := by
    obtain ⟨h1, h2⟩ := watE_ok hp (k := (j : Int) + 1) (by omega) (by omega)
    exact ⟨h1, by rw [h2]; congr 1; omega⟩
  have hb := wt_bd hp j
  have hpb := pol_bd hp
  have hjw : j < (wts p).length := by rw [wts_len]; exact hj
  have hwt : (wts p)[j] = wtP p j := wts_at p j hjw
  have hin : ∀ (i : Nat) (hi : i < (timL p a).length), 0 ≤ (timL p a)[i] ∧ (timL p a)[i] ≤ 1099511627776 := fun i hi => by
    have hm : (timL p a)[i] ∈ a :: tmL a (wts p) := by rw [← hL]; exact List.getElem_mem hi
    exact tmL_bd a (wts p) (timB_t ht) (fun x hx => by
      obtain ⟨i, hi, rfl⟩ := List.getElem_of_mem hx
      exact (wts_bd hp i hi).1) _ hm
  have hst : ∀ (h : j < (timL p a).length), (1099511627776 < (timL p a)[j] + wtP p j → (timL p a).length = j + 1) ∧ (¬ 1099511627776 < (timL p a)[j] + wtP p j → ∃ h2 : j + 1 < (timL p a).length, (timL p a)[j + 1] = (timL p a)[j] + wtP p j) := by
    intro h
    have q := tmL_at a (wts p) j (by rw [← hL]; exact h) hjw
    simp only [← hL, hwt] at q
    obtain ⟨q1, q2⟩ := q
    refine ⟨fun z => ?_, q2⟩
    have := q1 z
    rw [hL]; simp [this]
  refine ⟨⟨hw.1, hw.2, hb.2⟩, fun h => ?_, fun h => ?_⟩
  · have h1 := hin j (by omega)
    have h2 := hin (j + 1) h
    obtain ⟨z1, z2⟩ := hst (by omega)
    have nl : ¬ 1099511627776 < (timL p a)[j] + wtP p j := fun q => by have := z1 q; omega
    obtain ⟨_, z3⟩ := z2 nl
    generalize (timL p a)[j] = x at *
    generalize (timL p a)[j + 1] = y at *
    have tx : timB x = true := by unfold timB; simpa using h1
    have ty : timB y = true := by unfold timB; simpa using h2
    obtain ⟨d1, d2⟩ := dueE_ok hw.1 tx (by rw [hw.2]; exact nl)
    rw [hw.2, ← z3] at d2
    obtain ⟨m1, m2⟩ := mayE_ok d1 ty
    refine ⟨d1, d2, m1, by rw [m2, d2]; simp, fun hxy => ?_⟩
    have ty2 : timB (y - 1) = true := by unfold timB; simp; omega
    obtain ⟨m3, m4⟩ := mayE_ok d1 ty2
    exact ⟨m3, by rw [m4, d2]; simp; omega⟩
  · have h1 := hin j (by omega)
    obtain ⟨z1, z2⟩ := hst (by omega)
    generalize (timL p a)[j] = x at *
    have tx : timB x = true := by unfold timB; simpa using h1
    refine (dueE_long hw.1 tx ?_).1
    rw [hw.2]
    by_cases q : 1099511627776 < x + wtP p j
    · exact q
    · obtain ⟨h3, _⟩ := z2 q; omega
end Go.Proofs.Ytgoffnagdpmpnaa
