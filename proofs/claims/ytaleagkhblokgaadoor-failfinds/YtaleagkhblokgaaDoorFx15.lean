/- Failures: the depths by the wholes, plain. -/
import Derived.Test.YtaleagkhblokgaaDoorFx14
namespace Go.Proofs.YtaleagkhblokgaaDoor
open Go.RowKit

def dvL (D : List Int) (x : Int) : Int := D.getD x.toNat 0
/-- The depth of each whole, out of those of its parts. -/
def dW : List Int → List (Int × List Int) → List Int
  | D, [] => D
  | D, a :: r => dW (D ++ [mxL (a.2.map (dvL D)) + 1]) r
theorem dW_snoc : ∀ (A : List (Int × List Int)) (D : List Int) (a : Int × List Int), dW D (A ++ [a]) = dW D A ++ [mxL (a.2.map (dvL (dW D A))) + 1]
  | [], D, a => rfl
  | b :: A, D, a => by rw [List.cons_append, dW, dW_snoc A]; rfl
theorem dW_len : ∀ (A : List (Int × List Int)) (D : List Int), (dW D A).length = D.length + A.length
  | [], D => by simp [dW]
  | b :: A, D => by rw [dW, dW_len A]; simp; omega
/-- The stack behind all. -/
def endE : Nat → List Int → List Cr → List Int
  | _, E, [] => E
  | i, E, c :: r => endE (i + 1) (E.take (E.length - c.n.toNat) ++ [(i : Int)]) r
theorem dvL_old {D : List Int} {x y : Int} (h : x.toNat < D.length) : dvL (D ++ [y]) x = dvL D x := by
  unfold dvL; simp [List.getD, List.getElem?_append_left h]
theorem dvL_new {D : List Int} {y : Int} {i : Nat} (h : D.length = i) : dvL (D ++ [y]) (i : Int) = y := by
  unfold dvL; simp [List.getD, ← h]
theorem whS_dp : ∀ (l : List Cr) (i : Nat) (E : List Int) (A : List (Int × List Int)), A.length = i → (∀ x ∈ E, 0 ≤ x ∧ x < i) →
    dpS (E.map (dvL (dW [] A))) l = (endE i E l).map (dvL (dW [] (whS i E A l)))
  | [], i, E, A, _, _ => by rw [dpS, endE, whS]
  | c :: r, i, E, A, hA, hE => by
    have hl : (dW [] A).length = i := by rw [dW_len]; simpa using hA
    rw [dpS, endE, whS]
    obtain ⟨f, hf⟩ : ∃ f, f = (if 0 < c.n then (A.getD (E.getD (E.length - c.n.toNat) 0).toNat (0, [])).1 else (i : Int)) := ⟨_, rfl⟩
    rw [← hf]
    have ih := whS_dp r (i + 1) (E.take (E.length - c.n.toNat) ++ [(i : Int)]) (A ++ [(f, E.drop (E.length - c.n.toNat))]) (by simp [hA]) (fun x hx => by
      rw [List.mem_append, List.mem_singleton] at hx
      rcases hx with hx | hx
      · have := hE x (List.mem_of_mem_take hx); omega
      · omega)
    rw [← ih, dW_snoc]
    congr 1
    rw [List.map_append, List.length_map, List.map_take, List.map_drop]
    congr 1
    · rw [← List.map_take, ← List.map_take]
      refine List.map_congr_left (fun x hx => (dvL_old ?_).symm)
      have := hE x (List.mem_of_mem_take hx); omega
    · rw [List.map_singleton, dvL_new hl]
theorem endE_len : ∀ (l : List Cr) (i : Nat) (E : List Int) (t : Int), walkC E.length l = some t → ((endE i E l).length : Int) = t
  | [], i, E, t, h => by rw [walkC] at h; injection h
  | c :: r, i, E, t, h => by
    obtain ⟨⟨hcb, hcn⟩, hwn⟩ := walk_step h
    obtain ⟨hn0, hn1⟩ := crB_n hcb
    rw [endE]
    refine endE_len r (i + 1) _ t ?_
    rw [← hwn]; congr 1; simp; omega
theorem endE_last : ∀ (l : List Cr) (i : Nat) (E : List Int), l ≠ [] → ∃ E0, endE i E l = E0 ++ [((i + l.length - 1 : Nat) : Int)]
  | [], _, _, h => absurd rfl h
  | [c], i, E, _ => ⟨E.take (E.length - c.n.toNat), by rw [endE, endE]; simp⟩
  | c :: d :: r, i, E, _ => by
    obtain ⟨E0, h⟩ := endE_last (d :: r) (i + 1) (E.take (E.length - c.n.toNat) ++ [(i : Int)]) (by simp)
    refine ⟨E0, ?_⟩
    rw [endE, h]
    congr 3
    simp; omega
/-- The depth of the last whole is the failure's. -/
theorem deepV_last {l : List Cr} (h : chk l = 0) : l ≠ [] ∧ deepV l = (dW [] (whS 0 [] [] l)).getD (l.length - 1) 0 := by
  obtain ⟨_, hw⟩ := chk_ok h
  have hne : l ≠ [] := fun e => by subst e; simp [walkC] at hw
  refine ⟨hne, ?_⟩
  have h1 := whS_dp l 0 [] [] rfl (fun x hx => by simp at hx)
  have h2 := endE_len l 0 [] 1 hw
  obtain ⟨E0, h3⟩ := endE_last l 0 [] hne
  rw [h3, List.length_append] at h2
  have h4 : E0 = [] := List.length_eq_zero_iff.1 (by simp at h2; omega)
  rw [h3, h4] at h1
  simp only [List.map_nil, List.nil_append, List.map_cons] at h1
  unfold deepV
  rw [h1]
  simp [dvL]
end Go.Proofs.YtaleagkhblokgaaDoor
