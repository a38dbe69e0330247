/- Names: which expressions are right, plain. -/
import Derived.RowKit
import Derived.Test.YtffabehipcomfaaDoorPx3
namespace Go.Proofs.YtffabehipcomfaaDoor
open Go.RowKit

def mxL : List Int → Int
  | [] => 0
  | a :: r => max a (mxL r)
/-- The depths of the wholes that are left. -/
def dpS : List Int → List Int → List Int
  | S, [] => S
  | S, c :: r => dpS (S.take (S.length - c.toNat) ++ [mxL (S.drop (S.length - c.toNat)) + 1]) r
def deepV (l : List Int) : Int := (dpS [] l).getD 0 0
theorem mxL_bd : ∀ (L : List Int) (B : Int), 0 ≤ B → (∀ x ∈ L, x ≤ B) → 0 ≤ mxL L ∧ mxL L ≤ B
  | [], B, h, _ => ⟨Int.le_refl _, h⟩
  | a :: r, B, h, hx => by
    have h1 := mxL_bd r B h (fun x hx2 => hx x (List.mem_cons_of_mem _ hx2))
    have h2 := hx a (List.mem_cons_self ..)
    rw [mxL]; omega
theorem mxL_drop {S : List Int} {q : Nat} (h : q < S.length) : mxL (S.drop q) = max (S.getD q 0) (mxL (S.drop (q + 1))) := by
  rw [List.drop_eq_getElem_cons h, mxL]; simp [h]
/-- How many wholes are left; none: one has parts that are not there. -/
def walkN : Int → List Int → Option Int
  | s, [] => some s
  | s, c :: r => if 0 ≤ c ∧ c ≤ s then walkN (s + (1 - c)) r else none
theorem walk_step {c : Int} {r : List Int} {s t : Int} (h : walkN s (c :: r) = some t) : (0 ≤ c ∧ c ≤ s) ∧ walkN (s + (1 - c)) r = some t := by
  rw [walkN] at h
  split at h
  · rename_i hc; exact ⟨hc, h⟩
  · cases h
theorem mem_getD {S : List Int} {j : Nat} (h : j < S.length) : S.getD j 0 ∈ S := by
  rw [List.getD_eq_getElem?_getD, List.getElem?_eq_getElem h]; exact List.getElem_mem h
/-- The wholes: where each begins, and where its parts end. -/
def whS : Nat → List Int → List (Int × List Int) → List Int → List (Int × List Int)
  | _, _, A, [] => A
  | i, E, A, c :: r => whS (i + 1) (E.take (E.length - c.toNat) ++ [(i : Int)]) (A ++ [(if 0 < c then (A.getD (E.getD (E.length - c.toNat) 0).toNat (0, [])).1 else (i : Int), E.drop (E.length - c.toNat))]) r
theorem whS_len : ∀ (l : List Int) (i : Nat) (E : List Int) (A : List (Int × List Int)), (whS i E A l).length = A.length + l.length
  | [], _, _, _ => by simp [whS]
  | c :: r, i, E, A => by rw [whS, whS_len r]; simp; omega
def dvL (D : List Int) (x : Int) : Int := D.getD x.toNat 0
/-- The depth of each whole, out of those of its parts. -/
def dW : List Int → List (Int × List Int) → List Int
  | D, [] => D
  | D, a :: r => dW (D ++ [mxL (a.2.map (dvL D)) + 1]) r
theorem dW_snoc : ∀ (A : List (Int × List Int)) (D : List Int) (a : Int × List Int), dW D (A ++ [a]) = dW D A ++ [mxL (a.2.map (dvL (dW D A))) + 1]
  | [], D, a => rfl
  | b :: A, D, a => by rw [List.cons_append, dW, dW_snoc A]; rfl
theorem dW_len : ∀ (A : List (Int × List Int)) (D : List Int), (dW D A).length = D.length + A.length
  | [], D => by simp [dW]
  | b :: A, D => by rw [dW, dW_len A]; simp; omega
/-- The stack behind all. -/
def endE : Nat → List Int → List Int → List Int
  | _, E, [] => E
  | i, E, c :: r => endE (i + 1) (E.take (E.length - c.toNat) ++ [(i : Int)]) r
theorem dvL_old {D : List Int} {x y : Int} (h : x.toNat < D.length) : dvL (D ++ [y]) x = dvL D x := by
  unfold dvL; simp [List.getD, List.getElem?_append_left h]
theorem dvL_new {D : List Int} {y : Int} {i : Nat} (h : D.length = i) : dvL (D ++ [y]) (i : Int) = y := by
  unfold dvL; simp [List.getD, ← h]
theorem whS_dp : ∀ (l : List Int) (i : Nat) (E : List Int) (A : List (Int × List Int)), A.length = i → (∀ x ∈ E, 0 ≤ x ∧ x < i) →
    dpS (E.map (dvL (dW [] A))) l = (endE i E l).map (dvL (dW [] (whS i E A l)))
  | [], i, E, A, _, _ => by rw [dpS, endE, whS]
  | c :: r, i, E, A, hA, hE => by
    have hl : (dW [] A).length = i := by rw [dW_len]; simpa using hA
    rw [dpS, endE, whS]
    obtain ⟨f, hf⟩ : ∃ f, f = (if 0 < c then (A.getD (E.getD (E.length - c.toNat) 0).toNat (0, [])).1 else (i : Int)) := ⟨_, rfl⟩
    rw [← hf]
    have ih := whS_dp r (i + 1) (E.take (E.length - c.toNat) ++ [(i : Int)]) (A ++ [(f, E.drop (E.length - c.toNat))]) (by simp [hA]) (fun x hx => by
      rw [List.mem_append, List.mem_singleton] at hx
      rcases hx with hx | hx
      · have := hE x (List.mem_of_mem_take hx); omega
      · omega)
    rw [← ih, dW_snoc]
    congr 1
    rw [List.map_append, List.length_map, List.map_take, List.map_drop]
    congr 1
    · rw [← List.map_take, ← List.map_take]
      refine List.map_congr_left (fun x hx => (dvL_old ?_).symm)
      have := hE x (List.mem_of_mem_take hx); omega
    · rw [List.map_singleton, dvL_new hl]
theorem endE_len : ∀ (l : List Int) (i : Nat) (E : List Int) (t : Int), walkN E.length l = some t → ((endE i E l).length : Int) = t
  | [], i, E, t, h => by rw [walkN] at h; injection h
  | c :: r, i, E, t, h => by
    obtain ⟨⟨hcb, hcn⟩, hwn⟩ := walk_step h
    have hn0 := hcb
    rw [endE]
    refine endE_len r (i + 1) _ t ?_
    rw [← hwn]; congr 1; simp; omega
theorem endE_last : ∀ (l : List Int) (i : Nat) (E : List Int), l ≠ [] → ∃ E0, endE i E l = E0 ++ [((i + l.length - 1 : Nat) : Int)]
  | [], _, _, h => absurd rfl h
  | [c], i, E, _ => ⟨E.take (E.length - c.toNat), by rw [endE, endE]; simp⟩
  | c :: d :: r, i, E, _ => by
    obtain ⟨E0, h⟩ := endE_last (d :: r) (i + 1) (E.take (E.length - c.toNat) ++ [(i : Int)]) (by simp)
    refine ⟨E0, ?_⟩
    rw [endE, h]
    congr 3
    simp; omega
/-- The depth of the last whole is the row's. -/
theorem deepV_last {l : List Int} (hw : walkN 0 l = some 1) : l ≠ [] ∧ deepV l = (dW [] (whS 0 [] [] l)).getD (l.length - 1) 0 := by
  have hne : l ≠ [] := fun e => by subst e; simp [walkN] at hw
  refine ⟨hne, ?_⟩
  have h1 := whS_dp l 0 [] [] rfl (fun x hx => by simp at hx)
  have h2 := endE_len l 0 [] 1 hw
  obtain ⟨E0, h3⟩ := endE_last l 0 [] hne
  rw [h3, List.length_append] at h2
  have h4 : E0 = [] := List.length_eq_zero_iff.1 (by simp at h2; omega)
  rw [h3, h4] at h1
  simp only [List.map_nil, List.nil_append, List.map_cons] at h1
  unfold deepV
  rw [h1]
  simp [dvL]
theorem mxL_snoc : ∀ (L : List Int) (x : Int), 0 ≤ x → mxL (L ++ [x]) = max (mxL L) x
  | [], x, h => by simp only [List.nil_append, mxL]; omega
  | a :: r, x, h => by rw [List.cons_append, mxL, mxL, mxL_snoc r x h]; omega
/-- A part lies below its whole. -/
def PB (A : List (Int × List Int)) : Prop := ∀ j, j < A.length → (A.getD j (0, [])).2.length ≤ j ∧ ∀ x ∈ (A.getD j (0, [])).2, 0 ≤ x ∧ x < j
theorem PB.snoc {A : List (Int × List Int)} (h : PB A) {a : Int × List Int} (hl : a.2.length ≤ A.length) (ha : ∀ x ∈ a.2, 0 ≤ x ∧ x < A.length) : PB (A ++ [a]) := by
  intro j hj
  by_cases hjA : j < A.length
  · rw [show (A ++ [a]).getD j (0, []) = A.getD j (0, []) by simp [List.getD, List.getElem?_append_left hjA]]; exact h j hjA
  · have : j = A.length := by simp at hj; omega
    subst this
    rw [show (A ++ [a]).getD A.length (0, []) = a by simp [List.getD]]; exact ⟨hl, ha⟩
theorem whS_PB : ∀ (l : List Int) (i : Nat) (E : List Int) (A : List (Int × List Int)), A.length = i → PB A → E.length ≤ i → (∀ x ∈ E, 0 ≤ x ∧ x < i) → PB (whS i E A l)
  | [], i, E, A, _, h, _, _ => by rw [whS]; exact h
  | c :: r, i, E, A, hA, h, hl, hE => by
    rw [whS]
    refine whS_PB r (i + 1) _ _ (by simp [hA]) (h.snoc (by simp; omega) (fun x hx => ?_)) (by simp; omega) (fun x hx => ?_)
    · rw [hA]; exact hE x (List.mem_of_mem_drop hx)
    · rw [List.mem_append, List.mem_singleton] at hx
      rcases hx with hx | hx
      · have := hE x (List.mem_of_mem_take hx); omega
      · omega
/-- The wholes of a failure. -/
def whA (l : List Int) : List (Int × List Int) := whS 0 [] [] l
theorem whA_len (l : List Int) : (whA l).length = l.length := by unfold whA; rw [whS_len]; simp
theorem whA_PB (l : List Int) : PB (whA l) := whS_PB l 0 [] [] rfl (fun j hj => by simp at hj) (Nat.le_refl _) (fun x hx => by simp at hx)
/-- The depths of the first k wholes. -/
def dK (A : List (Int × List Int)) (k : Nat) : List Int := dW [] (A.take k)
theorem dK_len {A : List (Int × List Int)} {k : Nat} (h : k ≤ A.length) : (dK A k).length = k := by unfold dK; rw [dW_len]; simp; omega
theorem dK_succ {A : List (Int × List Int)} {k : Nat} (h : k < A.length) : dK A (k + 1) = dK A k ++ [mxL ((A.getD k (0, [])).2.map (dvL (dK A k))) + 1] := by
  unfold dK
  rw [List.take_add_one, List.getElem?_eq_getElem h, Option.toList_some, dW_snoc]
  simp [List.getD, List.getElem?_eq_getElem h]
theorem dvL_mem {D : List Int} {x : Int} (h : x.toNat < D.length) : dvL D x ∈ D := by
  unfold dvL
  rw [List.getD_eq_getElem?_getD, List.getElem?_eq_getElem h]; exact List.getElem_mem h
theorem dK_bd {A : List (Int × List Int)} (h : PB A) : ∀ k, k ≤ A.length → ∀ x ∈ dK A k, 1 ≤ x ∧ x ≤ k
  | 0, _, x, hx => by simp [dK, dW] at hx
  | k + 1, hk, x, hx => by
    rw [dK_succ (by omega), List.mem_append, List.mem_singleton] at hx
    have ih := dK_bd h k (by omega)
    rcases hx with hx | hx
    · have := ih x hx; omega
    · have := mxL_bd ((A.getD k (0, [])).2.map (dvL (dK A k))) k (by omega) (fun y hy => by
        obtain ⟨z, hz, rfl⟩ := List.mem_map.1 hy
        have hz2 := (h k (by omega)).2 z hz
        exact (ih _ (dvL_mem (by rw [dK_len (by omega)]; omega))).2)
      omega
/-- The depth so far of the whole at k, j of its parts looked at. -/
def dJ (A : List (Int × List Int)) (k j : Nat) : Int := mxL (((A.getD k (0, [])).2.take j).map (dvL (dK A k))) + 1
theorem dJ_zero (A : List (Int × List Int)) (k : Nat) : dJ A k 0 = 1 := by simp [dJ, mxL]
theorem dJ_succ {A : List (Int × List Int)} (h : PB A) {k j : Nat} (hk : k < A.length) (hj : j < (A.getD k (0, [])).2.length) :
    ∃ (q : Nat) (y : Int), (A.getD k (0, [])).2.getD j 0 = (q : Int) ∧ q < k ∧ (dK A k).getD q 0 = y ∧ 1 ≤ y ∧ y ≤ k ∧ dJ A k (j + 1) = max (dJ A k j) (1 + y) ∧ 1 ≤ dJ A k j ∧ dJ A k j ≤ k + 1 := by
  obtain ⟨P, hP⟩ : ∃ P, P = (A.getD k (0, [])).2 := ⟨_, rfl⟩
  have hp : ∀ x ∈ P, 0 ≤ x ∧ x < k := fun x hx => (h k hk).2 x (hP ▸ hx)
  rw [← hP] at hj ⊢
  have hm : P[j] ∈ P := List.getElem_mem hj
  have hb := hp _ hm
  have hy := dK_bd h k (by omega) _ (dvL_mem (D := dK A k) (x := P[j]) (by rw [dK_len (by omega)]; omega))
  have hbd := mxL_bd ((P.take j).map (dvL (dK A k))) k (by omega) (fun y hy => by
    obtain ⟨z, hz, rfl⟩ := List.mem_map.1 hy
    have hz2 := hp z (List.mem_of_mem_take hz)
    exact (dK_bd h k (by omega) _ (dvL_mem (by rw [dK_len (by omega)]; omega))).2)
  refine ⟨P[j].toNat, dvL (dK A k) P[j], ?_, by omega, rfl, hy.1, hy.2, ?_, ?_, ?_⟩
  · rw [List.getD_eq_getElem?_getD, List.getElem?_eq_getElem hj]; simp; omega
  · unfold dJ
    rw [← hP, List.take_add_one, List.getElem?_eq_getElem hj, Option.toList_some, List.map_append, List.map_singleton, mxL_snoc _ _ (by omega)]
    omega
  · unfold dJ; rw [← hP]; omega
  · unfold dJ; rw [← hP]; omega
theorem dJ_all {A : List (Int × List Int)} {k : Nat} (h : k < A.length) : dK A k ++ [dJ A k (A.getD k (0, [])).2.length] = dK A (k + 1) := by
  rw [dK_succ h]; unfold dJ; rw [List.take_length]
theorem deepV_dK {l : List Int} (h : walkN 0 l = some 1) : 0 < l.length ∧ (dK (whA l) l.length).getD (l.length - 1) 0 = deepV l := by
  obtain ⟨h1, h2⟩ := deepV_last h
  refine ⟨List.length_pos_iff.2 h1, ?_⟩
  unfold dK
  rw [List.take_of_length_le (by rw [whA_len]; exact Nat.le_refl _), h2]; rfl
def frA (A : List (Int × List Int)) (x : Int) : Int := (A.getD x.toNat (0, [])).1
/-- Each ends right ahead of where the next one begins, the last one right ahead of e. -/
def CHN (f : Int → Int) (D : List Int) (e : Int) : Prop := (∀ j, j + 1 < D.length → D.getD j 0 = f (D.getD (j + 1) 0) - 1) ∧ (0 < D.length → D.getD (D.length - 1) 0 = e - 1)
theorem getD_mem {D : List Int} {j : Nat} (h : j < D.length) : D.getD j 0 ∈ D := mem_getD h
theorem CHN.congr {f g : Int → Int} {D : List Int} {e : Int} (h : CHN f D e) (k : ∀ x ∈ D, f x = g x) : CHN g D e :=
  ⟨fun j hj => by rw [h.1 j hj, k _ (getD_mem hj)], h.2⟩
theorem CHN.drop {f : Int → Int} {D : List Int} {e : Int} (h : CHN f D e) (J : Nat) : CHN f (D.drop J) e := by
  refine ⟨fun j hj => ?_, fun hj => ?_⟩
  · rw [List.length_drop] at hj
    have e1 : (D.drop J).getD j 0 = D.getD (J + j) 0 := by simp [List.getD]
    have e2 : (D.drop J).getD (j + 1) 0 = D.getD (J + j + 1) 0 := by simp [List.getD, Nat.add_assoc]
    rw [e1, e2]; exact h.1 (J + j) (by omega)
  · rw [List.length_drop] at hj ⊢
    have e1 : (D.drop J).getD (D.length - J - 1) 0 = D.getD (J + (D.length - J - 1)) 0 := by simp [List.getD]
    rw [e1, show J + (D.length - J - 1) = D.length - 1 by omega]; exact h.2 (by omega)
theorem CHN.push {f : Int → Int} {D : List Int} {e i : Int} (h : CHN f D e) {J : Nat} (hJ : J ≤ D.length) (hf : 0 < J → D.getD (J - 1) 0 = f i - 1) : CHN f (D.take J ++ [i]) (i + 1) := by
  have hl : (D.take J).length = J := by rw [List.length_take]; omega
  have ge : ∀ j, j < J → (D.take J ++ [i]).getD j 0 = D.getD j 0 := fun j hj => by
    rw [List.getD_eq_getElem?_getD, List.getD_eq_getElem?_getD, List.getElem?_append_left (by omega), List.getElem?_take_of_lt hj]
  have gl : (D.take J ++ [i]).getD J 0 = i := by
    rw [List.getD_eq_getElem?_getD, List.getElem?_append_right (by omega)]; simp [hl]
  refine ⟨fun j hj => ?_, fun _ => ?_⟩
  · rw [List.length_append, hl, List.length_singleton] at hj
    by_cases hj2 : j + 1 < J
    · rw [ge j (by omega), ge (j + 1) hj2]; exact h.1 j (by omega)
    · have : J = j + 1 := by omega
      subst this
      rw [ge j (by omega), gl]; exact hf (by omega)
  · rw [List.length_append, hl, List.length_singleton, Nat.add_sub_cancel, gl]; omega
structure PI (l0 : List Int) (i : Nat) (E : List Int) (A : List (Int × List Int)) : Prop where
  la : A.length = i
  me : ∀ x ∈ E, 0 ≤ x ∧ x < i
  ce : CHN (frA A) E i
  pa : ∀ j, j < i → ∃ c, l0[j]? = some c ∧ ((A.getD j (0, [])).2.length : Int) = c ∧ CHN (frA A) (A.getD j (0, [])).2 j ∧ ∀ x ∈ (A.getD j (0, [])).2, 0 ≤ x ∧ x < j
theorem frA_old {A : List (Int × List Int)} {a : Int × List Int} {x : Int} (h : x.toNat < A.length) : frA (A ++ [a]) x = frA A x := by
  unfold frA; simp [List.getD, List.getElem?_append_left h]
theorem getD_old {A : List (Int × List Int)} {a : Int × List Int} {j : Nat} (h : j < A.length) : (A ++ [a]).getD j (0, []) = A.getD j (0, []) := by
  simp [List.getD, List.getElem?_append_left h]
theorem PI.next {l0 : List Int} {i : Nat} {E : List Int} {A : List (Int × List Int)} {c : Int} (h : PI l0 i E A) (hc : l0[i]? = some c) (hn : 0 ≤ c) (hE : c ≤ E.length) :
    PI l0 (i + 1) (E.take (E.length - c.toNat) ++ [(i : Int)]) (A ++ [(if 0 < c then (A.getD (E.getD (E.length - c.toNat) 0).toNat (0, [])).1 else (i : Int), E.drop (E.length - c.toNat))]) := by
  obtain ⟨b, hb⟩ : ∃ b, b = (if 0 < c then (A.getD (E.getD (E.length - c.toNat) 0).toNat (0, [])).1 else (i : Int)) := ⟨_, rfl⟩
  rw [← hb]
  obtain ⟨J, hJ⟩ : ∃ J, J = E.length - c.toNat := ⟨_, rfl⟩
  rw [← hJ] at hb ⊢
  have old : ∀ x ∈ E, frA (A ++ [(b, E.drop J)]) x = frA A x := fun x hx => frA_old (by have := h.me x hx; have := h.la; omega)
  have new : frA (A ++ [(b, E.drop J)]) (i : Int) = b := by unfold frA; simp [List.getD, ← h.la]
  refine ⟨by simp [h.la], fun x hx => ?_, ?_, fun j hj => ?_⟩
  · rw [List.mem_append, List.mem_singleton] at hx
    rcases hx with hx | hx
    · have := h.me x (List.mem_of_mem_take hx); omega
    · omega
  · have := (h.ce.congr (fun x hx => (old x hx).symm)).push (i := (i : Int)) (J := J) (by omega) (fun hJ0 => by
      rw [new, hb]
      by_cases hp : 0 < c
      · rw [if_pos hp]
        have := h.ce.1 (J - 1) (by omega)
        rw [show J - 1 + 1 = J by omega] at this
        exact this
      · rw [if_neg hp]
        have : J = E.length := by omega
        rw [this]; exact h.ce.2 (by omega))
    simpa using this
  · by_cases hji : j < i
    · rw [getD_old (by rw [h.la]; exact hji)]
      obtain ⟨c', h1, h2, h3, h4⟩ := h.pa j hji
      exact ⟨c', h1, h2, h3.congr (fun x hx => (frA_old (by have := h4 x hx; have := h.la; omega)).symm), h4⟩
    · have : j = i := by omega
      subst this
      have e : (A ++ [(b, E.drop J)]).getD j (0, []) = (b, E.drop J) := by simp [List.getD, ← h.la]
      rw [e]
      refine ⟨c, hc, by simp; omega, (h.ce.drop J).congr (fun x hx => (old x (List.mem_of_mem_drop hx)).symm), fun x hx => h.me x (List.mem_of_mem_drop hx)⟩
theorem whS_PI : ∀ (r : List Int) (l0 : List Int) (i : Nat) (E : List Int) (A : List (Int × List Int)) (t : Int), PI l0 i E A → l0.drop i = r → walkN E.length r = some t → ∃ E', PI l0 l0.length E' (whS i E A r)
  | [], l0, i, E, A, t, h, hr, _ => by
    have : i = l0.length ∨ l0.length < i := by have := List.drop_eq_nil_iff.1 hr; omega
    rcases this with e | e
    · subst e; exact ⟨E, by rw [whS]; exact h⟩
    · obtain ⟨c, h1, _⟩ := h.pa l0.length e
      simp at h1
  | c :: r, l0, i, E, A, t, h, hr, hw => by
    obtain ⟨⟨hcb, hcn⟩, hwn⟩ := walk_step hw
    have hn0 := hcb
    have hc : l0[i]? = some c := by
      have := congrArg (·[0]?) hr
      simpa using this
    rw [whS]
    refine whS_PI r l0 (i + 1) _ _ t (h.next hc hn0 hcn) ?_ ?_
    · rw [← List.drop_drop, hr]; rfl
    · rw [← hwn]; congr 1; simp; omega
theorem whA_PI {l : List Int} (hw : walkN 0 l = some 1) : ∃ E', PI l l.length E' (whA l) :=
  whS_PI l l 0 [] [] 1 ⟨rfl, fun x hx => by simp at hx, ⟨fun j hj => by simp at hj, fun hj => by simp at hj⟩, fun j hj => by omega⟩ (by simp) hw
/-- Of each where its whole begins, and the stack behind all; none: the row is not right. -/
def begS : Nat → List Int → List Int → Option (List Int × List Int)
  | _, S, [] => some ([], S)
  | i, S, c :: r =>
    if 0 ≤ c ∧ c ≤ S.length then
      let b := if 0 < c then S.getD (S.length - c.toNat) 0 else (i : Int)
      (begS (i + 1) (S.take (S.length - c.toNat) ++ [b]) r).map fun q => (b :: q.1, q.2)
    else none
theorem beg_wh : ∀ (r : List Int) (i : Nat) (S E : List Int) (A : List (Int × List Int)) (q : List Int × List Int), A.length = i → (∀ x ∈ E, 0 ≤ x ∧ x < i) → S = E.map (frA A) → begS i S r = some q → (whS i E A r).map (·.1) = A.map (·.1) ++ q.1
  | [], i, S, E, A, q, _, _, _, h => by
    rw [begS] at h; injection h with h; subst h; rw [whS]; simp
  | c :: r, i, S, E, A, q, hA, hE, hS, h => by
    rw [begS] at h
    split at h
    · rename_i hc
      obtain ⟨q', hq', rfl⟩ := Option.map_eq_some_iff.1 h
      have hn := hc.1
      have hl : S.length = E.length := by rw [hS]; simp
      obtain ⟨b, hb⟩ : ∃ b, b = (if 0 < c then (A.getD (E.getD (E.length - c.toNat) 0).toNat (0, [])).1 else (i : Int)) := ⟨_, rfl⟩
      have hb2 : (if 0 < c then S.getD (S.length - c.toNat) 0 else (i : Int)) = b := by
        rw [hb, hl]
        by_cases hp : 0 < c
        · rw [if_pos hp, if_pos hp, hS]
          have hlt : E.length - c.toNat < E.length := by have := hc.2; omega
          simp [List.getD, frA, List.getElem?_eq_getElem hlt]
        · rw [if_neg hp, if_neg hp]
      rw [whS, ← hb]
      rw [hb2] at hq'
      have ih := beg_wh r (i + 1) (S.take (S.length - c.toNat) ++ [b]) (E.take (E.length - c.toNat) ++ [(i : Int)]) (A ++ [(b, E.drop (E.length - c.toNat))]) q' (by simp [hA]) (fun x hx => by
        rw [List.mem_append, List.mem_singleton] at hx
        rcases hx with hx | hx
        · have := hE x (List.mem_of_mem_take hx); omega
        · omega) (by
        rw [hl, hS, List.map_append, ← List.map_take, List.map_singleton]
        congr 1
        · refine List.map_congr_left (fun x hx => (frA_old ?_).symm)
          have := hE x (List.mem_of_mem_take hx); omega
        · unfold frA; simp [List.getD, ← hA]) hq'
      rw [ih, hb2]; simp
    · cases h
/-- Where each whole begins, by the reference's count, is where the wholes say. -/
theorem beg_whA {l : List Int} {q : List Int × List Int} (h : begS 0 [] l = some q) : q.1 = (whA l).map (·.1) := by
  have := beg_wh l 0 [] [] [] q rfl (fun x hx => by simp at hx) rfl h
  unfold whA; rw [this]; simp
theorem whS_fb : ∀ (r : List Int) (i : Nat) (E : List Int) (A : List (Int × List Int)), A.length = i → (∀ x ∈ E, 0 ≤ x ∧ x < i) → (∀ j, j < i → 0 ≤ (A.getD j (0, [])).1 ∧ (A.getD j (0, [])).1 ≤ j) → ∀ j, j < (whS i E A r).length → 0 ≤ ((whS i E A r).getD j (0, [])).1 ∧ ((whS i E A r).getD j (0, [])).1 ≤ j
  | [], i, E, A, hA, _, h, j, hj => by rw [whS] at hj ⊢; exact h j (by omega)
  | c :: r, i, E, A, hA, hE, h, j, hj => by
    rw [whS] at hj ⊢
    refine whS_fb r (i + 1) _ _ (by simp [hA]) (fun x hx => ?_) (fun j hj => ?_) j hj
    · rw [List.mem_append, List.mem_singleton] at hx
      rcases hx with hx | hx
      · have := hE x (List.mem_of_mem_take hx); omega
      · omega
    · by_cases hji : j < i
      · rw [getD_old (by omega)]; exact h j hji
      · have : j = A.length := by omega
        subst this
        rw [show (A ++ [((if 0 < c then (A.getD (E.getD (E.length - c.toNat) 0).toNat (0, [])).1 else (i : Int)), E.drop (E.length - c.toNat))]).getD A.length (0, []) = ((if 0 < c then (A.getD (E.getD (E.length - c.toNat) 0).toNat (0, [])).1 else (i : Int)), E.drop (E.length - c.toNat)) by simp [List.getD]]
        show 0 ≤ (if 0 < c then (A.getD (E.getD (E.length - c.toNat) 0).toNat (0, [])).1 else (i : Int)) ∧ (if 0 < c then (A.getD (E.getD (E.length - c.toNat) 0).toNat (0, [])).1 else (i : Int)) ≤ A.length
        split
        · by_cases hlt : E.length - c.toNat < E.length
          · have h1 := hE _ (getD_mem hlt)
            have h2 := h (E.getD (E.length - c.toNat) 0).toNat (by omega)
            omega
          · have e0 : E.getD (E.length - c.toNat) 0 = 0 := by rw [List.getD_eq_getElem?_getD, List.getElem?_eq_none (by omega)]; rfl
            rw [e0]
            by_cases hi : 0 < i
            · have h2 := h 0 hi
              simp only [Int.toNat_zero]; omega
            · have : A = [] := List.length_eq_zero_iff.1 (by omega)
              subst this; simp
        · omega
theorem whA_fb {l : List Int} {j : Nat} (h : j < l.length) : 0 ≤ frA (whA l) j ∧ frA (whA l) j ≤ j := by
  have := whS_fb l 0 [] [] rfl (fun x hx => by simp at hx) (fun j hj => by omega) j (by rw [whS_len]; simpa using h)
  unfold frA whA; simpa using this
/-- Of the walk only the stack's length counts. -/
theorem beg_walk : ∀ (l : List Int) (i : Nat) (S : List Int), (begS i S l).map (fun q => (q.2.length : Int)) = walkN S.length l
  | [], i, S => rfl
  | c :: r, i, S => by
    by_cases hc : 0 ≤ c ∧ c ≤ S.length
    · obtain ⟨b, hb⟩ : ∃ b, b = (if 0 < c then S.getD (S.length - c.toNat) 0 else (i : Int)) := ⟨_, rfl⟩
      have e1 : begS i S (c :: r) = (begS (i + 1) (S.take (S.length - c.toNat) ++ [b]) r).map fun q => (b :: q.1, q.2) := by rw [begS, if_pos hc, hb]
      have e2 : walkN S.length (c :: r) = walkN (S.length + (1 - c)) r := by rw [walkN, if_pos hc]
      have hl : (S.take (S.length - c.toNat) ++ [b]).length = S.length - c.toNat + 1 := by simp
      have ih := beg_walk r (i + 1) (S.take (S.length - c.toNat) ++ [b])
      rw [hl] at ih
      rw [e1, e2, show (S.length : Int) + (1 - c) = ((S.length - c.toNat + 1 : Nat) : Int) by omega, ← ih, Option.map_map]
      rfl
    · have e1 : begS i S (c :: r) = none := by rw [begS, if_neg hc]
      have e2 : walkN S.length (c :: r) = none := by rw [walkN, if_neg hc]
      rw [e1, e2]; rfl
theorem beg_len : ∀ (l : List Int) (i : Nat) (S : List Int) (q : List Int × List Int), begS i S l = some q → q.1.length = l.length
  | [], i, S, q, h => by rw [begS] at h; injection h with h; subst h; rfl
  | c :: r, i, S, q, h => by
    rw [begS] at h
    split at h
    · obtain ⟨q2, h1, h2⟩ := Option.map_eq_some_iff.1 h
      have := beg_len r _ _ q2 h1
      subst h2; simp [this]
    · cases h
/-- A right row: where each whole begins. -/
theorem beg_ok {l : List Int} (hw : walkN 0 l = some 1) : ∃ q, begS 0 [] l = some q ∧ q.2.length = 1 ∧ q.1 = (whA l).map (·.1) := by
  have h := beg_walk l 0 []
  simp only [List.length_nil, Int.ofNat_zero] at h
  rw [hw] at h
  obtain ⟨q, h1, h2⟩ := Option.map_eq_some_iff.1 h
  exact ⟨q, h1, by omega, beg_whA h1⟩
end Go.Proofs.YtffabehipcomfaaDoor
namespace Go.Proofs.YtffabehipcomfaaDoor
open Go.RowKit

def nsO (l : List Opn) : List Int := l.map (·.n)
theorem nsO_len (l : List Opn) : (nsO l).length = l.length := by simp [nsO]
/-- How many wholes are left; none: an operation can not stand there. -/
def walkO : Int → List Opn → Option Int
  | s, [] => some s
  | s, c :: r => if opB c = true ∧ c.n ≤ s then walkO (s + (1 - c.n)) r else none
theorem opB_parts {c : Opn} (h : opB c = true) : isX c.kind = true ∧ arB c = true ∧ inB' c = true ∧ txB c = true := by
  unfold opB at h
  simp only [Bool.and_eq_true] at h
  exact ⟨h.1, h.2.1.1, h.2.1.2, h.2.2⟩
theorem oprt_bd {k : Int} (h : isX k = true) : 0 ≤ oprt k ∧ oprt k ≤ 3 := by
  rw [isX_iff] at h
  have : k = 1 ∨ k = 2 ∨ k = 3 ∨ k = 4 ∨ k = 5 ∨ k = 6 ∨ k = 7 ∨ k = 8 ∨ k = 9 ∨ k = 10 ∨ k = 11 ∨ k = 12 ∨ k = 13 ∨ k = 14 ∨ k = 15 ∨ k = 16 ∨ k = 17 ∨ k = 18 ∨ k = 19 := by omega
  rcases this with rfl | rfl | rfl | rfl | rfl | rfl | rfl | rfl | rfl | rfl | rfl | rfl | rfl | rfl | rfl | rfl | rfl | rfl | rfl <;> decide
theorem opB_n {c : Opn} (h : opB c = true) : 0 ≤ c.n := by
  obtain ⟨h1, h2, _⟩ := opB_parts h
  have := oprt_bd h1
  unfold arB at h2
  split at h2 <;> simp at h2 <;> omega
theorem opB_n2 {c : Opn} (h : opB c = true) (hk : c.kind ≠ 5) : c.n = oprt c.kind := by
  obtain ⟨h1, h2, _⟩ := opB_parts h
  unfold arB at h2
  rw [if_neg hk] at h2
  simpa using h2
theorem walkO_step {c : Opn} {r : List Opn} {s t : Int} (h : walkO s (c :: r) = some t) : (opB c = true ∧ c.n ≤ s) ∧ walkO (s + (1 - c.n)) r = some t := by
  rw [walkO] at h
  split at h
  · rename_i hc; exact ⟨hc, h⟩
  · cases h
theorem walkO_iff : ∀ (l : List Opn) (s t : Int), walkO s l = some t ↔ (∀ c ∈ l, opB c = true) ∧ walkN s (nsO l) = some t
  | [], s, t => by simp [walkO, walkN, nsO]
  | c :: r, s, t => by
    have ih := walkO_iff r (s + (1 - c.n)) t
    rw [walkO, show nsO (c :: r) = c.n :: nsO r from rfl, walkN]
    by_cases h1 : opB c = true
    · have hn := opB_n h1
      by_cases h2 : c.n ≤ s
      · rw [if_pos ⟨h1, h2⟩, if_pos ⟨hn, h2⟩, ih]; simp [h1]
      · rw [if_neg (fun h => h2 h.2), if_neg (fun h => h2 h.2)]; simp
    · rw [if_neg (fun h => h1 h.1)]; simp [h1]
def wholeB (l : List Opn) : Bool := decide (walkO 0 l = some 1)
theorem wholeB_ok {l : List Opn} (h : wholeB l = true) : (∀ c ∈ l, opB c = true) ∧ walkN 0 (nsO l) = some 1 := (walkO_iff l 0 1).1 (by simpa [wholeB] using h)
def op0 : Opn := ⟨0, 0, 0, ByteArray.empty⟩
def opA (l : List Opn) (k : Nat) : Opn := l.getD k op0
theorem opA_eq {l : List Opn} {k : Nat} (h : k < l.length) : opA l k = l[k] := by unfold opA; simp [List.getD, List.getElem?_eq_getElem h]
/-- The parts of the whole at a place. -/
def ptO (l : List Opn) (k : Nat) : List Int := ((whA (nsO l)).getD k (0, [])).2
/-- The place of its first part. -/
def p0 (l : List Opn) (k : Nat) : Int := (ptO l k).getD 0 0
/-- Does the let at k bind the local at u? -/
def bindB (l : List Opn) (k : Nat) (u : Int) : Bool := decide (p0 l k < u) && decide ((opA l u.toNat).text = (opA l k).text)
/-- The locals that are not bound yet. -/
def unbK (l : List Opn) : Nat → List Int
  | 0 => []
  | k + 1 => if (opA l k).kind = 4 then unbK l k ++ [(k : Int)] else if (opA l k).kind = 19 then (unbK l k).filter (fun u => !(bindB l k u)) else unbK l k
def boundB (l : List Opn) : Bool := decide ((unbK l l.length).length = 0)
theorem unbK_mem (l : List Opn) : ∀ (k : Nat) (x : Int), x ∈ unbK l k ↔ ∃ i : Nat, x = i ∧ i < k ∧ (opA l i).kind = 4 ∧ ∀ k', i < k' → k' < k → (opA l k').kind = 19 → bindB l k' (i : Int) = false
  | 0, x => by simp [unbK]
  | k + 1, x => by
    have ih := unbK_mem l k
    rw [unbK]
    by_cases h4 : (opA l k).kind = 4
    · rw [if_pos h4, List.mem_append, List.mem_singleton, ih]
      constructor
      · rintro (⟨i, rfl, h1, h2, h3⟩ | rfl)
        · exact ⟨i, rfl, by omega, h2, fun k' a b c => by
            by_cases e : k' = k
            · subst e; omega
            · exact h3 k' a (by omega) c⟩
        · exact ⟨k, rfl, by omega, h4, fun k' a b c => by omega⟩
      · rintro ⟨i, rfl, h1, h2, h3⟩
        by_cases e : i = k
        · subst e; exact Or.inr rfl
        · exact Or.inl ⟨i, rfl, by omega, h2, fun k' a b c => h3 k' a (by omega) c⟩
    · rw [if_neg h4]
      by_cases h19 : (opA l k).kind = 19
      · rw [if_pos h19, List.mem_filter, ih]
        constructor
        · rintro ⟨⟨i, rfl, h1, h2, h3⟩, h5⟩
          refine ⟨i, rfl, by omega, h2, fun k' a b c => ?_⟩
          by_cases e : k' = k
          · subst e; simpa using h5
          · exact h3 k' a (by omega) c
        · rintro ⟨i, rfl, h1, h2, h3⟩
          have hik : i ≠ k := fun e => by subst e; exact h4 h2
          exact ⟨⟨i, rfl, by omega, h2, fun k' a b c => h3 k' a (by omega) c⟩, by rw [h3 k (by omega) (by omega) h19]; rfl⟩
      · rw [if_neg h19, ih]
        constructor
        · rintro ⟨i, rfl, h1, h2, h3⟩
          refine ⟨i, rfl, by omega, h2, fun k' a b c => ?_⟩
          by_cases e : k' = k
          · subst e; exact absurd c h19
          · exact h3 k' a (by omega) c
        · rintro ⟨i, rfl, h1, h2, h3⟩
          have hik : i ≠ k := fun e => by subst e; exact h4 h2
          exact ⟨i, rfl, by omega, h2, fun k' a b c => h3 k' a (by omega) c⟩
theorem unbK_bd (l : List Opn) (k : Nat) : ∀ x ∈ unbK l k, 0 ≤ x ∧ x < k := fun x hx => by
  obtain ⟨i, rfl, h1, _⟩ := (unbK_mem l k x).1 hx
  omega
theorem unbK_len (l : List Opn) : ∀ k, (unbK l k).length ≤ k
  | 0 => by simp [unbK]
  | k + 1 => by
    have ih := unbK_len l k
    rw [unbK]
    split
    · simp; omega
    · split
      · have := List.length_filter_le (fun u => !(bindB l k u)) (unbK l k); omega
      · omega
/-- The parts of a right row. -/
theorem ptO_len {l : List Opn} (h : walkN 0 (nsO l) = some 1) {k : Nat} (hk : k < l.length) : ((ptO l k).length : Int) = l[k].n ∧ ∀ x ∈ ptO l k, 0 ≤ x ∧ x < k := by
  obtain ⟨E', PJ⟩ := whA_PI h
  obtain ⟨c, h1, h2, _, h4⟩ := PJ.pa k (by rw [nsO_len]; exact hk)
  have : c = l[k].n := by
    have e : (nsO l)[k]? = some l[k].n := by simp [nsO, List.getElem?_eq_getElem hk]
    rw [e] at h1; exact (Option.some.inj h1).symm
  subst this
  exact ⟨h2, h4⟩
/-- A let's second part ends right ahead of it, and begins right behind the first one. -/
theorem let_from {l : List Opn} (h : wholeB l = true) {k : Nat} (hk : k < l.length) (h19 : (opA l k).kind = 19) : 1 ≤ k ∧ frA (whA (nsO l)) ((k - 1 : Nat) : Int) = p0 l k + 1 := by
  obtain ⟨ha, hw⟩ := wholeB_ok h
  obtain ⟨E', PJ⟩ := whA_PI hw
  obtain ⟨c, h1, h2, h3, h4⟩ := PJ.pa k (by rw [nsO_len]; exact hk)
  obtain ⟨h5, h6⟩ := ptO_len hw hk
  rw [opA_eq hk] at h19
  have hn : l[k].n = 2 := by rw [opB_n2 (ha _ (List.getElem_mem hk)) (by rw [h19]; decide), h19]; decide
  have hl : (ptO l k).length = 2 := by omega
  change CHN (frA (whA (nsO l))) (ptO l k) k at h3
  have e1 := h3.1 0 (by omega)
  have e2 := h3.2 (by omega)
  rw [hl] at e2
  have hm := h6 _ (mem_getD (S := ptO l k) (j := 1) (by omega))
  simp only [Nat.zero_add, show 2 - 1 = 1 from rfl] at e1 e2
  refine ⟨by omega, ?_⟩
  have e3 : ((k - 1 : Nat) : Int) = (ptO l k).getD 1 0 := by omega
  rw [e3]; unfold p0; omega
/-- The reference's word for it. -/
theorem boundB_iff {l : List Opn} (h : wholeB l = true) : boundB l = true ↔ ∀ i, i < l.length → (opA l i).kind = 4 → ∃ k, i < k ∧ k < l.length ∧ (opA l k).kind = 19 ∧ (opA l k).text = (opA l i).text ∧ frA (whA (nsO l)) ((k - 1 : Nat) : Int) ≤ i := by
  have key : ∀ k i, k < l.length → (opA l k).kind = 19 → (bindB l k (i : Nat) = true ↔ ((opA l k).text = (opA l i).text ∧ frA (whA (nsO l)) ((k - 1 : Nat) : Int) ≤ i)) := fun k i hk h19 => by
    obtain ⟨_, e⟩ := let_from h hk h19
    rw [e]
    unfold bindB
    simp only [Bool.and_eq_true, decide_eq_true_eq, Int.toNat_natCast]
    constructor
    · rintro ⟨a, b⟩; exact ⟨b.symm, by omega⟩
    · rintro ⟨a, b⟩; exact ⟨by omega, a.symm⟩
  have e0 : boundB l = true ↔ ∀ x, x ∉ unbK l l.length := by
    unfold boundB
    rw [decide_eq_true_eq, List.length_eq_zero_iff, List.eq_nil_iff_forall_not_mem]
  rw [e0]
  constructor
  · intro hb i hi h4
    have := hb (i : Int)
    rw [unbK_mem] at this
    refine Classical.byContradiction fun hn => this ⟨i, rfl, hi, h4, fun k' a b c => ?_⟩
    cases hc : bindB l k' (i : Int) with
    | false => rfl
    | true =>
      obtain ⟨u, v⟩ := (key k' i b c).1 hc
      exact absurd ⟨k', a, b, c, u, v⟩ hn
  · intro hr x hx
    obtain ⟨i, rfl, h1, h2, h3⟩ := (unbK_mem l l.length x).1 hx
    obtain ⟨k, a, b, c, d, e⟩ := hr i h1 h2
    have := h3 k a b c
    rw [(key k i b c).2 ⟨d, e⟩] at this
    cases this
def longB (l : List Opn) : Bool := l.any fun o => decide (4096 < o.text.size)
def deepO (l : List Opn) : Int := deepV (nsO l)
/-- What is wrong with an expression. -/
def chkO (l : List Opn) : Int := if 256 < l.length then 3 else if wholeB l = true ∧ boundB l = true then (if longB l = true ∨ 32 < deepO l then 3 else 0) else 5
theorem chkO_ok {l : List Opn} (h : chkO l = 0) : l.length ≤ 256 ∧ wholeB l = true ∧ boundB l = true ∧ longB l = false ∧ deepO l ≤ 32 := by
  unfold chkO at h
  split at h
  · omega
  · split at h
    · rename_i h1 h2
      split at h
      · omega
      · rename_i h3
        exact ⟨by omega, h2.1, h2.2, by simpa using fun e => h3 (Or.inl e), by have := fun e => h3 (Or.inr e); omega⟩
    · omega
theorem longB_iff {l : List Opn} : longB l = false ↔ ∀ k (h : k < l.length), l[k].text.size ≤ 4096 := by
  unfold longB
  rw [List.any_eq_false]
  constructor
  · intro h k hk
    have := h _ (List.getElem_mem hk)
    simpa using this
  · intro h o ho
    obtain ⟨k, hk, rfl⟩ := List.getElem_of_mem ho
    simpa using h k hk
theorem longB_hit {l : List Opn} {k : Nat} (h : k < l.length) (h2 : 4096 < l[k].text.size) : longB l = true := by
  cases e : longB l with
  | true => rfl
  | false => have := longB_iff.1 e k h; omega
end Go.Proofs.YtffabehipcomfaaDoor
