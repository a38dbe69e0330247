/- Names, the reference: what is surely asked, plain. -/
import Derived.Test.YtmkgcgdfgagdlaaDoorPm1
import Derived.Test.YtmkgcgdfgagdlaaDoorPn2
namespace Go.Proofs.YtmkgcgdfgagdlaaDoor
open Go.RowKit

/-- What the i-th part of the whole at k brings. -/
def pcS (l : List Opn) (k : Nat) (R : List (List ByteArray)) (i : Nat) : List ByteArray :=
  if ((opA l k).kind = 15 ∧ i = 1) ∨ ((opA l k).kind = 14 ∧ i = 2) then []
  else if (opA l k).kind = 14 ∧ i = 1 then (R.getD (qP l k 1) []).filter (fun x => inB (R.getD (qP l k 2) []) x)
  else R.getD (qP l k i) []
def rJ (l : List Opn) (k : Nat) (R : List (List ByteArray)) : Nat → List ByteArray
  | 0 => []
  | j + 1 => rJ l k R j ++ pcS l k R j
def rS (l : List Opn) (k : Nat) (R : List (List ByteArray)) : List ByteArray := if (opA l k).kind = 3 then [(opA l k).text] else rJ l k R (ptO l k).length
def rK (l : List Opn) : Nat → List (List ByteArray)
  | 0 => []
  | k + 1 => rK l k ++ [rS l k (rK l k)]
theorem rK_len (l : List Opn) : ∀ k, (rK l k).length = k
  | 0 => rfl
  | k + 1 => by rw [rK, List.length_append, rK_len l k]; rfl
theorem rK_get (l : List Opn) : ∀ k j, j < k → (rK l k).getD j [] = rS l j (rK l j)
  | 0, j, h => by omega
  | k + 1, j, h => by
    rw [rK]
    by_cases e : j < k
    · rw [getD_app (by rw [rK_len]; exact e)]; exact rK_get l k j e
    · have : j = k := by omega
      subst this
      rw [getD_end (rK_len l j)]
theorem pcS_len (l : List Opn) (k : Nat) (R : List (List ByteArray)) (C : List Nat) (h : ∀ j, j < k → (R.getD j []).length ≤ C.getD j 0) (hp : ∀ x ∈ ptO l k, 0 ≤ x ∧ x < k) {i : Nat} (hi : i < (ptO l k).length) : (pcS l k R i).length ≤ C.getD (qP l k i) 0 := by
  have hq : qP l k i < k := by
    have := hp ((ptO l k).getD i 0) (by rw [List.getD_eq_getElem?_getD, List.getElem?_eq_getElem hi]; exact List.getElem_mem _)
    unfold qP; omega
  unfold pcS
  split
  · simp
  · split
    · rename_i h1
      rw [h1.2] at hq ⊢
      exact Nat.le_trans (List.length_filter_le _ _) (h _ hq)
    · exact h _ hq
theorem rJ_len (l : List Opn) (k : Nat) (R : List (List ByteArray)) (C : List Nat) (h : ∀ j, j < k → (R.getD j []).length ≤ C.getD j 0) (hp : ∀ x ∈ ptO l k, 0 ≤ x ∧ x < k) : ∀ i, i ≤ (ptO l k).length → (rJ l k R i).length ≤ (((ptO l k).take i).map fun x => C.getD x.toNat 0).sum
  | 0, _ => by simp [rJ]
  | i + 1, hi => by
    have ih := rJ_len l k R C h hp i (by omega)
    have h1 := pcS_len l k R C h hp (i := i) (by omega)
    have e : (ptO l k)[i] = (ptO l k).getD i 0 := by simp [List.getD, List.getElem?_eq_getElem (show i < (ptO l k).length by omega)]
    rw [rJ, List.length_append, List.take_succ_eq_append_getElem (by omega), List.map_append, List.sum_append, e]
    simp only [List.map_cons, List.map_nil, List.sum_cons, List.sum_nil, Nat.add_zero]
    unfold qP at h1
    omega
theorem sum_take (P : List Int) (C : List Nat) (j : Nat) : ((P.take j).map fun x => C.getD x.toNat 0).sum ≤ (P.map fun x => C.getD x.toNat 0).sum := by
  have := congrArg (fun L => (List.map (fun x : Int => C.getD x.toNat 0) L).sum) (List.take_append_drop j P)
  simp only [List.map_append, List.sum_append] at this
  omega
theorem rK_bd {l : List Opn} (hwh : wholeB l = true) : ∀ k, k ≤ l.length → ∀ j, j < k → ((rK l k).getD j []).length ≤ (cK l k).getD j 0
  | 0, _, j, h => by omega
  | k + 1, hk, j, hj => by
    have ih := rK_bd hwh k (by omega)
    rw [rK, cK]
    by_cases e : j < k
    · rw [getD_app (by rw [rK_len]; exact e), getD_app (by rw [cK_len]; exact e)]; exact ih j e
    · have : j = k := by omega
      subst this
      rw [getD_end (rK_len l j), getD_end (cK_len l j)]
      obtain ⟨_, hpb⟩ := ptO_len (wholeB_ok hwh).2 (show j < l.length by omega)
      have h1 := rJ_len l j (rK l j) (cK l j) ih hpb _ (Nat.le_refl _)
      have h2 := sum_take (ptO l j) (cK l j) (ptO l j).length
      unfold rS cuS
      split
      · simp
      · omega
theorem rJ_mem (l : List Opn) (k : Nat) (R : List (List ByteArray)) (h14 : (opA l k).kind ≠ 14) (h15 : (opA l k).kind ≠ 15) (x : ByteArray) : ∀ i, i ≤ (ptO l k).length → (x ∈ rJ l k R i ↔ ∃ y ∈ (ptO l k).take i, x ∈ R.getD y.toNat [])
  | 0, _ => by simp [rJ]
  | i + 1, hi => by
    have ih := rJ_mem l k R h14 h15 x i (by omega)
    have e : (ptO l k)[i] = (ptO l k).getD i 0 := by simp [List.getD, List.getElem?_eq_getElem (show i < (ptO l k).length by omega)]
    have e2 : pcS l k R i = R.getD (qP l k i) [] := by
      unfold pcS
      rw [if_neg (fun h => h.elim (fun a => h15 a.1) (fun a => h14 a.1)), if_neg (fun h => h14 h.1)]
    rw [rJ, List.mem_append, ih, e2, List.take_succ_eq_append_getElem (by omega)]
    constructor
    · rintro (⟨y, hy, hx⟩ | hx)
      · exact ⟨y, List.mem_append.2 (Or.inl hy), hx⟩
      · exact ⟨(ptO l k)[i], List.mem_append.2 (Or.inr (List.mem_singleton.2 rfl)), by rw [e]; exact hx⟩
    · rintro ⟨y, hy, hx⟩
      rw [List.mem_append, List.mem_singleton] at hy
      rcases hy with hy | hy
      · exact Or.inl ⟨y, hy, hx⟩
      · right; rw [hy, e] at hx; exact hx
theorem rK_mem {l : List Opn} (hwh : wholeB l = true) (x : ByteArray) : ∀ k, k ≤ l.length → ∀ j, j < k → (x ∈ (rK l k).getD j [] ↔ (sK l k).getD j p0f x = true)
  | 0, _, j, h => by omega
  | k + 1, hk, j, hj => by
    have ih := rK_mem hwh x k (by omega)
    rw [rK, sK]
    by_cases e : j < k
    · rw [getD_app (by rw [rK_len]; exact e), getD_app (by rw [sK_len]; exact e)]; exact ih j e
    · have : j = k := by omega
      subst this
      rw [getD_end (rK_len l j), getD_end (sK_len l j)]
      obtain ⟨ha, hw⟩ := wholeB_ok hwh
      have hjl : j < l.length := by omega
      obtain ⟨hpl, hpb⟩ := ptO_len hw hjl
      have hq : ∀ i, i < (ptO l j).length → qP l j i < j := fun i hi => by
        have := hpb ((ptO l j).getD i 0) (by rw [List.getD_eq_getElem?_getD, List.getElem?_eq_getElem hi]; exact List.getElem_mem _)
        unfold qP; omega
      have hn : (opA l j).kind ≠ 5 → ((ptO l j).length : Int) = oprt (opA l j).kind := fun h5 => by
        rw [hpl, opA_eq hjl]; exact opB_n2 (ha _ (List.getElem_mem hjl)) (by rw [← opA_eq hjl]; exact h5)
      unfold rS suS
      by_cases k3 : (opA l j).kind = 3
      · rw [if_pos k3, if_pos k3]; simp
      · rw [if_neg k3, if_neg k3]
        by_cases k14 : (opA l j).kind = 14
        · have hl3 : (ptO l j).length = 3 := by
            have := hn (by omega); rw [k14, show oprt 14 = 3 by decide] at this; omega
          rw [if_pos k14, hl3]
          have e0 : pcS l j (rK l j) 0 = (rK l j).getD (qP l j 0) [] := by unfold pcS; simp [k14]
          have e1 : pcS l j (rK l j) 1 = ((rK l j).getD (qP l j 1) []).filter (fun x => inB ((rK l j).getD (qP l j 2) []) x) := by unfold pcS; simp [k14]
          have e2 : pcS l j (rK l j) 2 = [] := by unfold pcS; simp [k14]
          rw [rJ, rJ, rJ, rJ, e0, e1, e2, List.nil_append, List.append_nil, List.mem_append, List.mem_filter, inB_iff, ih _ (hq 0 (by omega)), ih _ (hq 1 (by omega)), ih _ (hq 2 (by omega)), Bool.or_eq_true, Bool.and_eq_true]
        · rw [if_neg k14]
          by_cases k15 : (opA l j).kind = 15
          · have hl2 : (ptO l j).length = 2 := by
              have := hn (by omega); rw [k15, show oprt 15 = 2 by decide] at this; omega
            rw [if_pos k15, hl2]
            have e0 : pcS l j (rK l j) 0 = (rK l j).getD (qP l j 0) [] := by unfold pcS; simp [k15]
            have e1 : pcS l j (rK l j) 1 = [] := by unfold pcS; simp [k15]
            rw [rJ, rJ, rJ, e0, e1, List.nil_append, List.append_nil, ih _ (hq 0 (by omega))]
          · rw [if_neg k15, rJ_mem l j (rK l j) k14 k15 x _ (Nat.le_refl _), List.take_length, List.any_eq_true]
            constructor
            · rintro ⟨y, hy, hx⟩
              exact ⟨y, hy, (ih y.toNat (by have := hpb y hy; omega)).1 hx⟩
            · rintro ⟨y, hy, hx⟩
              exact ⟨y, hy, (ih y.toNat (by have := hpb y hy; omega)).2 hx⟩
/-- What the reference finds at a place. -/
def rT (l : List Opn) (k : Nat) : List ByteArray := rS l k (rK l k)
theorem rT_len {l : List Opn} (hwh : wholeB l = true) {k : Nat} (hk : k < l.length) : (rT l k).length ≤ k + 1 := by
  have h1 := rK_bd hwh (k + 1) (by omega) k (by omega)
  rw [rK_get l _ _ (by omega)] at h1
  have h2 := cK_bd l (k + 1) (by omega) k (by omega)
  unfold rT; omega
theorem rT_sure {l : List Opn} (hwh : wholeB l = true) (x : ByteArray) : inB (rT l (l.length - 1)) x = sureP l x := by
  have hne := walk_ne (wholeB_ok hwh).2
  have h1 := rK_mem hwh x l.length (Nat.le_refl _) (l.length - 1) (by omega)
  rw [rK_get l _ _ (by omega)] at h1
  unfold rT sureP
  rw [Bool.eq_iff_iff, inB_iff]; exact h1
end Go.Proofs.YtmkgcgdfgagdlaaDoor
