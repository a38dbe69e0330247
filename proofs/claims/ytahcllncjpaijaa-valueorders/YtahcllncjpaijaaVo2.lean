/- Values, plain: one order of all values. -/
import Derived.Test.YtahcllncjpaijaaVo1
namespace Go.Proofs.Ytahcllncjpaijaa
open Go.RowKit

theorem ba_ext {a b : ByteArray} (h : a.data.toList = b.data.toList) : a = b := by
  cases a; cases b; congr 1; exact Array.toList_inj.1 h
theorem sgn_anti (n : Int) : sgn (-n) = - sgn n := by
  unfold sgn
  by_cases h : n < 0
  · rw [if_pos h, if_neg (by omega), if_pos (by omega)]; rfl
  · by_cases h2 : 0 < n
    · rw [if_neg h, if_pos h2, if_pos (by omega)]
    · rw [if_neg h, if_neg h2, if_neg (by omega), if_neg (by omega)]; rfl
theorem sgn_eq {n : Int} : sgn n = 0 ↔ n = 0 := by
  unfold sgn
  by_cases h : n < 0
  · rw [if_pos h]; omega
  · by_cases h2 : 0 < n
    · rw [if_neg h, if_pos h2]; omega
    · rw [if_neg h, if_neg h2]; omega
theorem sgn_le {n : Int} : (sgn n ≤ 0 ↔ n ≤ 0) ∧ (sgn n < 0 ↔ n < 0) ∧ -1 ≤ sgn n ∧ sgn n ≤ 1 := by
  unfold sgn
  by_cases h : n < 0
  · rw [if_pos h]; omega
  · by_cases h2 : 0 < n
    · rw [if_neg h, if_pos h2]; omega
    · rw [if_neg h, if_neg h2]; omega
theorem lt_asymm' {a b : List UInt8} (h : a < b) : ¬ b < a := fun h2 => List.lt_irrefl _ (List.lt_trans h h2)
theorem cmpT_anti (a b : ByteArray) : cmpT b a = - cmpT a b := by
  unfold cmpT
  by_cases h : a.data.toList < b.data.toList
  · simp [h, lt_asymm' h]
  · by_cases h2 : b.data.toList < a.data.toList
    · simp [h, h2]
    · simp [h, h2]
theorem cmpT_eq {a b : ByteArray} : cmpT a b = 0 ↔ a = b := by
  constructor
  · intro h
    unfold cmpT at h
    by_cases h1 : a.data.toList < b.data.toList
    · rw [if_pos h1] at h; cases h
    · by_cases h2 : b.data.toList < a.data.toList
      · rw [if_neg h1, if_pos h2] at h; cases h
      · rcases List.le_iff_lt_or_eq.1 (List.not_lt.1 h1) with e | e
        · exact absurd e h2
        · exact (ba_ext e).symm
  · rintro rfl; exact cmpT_same _
theorem cmpT_lt {a b : ByteArray} : cmpT a b < 0 ↔ a.data.toList < b.data.toList := by
  unfold cmpT
  by_cases h1 : a.data.toList < b.data.toList
  · rw [if_pos h1]; simp [h1]
  · by_cases h2 : b.data.toList < a.data.toList
    · rw [if_neg h1, if_pos h2]; simp [h1]
    · rw [if_neg h1, if_neg h2]; simp [h1]
theorem cmpT_bd (a b : ByteArray) : -1 ≤ cmpT a b ∧ cmpT a b ≤ 1 := by
  unfold cmpT
  split
  · omega
  · split <;> omega
theorem cmpT_trans {a b c : ByteArray} (h1 : cmpT a b < 0) (h2 : cmpT b c < 0) : cmpT a c < 0 := cmpT_lt.2 (List.lt_trans (cmpT_lt.1 h1) (cmpT_lt.1 h2))
mutual
theorem cmpV_anti : ∀ s t : Vt, cmpV t s = - cmpV s t
  | .nd k i tx ps, .nd k' i' tx' qs => by
    rw [cmpV, cmpV]
    by_cases hk : k = k'
    · subst hk
      by_cases h1 : k = 1
      · simp only [h1, ne_eq, not_true_eq_false, if_false, if_true]
        rw [← sgn_anti, Int.neg_sub]
      · by_cases h2 : k = 2
        · simp [h2, cmpT_anti tx tx']
        · simp [h1, h2, cmpVL_anti ps qs]
    · rw [if_pos (fun e => hk e.symm), if_pos hk, ← sgn_anti, Int.neg_sub]
theorem cmpVL_anti : ∀ p q : List Vt, cmpVL q p = - cmpVL p q
  | [], [] => rfl
  | [], _ :: _ => rfl
  | _ :: _, [] => rfl
  | p :: r, q :: s => by
    rw [cmpVL, cmpVL, cmpV_anti p q, cmpVL_anti r s]
    by_cases h : cmpV p q = 0
    · rw [if_pos h, if_pos (by omega)]
    · rw [if_neg h, if_neg (by omega)]
end
mutual
theorem cmpV_bd : ∀ s t : Vt, -1 ≤ cmpV s t ∧ cmpV s t ≤ 1
  | .nd k i tx ps, .nd k' i' tx' qs => by
    rw [cmpV]
    split
    · exact (sgn_le).2.2
    · split
      · exact (sgn_le).2.2
      · split
        · exact cmpT_bd _ _
        · exact cmpVL_bd ps qs
theorem cmpVL_bd : ∀ p q : List Vt, -1 ≤ cmpVL p q ∧ cmpVL p q ≤ 1
  | [], [] => by rw [cmpVL]; omega
  | [], _ :: _ => by rw [cmpVL]; omega
  | _ :: _, [] => by rw [cmpVL]; omega
  | p :: r, q :: s => by
    rw [cmpVL]
    split
    · exact cmpVL_bd r s
    · exact cmpV_bd p q
end
mutual
theorem cmpV_refl : ∀ s : Vt, cmpV s s = 0
  | .nd k i tx ps => by
    rw [cmpV, if_neg (fun e => e rfl), Int.sub_self, sgn_zero, cmpT_same, cmpVL_refl ps]
    split
    · rfl
    · split <;> rfl
theorem cmpVL_refl : ∀ p : List Vt, cmpVL p p = 0
  | [] => rfl
  | p :: r => by rw [cmpVL, if_pos (cmpV_refl p), cmpVL_refl r]
end
theorem wf_leaf {k i : Int} {tx : ByteArray} {ps : List Vt} (h : wfV (.nd k i tx ps)) (h3 : k ≠ 3) : ps = [] := by
  rw [wfV] at h
  by_cases e : ps = []
  · exact e
  · exact absurd ((atB_n h.1).2.1 (by simp; exact e)) h3
mutual
theorem cmpV_eq : ∀ s t : Vt, wfV s → wfV t → cmpV s t = 0 → s = t
  | .nd k i tx ps, .nd k' i' tx' qs, hs, ht, h => by
    rw [cmpV] at h
    by_cases hk : k = k'
    · subst hk
      rw [if_neg (fun e => e rfl)] at h
      have h1 := hs; rw [wfV] at h1
      have h2 := ht; rw [wfV] at h2
      have a1 := h1.1
      have a2 := h2.1
      by_cases e1 : k = 1
      · subst e1
        rw [if_pos rfl, sgn_eq] at h
        rw [wf_leaf hs (by decide), wf_leaf ht (by decide)]
        unfold atB at a1 a2
        simp at a1 a2
        rw [a1.2, a2.2, show i = i' by omega]
      · rw [if_neg e1] at h
        by_cases e2 : k = 2
        · subst e2
          rw [if_pos rfl, cmpT_eq] at h
          rw [wf_leaf hs (by decide), wf_leaf ht (by decide)]
          unfold atB at a1 a2
          simp at a1 a2
          rw [a1.1.2, a2.1.2, h]
        · rw [if_neg e2] at h
          have ks := (atB_n a1).2.2
          simp only at ks
          have e3 : k = 3 := by omega
          subst e3
          obtain ⟨rfl, rfl⟩ := wf_end hs
          obtain ⟨rfl, rfl⟩ := wf_end ht
          rw [cmpVL_eq ps qs h1.2 h2.2 h]
    · rw [if_pos hk, sgn_eq] at h; omega
theorem cmpVL_eq : ∀ p q : List Vt, wfVL p → wfVL q → cmpVL p q = 0 → p = q
  | [], [], _, _, _ => rfl
  | [], _ :: _, _, _, h => by rw [cmpVL] at h; omega
  | _ :: _, [], _, _, h => by rw [cmpVL] at h; omega
  | p :: r, q :: s, h1, h2, h => by
    rw [wfVL] at h1 h2
    rw [cmpVL] at h
    by_cases e : cmpV p q = 0
    · rw [if_pos e] at h
      rw [cmpV_eq p q h1.1 h2.1 e, cmpVL_eq r s h1.2 h2.2 h]
    · rw [if_neg e] at h; exact absurd h e
end
mutual
theorem cmpV_trans : ∀ s t u : Vt, wfV s → wfV t → wfV u → cmpV s t < 0 → cmpV t u < 0 → cmpV s u < 0
  | .nd k i tx ps, .nd k' i' tx' qs, .nd k'' i'' tx'' rs, hs, ht, hu, h1, h2 => by
    rw [cmpV] at h1 h2 ⊢
    by_cases e1 : k = k'
    · subst e1
      rw [if_neg (fun e => e rfl)] at h1
      by_cases e2 : k = k''
      · subst e2
        rw [if_neg (fun e => e rfl)] at h2 ⊢
        by_cases f1 : k = 1
        · rw [if_pos f1] at h1 h2 ⊢
          rw [sgn_le.2.1] at *
          omega
        · rw [if_neg f1] at h1 h2 ⊢
          by_cases f2 : k = 2
          · rw [if_pos f2] at h1 h2 ⊢
            exact cmpT_trans h1 h2
          · rw [if_neg f2] at h1 h2 ⊢
            rw [wfV] at hs ht hu
            exact cmpVL_trans ps qs rs hs.2 ht.2 hu.2 h1 h2
      · rw [if_pos e2] at h2 ⊢; exact h2
    · rw [if_pos e1, sgn_le.2.1] at h1
      by_cases e2 : k' = k''
      · subst e2
        rw [if_pos e1, sgn_le.2.1]; exact h1
      · rw [if_pos e2, sgn_le.2.1] at h2
        rw [if_pos (by omega), sgn_le.2.1]; omega
theorem cmpVL_trans : ∀ p q r : List Vt, wfVL p → wfVL q → wfVL r → cmpVL p q < 0 → cmpVL q r < 0 → cmpVL p r < 0
  | [], [], _, _, _, _, h, _ => by rw [cmpVL] at h; omega
  | [], _ :: _, [], _, _, _, _, h => by rw [cmpVL] at h; omega
  | [], _ :: _, _ :: _, _, _, _, _, _ => by rw [cmpVL]; omega
  | _ :: _, [], _, _, _, _, h, _ => by rw [cmpVL] at h; omega
  | _ :: _, _ :: _, [], _, _, _, _, h => by rw [cmpVL] at h; omega
  | p :: a, q :: b, r :: c, hp, hq, hr, h1, h2 => by
    rw [wfVL] at hp hq hr
    rw [cmpVL] at h1 h2 ⊢
    by_cases e1 : cmpV p q = 0
    · rw [if_pos e1] at h1
      have e := cmpV_eq p q hp.1 hq.1 e1
      subst e
      by_cases e2 : cmpV p r = 0
      · rw [if_pos e2] at h2 ⊢
        exact cmpVL_trans a b c hp.2 hq.2 hr.2 h1 h2
      · rw [if_neg e2] at h2 ⊢; exact h2
    · rw [if_neg e1] at h1
      by_cases e2 : cmpV q r = 0
      · have e := cmpV_eq q r hq.1 hr.1 e2
        subst e
        rw [if_neg e1]; exact h1
      · rw [if_neg e2] at h2
        have := cmpV_trans p q r hp.1 hq.1 hr.1 h1 h2
        rw [if_neg (by omega)]; exact this
end
/-- Of three it goes on. -/
theorem cmpV_three {a b c : Vt} (ha : wfV a) (hb : wfV b) (hc : wfV c) : (cmpV a b ≤ 0 → cmpV b c ≤ 0 → cmpV a c ≤ 0) ∧ (0 ≤ cmpV a b → 0 ≤ cmpV b c → 0 ≤ cmpV a c) ∧ (cmpV a b < 0 → cmpV b c ≤ 0 → cmpV a c < 0) := by
  have le : ∀ {x y z : Vt}, wfV x → wfV y → wfV z → cmpV x y ≤ 0 → cmpV y z ≤ 0 → cmpV x z ≤ 0 := fun {x y z} hx hy hz h1 h2 => by
    by_cases e1 : cmpV x y = 0
    · rw [cmpV_eq x y hx hy e1]; exact h2
    · by_cases e2 : cmpV y z = 0
      · rw [← cmpV_eq y z hy hz e2]; exact h1
      · have := cmpV_trans x y z hx hy hz (by omega) (by omega); omega
  refine ⟨le ha hb hc, fun h1 h2 => ?_, fun h1 h2 => ?_⟩
  · have e1 := cmpV_anti a b
    have e2 := cmpV_anti b c
    have e3 := cmpV_anti a c
    have := le hc hb ha (by omega) (by omega)
    omega
  · by_cases e2 : cmpV b c = 0
    · rw [← cmpV_eq b c hb hc e2]; exact h1
    · exact cmpV_trans a b c ha hb hc h1 (by omega)
end Go.Proofs.Ytahcllncjpaijaa
