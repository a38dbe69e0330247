/- Depend: what DependTells asks (plain). -/
import Derived.Test.YtjgmnbiigfpbcaaDd4
namespace Go.Proofs.Ytjgmnbiigfpbcaa
open Go.RowKit

theorem tel_w {X : Wb} {t c : Nat} (ht : t < 128) (hc : c < 256) (h : (X.w t).is = true) : askE X t c = 7 ∧ askL X t c = [] ∧ wtE X t c = 7 ∧ wtL X t c = [] ∧ wtX X t c = X := by
  have e1 : askE X t c = 7 := by unfold askE; rw [tkB_nat ht, clB_nat hc, show ((t : Int)).toNat = t from rfl, h]; rfl
  have e2 : wtE X t c = 7 := by unfold wtE; rw [if_neg (by rw [e1]; decide), e1]
  exact ⟨e1, by unfold askL; rw [e1]; rfl, e2, by unfold wtL; rw [e2]; rfl, by unfold wtX; rw [e2]; rfl⟩
theorem tel_a {X : Wb} {t c : Nat} (ht : t < 128) (hc : c < 256) (h : (X.w t).is = false) : askE X t c = 0 ∧ askL X t c = cirW X t c := by
  have e1 : askE X t c = 0 := by unfold askE; rw [tkB_nat ht, clB_nat hc, show ((t : Int)).toNat = t from rfl, h]; rfl
  exact ⟨e1, by unfold askL; rw [if_pos e1]; rfl⟩
theorem tel_n {X : Wb} (hi : WI X) {t c : Nat} (ht : t < 128) (hc : c < 256) (h : (X.w t).is = false) (hr : (X.r c).is = false) : cirW X t c = [] ∧ wtE X t c = 4 ∧ wtL X t c = [] ∧ wtX X t c = X := by
  have e1 := (tel_a ht hc h).1
  have e0 : cirW X t c = [] := by
    refine cirW_none hi fun ⟨l, hl⟩ => ?_
    rcases hl.way.parts with ⟨_, h2⟩ | ⟨y, m, h1, _⟩
    · have := hl.top
      rw [h2] at this
      have hm := List.mem_of_getLast? (l := stk X t) (a := c) (by rw [this]; rfl)
      rw [(stk_mem.1 hm).1] at hr; cases hr
    · rw [nxt_not hr] at h1; cases h1
  have e2 : wtE X t c = 4 := by unfold wtE; rw [if_pos e1, show ((c : Int)).toNat = c from rfl, hr]; rfl
  exact ⟨e0, e2, by unfold wtL; rw [e2]; rfl, by unfold wtX; rw [e2]; rfl⟩
theorem tel_c {X : Wb} {t c : Nat} (ht : t < 128) (hc : c < 256) (h : (X.w t).is = false) (hr : (X.r c).is = true) (hl : cirW X t c ≠ []) : wtE X t c = 140 ∧ wtL X t c = cirW X t c ∧ wtX X t c = X := by
  have e1 := (tel_a ht hc h).1
  have e2 : wtE X t c = 140 := by
    unfold wtE
    rw [if_pos e1, show ((c : Int)).toNat = c from rfl, show ((t : Int)).toNat = t from rfl, hr]
    show (if cirW X t c = [] then (0 : Int) else 140) = 140
    rw [if_neg hl]
  exact ⟨e2, by unfold wtL; rw [e2]; rfl, by unfold wtX; rw [e2]; rfl⟩
theorem tel_o {X : Wb} {t c : Nat} (ht : t < 128) (hc : c < 256) (h : (X.w t).is = false) (hr : (X.r c).is = true) (hl : cirW X t c = []) : wtE X t c = 0 ∧ wtL X t c = [] ∧ wtX X t c = waiW X t c := by
  have e1 := (tel_a ht hc h).1
  have e2 : wtE X t c = 0 := by
    unfold wtE
    rw [if_pos e1, show ((c : Int)).toNat = c from rfl, show ((t : Int)).toNat = t from rfl, hr]
    show (if cirW X t c = [] then (0 : Int) else 140) = 0
    rw [if_pos hl]
  exact ⟨e2, by unfold wtL; rw [e2]; rfl, by unfold wtX; rw [if_pos e2]; rfl⟩
/-- The circle, piece by piece. -/
theorem cir_parts {X : Wb} {t c : Nat} {l : List Nat} (hC : Cir X t c l) : ∃ M N z, l = M ++ [z] ∧ stk X t = N ++ [z] ∧ (∃ R, l = c :: R) ∧ ∀ k (hk : k + 1 < l.length), nxt X l[k] = some l[k + 1] := by
  rcases List.eq_nil_or_concat l with rfl | ⟨M, z, e0⟩
  · exact absurd rfl hC.way.ne
  · rw [List.concat_eq_append] at e0
    have ht := hC.top
    rcases List.eq_nil_or_concat (stk X t) with e | ⟨N, z', e⟩
    · rw [e, e0] at ht; simp at ht
    · rw [List.concat_eq_append] at e
      rw [e, e0] at ht
      simp at ht
      subst ht
      exact ⟨M, N, z', e0, e, hC.way.head, fun k hk => hC.way.link k hk⟩
/-- Behind the wait: nobody from the runner on waits for the task. -/
theorem tel_far {X : Wb} (hi : WI X) {t : Nat} (hw : (X.w t).is = true) {m j : Nat} (hj : itn (tn X) m (X.r (X.w t).to).to = some j) : j ≠ t ∧ j < 128 ∧ m ≤ 128 := by
  have h0 : tn X t = some (X.r (X.w t).to).to := by unfold tn; rw [if_pos hw]
  have hrl : (X.r (X.w t).to).to < 128 := (hi.rm _ (hi.wm t hw).2.2).2
  refine ⟨fun e => ?_, ?_, ?_⟩
  · subst e
    have hc : Cyc (tn X) j := ⟨m + 1, by omega, by simp only [itn]; rw [h0]; exact hj⟩
    obtain ⟨k, hk⟩ := tn_ends hi j
    exact cyc_never hc k hk
  · have := (fL_bd (ofL_rl hi)).steps m _ j (by rw [ofL_len]; exact hrl) (by rw [ofL_f hi]; exact hj)
    rw [ofL_len] at this; exact this
  · refine Classical.byContradiction fun q => ?_
    have := it_none (tn X) (ofL_end hi hrl) (m := m) (by omega)
    rw [hj] at this; cases this
theorem tn_some {X : Wb} {j : Nat} (h : (X.w j).is = true) : tn X j = some (X.r (X.w j).to).to := by unfold tn; rw [if_pos h]
theorem getD_snoc {M : List Nat} {z : Nat} : (M ++ [z])[M.length]'(by simp) = z := by simp
end Go.Proofs.Ytjgmnbiigfpbcaa
