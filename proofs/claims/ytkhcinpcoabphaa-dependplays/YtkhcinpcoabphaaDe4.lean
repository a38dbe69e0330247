/- Depend: the law DependNever. -/
import Derived.Test.YtkhcinpcoabphaaDe3
namespace Go.Proofs.Ytkhcinpcoabphaa
open Go.RowKit

/-- From a task to the one that runs what it waits for. -/
def tn (X : Wb) (t : Nat) : Option Nat := if (X.w t).is then some (X.r (X.w t).to).to else none
theorem tn_of_cell {X : Wb} (h : WI X) : ∀ (n c : Nat), itn (nxt X) n c = none → (X.r c).is = true → Ends (tn X) (X.r c).to
  | 0, c, hn, _ => by cases hn
  | n + 1, c, hn, hr => by
    by_cases hk : (stk X (X.r c).to).idxOf c + 1 < (stk X (X.r c).to).length
    · have e := nxt_up hr hk
      obtain ⟨d, hd⟩ : ∃ d, d = (stk X (X.r c).to)[(stk X (X.r c).to).idxOf c + 1] := ⟨_, rfl⟩
      rw [← hd] at e
      simp only [itn, e, Option.bind_some] at hn
      have hm : d ∈ stk X (X.r c).to := by rw [hd]; exact List.getElem_mem _
      have hm2 := stk_mem.1 hm
      have := tn_of_cell h n d hn hm2.1
      rw [hm2.2] at this; exact this
    · have e := nxt_top hr hk
      cases hw : (X.w (X.r c).to).is with
      | false => exact ⟨1, by simp [itn, tn, hw]⟩
      | true =>
        rw [hw, if_pos rfl] at e
        simp only [itn, e, Option.bind_some] at hn
        have hm := (h.wm _ hw).2.2
        obtain ⟨k, hk⟩ := tn_of_cell h n _ hn hm
        exact ⟨k + 1, by simp only [itn]; unfold tn; rw [if_pos hw]; exact hk⟩
theorem tn_ends {X : Wb} (h : WI X) (t : Nat) : Ends (tn X) t := by
  cases hw : (X.w t).is with
  | false => exact ⟨1, by simp [itn, tn, hw]⟩
  | true =>
    have hm := (h.wm _ hw).2.2
    obtain ⟨n, hn⟩ := h.en (X.w t).to
    obtain ⟨k, hk⟩ := tn_of_cell h n _ hn hm
    exact ⟨k + 1, by simp only [itn]; rw [show tn X t = some (X.r (X.w t).to).to by unfold tn; rw [if_pos hw]]; exact hk⟩
theorem tn_ne {X : Wb} (h : WI X) {t : Nat} (hw : (X.w t).is = true) : (X.r (X.w t).to).to ≠ t := fun e => by
  have hc : Cyc (tn X) t := ⟨1, by omega, by rw [it_one]; unfold tn; rw [if_pos hw, e]⟩
  obtain ⟨k, hk⟩ := tn_ends h t
  exact cyc_never hc k hk
def ofL (X : Wb) : List Int := (List.range 128).map fun t => eO (tn X t)
theorem ofL_len (X : Wb) : (ofL X).length = 128 := by simp [ofL]
theorem ofL_at {X : Wb} {k : Nat} (hk : k < 128) : (ofL X)[k]'(by rw [ofL_len]; exact hk) = eO (tn X k) := by simp [ofL]
theorem ofL_rl {X : Wb} (h : WI X) : rlB (ofL X) = true := by
  refine rlB_all fun k hk => ?_
  have hk2 : k < 128 := by rw [ofL_len] at hk; exact hk
  rw [ofL_at hk2, ofL_len]
  unfold tn
  split
  · rename_i hw
    have := (h.rm _ (h.wm _ hw).2.2).2
    show -1 ≤ (((X.r (X.w k).to).to : Nat) : Int) ∧ (((X.r (X.w k).to).to : Nat) : Int) < 128
    omega
  · show (-1 : Int) ≤ -1 ∧ (-1 : Int) < 128; omega
theorem ofL_f {X : Wb} (h : WI X) : fL (ofL X) = tn X := by
  funext k
  by_cases hk : k < 128
  · rw [fL_at (by rw [ofL_len]; exact hk), ofL_at hk, oI_eO]
  · have e1 : fL (ofL X) k = none := by unfold fL; rw [List.getElem?_eq_none (by rw [ofL_len]; omega)]; rfl
    have e2 : tn X k = none := by
      unfold tn
      rw [if_neg]
      intro hw
      exact hk (wait_lt h hw)
    rw [e1, e2]
theorem ofL_no {X : Wb} (h : WI X) (i : Nat) : ¬ Cyc (fL (ofL X)) i := fun hc => by
  rw [ofL_f h] at hc
  obtain ⟨k, hk⟩ := tn_ends h i
  exact cyc_never hc k hk
theorem ofL_cir {X : Wb} (h : WI X) {R : List Nat} (hO : CirO (ofL X) R) : R = [] ∧ cirE (ofL X) = 0 := by
  have e : cirE (ofL X) = 0 := by unfold cirE; rw [if_neg (by rw [ofL_len]; omega), ofL_rl h]; rfl
  refine ⟨?_, e⟩
  rcases (hO.1 e).2.2 with ⟨h1, _⟩ | ⟨m, hm, _⟩
  · exact h1
  · exact absurd hm.cyc (ofL_no h m)
theorem ofL_end {X : Wb} (h : WI X) {i : Nat} (hi : i < 128) : itn (tn X) 129 i = none := by
  have := no_cyc_end (ofL_rl h) (fun i _ => ofL_no h i) (i := i) (by rw [ofL_len]; exact hi)
  rw [ofL_len, ofL_f h] at this
  exact this
theorem take_of {X : Wb} {k : Nat} (hk : k < 128) : (ofL X).take (k + 1) = (ofL X).take k ++ [eO (tn X k)] := by
  rw [List.take_succ_eq_append_getElem (by rw [ofL_len]; exact hk), ofL_at hk]
theorem wtgE_at {X : Wb} {k : Nat} (hk : k < 128) : wtgE X k = .returned (.tuple #[.int .i64 (X.w k).to, .bool (X.w k).is, .int .i64 0]) := by
  unfold wtgE
  rw [if_pos (by simp [tkB]; omega)]
  rfl
theorem runE_at {X : Wb} {k : Nat} (hk : k < 256) : runE X k = .returned (.tuple #[.int .i64 (X.r k).to, .bool (X.r k).is, .int .i64 0]) := by
  unfold runE
  rw [if_pos (by simp [clB]; omega)]
  rfl
end Go.Proofs.Ytkhcinpcoabphaa
