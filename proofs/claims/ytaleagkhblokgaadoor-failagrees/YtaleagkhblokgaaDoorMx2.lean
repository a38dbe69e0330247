/- Failures: what is wrapped, joined, found is in it, plain. -/
import Derived.Test.YtaleagkhblokgaaDoorMx1
import Derived.Test.YtaleagkhblokgaaDoorGx5
namespace Go.Proofs.YtaleagkhblokgaaDoor
open Go.RowKit

theorem chk_text {l : List Cr} (h : chk l = 0) : ∀ c ∈ l, c.text.size ≤ maxLen := fun c hc => by
  have := crB_text (chk_crB h c hc)
  unfold maxLen; omega
theorem chk_pos {l : List Cr} (h : chk l = 0) : 0 < l.length := (whA_all h).1
theorem tree_eq {t : Ft} {l : List Cr} (h : flat t = l) : treeOf l = t := by rw [← h, tree_flat]
theorem wrap_facts {l m : List Cr} {n : ByteArray} (h : chk l = 0) (h' : chk m = 0) (hn : nameB n = true) (hl : l.length < 1024) :
    wrapE n l = 0 ∧ chk (wrapL n l) = 0 ∧ isB (wrapL n l) l = true ∧ isB (wrapL n l) m = (isB l m || eqC (wrapL n l) m) ∧ (wrapL n l).length ≤ 1024 := by
  have e0 : wrapE n l = 0 := by unfold wrapE; rw [if_pos hn, h]
  have e1 : wrapL n l = l ++ [⟨9, 1, n⟩] := by
    unfold wrapL arL; rw [if_pos e0]
    have : [l].flatten = l := by simp
    rw [this, if_neg (by omega)]; rfl
  have hf : flat (.nd 9 n [treeOf l]) = l ++ [⟨9, 1, n⟩] := by rw [flat, flatL_one, flat_tree h]; rfl
  have hg : gd (.nd 9 n [treeOf l]) := by
    rw [gd]
    refine ⟨?_, by rw [gdL]; exact ⟨tree_gd h, by rw [gdL]; trivial⟩⟩
    unfold crB
    simp only [Bool.and_eq_true, decide_eq_true_eq]
    refine ⟨⟨by decide, show (frow 9).least ≤ 1 ∧ (1 : Int) ≤ (frow 9).most by decide⟩, ?_⟩
    show txT (frow 9).text n = true
    have : (frow 9).text = 3 := by decide
    rw [this]; unfold txT; simpa using hn
  have hlen : (l ++ [(⟨9, 1, n⟩ : Cr)]).length ≤ 1024 := by simp; omega
  have hc : chk (l ++ [⟨9, 1, n⟩]) = 0 := by rw [← hf]; exact gd_chk hg (by rw [hf]; exact hlen)
  have ht := tree_eq hf
  have hs : sbs (treeOf (l ++ [⟨9, 1, n⟩])) = sbs (treeOf l) ++ [l ++ [⟨9, 1, n⟩]] := by rw [ht, sbs, sbsL_one, hf]
  rw [e1]
  refine ⟨e0, hc, ?_, ?_, hlen⟩
  · rw [isB_ok hc h, isV_iff hc, hs, List.mem_append]
    left
    have := self_in (treeOf l)
    rw [flat_tree h] at this; exact this
  · rw [isB_ok hc h', isB_ok h h', Bool.eq_iff_iff, isV_iff hc, hs, List.mem_append, List.mem_singleton, Bool.or_eq_true, isV_iff h, eqC_iff]
    constructor
    · rintro (a | a); exact Or.inl a; exact Or.inr a.symm
    · rintro (a | a); exact Or.inl a; exact Or.inr a.symm
theorem neL_two {l m : List Cr} (h : chk l = 0) (h' : chk m = 0) : neL [l, m] = [l, m] := by
  have a := chk_pos h
  have b := chk_pos h'
  unfold neL
  rw [List.filter_eq_self.2]
  intro x hx
  simp at hx
  rcases hx with rfl | rfl
  · simp; intro e; rw [e] at a; simp at a
  · simp; intro e; rw [e] at b; simp at b
theorem join_E {l m : List Cr} (h : chk l = 0) (h' : chk m = 0) : joinE [l, m] = 0 := by
  have a := chk_pos h
  have b := chk_pos h'
  unfold joinE
  rw [if_neg (by simp)]
  unfold gaE
  rw [if_neg (by omega), if_pos h]
  unfold gaE
  rw [if_neg (by omega), if_pos h']
  rfl
theorem join_L {l m : List Cr} (h : chk l = 0) (h' : chk m = 0) : joinL [l, m] = arL 10 ByteArray.empty [l, m] := by
  unfold joinL
  rw [neL_two h h', if_pos ⟨join_E h h', by simp⟩]
theorem join_long {l m : List Cr} (h : chk l = 0) (h' : chk m = 0) (hl : 1024 ≤ l.length + m.length) : joinL [l, m] = [⟨11, 0, ByteArray.empty⟩] := by
  rw [join_L h h']
  unfold arL
  rw [if_pos (by simp; omega)]
theorem join_facts {l m : List Cr} (h : chk l = 0) (h' : chk m = 0) (hl : l.length + m.length < 1024) :
    chk (joinL [l, m]) = 0 ∧ isB (joinL [l, m]) l = true ∧ isB (joinL [l, m]) m = true ∧ isB l (joinL [l, m]) = false ∧ (∀ x, chk x = 0 → isV l x = true → isB (joinL [l, m]) x = true) ∧ (joinL [l, m]).length ≤ 1024 := by
  have e1 : joinL [l, m] = l ++ m ++ [⟨10, 2, ByteArray.empty⟩] := by
    rw [join_L h h']
    unfold arL
    rw [if_neg (by simp; omega)]
    simp
  have hf : flat (.nd 10 ByteArray.empty [treeOf l, treeOf m]) = l ++ m ++ [⟨10, 2, ByteArray.empty⟩] := by
    rw [flat, flatL, flatL_one, flat_tree h, flat_tree h']; rfl
  have hg : gd (.nd 10 ByteArray.empty [treeOf l, treeOf m]) := by
    rw [gd]
    exact ⟨show crB ⟨10, 2, ByteArray.empty⟩ = true by decide, by rw [gdL]; exact ⟨tree_gd h, by rw [gdL]; exact ⟨tree_gd h', by rw [gdL]; trivial⟩⟩⟩
  have hlen : (l ++ m ++ [(⟨10, 2, ByteArray.empty⟩ : Cr)]).length = l.length + m.length + 1 := by simp; omega
  rw [e1]
  generalize l ++ m ++ [(⟨10, 2, ByteArray.empty⟩ : Cr)] = J at *
  have hc : chk J = 0 := by rw [← hf]; exact gd_chk hg (by rw [hf]; omega)
  have ht := tree_eq hf
  have hs : sbs (treeOf J) = sbs (treeOf l) ++ sbs (treeOf m) ++ [J] := by rw [ht, sbs, sbsL, sbsL_one, hf]
  have sl := self_in (treeOf l)
  rw [flat_tree h] at sl
  have sm := self_in (treeOf m)
  rw [flat_tree h'] at sm
  refine ⟨hc, ?_, ?_, ?_, fun x hx hv => ?_, by omega⟩
  · rw [isB_ok hc h, isV_iff hc, hs]; simp [sl]
  · rw [isB_ok hc h', isV_iff hc, hs]; simp [sm]
  · rw [isB_ok h hc]
    cases hv : isV l J with
    | false => rfl
    | true =>
      rw [isV_iff h] at hv
      have := (in_chk h hv).2
      omega
  · rw [isV_iff h] at hv
    rw [isB_ok hc hx, isV_iff hc, hs]; simp [hv]
theorem first_facts {l : List Cr} {k : Int} (h : chk l = 0) (he : firE l k = 0) : isV l (firL l k) = true ∧ chk (firL l k) = 0 ∧ (firL l k).length ≤ l.length := by
  have hk : hasK l k = true := by
    unfold firE at he
    split at he
    · split at he
      · assumption
      · omega
    · rename_i h1; exact absurd he h1
  have h0 := (hasK_fir l k).1 hk
  have h1 := firS_lt l k l.length
  have hj : (firS l k l.length).toNat < l.length := by omega
  have e : firL l k = subL l (firS l k l.length).toNat := by unfold firL; rw [if_pos he]
  have hv : isV l (firL l k) = true := isV_hit hj (by rw [e, eqC_iff])
  have := in_chk h ((isV_iff h).1 hv)
  exact ⟨hv, this.1, this.2⟩
end Go.Proofs.YtaleagkhblokgaaDoor
