/- Failures: sub-failures as trees, plain. -/
import Derived.Test.YtaleagkhblokgaaDoorIx2
import Derived.Test.YtaleagkhblokgaaDoorIx3
namespace Go.Proofs.YtaleagkhblokgaaDoor
open Go.RowKit

theorem getD_left {α : Type} (a b : List α) (d : α) (j : Nat) (h : j < a.length) : (a ++ b).getD j d = a.getD j d := by
  rw [List.getD_eq_getElem?_getD, List.getD_eq_getElem?_getD, List.getElem?_append_left h]
theorem getD_right {α : Type} (a b : List α) (d : α) (j : Nat) (h : a.length ≤ j) : (a ++ b).getD j d = b.getD (j - a.length) d := by
  rw [List.getD_eq_getElem?_getD, List.getD_eq_getElem?_getD, List.getElem?_append_right h]
mutual
/-- Its sub-failures, each behind its parts'. -/
def sbs : Ft → List (List Cr)
  | .nd k tx ps => sbsL ps ++ [flat (.nd k tx ps)]
def sbsL : List Ft → List (List Cr)
  | [] => []
  | t :: r => sbs t ++ sbsL r
end
theorem sbsL_app : ∀ (a b : List Ft), sbsL (a ++ b) = sbsL a ++ sbsL b
  | [], b => by simp [sbsL]
  | t :: r, b => by rw [List.cons_append, sbsL, sbsL, sbsL_app r b, List.append_assoc]
theorem sbsL_one (t : Ft) : sbsL [t] = sbs t := by rw [sbsL, sbsL, List.append_nil]
mutual
theorem sbs_len : ∀ (t : Ft), (sbs t).length = (flat t).length
  | .nd k tx ps => by rw [sbs, flat, List.length_append, List.length_append, sbsL_len ps]; rfl
theorem sbsL_len : ∀ (ps : List Ft), (sbsL ps).length = (flatL ps).length
  | [] => by simp [sbsL, flatL]
  | t :: r => by rw [sbsL, flatL, List.length_append, List.length_append, sbs_len t, sbsL_len r]
end
mutual
theorem sbs_suf : ∀ (t : Ft) (j : Nat), j < (flat t).length → (sbs t).getD j [] <:+ (flat t).take (j + 1)
  | .nd k tx ps, j, hj => by
    have hl := sbsL_len ps
    rw [flat, List.length_append, List.length_singleton] at hj
    by_cases h : j < (flatL ps).length
    · have ih := sbsL_suf ps j h
      rw [sbs, flat, getD_left _ _ _ _ (by omega), List.take_append_of_le_length (by omega)]
      exact ih
    · have e : j = (sbsL ps).length := by omega
      have e2 : (sbs (.nd k tx ps)).getD j [] = flat (.nd k tx ps) := by
        rw [sbs, e, getD_right _ _ _ _ (Nat.le_refl _)]; simp
      rw [e2, List.take_of_length_le (by rw [flat]; simp; omega)]
      exact List.suffix_refl _
theorem sbsL_suf : ∀ (ps : List Ft) (j : Nat), j < (flatL ps).length → (sbsL ps).getD j [] <:+ (flatL ps).take (j + 1)
  | [], j, hj => by simp [flatL] at hj
  | t :: r, j, hj => by
    have hl := sbs_len t
    rw [flatL, List.length_append] at hj
    by_cases h : j < (flat t).length
    · have ih := sbs_suf t j h
      rw [sbsL, flatL, getD_left _ _ _ _ (by omega), List.take_append_of_le_length (by omega)]
      exact ih
    · have ih := sbsL_suf r (j - (flat t).length) (by omega)
      rw [sbsL, flatL, getD_right _ _ _ _ (by omega), hl, List.take_append]
      rw [List.take_of_length_le (l := flat t) (by omega), show j + 1 - (flat t).length = j - (flat t).length + 1 by omega]
      exact ih.trans (List.suffix_append _ _)
end
theorem sbs_last (t : Ft) : (sbs t).getD ((flat t).length - 1) [] = flat t := by
  have h1 := sbs_len t
  obtain ⟨k, tx, ps⟩ := t
  have h2 := sbsL_len ps
  have h3 : (flat (.nd k tx ps)).length - 1 = (sbsL ps).length := by rw [flat, List.length_append, List.length_singleton]; omega
  rw [h3, sbs, getD_right _ _ _ _ (Nat.le_refl _)]; simp
/-- Where the whole that ends at a place begins, by the trees. -/
structure SB (i : Nat) (E : List Int) (A : List (Int × List Int)) (S : List Ft) : Prop where
  la : A.length = i
  le : E.length = S.length
  fl : (flatL S).length = i
  ee : ∀ m, m < S.length → E.getD m 0 = ((flatL (S.take (m + 1))).length : Int) - 1
  fr : ∀ j, j < i → (A.getD j (0, [])).1 = (j : Int) + 1 - ((sbsL S).getD j []).length
theorem take_take_snoc {S : List Ft} {J m : Nat} (t : Ft) (hm : m < J) (hJ : J ≤ S.length) : (S.take J ++ [t]).take (m + 1) = S.take (m + 1) := by
  rw [List.take_append_of_le_length (by rw [List.length_take]; omega), List.take_take]; congr 1; omega
theorem SB.next {i : Nat} {E : List Int} {A : List (Int × List Int)} {S : List Ft} {c : Cr} (h : SB i E A S) (hn : 0 ≤ c.n) (hE : c.n ≤ E.length) :
    SB (i + 1) (E.take (E.length - c.n.toNat) ++ [(i : Int)]) (A ++ [(if 0 < c.n then (A.getD (E.getD (E.length - c.n.toNat) 0).toNat (0, [])).1 else (i : Int), E.drop (E.length - c.n.toNat))]) (S.take (S.length - c.n.toNat) ++ [.nd c.kind c.text (S.drop (S.length - c.n.toNat))]) := by
  have hle := h.le
  rw [hle] at hE ⊢
  obtain ⟨J, hJ⟩ : ∃ J, J = S.length - c.n.toNat := ⟨_, rfl⟩
  rw [← hJ]
  have hsplit : flatL S = flatL (S.take J) ++ flatL (S.drop J) := by rw [← flatL_app, List.take_append_drop]
  have hsb : sbsL S = sbsL (S.take J) ++ sbsL (S.drop J) := by rw [← sbsL_app, List.take_append_drop]
  have hlen := congrArg List.length hsplit
  rw [List.length_append, h.fl] at hlen
  have hnew : sbsL (S.take J ++ [.nd c.kind c.text (S.drop J)]) = sbsL S ++ [flat (.nd c.kind c.text (S.drop J))] := by
    rw [sbsL_app, sbsL_one, sbs, hsb]; simp
  have hfl : flatL (S.take J ++ [.nd c.kind c.text (S.drop J)]) = flatL S ++ [⟨c.kind, ((S.drop J).length : Nat), c.text⟩] := by
    rw [flatL_app, flatL_one, flat, hsplit]; simp
  have hsl : (sbsL S).length = i := by rw [sbsL_len, h.fl]
  refine ⟨by simp [h.la], by simp; omega, by rw [hfl, List.length_append, h.fl]; rfl, fun m hm => ?_, fun j hj => ?_⟩
  · rw [List.length_append, List.length_take, List.length_singleton] at hm
    by_cases hmJ : m < J
    · rw [take_take_snoc _ hmJ (by omega)]
      have e : (E.take J ++ [(i : Int)]).getD m 0 = E.getD m 0 := by
        rw [List.getD_eq_getElem?_getD, List.getD_eq_getElem?_getD, List.getElem?_append_left (by rw [List.length_take]; omega), List.getElem?_take_of_lt hmJ]
      rw [e]; exact h.ee m (by omega)
    · have e : m = J := by omega
      subst e
      have e1 : (E.take m ++ [(i : Int)]).getD m 0 = i := by
        rw [List.getD_eq_getElem?_getD, List.getElem?_append_right (by rw [List.length_take]; omega)]
        rw [List.length_take, show m - min m E.length = 0 by omega]; rfl
      rw [e1, List.take_of_length_le (by rw [List.length_append, List.length_take, List.length_singleton]; omega), hfl, List.length_append, h.fl]
      simp
  · by_cases hji : j < i
    · rw [getD_old (by rw [h.la]; exact hji), hnew, getD_left _ _ _ _ (by omega)]
      exact h.fr j hji
    · have e : j = i := by omega
      subst e
      have e1 : ∀ x : Int × List Int, (A ++ [x]).getD j (0, []) = x := fun x => by simp [List.getD, ← h.la]
      rw [e1, hnew, getD_right _ _ _ _ (by omega), hsl]
      have e2 : ([flat (.nd c.kind c.text (S.drop J))] : List (List Cr)).getD (j - j) [] = flat (.nd c.kind c.text (S.drop J)) := by rw [Nat.sub_self]; rfl
      rw [e2, flat, List.length_append, List.length_singleton]
      by_cases hp : 0 < c.n
      · rw [if_pos hp]
        have hJl : J < S.length := by omega
        have h1 := h.ee J hJl
        obtain ⟨u, hu⟩ : ∃ u, u = S[J] := ⟨_, rfl⟩
        have htk : S.take (J + 1) = S.take J ++ [u] := by rw [List.take_add_one, List.getElem?_eq_getElem hJl, hu]; rfl
        have hul := flat_pos u
        rw [htk, flatL_app, flatL_one, List.length_append] at h1
        have h2 := h.fr (E.getD J 0).toNat (by
          have : (flatL (S.take J)).length + (flat u).length ≤ j := by
            have e3 : S.drop J = u :: S.drop (J + 1) := by rw [List.drop_eq_getElem_cons hJl, hu]
            rw [e3, flatL, List.length_append] at hlen
            omega
          omega)
        have h3 : (sbsL S).getD (E.getD J 0).toNat [] = flat u := by
          have e3 : S.drop J = u :: S.drop (J + 1) := by rw [List.drop_eq_getElem_cons hJl, hu]
          rw [hsb, e3, sbsL]
          have e4 : (E.getD J 0).toNat = (sbsL (S.take J)).length + ((flat u).length - 1) := by rw [sbsL_len]; omega
          rw [e4, getD_right _ _ _ _ (by omega), show (sbsL (S.take J)).length + ((flat u).length - 1) - (sbsL (S.take J)).length = (flat u).length - 1 by omega, getD_left _ _ _ _ (by rw [sbs_len]; omega)]
          exact sbs_last u
        rw [h3] at h2
        rw [h2]
        omega
      · rw [if_neg hp]
        have hJS : J = S.length := by omega
        rw [hJS, List.drop_length]
        simp [flatL]
theorem SB.all : ∀ (r : List Cr) (i : Nat) (E : List Int) (A : List (Int × List Int)) (S : List Ft) (t : Int), SB i E A S → walkC E.length r = some t → ∃ E', SB (i + r.length) E' (whS i E A r) (build S r)
  | [], i, E, A, S, t, h, _ => ⟨E, by rw [whS, build]; exact h⟩
  | c :: r, i, E, A, S, t, h, hw => by
    obtain ⟨⟨hcb, hcn⟩, hwn⟩ := walk_step hw
    obtain ⟨hn0, hn1⟩ := crB_n hcb
    obtain ⟨E', h2⟩ := SB.all r (i + 1) _ _ _ t (h.next hn0 hcn) (by rw [← hwn]; congr 1; simp; omega)
    refine ⟨E', ?_⟩
    rw [whS, build, List.length_cons, show i + (r.length + 1) = i + 1 + r.length by omega]
    exact h2
/-- The sub-failure that ends at a place is the tree's. -/
theorem subL_sbs {l : List Cr} (h : chk l = 0) {j : Nat} (hj : j < l.length) : subL l j = (sbs (treeOf l)).getD j [] := by
  obtain ⟨_, hw⟩ := chk_ok h
  obtain ⟨E', hS⟩ := SB.all l 0 [] [] [] 1 ⟨rfl, rfl, by simp [flatL], fun m hm => by simp at hm, fun j hj => by omega⟩ hw
  rw [build_one h] at hS
  have h1 := hS.fr j (by omega)
  rw [sbsL_one] at h1
  have h2 := sbs_suf (treeOf l) j (by rw [flat_tree h]; exact hj)
  rw [flat_tree h] at h2
  obtain ⟨z, hz⟩ := h2
  obtain ⟨B, hB⟩ : ∃ B, B = (sbs (treeOf l)).getD j [] := ⟨_, rfl⟩
  rw [← hB] at h1 hz ⊢
  have hlz := congrArg List.length hz
  rw [List.length_append, List.length_take] at hlz
  have hq : frA (whA l) j = (z.length : Int) := by
    unfold frA whA
    simp only [Int.toNat_natCast]
    rw [h1]; omega
  unfold subL
  rw [hq]
  simp only [Int.toNat_natCast]
  have e : (l.drop z.length).take (j + 1 - z.length) = (l.take (j + 1)).drop z.length := by rw [List.drop_take]
  rw [e, ← hz, List.drop_left]
theorem isV_iff {l m : List Cr} (h : chk l = 0) : isV l m = true ↔ m ∈ sbs (treeOf l) := by
  have hl : (sbs (treeOf l)).length = l.length := by rw [sbs_len, flat_tree h]
  constructor
  · intro hv
    unfold isV at hv
    rw [List.any_eq_true] at hv
    obtain ⟨j, hj, he⟩ := hv
    have hj' := List.mem_range.1 hj
    rw [eqC_iff] at he
    rw [← he, subL_sbs h hj', List.getD_eq_getElem?_getD, List.getElem?_eq_getElem (by omega)]
    exact List.getElem_mem _
  · intro hm
    obtain ⟨j, hj, he⟩ := List.getElem_of_mem hm
    refine isV_hit (j := j) (by omega) ?_
    rw [eqC_iff, subL_sbs h (by omega), List.getD_eq_getElem?_getD, List.getElem?_eq_getElem hj]
    exact he
mutual
theorem sbs_gd : ∀ (t : Ft), gd t → ∀ x ∈ sbs t, (∃ u, gd u ∧ flat u = x) ∧ x.length ≤ (flat t).length
  | .nd k tx ps, h, x, hx => by
    have hg := h
    rw [gd] at h
    rw [sbs, List.mem_append, List.mem_singleton] at hx
    rcases hx with hx | hx
    · obtain ⟨h1, h2⟩ := sbsL_gd ps h.2 x hx
      exact ⟨h1, by rw [flat, List.length_append]; omega⟩
    · exact ⟨⟨_, hg, hx.symm⟩, by rw [hx]; exact Nat.le_refl _⟩
theorem sbsL_gd : ∀ (ps : List Ft), gdL ps → ∀ x ∈ sbsL ps, (∃ u, gd u ∧ flat u = x) ∧ x.length ≤ (flatL ps).length
  | [], _, x, hx => by simp [sbsL] at hx
  | t :: r, h, x, hx => by
    rw [gdL] at h
    rw [sbsL, List.mem_append] at hx
    rw [flatL, List.length_append]
    rcases hx with hx | hx
    · obtain ⟨h1, h2⟩ := sbs_gd t h.1 x hx
      exact ⟨h1, by omega⟩
    · obtain ⟨h1, h2⟩ := sbsL_gd r h.2 x hx
      exact ⟨h1, by omega⟩
end
theorem tree_gd {l : List Cr} (h : chk l = 0) : gd (treeOf l) := gd_of _ (by rw [flat_tree h]; exact chk_crB h)
theorem self_in (t : Ft) : flat t ∈ sbs t := by obtain ⟨k, tx, ps⟩ := t; rw [sbs]; simp
/-- What is in a right failure is right. -/
theorem in_chk {l m : List Cr} (h : chk l = 0) (hm : m ∈ sbs (treeOf l)) : chk m = 0 ∧ m.length ≤ l.length := by
  obtain ⟨⟨u, hu, e⟩, h2⟩ := sbs_gd _ (tree_gd h) m hm
  rw [flat_tree h] at h2
  have := (chk_ok h).1
  exact ⟨by rw [← e]; exact gd_chk hu (by rw [e]; omega), h2⟩
theorem isB_ok {l m : List Cr} (h : chk l = 0) (h' : chk m = 0) : isB l m = isV l m := by
  unfold isB isE; rw [if_pos h, h']; simp
theorem isB_self {l : List Cr} (h : chk l = 0) : isB l l = true := by
  rw [isB_ok h h, isV_iff h]
  have := self_in (treeOf l)
  rw [flat_tree h] at this; exact this
end Go.Proofs.YtaleagkhblokgaaDoor
