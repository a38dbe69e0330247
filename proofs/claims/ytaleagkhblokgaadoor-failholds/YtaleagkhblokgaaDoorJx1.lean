/- Failures as trees, plain: what they are as lists of cracks, what their texts are. -/
import Derived.Test.YtaleagkhblokgaaDoorPlain3
namespace Go.Proofs.YtaleagkhblokgaaDoor
open Go.RowKit

/-- A failure as a tree. -/
inductive Ft where
  | nd (k : Int) (tx : ByteArray) (ps : List Ft)
mutual
/-- Its cracks, each behind its parts. -/
def flat : Ft → List Cr
  | .nd k tx ps => flatL ps ++ [⟨k, ps.length, tx⟩]
def flatL : List Ft → List Cr
  | [] => []
  | t :: r => flat t ++ flatL r
end
theorem flatL_app : ∀ (a b : List Ft), flatL (a ++ b) = flatL a ++ flatL b
  | [], b => by simp [flatL]
  | t :: r, b => by rw [List.cons_append, flatL, flatL, flatL_app r b, List.append_assoc]
theorem flatL_one (t : Ft) : flatL [t] = flat t := by rw [flatL, flatL, List.append_nil]
/-- The trees of a list of cracks: a stack. -/
def build : List Ft → List Cr → List Ft
  | S, [] => S
  | S, c :: r => build (S.take (S.length - c.n.toNat) ++ [.nd c.kind c.text (S.drop (S.length - c.n.toNat))]) r
def treeOf (l : List Cr) : Ft := (build [] l).headD (.nd 0 ByteArray.empty [])
theorem build_flat : ∀ (r : List Cr) (S : List Ft) (t : Int), walkC S.length r = some t → flatL (build S r) = flatL S ++ r
  | [], S, t, _ => by rw [build, List.append_nil]
  | c :: r, S, t, h => by
    obtain ⟨⟨hcb, hcn⟩, hwn⟩ := walk_step h
    obtain ⟨hn0, hn1⟩ := crB_n hcb
    rw [build, build_flat r _ t (by rw [← hwn]; congr 1; simp; omega)]
    rw [flatL_app, flatL_one, flat]
    have hl : (S.drop (S.length - c.n.toNat)).length = c.n.toNat := by simp; omega
    have hc : (⟨c.kind, ((S.drop (S.length - c.n.toNat)).length : Nat), c.text⟩ : Cr) = c := by
      rw [hl, show ((c.n.toNat : Nat) : Int) = c.n by omega]
    rw [hc]
    have := flatL_app (S.take (S.length - c.n.toNat)) (S.drop (S.length - c.n.toNat))
    rw [List.take_append_drop] at this
    rw [this]; simp
theorem build_len : ∀ (r : List Cr) (S : List Ft) (t : Int), walkC S.length r = some t → ((build S r).length : Int) = t
  | [], S, t, h => by rw [walkC] at h; injection h
  | c :: r, S, t, h => by
    obtain ⟨⟨hcb, hcn⟩, hwn⟩ := walk_step h
    obtain ⟨hn0, hn1⟩ := crB_n hcb
    rw [build]
    exact build_len r _ t (by rw [← hwn]; congr 1; simp; omega)
theorem build_one {l : List Cr} (h : chk l = 0) : build [] l = [treeOf l] := by
  obtain ⟨_, hw⟩ := chk_ok h
  have := build_len l [] 1 hw
  unfold treeOf
  match hb : build [] l, this with
  | [t], _ => rfl
  | [], e => simp at e
  | a :: b :: r, e => simp at e; omega
theorem flat_tree {l : List Cr} (h : chk l = 0) : flat (treeOf l) = l := by
  obtain ⟨_, hw⟩ := chk_ok h
  have := build_flat l [] 1 hw
  rw [build_one h, flatL_one] at this
  rw [this]; simp [flatL]
mutual
theorem build_tree : ∀ (t : Ft) (S : List Ft) (r : List Cr), build S (flat t ++ r) = build (S ++ [t]) r
  | .nd k tx ps, S, r => by
    rw [flat, List.append_assoc, build_trees ps S _, List.cons_append, List.nil_append, build]
    have e : ((ps.length : Nat) : Int).toNat = ps.length := by simp
    simp only [e]
    have h1 : (S ++ ps).take ((S ++ ps).length - ps.length) = S := by simp
    have h2 : (S ++ ps).drop ((S ++ ps).length - ps.length) = ps := by simp
    rw [h1, h2]
theorem build_trees : ∀ (ps : List Ft) (S : List Ft) (r : List Cr), build S (flatL ps ++ r) = build (S ++ ps) r
  | [], S, r => by simp [flatL]
  | t :: q, S, r => by
    rw [flatL, List.append_assoc, build_tree t S _, build_trees q _ r]; simp
end
theorem tree_flat (t : Ft) : treeOf (flat t) = t := by
  have := build_tree t [] []
  rw [List.append_nil] at this
  unfold treeOf
  rw [this, build]; rfl
/-- What stands behind a crack's word. -/
def txtF (x : Int) (t : ByteArray) : List UInt8 := if x = 0 then [] else if x = 1 then 32 :: quo t.data.toList else 32 :: t.data.toList
mutual
/-- The text of a failure. -/
def prF : Ft → List UInt8
  | .nd k tx ps => (frow k).word.data.toList ++ (txtF (frow k).text tx ++ (if ps.length = 0 then [] else (frow k).op.data.toList ++ (prL (frow k).bt true ps ++ (frow k).en.data.toList)))
/-- Texts of parts, from the first, or from a later one, on. -/
def prL (b : ByteArray) : Bool → List Ft → List UInt8
  | _, [] => []
  | first, t :: r => (if first then [] else b.data.toList) ++ (prF t ++ prL b false r)
end
mutual
/-- The tree stands at a place, by the wholes. -/
def AtT (l : List Cr) (A : List (Int × List Int)) : Ft → Nat → Prop
  | .nd k tx ps, j => j < A.length ∧ l[j]? = some ⟨k, ps.length, tx⟩ ∧ AtL l A ps (A.getD j (0, [])).2
def AtL (l : List Cr) (A : List (Int × List Int)) : List Ft → List Int → Prop
  | [], D => D = []
  | t :: r, D => ∃ (x : Nat) (D' : List Int), D = (x : Int) :: D' ∧ AtT l A t x ∧ AtL l A r D'
end
mutual
theorem AtT.more {l : List Cr} {A : List (Int × List Int)} (a : Int × List Int) : ∀ (t : Ft) (j : Nat), AtT l A t j → AtT l (A ++ [a]) t j
  | .nd k tx ps, j, h => by
    rw [AtT] at h ⊢
    rw [getD_old h.1]
    exact ⟨by simp; omega, h.2.1, AtL.more a ps _ h.2.2⟩
theorem AtL.more {l : List Cr} {A : List (Int × List Int)} (a : Int × List Int) : ∀ (ps : List Ft) (D : List Int), AtL l A ps D → AtL l (A ++ [a]) ps D
  | [], D, h => by rw [AtL] at h ⊢; exact h
  | t :: r, D, h => by
    rw [AtL] at h ⊢
    obtain ⟨x, D', e, h1, h2⟩ := h
    exact ⟨x, D', e, AtT.more a t x h1, AtL.more a r D' h2⟩
end
theorem AtL.len {l : List Cr} {A : List (Int × List Int)} : ∀ (ps : List Ft) (D : List Int), AtL l A ps D → ps.length = D.length
  | [], D, h => by rw [AtL] at h; subst h; rfl
  | t :: r, D, h => by
    rw [AtL] at h
    obtain ⟨x, D', e, _, h2⟩ := h
    subst e; simp [AtL.len r D' h2]
theorem AtL.drop {l : List Cr} {A : List (Int × List Int)} : ∀ (m : Nat) (ps : List Ft) (D : List Int), AtL l A ps D → AtL l A (ps.drop m) (D.drop m)
  | 0, ps, D, h => by simpa using h
  | m + 1, [], D, h => by rw [AtL] at h; subst h; simp [AtL]
  | m + 1, t :: r, D, h => by
    rw [AtL] at h
    obtain ⟨x, D', e, _, h2⟩ := h
    subst e
    simpa using AtL.drop m r D' h2
theorem AtL.take {l : List Cr} {A : List (Int × List Int)} : ∀ (m : Nat) (ps : List Ft) (D : List Int), AtL l A ps D → AtL l A (ps.take m) (D.take m)
  | 0, ps, D, h => by simp [AtL]
  | m + 1, [], D, h => by rw [AtL] at h; subst h; simp [AtL]
  | m + 1, t :: r, D, h => by
    rw [AtL] at h
    obtain ⟨x, D', e, h1, h2⟩ := h
    subst e
    rw [List.take_succ_cons, List.take_succ_cons, AtL]
    exact ⟨x, _, rfl, h1, AtL.take m r D' h2⟩
theorem AtL.snoc {l : List Cr} {A : List (Int × List Int)} {t : Ft} {x : Nat} (ht : AtT l A t x) : ∀ (ps : List Ft) (D : List Int), AtL l A ps D → AtL l A (ps ++ [t]) (D ++ [(x : Int)])
  | [], D, h => by
    rw [AtL] at h; subst h
    rw [List.nil_append, List.nil_append, AtL]
    exact ⟨x, [], rfl, ht, by rw [AtL]⟩
  | u :: r, D, h => by
    rw [AtL] at h
    obtain ⟨y, D', e, h1, h2⟩ := h
    subst e
    rw [List.cons_append, List.cons_append, AtL]
    exact ⟨y, _, rfl, h1, AtL.snoc ht r D' h2⟩
theorem AtL.get {l : List Cr} {A : List (Int × List Int)} : ∀ (ps : List Ft) (D : List Int) (i : Nat), AtL l A ps D → (hi : i < ps.length) → ∃ x : Nat, D.getD i 0 = (x : Int) ∧ AtT l A ps[i] x
  | [], D, i, h, hi => by simp at hi
  | t :: r, D, 0, h, hi => by
    rw [AtL] at h
    obtain ⟨x, D', e, h1, _⟩ := h
    subst e
    exact ⟨x, rfl, h1⟩
  | t :: r, D, i + 1, h, hi => by
    rw [AtL] at h
    obtain ⟨x, D', e, _, h2⟩ := h
    subst e
    obtain ⟨y, e1, e2⟩ := AtL.get r D' i h2 (by simpa using hi)
    exact ⟨y, by simpa using e1, e2⟩
theorem whS_at : ∀ (r : List Cr) (l0 : List Cr) (i : Nat) (E : List Int) (A : List (Int × List Int)) (S : List Ft) (t : Int), A.length = i → AtL l0 A S E → l0.drop i = r → walkC E.length r = some t → AtL l0 (whS i E A r) (build S r) (endE i E r)
  | [], l0, i, E, A, S, t, _, h, _, _ => by rw [whS, build, endE]; exact h
  | c :: r, l0, i, E, A, S, t, hA, h, hr, hw => by
    obtain ⟨⟨hcb, hcn⟩, hwn⟩ := walk_step hw
    obtain ⟨hn0, hn1⟩ := crB_n hcb
    have hl := AtL.len S E h
    have hc : l0[i]? = some c := by
      have := congrArg (·[0]?) hr
      simpa using this
    rw [whS, build, endE, hl]
    obtain ⟨J, hJ⟩ : ∃ J, J = E.length - c.n.toNat := ⟨_, rfl⟩
    rw [← hJ]
    obtain ⟨b, hb⟩ : ∃ b, b = (if 0 < c.n then (A.getD (E.getD J 0).toNat (0, [])).1 else (i : Int)) := ⟨_, rfl⟩
    rw [← hb]
    refine whS_at r l0 (i + 1) _ _ _ t (by simp [hA]) ?_ (by rw [← List.drop_drop, hr]; rfl) (by rw [← hwn]; congr 1; simp; omega)
    refine AtL.snoc ?_ _ _ (AtL.more _ _ _ (AtL.take J S E h))
    rw [AtT]
    refine ⟨by simp [hA], ?_, ?_⟩
    · rw [hc]
      have e : (((S.drop J).length : Nat) : Int) = c.n := by simp; omega
      rw [e]
    · have e : (A ++ [(b, E.drop J)]).getD i (0, []) = (b, E.drop J) := by simp [List.getD, ← hA]
      rw [e]
      exact AtL.more _ _ _ (AtL.drop J S E h)
theorem tree_at {l : List Cr} (h : chk l = 0) : AtT l (whA l) (treeOf l) (l.length - 1) := by
  obtain ⟨_, hw⟩ := chk_ok h
  have hne : l ≠ [] := fun e => by subst e; simp [walkC] at hw
  have h2 := endE_len l 0 [] 1 hw
  obtain ⟨E0, h3⟩ := endE_last l 0 [] hne
  have h1 := whS_at l l 0 [] [] [] 1 rfl (by rw [AtL]) (by simp) hw
  rw [h3, List.length_append] at h2
  have h4 : E0 = [] := List.length_eq_zero_iff.1 (by simp at h2; omega)
  rw [h3, h4, build_one h, List.nil_append, AtL] at h1
  obtain ⟨x, D', e, h5, _⟩ := h1
  have hx : x = l.length - 1 := by
    have := (List.cons.inj e).1
    omega
  rw [← hx]; exact h5
end Go.Proofs.YtaleagkhblokgaaDoor
