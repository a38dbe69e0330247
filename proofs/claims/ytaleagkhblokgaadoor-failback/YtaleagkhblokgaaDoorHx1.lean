/- Failures: where the parts of a whole end, plain. -/
import Derived.Test.YtaleagkhblokgaaDoorFx16
namespace Go.Proofs.YtaleagkhblokgaaDoor
open Go.RowKit

def frA (A : List (Int × List Int)) (x : Int) : Int := (A.getD x.toNat (0, [])).1
/-- Each ends right ahead of where the next one begins, the last one right ahead of e. -/
def CHN (f : Int → Int) (D : List Int) (e : Int) : Prop := (∀ j, j + 1 < D.length → D.getD j 0 = f (D.getD (j + 1) 0) - 1) ∧ (0 < D.length → D.getD (D.length - 1) 0 = e - 1)
theorem getD_mem {D : List Int} {j : Nat} (h : j < D.length) : D.getD j 0 ∈ D := mem_getD h
theorem CHN.congr {f g : Int → Int} {D : List Int} {e : Int} (h : CHN f D e) (k : ∀ x ∈ D, f x = g x) : CHN g D e :=
  ⟨fun j hj => by rw [h.1 j hj, k _ (getD_mem hj)], h.2⟩
theorem CHN.drop {f : Int → Int} {D : List Int} {e : Int} (h : CHN f D e) (J : Nat) : CHN f (D.drop J) e := by
  refine ⟨fun j hj => ?_, fun hj => ?_⟩
  · rw [List.length_drop] at hj
    have e1 : (D.drop J).getD j 0 = D.getD (J + j) 0 := by simp [List.getD]
    have e2 : (D.drop J).getD (j + 1) 0 = D.getD (J + j + 1) 0 := by simp [List.getD, Nat.add_assoc]
    rw [e1, e2]; exact h.1 (J + j) (by omega)
  · rw [List.length_drop] at hj ⊢
    have e1 : (D.drop J).getD (D.length - J - 1) 0 = D.getD (J + (D.length - J - 1)) 0 := by simp [List.getD]
    rw [e1, show J + (D.length - J - 1) = D.length - 1 by omega]; exact h.2 (by omega)
theorem CHN.push {f : Int → Int} {D : List Int} {e i : Int} (h : CHN f D e) {J : Nat} (hJ : J ≤ D.length) (hf : 0 < J → D.getD (J - 1) 0 = f i - 1) : CHN f (D.take J ++ [i]) (i + 1) := by
  have hl : (D.take J).length = J := by rw [List.length_take]; omega
  have ge : ∀ j, j < J → (D.take J ++ [i]).getD j 0 = D.getD j 0 := fun j hj => by
    rw [List.getD_eq_getElem?_getD, List.getD_eq_getElem?_getD, List.getElem?_append_left (by omega), List.getElem?_take_of_lt hj]
  have gl : (D.take J ++ [i]).getD J 0 = i := by
    rw [List.getD_eq_getElem?_getD, List.getElem?_append_right (by omega)]; simp [hl]
  refine ⟨fun j hj => ?_, fun _ => ?_⟩
  · rw [List.length_append, hl, List.length_singleton] at hj
    by_cases hj2 : j + 1 < J
    · rw [ge j (by omega), ge (j + 1) hj2]; exact h.1 j (by omega)
    · have : J = j + 1 := by omega
      subst this
      rw [ge j (by omega), gl]; exact hf (by omega)
  · rw [List.length_append, hl, List.length_singleton, Nat.add_sub_cancel, gl]; omega
structure PI (l0 : List Cr) (i : Nat) (E : List Int) (A : List (Int × List Int)) : Prop where
  la : A.length = i
  me : ∀ x ∈ E, 0 ≤ x ∧ x < i
  ce : CHN (frA A) E i
  pa : ∀ j, j < i → ∃ c, l0[j]? = some c ∧ ((A.getD j (0, [])).2.length : Int) = c.n ∧ CHN (frA A) (A.getD j (0, [])).2 j ∧ ∀ x ∈ (A.getD j (0, [])).2, 0 ≤ x ∧ x < j
theorem frA_old {A : List (Int × List Int)} {a : Int × List Int} {x : Int} (h : x.toNat < A.length) : frA (A ++ [a]) x = frA A x := by
  unfold frA; simp [List.getD, List.getElem?_append_left h]
theorem getD_old {A : List (Int × List Int)} {a : Int × List Int} {j : Nat} (h : j < A.length) : (A ++ [a]).getD j (0, []) = A.getD j (0, []) := by
  simp [List.getD, List.getElem?_append_left h]
theorem PI.next {l0 : List Cr} {i : Nat} {E : List Int} {A : List (Int × List Int)} {c : Cr} (h : PI l0 i E A) (hc : l0[i]? = some c) (hn : 0 ≤ c.n) (hE : c.n ≤ E.length) :
    PI l0 (i + 1) (E.take (E.length - c.n.toNat) ++ [(i : Int)]) (A ++ [(if 0 < c.n then (A.getD (E.getD (E.length - c.n.toNat) 0).toNat (0, [])).1 else (i : Int), E.drop (E.length - c.n.toNat))]) := by
  obtain ⟨b, hb⟩ : ∃ b, b = (if 0 < c.n then (A.getD (E.getD (E.length - c.n.toNat) 0).toNat (0, [])).1 else (i : Int)) := ⟨_, rfl⟩
  rw [← hb]
  obtain ⟨J, hJ⟩ : ∃ J, J = E.length - c.n.toNat := ⟨_, rfl⟩
  rw [← hJ] at hb ⊢
  have old : ∀ x ∈ E, frA (A ++ [(b, E.drop J)]) x = frA A x := fun x hx => frA_old (by have := h.me x hx; have := h.la; omega)
  have new : frA (A ++ [(b, E.drop J)]) (i : Int) = b := by unfold frA; simp [List.getD, ← h.la]
  refine ⟨by simp [h.la], fun x hx => ?_, ?_, fun j hj => ?_⟩
  · rw [List.mem_append, List.mem_singleton] at hx
    rcases hx with hx | hx
    · have := h.me x (List.mem_of_mem_take hx); omega
    · omega
  · have := (h.ce.congr (fun x hx => (old x hx).symm)).push (i := (i : Int)) (J := J) (by omega) (fun hJ0 => by
      rw [new, hb]
      by_cases hp : 0 < c.n
      · rw [if_pos hp]
        have := h.ce.1 (J - 1) (by omega)
        rw [show J - 1 + 1 = J by omega] at this
        exact this
      · rw [if_neg hp]
        have : J = E.length := by omega
        rw [this]; exact h.ce.2 (by omega))
    simpa using this
  · by_cases hji : j < i
    · rw [getD_old (by rw [h.la]; exact hji)]
      obtain ⟨c', h1, h2, h3, h4⟩ := h.pa j hji
      exact ⟨c', h1, h2, h3.congr (fun x hx => (frA_old (by have := h4 x hx; have := h.la; omega)).symm), h4⟩
    · have : j = i := by omega
      subst this
      have e : (A ++ [(b, E.drop J)]).getD j (0, []) = (b, E.drop J) := by simp [List.getD, ← h.la]
      rw [e]
      refine ⟨c, hc, by simp; omega, (h.ce.drop J).congr (fun x hx => (old x (List.mem_of_mem_drop hx)).symm), fun x hx => h.me x (List.mem_of_mem_drop hx)⟩
theorem whS_PI : ∀ (r : List Cr) (l0 : List Cr) (i : Nat) (E : List Int) (A : List (Int × List Int)) (t : Int), PI l0 i E A → l0.drop i = r → walkC E.length r = some t → ∃ E', PI l0 l0.length E' (whS i E A r)
  | [], l0, i, E, A, t, h, hr, _ => by
    have : i = l0.length ∨ l0.length < i := by have := List.drop_eq_nil_iff.1 hr; omega
    rcases this with e | e
    · subst e; exact ⟨E, by rw [whS]; exact h⟩
    · obtain ⟨c, h1, _⟩ := h.pa l0.length e
      simp at h1
  | c :: r, l0, i, E, A, t, h, hr, hw => by
    obtain ⟨⟨hcb, hcn⟩, hwn⟩ := walk_step hw
    obtain ⟨hn0, hn1⟩ := crB_n hcb
    have hc : l0[i]? = some c := by
      have := congrArg (·[0]?) hr
      simpa using this
    rw [whS]
    refine whS_PI r l0 (i + 1) _ _ t (h.next hc hn0 hcn) ?_ ?_
    · rw [← List.drop_drop, hr]; rfl
    · rw [← hwn]; congr 1; simp; omega
theorem whA_PI {l : List Cr} (h : chk l = 0) : ∃ E', PI l l.length E' (whA l) := by
  obtain ⟨_, hw⟩ := chk_ok h
  exact whS_PI l l 0 [] [] 1 ⟨rfl, fun x hx => by simp at hx, ⟨fun j hj => by simp at hj, fun hj => by simp at hj⟩, fun j hj => by omega⟩ (by simp) hw
theorem beg_wh : ∀ (r : List Cr) (i : Nat) (S E : List Int) (A : List (Int × List Int)) (q : List Int × List Int), A.length = i → (∀ x ∈ E, 0 ≤ x ∧ x < i) → S = E.map (frA A) → begS i S r = some q → (whS i E A r).map (·.1) = A.map (·.1) ++ q.1
  | [], i, S, E, A, q, _, _, _, h => by
    rw [begS] at h; injection h with h; subst h; rw [whS]; simp
  | c :: r, i, S, E, A, q, hA, hE, hS, h => by
    rw [begS] at h
    split at h
    · rename_i hc
      obtain ⟨q', hq', rfl⟩ := Option.map_eq_some_iff.1 h
      have hn := crR_n hc.1
      have hl : S.length = E.length := by rw [hS]; simp
      obtain ⟨b, hb⟩ : ∃ b, b = (if 0 < c.n then (A.getD (E.getD (E.length - c.n.toNat) 0).toNat (0, [])).1 else (i : Int)) := ⟨_, rfl⟩
      have hb2 : (if 0 < c.n then S.getD (S.length - c.n.toNat) 0 else (i : Int)) = b := by
        rw [hb, hl]
        by_cases hp : 0 < c.n
        · rw [if_pos hp, if_pos hp, hS]
          have hlt : E.length - c.n.toNat < E.length := by have := hc.2; omega
          simp [List.getD, frA, List.getElem?_eq_getElem hlt]
        · rw [if_neg hp, if_neg hp]
      rw [whS, ← hb]
      rw [hb2] at hq'
      have ih := beg_wh r (i + 1) (S.take (S.length - c.n.toNat) ++ [b]) (E.take (E.length - c.n.toNat) ++ [(i : Int)]) (A ++ [(b, E.drop (E.length - c.n.toNat))]) q' (by simp [hA]) (fun x hx => by
        rw [List.mem_append, List.mem_singleton] at hx
        rcases hx with hx | hx
        · have := hE x (List.mem_of_mem_take hx); omega
        · omega) (by
        rw [hl, hS, List.map_append, ← List.map_take, List.map_singleton]
        congr 1
        · refine List.map_congr_left (fun x hx => (frA_old ?_).symm)
          have := hE x (List.mem_of_mem_take hx); omega
        · unfold frA; simp [List.getD, ← hA]) hq'
      rw [ih, hb2]; simp
    · cases h
/-- Where each whole begins, by the reference's count, is where the wholes say. -/
theorem beg_whA {l : List Cr} {q : List Int × List Int} (h : begS 0 [] l = some q) : q.1 = (whA l).map (·.1) := by
  have := beg_wh l 0 [] [] [] q rfl (fun x hx => by simp at hx) rfl h
  unfold whA; rw [this]; simp
end Go.Proofs.YtaleagkhblokgaaDoor
