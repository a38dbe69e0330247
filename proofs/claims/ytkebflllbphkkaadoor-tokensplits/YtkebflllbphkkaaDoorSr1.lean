/- Sorting, plain: what is alike stays in its order. -/
import Derived.Test.YtkebflllbphkkaaDoorSo6
namespace Go.Proofs.YtkebflllbphkkaaDoor

/-- Whoever are alike stand by their numbers. -/
def TI (c : Int → Int → Int) (D : List Int) : Prop := ∀ i j, i < j → j < D.length → c (gD D i) (gD D j) = 0 → gD D i < gD D j
theorem OrdC.lt {c : Int → Int → Int} (O : OrdC c) {x y z u : Int} (h1 : c x y ≤ 0) (h2 : c y z < 0) (h3 : c z u ≤ 0) : c x u < 0 := by
  by_cases h : c x u < 0
  · exact h
  · have a1 := O.tr _ _ _ (O.le h) h1
    have a2 := O.tr _ _ _ h3 a1
    have a3 := O.anti z y
    omega
theorem TI.swap {c : Int → Int → Int} {D : List Int} {k : Nat} (h : TI c D) (hk : k + 1 < D.length) (hc : c (gD D (k + 1)) (gD D k) < 0) : TI c (swp D k (k + 1)) := by
  intro i j hij hj he
  rw [swp_len] at hj
  rw [swp_at (by omega) (by omega), swp_at (by omega) (by omega)] at he ⊢
  by_cases i1 : i = k + 1
  · rw [if_pos i1] at he ⊢
    rw [if_neg (by omega), if_neg (by omega)] at he ⊢
    exact h k j (by omega) hj he
  · rw [if_neg i1] at he ⊢
    by_cases i2 : i = k
    · rw [if_pos i2] at he ⊢
      by_cases j1 : j = k + 1
      · rw [if_pos j1] at he; omega
      · rw [if_neg j1, if_neg (by omega)] at he ⊢
        exact h (k + 1) j (by omega) hj he
    · rw [if_neg i2] at he ⊢
      by_cases j1 : j = k + 1
      · rw [if_pos j1] at he ⊢
        exact h i k (by omega) (by omega) he
      · rw [if_neg j1] at he ⊢
        by_cases j2 : j = k
        · rw [if_pos j2] at he ⊢
          exact h i (k + 1) (by omega) hk he
        · rw [if_neg j2] at he ⊢
          exact h i j hij hj he
theorem swp_comm (D : List Int) {i j : Nat} (hn : i ≠ j) : swp D i j = swp D j i := by
  unfold swp
  rw [List.set_comm _ _ hn]
theorem TI.rot {c : Int → Int → Int} {D E : List Int} {st m en : Nat} (h : TI c D) (hE : ∀ k, gD E k = rotV D st m en k) (hl : E.length = D.length) (h1 : st ≤ m) (h2 : m ≤ en) (h3 : en ≤ D.length)
    (hx : ∀ i j, st ≤ i → i < m → m ≤ j → j < en → c (gD D j) (gD D i) < 0) : TI c E := by
  intro i j hij hj he
  rw [hl] at hj
  rw [hE, hE] at he ⊢
  unfold rotV at he ⊢
  by_cases i1 : st ≤ i ∧ i < st + (en - m)
  · rw [if_pos i1] at he ⊢
    by_cases j1 : st ≤ j ∧ j < st + (en - m)
    · rw [if_pos j1] at he ⊢
      exact h _ _ (by omega) (by omega) he
    · rw [if_neg j1] at he ⊢
      by_cases j2 : st + (en - m) ≤ j ∧ j < en
      · rw [if_pos j2] at he ⊢
        have := hx (j - (en - m)) (i + (m - st)) (by omega) (by omega) (by omega) (by omega)
        omega
      · rw [if_neg j2] at he ⊢
        exact h _ _ (by omega) (by omega) he
  · rw [if_neg i1] at he ⊢
    by_cases i2 : st + (en - m) ≤ i ∧ i < en
    · rw [if_pos i2] at he ⊢
      rw [if_neg (by omega)] at he ⊢
      by_cases j2 : st + (en - m) ≤ j ∧ j < en
      · rw [if_pos j2] at he ⊢
        exact h _ _ (by omega) (by omega) he
      · rw [if_neg j2] at he ⊢
        exact h _ _ (by omega) (by omega) he
    · rw [if_neg i2] at he ⊢
      by_cases j1 : st ≤ j ∧ j < st + (en - m)
      · rw [if_pos j1] at he ⊢
        exact h _ _ (by omega) (by omega) he
      · rw [if_neg j1] at he ⊢
        by_cases j2 : st + (en - m) ≤ j ∧ j < en
        · rw [if_pos j2] at he ⊢
          exact h _ _ (by omega) (by omega) he
        · rw [if_neg j2] at he ⊢
          exact h _ _ hij hj he
/-- Put into another order, and what is alike stays in its order. -/
structure RelT (c : Int → Int → Int) (a b : Nat) (D E : List Int) : Prop where
  rl : Rel a b D E
  ti : TI c D → TI c E
theorem RelT.len {c : Int → Int → Int} {a b : Nat} {D E : List Int} (h : RelT c a b D E) : E.length = D.length := h.rl.len
theorem RelT.pm {c : Int → Int → Int} {a b : Nat} {D E : List Int} (h : RelT c a b D E) : E.Perm D := h.rl.pm
theorem RelT.out {c : Int → Int → Int} {a b : Nat} {D E : List Int} (h : RelT c a b D E) : ∀ k, (k < a ∨ b ≤ k) → gD E k = gD D k := h.rl.out
theorem RelT.refl (c : Int → Int → Int) (a b : Nat) (D : List Int) : RelT c a b D D := ⟨Rel.refl _ _ _, id⟩
theorem RelT.trans {c : Int → Int → Int} {a b : Nat} {D E F : List Int} (h : RelT c a b D E) (k : RelT c a b E F) : RelT c a b D F := ⟨h.rl.trans k.rl, fun q => k.ti (h.ti q)⟩
theorem RelT.wide {c : Int → Int → Int} {a b a' b' : Nat} {D E : List Int} (h : RelT c a b D E) (h1 : a' ≤ a) (h2 : b ≤ b') : RelT c a' b' D E := ⟨h.rl.wide h1 h2, h.ti⟩
theorem RelT.up {c : Int → Int → Int} {a b k : Nat} {D E : List Int} (h : RelT c a b D E) (hl : b ≤ D.length) (hk : a ≤ k) (hb : k + 1 < b) (hc : c (gD E (k + 1)) (gD E k) < 0) : RelT c a b D (swp E k (k + 1)) := ⟨h.rl.swap hl (by omega) (by omega), fun q => (h.ti q).swap (by have := h.rl.len; omega) hc⟩
theorem RelT.dn {c : Int → Int → Int} {a b k : Nat} {D E : List Int} (h : RelT c a b D E) (hl : b ≤ D.length) (hk : a ≤ k) (hb : k + 1 < b) (hc : c (gD E (k + 1)) (gD E k) < 0) : RelT c a b D (swp E (k + 1) k) := by
  rw [swp_comm _ (by omega)]
  exact h.up hl hk hb hc
theorem joinT {c : Int → Int → Int} {E F G : List Int} {a mid b : Nat} (h1 : RelT c a mid E F) (r1 : Run c F a mid) (h2 : RelT c mid b F G) (r2 : Run c G mid b) (ham : a ≤ mid) (hmb : mid ≤ b)
    (hx : ∀ i j, a ≤ i → i < mid → mid ≤ j → j < b → c (gD E i) (gD E j) ≤ 0) : Run c G a b ∧ RelT c a b E G :=
  ⟨(merge_join h1.rl r1 h2.rl r2 ham hmb hx).1, ⟨(merge_join h1.rl r1 h2.rl r2 ham hmb hx).2, fun q => h2.ti (h1.ti q)⟩⟩
end Go.Proofs.YtkebflllbphkkaaDoor
