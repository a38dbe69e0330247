/- Sorting, plain: what a symmetric merge comes to. -/
import Derived.Test.YtkebflllbphkkaaDoorSo1
namespace Go.Proofs.YtkebflllbphkkaaDoor

theorem cut_runs {c : Int → Int → Int} (O : OrdC c) {D E : List Int} {a m b st en mid : Nat} (hr1 : Run c D a m) (hr2 : Run c D m b) (ha : a ≤ st) (hm : st ≤ m) (he : m ≤ en) (hb : en ≤ b) (hs : st + en = mid + m)
    (f1 : a < st → en < b → c (gD D (st - 1)) (gD D en) ≤ 0) (f2 : st < m → m < en → c (gD D (en - 1)) (gD D st) ≤ 0) (hE : ∀ k, gD E k = rotV D st m en k) :
    Run c E a st ∧ Run c E st mid ∧ Run c E mid en ∧ Run c E en b ∧ ∀ i j, a ≤ i → i < mid → mid ≤ j → j < b → c (gD E i) (gD E j) ≤ 0 := by
  have e0 : ∀ k, k < st → gD E k = gD D k := fun k hk => by rw [hE, rotV, if_neg (by omega), if_neg (by omega)]
  have e1 : ∀ k, st ≤ k → k < mid → gD E k = gD D (k + (m - st)) := fun k h1 h2 => by rw [hE, rotV, if_pos (by omega)]
  have e2 : ∀ k, mid ≤ k → k < en → gD E k = gD D (k - (en - m)) := fun k h1 h2 => by rw [hE, rotV, if_neg (by omega), if_pos (by omega)]
  have e3 : ∀ k, en ≤ k → gD E k = gD D k := fun k hk => by rw [hE, rotV, if_neg (by omega), if_neg (by omega)]
  refine ⟨fun i j h1 h2 h3 => ?_, fun i j h1 h2 h3 => ?_, fun i j h1 h2 h3 => ?_, fun i j h1 h2 h3 => ?_, fun i j h1 h2 h3 h4 => ?_⟩
  · rw [e0 i (by omega), e0 j h3]; exact hr1 _ _ h1 h2 (by omega)
  · rw [e1 i h1 (by omega), e1 j (by omega) h3]; exact hr2 _ _ (by omega) (by omega) (by omega)
  · rw [e2 i h1 (by omega), e2 j (by omega) h3]; exact hr1 _ _ (by omega) (by omega) (by omega)
  · rw [e3 i h1, e3 j (by omega)]; exact hr2 _ _ (by omega) h2 h3
  · by_cases i1 : i < st
    · rw [e0 i i1]
      by_cases j1 : j < en
      · rw [e2 j h3 j1]; exact hr1.le O h1 (by omega) (by omega)
      · rw [e3 j (by omega)]
        exact O.tr _ _ _ (hr1.le O h1 (show i ≤ st - 1 by omega) (by omega)) (O.tr _ _ _ (f1 (by omega) (by omega)) (hr2.le O (by omega) (by omega) h4))
    · rw [e1 i (by omega) h2]
      by_cases j1 : j < en
      · rw [e2 j h3 j1]
        exact O.tr _ _ _ (hr2.le O (by omega) (show i + (m - st) ≤ en - 1 by omega) (by omega)) (O.tr _ _ _ (f2 (by omega) (by omega)) (hr1.le O (by omega) (by omega) (by omega)))
      · rw [e3 j (by omega)]; exact hr2.le O (by omega) (by omega) h4
theorem merge_join {c : Int → Int → Int} {E F G : List Int} {a mid b : Nat} (h1 : Rel a mid E F) (r1 : Run c F a mid) (h2 : Rel mid b F G) (r2 : Run c G mid b) (ham : a ≤ mid) (hmb : mid ≤ b)
    (hx : ∀ i j, a ≤ i → i < mid → mid ≤ j → j < b → c (gD E i) (gD E j) ≤ 0) : Run c G a b ∧ Rel a b E G := by
  refine ⟨fun i j hi hij hj => ?_, (h1.wide (Nat.le_refl _) hmb).trans (h2.wide ham (Nat.le_refl _))⟩
  by_cases j1 : j < mid
  · rw [h2.out i (by omega), h2.out j (by omega)]; exact r1 i j hi hij j1
  · by_cases i1 : i < mid
    · rw [h2.out i (by omega)]
      obtain ⟨i', q1, q2, q3⟩ := h1.inn i hi i1
      obtain ⟨j', p1, p2, p3⟩ := h2.inn j (by omega) hj
      rw [q3, p3, h1.out j' (by omega)]
      exact hx i' j' q1 q2 p1 p2
    · exact r2 i j (by omega) hij hj
theorem rot_none {D : List Int} {st m en : Nat} (h : st = m ∨ m = en) (k : Nat) : gD D k = rotV D st m en k := by
  unfold rotV
  rcases h with rfl | rfl
  · by_cases h1 : st ≤ k ∧ k < st + (en - st)
    · rw [if_pos h1, Nat.sub_self, Nat.add_zero]
    · rw [if_neg h1, if_neg (by omega)]
  · rw [if_neg (by omega)]
    by_cases h1 : st + (m - m) ≤ k ∧ k < m
    · rw [if_pos h1, Nat.sub_self, Nat.sub_zero]
    · rw [if_neg h1]
end Go.Proofs.YtkebflllbphkkaaDoor
