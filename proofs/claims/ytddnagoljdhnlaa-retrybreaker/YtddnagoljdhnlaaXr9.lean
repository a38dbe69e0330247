/- Retry: the document's Ask and Tell behind a law's calls. -/
import Derived.Test.YtddnagoljdhnlaaXr5
import Derived.Test.YtddnagoljdhnlaaXr6
import Derived.Test.YtddnagoljdhnlaaXr7
import Derived.Test.YtddnagoljdhnlaaXr8
namespace Go.Proofs.Ytddnagoljdhnlaa
open Go.RowKit Go.Maps

theorem lb_ask2 {w1 wk : World} {b m B2 : Nat} {k k2 : Bk} {p : Option Addr} {n c : Nat} {C : Int} (h : LB w1 b m B2 k k2 p n c wk) (hi : KI2 C k2) (hC : C ≤ 1000000000000000000) (a : Int) : Calls Try.prog 9 #[rbV k2 (.slice p n c), .int .i64 a] wk fun e w' => ∃ p' n' c', e = .returned (.tuple #[rbV (askX k2 a) (.slice p' n' c'), .int .i64 (askN k2 a), .bool (askB k2 a), .int .i64 (askE k2 a)]) ∧ LB w1 b m B2 k k2 p n c w' ∧ NX b m B2 (askX k2 a) p' n' c' w' := by
  cases hB : askB k2 a with
  | false =>
    refine (rask_no wk k2 p n c h.nx.nl a hB).mono ?_
    rintro e w' ⟨h1, h2, h3⟩
    rw [hB] at h1
    exact ⟨p, n, c, h1, h.below h3, ⟨by rw [h2]; exact h.nx.nl, by rw [h2]; exact h.nx.gs.below h3, h.nx.fr⟩⟩
  | true =>
    have hq : askE k2 a = 0 ∧ letB k2 a = true := by unfold askB at hB; simpa using hB
    have ht : tdE k2 a = 0 := by
      by_cases q : tdE k2 a = 0
      · exact q
      · have := (askE_t q).2.1; rw [hB] at this; cases this
    have hw : k2.ways.length ≠ 1024 := fun q => by
      have := (askE_l ht hq.2 q).2.1; rw [hB] at this; cases this
    obtain ⟨e1, _, e3, e4⟩ := askE_y ht hq.2 hw
    have hs : k2.st = 1 ∨ (k2.st = 2 ∧ k2.unt ≤ a) := by have := hq.2; unfold letB at this; simpa using this
    rcases hs with hs | ⟨hs, hu⟩
    · have eh : hlf { k2 with lst := a } = { k2 with lst := a } := by unfold hlf; rw [if_neg (show ¬ k2.st = 2 by omega)]
      rw [e1, e3, e4, eh]
      refine (rask_closed wk k2 C hi hC p n c h.nx.nl h.nx.gs a ht hw hs).mono ?_
      rintro e w' ⟨g, c9, rfl, ho, hb⟩
      refine ⟨_, _, _, rfl, h.below hb, ⟨by simp [lettry], ho.gs KW_ok.len, fun y hy => ?_⟩⟩
      exact h.clear (by have := (ho.lt hy).1; omega)
    · have eh : hlf { k2 with lst := a } = Bk.turn { k2 with lst := a } 3 0 := by unfold hlf; rw [if_pos (show k2.st = 2 from hs)]
      rw [e1, e3, e4, eh]
      refine (rask_half wk k2 C hi hC p n c h.nx.nl h.nx.gs a ht hw hs hu).mono ?_
      rintro e w' ⟨g, c9, rfl, ho, hb⟩
      refine ⟨_, _, _, rfl, h.below hb, ⟨by simp [lettry, Bk.turn], ho.gs KW_ok.len, fun y hy => ?_⟩⟩
      exact h.clear (by have := (ho.lt hy).1; omega)
theorem lb_tell2 {w1 wk : World} {b m B2 : Nat} {k k2 : Bk} {p : Option Addr} {n c : Nat} {C : Int} (h : LB w1 b m B2 k k2 p n c wk) (hi : KI2 C k2) (hC : C ≤ 1000000000000000000) (t : Int) (f : Bool) (a : Int) : Calls Try.prog 11 #[rbV k2 (.slice p n c), .int .i64 t, .bool f, .int .i64 a] wk fun e w' => ∃ p' n' c', e = .returned (.tuple #[rbV (telX k2 t f a) (.slice p' n' c'), .int .i64 (telE k2 t a)]) ∧ LB w1 b m B2 k k2 p n c w' ∧ NX b m B2 (telX k2 t f a) p' n' c' w' := by
  refine (rtell_any wk k2 C hi hC p n c h.nx.nl h.nx.gs t f a).mono ?_
  rintro e w' ⟨p', n', c', h1, h2, ⟨h3, h4⟩, hb⟩
  refine ⟨p', n', c', h1, h.below hb, ⟨h2, h3, fun y hy => ?_⟩⟩
  rcases h4 with h4 | h4
  · rw [h4] at hy
    exact h.nx.fr y hy
  · exact h.clear (by have := (h4.lt hy).1; omega)
end Go.Proofs.Ytddnagoljdhnlaa
