/- Depend: twice as far; the least in circles. -/
import Derived.Test.YtkhcinpcoabphaaDc2
import Derived.Test.YtkhcinpcoabphaaDa4
namespace Go.Proofs.Ytkhcinpcoabphaa
open Go.RowKit

theorem GS.slot {w : World} {p : Option Addr} {n cap : Nat} {l : List Int} (h : GS KI w (.slice p n cap) l) (hl : 0 < l.length) : ∃ Y o, p = some ⟨Y, o, none⟩ ∧ Y < w.heap.size ∧ ∀ k (hk : k < l.length), w.cell? ⟨Y, o + k, none⟩ = some (.int .i64 l[k]) := by
  obtain ⟨Y, o, h1, hY, _⟩ := GS.at h hl
  refine ⟨Y, o, h1, hY, fun k hk => ?_⟩
  obtain ⟨Y2, o2, h3, h4⟩ := h.atI hk
  rw [h1] at h3
  injection h3 with h3
  injection h3 with h5 h6 _
  subst h5 h6
  exact h4
theorem set_getD {l : List Int} {k : Nat} (hk : k < l.length) (x : Int) (j : Nat) : (l.set k x).getD j 0 = if j = k then x else l.getD j 0 := by
  by_cases e : j = k
  · subst e; simp [List.getD, hk]
  · simp [List.getD, e, List.getElem?_set_ne (Ne.symm e)]
/-- Rows of numbers that read as a list, with their length. -/
theorem GS.len_eq {w : World} {p : Option Addr} {n c : Nat} {l : List Int} (h : GS KI w (.slice p n c) l) : n = l.length := by
  obtain ⟨_, _, e⟩ := h.form
  injection e
end Go.Proofs.Ytkhcinpcoabphaa
