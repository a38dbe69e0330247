/- Depend: whether a cell leads to another one. -/
import Derived.Test.YtkhcinpcoabphaaDd3
namespace Go.Proofs.Ytkhcinpcoabphaa
open Go.RowKit

theorem stk_nodup (X : Wb) (t : Nat) : (stk X t).Nodup := tl_nodup _ _
theorem OB.form {w : World} {b : Nat} {v : Value} {l : List Nat} (h : OB w b v l) (hl : 0 < l.length) : ∃ g cap, v = .slice (some ⟨g, 0, none⟩) l.length cap := by
  obtain ⟨base, _, h⟩ := h
  obtain ⟨q, c, e, _⟩ := h.form
  obtain ⟨g, hg, _⟩ := own_at (by rw [← e]; exact h) hl
  rw [nI_len] at e
  rw [e, hg]
  exact ⟨g, c, rfl⟩
theorem OB.at {w : World} {b g n cap : Nat} {l : List Nat} (h : OB w b (.slice (some ⟨g, 0, none⟩) n cap) l) {k : Nat} (hk : k < l.length) : w.cell? ⟨g, k, none⟩ = some (.int .i64 l[k]) := by
  obtain ⟨base, _, h⟩ := h
  obtain ⟨g2, e, hc⟩ := own_at h hk
  injection e with e
  injection e with e _ _
  subst e
  exact hc
end Go.Proofs.Ytkhcinpcoabphaa
