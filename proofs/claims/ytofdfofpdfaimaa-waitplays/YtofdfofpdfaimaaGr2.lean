/- Rows of a call's own, of different types, lie apart. -/
import Derived.Test.YtofdfofpdfaimaaGr1
namespace Go.Proofs.Ytofdfofpdfaimaa
open Go.RowKit

theorem OwnG.ty {α : Type} {K : RK α} {w : World} {base : Nat} {v : Value} {l : List α} (h : OwnG K w base v l) {g : Nat} (hg : v.ownBlock = some g) : ∃ cur, w.heap[g]? = some (.cells cur K.ty) := by
  rcases h.2 with ⟨e, _⟩ | ⟨g', cap, cur, e, _, e3, _⟩
  · rw [e] at hg; cases hg
  · rw [e] at hg
    injection hg with hg
    have e9 : g' = g := hg
    subst e9
    exact ⟨cur, e3⟩
theorem OwnG.apart {α β : Type} {K : RK α} {J : RK β} {w : World} {base bas' : Nat} {v u : Value} {l : List α} {m : List β} (h : OwnG K w base v l) (k : OwnG J w bas' u m) (ht : K.ty ≠ J.ty) {g : Nat} (hg : u.ownBlock = some g) : v.ownBlock ≠ some g := fun e => by
  obtain ⟨c1, h1⟩ := h.ty e
  obtain ⟨c2, h2⟩ := k.ty hg
  rw [h1] at h2
  injection h2 with h2
  injection h2 with _ h2 _
  exact ht h2
theorem OwnG.notat {α : Type} {K : RK α} {w : World} {base B : Nat} {v : Value} {l : List α} {arr : Array Value} {t : TypeId} (h : OwnG K w base v l) (hB : w.heap[B]? = some (.cells arr t)) (ht : K.ty ≠ t) : v.ownBlock ≠ some B := fun e => by
  obtain ⟨c1, h1⟩ := h.ty e
  rw [h1] at hB
  injection hB with h2
  injection h2 with _ h2 _
  exact ht h2
end Go.Proofs.Ytofdfofpdfaimaa
