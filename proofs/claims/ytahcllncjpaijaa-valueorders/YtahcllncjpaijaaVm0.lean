/- Values: answers written over, one by one. -/
import Derived.Test.YtahcllncjpaijaaVd2
namespace Go.Proofs.Ytahcllncjpaijaa
open Go.RowKit

theorem CPV.full {w w' : World} {vs : Value} {L M : List Vx} (h : CPV w w' vs L M L.length) : aL M = aL L := by
  have := h.eq; rw [List.take_length] at this; exact this
/-- Where the law's inner loop stands. -/
structure SQ (w1 wx : World) (vp : Value) (P : List Vx) : Prop where
  own : OwnG KV wx w1.heap.size vp P
  sp : ∀ x ∈ P, SPV wx w1.heap.size x.v
  bl : Below w1.heap.size w1 wx
theorem SQ.below {w1 wx wy : World} {vp : Value} {P : List Vx} (h : SQ w1 wx vp P) (b : Below wx.heap.size wx wy) : SQ w1 wy vp P :=
  ⟨h.own.below b, fun x hx => (h.sp x hx).far (fun g hg => b.block g (by
    rcases h.sp x hx with e | ⟨g', o, n, cap, N, e, _, ⟨cur, h1, _⟩, _⟩
    · rw [e] at hg; cases hg
    · rw [e] at hg
      have e4 : g' = g := by simpa [Value.ownBlock] using hg
      subst e4
      exact (Array.getElem?_eq_some_iff.1 h1).1)), h.bl.trans (b.mono h.bl.size)⟩
theorem SQ.next {w1 wx wy : World} {vp u : Value} {P : List Vx} (h : SQ w1 wx vp P) (hu : SPV wx w1.heap.size u) (b : Below w1.heap.size wx wy) (hk : ∀ j, some j ≠ u.ownBlock → wy.heap[j]? = wx.heap[j]?) (hs : ∀ b u, SPV wx b u → SPV wy b u) : SQ w1 wy vp P :=
  ⟨h.own.far (fun g hg => hk g (hu.apart (by decide) h.own hg)), fun x hx => hs _ _ (h.sp x hx), h.bl.trans b⟩
end Go.Proofs.Ytahcllncjpaijaa
