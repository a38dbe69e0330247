/- Failures, the reference: begins and Check, walked. -/
import Derived.Test.YtkebflllbphkkaaDoorFx4
namespace Go.Proofs.YtkebflllbphkkaaDoor
open Go.RowKit

theorem BI.eqn {w wk : World} {vf vs : Value} {F S : List Int} {k : Nat} {l : List Cr} (h : BI w wk vf vs F S k l) (hk : k < l.length) (hc : crR l[k] = true ∧ l[k].n ≤ S.length) (b : Int) (hb : b = if 0 < l[k].n then S.getD (S.length - l[k].n.toNat) 0 else (k : Int)) :
    begS 0 [] l = (begS (k + 1) (S.take (S.length - l[k].n.toNat) ++ [b]) (l.drop (k + 1))).map fun q => (F ++ [b] ++ q.1, q.2) := by
  rw [h.eq, drop_cr hk, begS, if_pos hc, ← hb, Option.map_map]
  congr 1
  funext q
  simp
theorem BI.bad {w wk : World} {vf vs : Value} {F S : List Int} {k : Nat} {l : List Cr} (h : BI w wk vf vs F S k l) (hk : k < l.length) (hc : ¬ (crR l[k] = true ∧ l[k].n ≤ S.length)) : begS 0 [] l = none := by
  rw [h.eq, drop_cr hk, begS, if_neg hc]; rfl
theorem BI.fin {w wk : World} {vf vs : Value} {F S : List Int} {k : Nat} {l : List Cr} (h : BI w wk vf vs F S k l) (hk : l.length ≤ k) : begS 0 [] l = some (F, S) := by
  rw [h.eq, List.drop_eq_nil_of_le hk]; simp [begS]
/-- Both rows, one number longer. -/
theorem BI.push {w w5 w6 w7 : World} {vf vs vs0 : Value} {F S S0 : List Int} {k g1 g2 c1 c2 : Nat} {l : List Cr} {b : Int} (h : BI w w5 vf vs F S k l) (hb0 : vs0.ownBlock = vs.ownBlock)
    (ho6 : OwnI w6 w.heap.size (.slice (some ⟨g1, 0, none⟩) (S0.length + 1) c1) (S0 ++ [b])) (hb6 : Below w.heap.size w5 w6) (hg6 : vs0.ownBlock = some g1 ∨ w5.heap.size ≤ g1)
    (ho7 : OwnI w7 w.heap.size (.slice (some ⟨g2, 0, none⟩) (F.length + 1) c2) (F ++ [b])) (hb7 : Below w.heap.size w6 w7) (hk7 : ∀ j, j < w6.heap.size → some j ≠ vf.ownBlock → w7.heap[j]? = w6.heap[j]?) (hg7 : vf.ownBlock = some g2 ∨ w6.heap.size ≤ g2)
    (heq : begS 0 [] l = (begS (k + 1) (S0 ++ [b]) (l.drop (k + 1))).map fun q => (F ++ [b] ++ q.1, q.2)) (hS : S0.length ≤ k) :
    BI w w7 (.slice (some ⟨g2, 0, none⟩) (F.length + 1) c2) (.slice (some ⟨g1, 0, none⟩) (S0.length + 1) c1) (F ++ [b]) (S0 ++ [b]) (k + 1) l := by
  have hvf : ∀ q, vf.ownBlock = some q → q < w5.heap.size := fun q hq => (World.ownsRow.lt h.f q hq).2
  have hg1 : g1 < w6.heap.size := (World.ownsRow.lt ho6 g1 rfl).2
  have hne : some g1 ≠ vf.ownBlock := by
    intro e
    rcases hg6 with e2 | e2
    · exact h.ne (by rw [← e, ← hb0, e2])
    · have := hvf g1 e.symm; omega
  refine ⟨ho7, ho6.far (fun g hg => ?_), by simp [Value.ownBlock], by simp [Value.ownBlock], ?_, (h.bl.trans hb6).trans hb7, heq, by have := h.lf; simp; omega, by simp; omega⟩
  · have : g = g1 := by simpa [Value.ownBlock] using hg.symm
    subst this
    exact hk7 g hg1 hne
  · simp only [Value.ownBlock]
    intro e
    injection e with e
    rcases hg7 with e2 | e2
    · exact hne (by rw [e2, e])
    · omega
/-- The other row stands. -/
theorem BI.keepF {w w5 w6 : World} {vf vs vs0 : Value} {F S : List Int} {k : Nat} {l : List Cr} (h : BI w w5 vf vs F S k l) (hb0 : vs0.ownBlock = vs.ownBlock) (hk6 : ∀ j, j < w5.heap.size → some j ≠ vs0.ownBlock → w6.heap[j]? = w5.heap[j]?) : OwnI w6 w.heap.size vf F :=
  h.f.far (fun g hg => hk6 g (World.ownsRow.lt h.f g hg).2 (fun e => h.ne (by rw [hg, e, hb0])))
theorem BI.stack {w wk : World} {vf vs : Value} {F S : List Int} {k : Nat} {l : List Cr} (h : BI w wk vf vs F S k l) : ∃ g c, vs = .slice (some ⟨g, 0, none⟩) S.length c ∧ S.length ≤ c ∧ ∀ j, j < S.length → wk.cell? ⟨g, j, none⟩ = some (.int .i64 (S.getD j 0)) := by
  have h0 := h.s
  rcases h.s.2 with ⟨e, _⟩ | ⟨g, cap, cur, e, _, _, hcp, _⟩
  · exact absurd (by rw [e]; rfl) h.ns
  · subst e
    refine ⟨g, cap, rfl, hcp, fun j hj => ?_⟩
    rw [World.ownsRow.cellAt h0 j (by omega)]
    simp [iV, hj]
end Go.Proofs.YtkebflllbphkkaaDoor
