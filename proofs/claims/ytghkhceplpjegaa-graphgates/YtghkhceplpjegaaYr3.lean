/- Graph, plain: what the law GraphGates asks of the gates. -/
import Derived.Test.YtghkhceplpjegaaYq9
import Derived.Test.YtghkhceplpjegaaYm2
namespace Go.Proofs.Ytghkhceplpjegaa
open Go.RowKit

theorem gg_idx (n : Int) (m : Nat) (hm : 0 < m) : ∃ k : Nat, (IntKind.u64.wrap n).tmod (m : Int) = (k : Int) ∧ k < m := by
  have h0 : 0 ≤ IntKind.u64.wrap n := by simp [IntKind.wrap, IntKind.signed, IntKind.bits]; omega
  refine ⟨((IntKind.u64.wrap n).tmod (m : Int)).toNat, ?_, ?_⟩
  · have : 0 ≤ (IntKind.u64.wrap n).tmod (m : Int) := Int.tmod_nonneg _ h0
    omega
  · have : (IntKind.u64.wrap n).tmod (m : Int) < (m : Int) := Int.tmod_lt_of_pos _ (by omega)
    omega
theorem Gt.rd {E : List (Nat × Nat)} {r d k : Nat} (hk : Rs (ed E) r k) (h : Gt E r d k) : Rs (ed E) r d := by
  refine Classical.byContradiction fun hn => ?_
  have : Rs (ed E) r k ∧ Av E r d k := by
    refine Rs.ind (P := fun y => Rs (ed E) r y ∧ Av E r d y) (fun a b ⟨q1, q2⟩ hab => ?_) hk ⟨Or.inl rfl, fun e => hn (Or.inl e), Or.inl rfl⟩
    have hb : Rs (ed E) r b := Or.inr (q1.snoc hab)
    exact ⟨hb, q2.step hab fun e => hn (by rw [← e]; exact hb)⟩
  exact h.2 this.2
open Classical in
theorem way_yes {E : List (Nat × Nat)} {r n : Nat} : wayB E r n = true ↔ Rs (ed E) r n := by unfold wayB; simp
theorem way_wo {E : List (Nat × Nat)} {r d n : Nat} (hd : d ≠ r) : wayB (woL E d) r n = true ↔ Av E r d n := by
  rw [way_yes]
  constructor
  · exact fun h => ⟨fun e => hd e.symm, h.imp fun a b q => woL_ed.1 q⟩
  · exact fun h => h.2.imp fun a b q => woL_ed.2 q
theorem ga_no {E : List (Nat × Nat)} {r n : Nat} {v : Int} (h : GA E r n v) (k : n = r ∨ wayB E r n = false) : v = -1 := by
  refine h.2 fun ⟨q1, q2⟩ => ?_
  rcases k with k | k
  · exact q2 k
  · rw [way_yes.2 q1] at k; cases k
theorem ga_yes {N : Nat} {E : List (Nat × Nat)} (hlt : ∀ e ∈ E, e.1 < N ∧ e.2 < N) {r n : Nat} {v : Int} (hr : r < N) (h : GA E r n v) (h1 : n ≠ r) (h2 : wayB E r n = true) : ∃ g : Nat, v = g ∧ g < N ∧ g ≠ n ∧ Lg1 E r n g := by
  obtain ⟨g, hv, hl⟩ := h.1 ⟨way_yes.1 h2, h1⟩
  refine ⟨g, hv, ?_, fun e => hl.gt.1 e.symm, hl⟩
  rcases hl.rd with e | q
  · omega
  · obtain ⟨z, _, q2⟩ := q.last
    exact (hlt _ q2).2
theorem gg_at {E : List (Nat × Nat)} {r n g : Nat} (h : Lg1 E r n g) (hg : g ≠ r) : wayB (woL E g) r n = false := by
  rw [← Bool.not_eq_true]
  exact fun q => h.gt.2 ((way_wo hg).1 q)
theorem gg_of {E : List (Nat × Nat)} {r n g d : Nat} (hn : Rs (ed E) r n) (h : Lg1 E r n g) (hd : d ≠ r) (hdn : d ≠ n) (hdg : d ≠ g) (k : wayB (woL E d) r n = false) : wayB (woL E d) r g = false := by
  have hG : Gt E r d n := ⟨fun e => hdn e.symm, fun q => by rw [(way_wo hd).2 q] at k; cases k⟩
  rcases h.of d (Gt.rd hn hG) hG with e | q
  · exact absurd e hdg
  · rw [← Bool.not_eq_true]
    exact fun z => q.2 ((way_wo hd).1 z)
end Go.Proofs.Ytghkhceplpjegaa
