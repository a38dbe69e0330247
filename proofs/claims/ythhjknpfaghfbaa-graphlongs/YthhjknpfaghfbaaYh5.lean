/- Graph: the document's levels. -/
import Derived.Test.YthhjknpfaghfbaaYh4
namespace Go.Proofs.Ythhjknpfaghfbaa
open Go.RowKit

theorem tg_take_same {E : List (Nat × Nat)} {k : Nat} (hk : k < E.length) (n : Nat) : tg (E.take (k + 1)) n = if n = E[k].1 then tg (E.take k) n ++ [E[k].2] else tg (E.take k) n := by
  rw [List.take_succ_eq_append_getElem hk, tg_snoc]
theorem CT.lvS {w : World} {X N : Nat} {wr : World} {E : List (Nat × Nat)} {n : Nat} {F : Nat → Int} {k : Nat} (h : CT w X N wr (lvU (tg (E.take k) n) n F)) (hk : k < E.length) (he : E[k].1 = n) {y : Int} (hy : y = max (lvU (tg (E.take k) n) n F E[k].2) (F n + 1)) : CT w X N (wr.setCell ⟨X, E[k].2, none⟩ (.int .i64 y)) (lvU (tg (E.take (k + 1)) n) n F) :=
  ⟨h.bl.setCell (p := ⟨X, _, none⟩) h.lf.lt.1 _, (h.lf.set _ _).eq fun x => by
    rw [tg_take_same hk, if_pos he.symm, lvU_snoc]
    unfold upF
    split
    · rename_i e; rw [hy, e]
    · rfl⟩
theorem CT.lvN {w : World} {X N : Nat} {wr : World} {E : List (Nat × Nat)} {n : Nat} {F : Nat → Int} {k : Nat} (h : CT w X N wr (lvU (tg (E.take k) n) n F)) (hk : k < E.length) (he : ¬ E[k].1 = n) : CT w X N wr (lvU (tg (E.take (k + 1)) n) n F) := by
  rw [tg_take_same hk, if_neg fun e => he e.symm]
  exact h
end Go.Proofs.Ythhjknpfaghfbaa
