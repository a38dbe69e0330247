/- Graph: the law GraphOrders. -/
import Derived.Test.YtghkhceplpjegaaYh4
import Derived.Test.YtghkhceplpjegaaYd4
namespace Go.Proofs.Ytghkhceplpjegaa
open Go.RowKit

theorem tg_take_same {E : List (Nat × Nat)} {k : Nat} (hk : k < E.length) (n : Nat) : tg (E.take (k + 1)) n = if n = E[k].1 then tg (E.take k) n ++ [E[k].2] else tg (E.take k) n := by
  rw [List.take_succ_eq_append_getElem hk, tg_snoc]
theorem CT.lvS {w : World} {X N : Nat} {wr : World} {E : List (Nat × Nat)} {n : Nat} {F : Nat → Int} {k : Nat} (h : CT w X N wr (lvU (tg (E.take k) n) n F)) (hk : k < E.length) (he : E[k].1 = n) {y : Int} (hy : y = max (lvU (tg (E.take k) n) n F E[k].2) (F n + 1)) : CT w X N (wr.setCell ⟨X, E[k].2, none⟩ (.int .i64 y)) (lvU (tg (E.take (k + 1)) n) n F) :=
  ⟨h.bl.setCell (p := ⟨X, _, none⟩) h.lf.lt.1 _, (h.lf.set _ _).eq fun x => by
    rw [tg_take_same hk, if_pos he.symm, lvU_snoc]
    unfold upF
    split
    · rename_i e; rw [hy, e]
    · rfl⟩
theorem CT.lvN {w : World} {X N : Nat} {wr : World} {E : List (Nat × Nat)} {n : Nat} {F : Nat → Int} {k : Nat} (h : CT w X N wr (lvU (tg (E.take k) n) n F)) (hk : k < E.length) (he : ¬ E[k].1 = n) : CT w X N wr (lvU (tg (E.take (k + 1)) n) n F) := by
  rw [tg_take_same hk, if_neg fun e => he e.symm]
  exact h
end Go.Proofs.Ytghkhceplpjegaa
namespace Go.Proofs.Ytghkhceplpjegaa
open Go.RowKit

theorem orA_len (n : Int) (e : List (Int × Int)) : (orA n e).length ≤ 4096 := by
  by_cases h : orE n e = 0
  · have h1 : chkG n e = 0 := Classical.byContradiction fun q => by rw [(orE_bad q).1] at h; exact q h
    obtain ⟨N, E, rfl, rfl, hg⟩ := chkG_ok h1
    have hr : rnL N E = [] := Classical.byContradiction fun q => by rw [(orE_not hg q).1] at h; cases h
    rw [(orE_yes hg hr).2, nI_len]
    exact Nat.le_trans (orL_ko hg hr).1.len hg.n
  · unfold orA; rw [if_neg h]; simp
theorem leA_len (n : Int) (e : List (Int × Int)) : (leA n e).length ≤ 4096 := by
  by_cases h : orE n e = 0
  · have h1 : chkG n e = 0 := Classical.byContradiction fun q => by rw [(orE_bad q).1] at h; exact q h
    obtain ⟨N, E, rfl, rfl, hg⟩ := chkG_ok h1
    have hr : rnL N E = [] := Classical.byContradiction fun q => by rw [(orE_not hg q).1] at h; cases h
    rw [leA_yes hg hr]
    unfold leL
    rw [List.length_map, List.length_range]
    exact hg.n
  · rw [leA_no h]; simp
theorem sameI_yes (W' : World) (a b : Value) (L : List Int) (h1 : GS KI W' a L) (h2 : GS KI W' b L) (h3 : L.length ≤ 140737488355328) : Calls Try.prog 13 #[a, b] W' fun e w' => e = .returned (.bool true) ∧ Below W'.heap.size W' w' := by
  have := sameInts_any W' a b L L h1 h2 h3
  rw [decide_eq_true rfl] at this
  exact this
/-- A copied graph in its box beside the argument in its own. -/
structure GX (w : World) (sz q7 : Nat) (n : Int) (p p1 : Option Addr) (m c c1 : Nat) (l : List (Int × Int)) (W3 W' : World) : Prop where
  b0 : W'.cell? ⟨sz, 0, none⟩ = some (.int .i64 n) ∧ W'.cell? ⟨sz, 1, none⟩ = some (.slice p m c)
  b1 : W'.cell? ⟨q7, 0, none⟩ = some (.int .i64 n) ∧ W'.cell? ⟨q7, 1, none⟩ = some (.slice p1 m c1)
  g0 : GS KE W' (.slice p m c) l
  g1 : GS KE W' (.slice p1 m c1) l
end Go.Proofs.Ytghkhceplpjegaa
