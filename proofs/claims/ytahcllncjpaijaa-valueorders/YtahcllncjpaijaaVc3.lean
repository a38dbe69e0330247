/- Values: an answer written over; numbers and texts as values; checkAll, first. -/
import Derived.Test.YtahcllncjpaijaaVc2
namespace Go.Proofs.Ytahcllncjpaijaa
open Go.RowKit

/-- A block of N cells of atoms. -/
def AB (w : World) (g N : Nat) : Prop := ∃ cur, w.heap[g]? = some (.cells cur 45) ∧ cur.size = N
theorem AB.cell {w : World} {g N : Nat} (h : AB w g N) {o : Nat} (ho : o < N) : ∃ v, w.cell? ⟨g, o, none⟩ = some v := by
  obtain ⟨cur, h1, h2⟩ := h
  exact ⟨cur[o]'(by omega), cell_of_row _ _ _ _ _ _ h1 |>.trans (by simp [h2, ho])⟩
theorem AB.frozen {w : World} {g N : Nat} (h : AB w g N) (o : Nat) : w.frozen? ⟨g, o, none⟩ = false := by
  obtain ⟨cur, h1, h2⟩ := h
  simp [World.frozen?, h1]
theorem AB.set {w : World} {g N : Nat} (h : AB w g N) (o : Nat) (v : Value) : AB (w.setCell ⟨g, o, none⟩ v) g N := by
  obtain ⟨cur, h1, h2⟩ := h
  exact ⟨cur.setIfInBounds o v, heap_setCell_same w g o cur _ v h1, by simpa using h2⟩
/-- All but one block as it was. -/
structure KB (g : Option Nat) (a b : World) : Prop where
  os : b.os = a.os
  tape : b.tape = a.tape
  output : b.output = a.output
  size : b.heap.size = a.heap.size
  block : ∀ j, some j ≠ g → b.heap[j]? = a.heap[j]?
theorem KB.refl (g : Option Nat) (a : World) : KB g a a := ⟨rfl, rfl, rfl, rfl, fun _ _ => rfl⟩
theorem KB.set {g : Nat} {a b : World} (h : KB (some g) a b) (o : Nat) (v : Value) : KB (some g) a (b.setCell ⟨g, o, none⟩ v) :=
  ⟨h.os, h.tape, h.output, by simpa [World.setCell] using h.size, fun j hj => (Below.heap_setCell _ _ _ _ (fun e => hj (by rw [e]))).trans (h.block j hj)⟩
theorem KB.below {g : Option Nat} {a b : World} (h : KB g a b) {N : Nat} (hN : ∀ x, g = some x → N ≤ x) : Below N a b :=
  ⟨h.os, h.tape, h.output, by rw [h.size]; exact Nat.le_refl _, fun j hj => h.block j (fun e => by have := hN j e.symm; omega)⟩
/-- What may be written over: a slice of a block of atoms that lies behind a place. -/
def SPV (w : World) (base : Nat) (v : Value) : Prop := v = .slice none 0 0 ∨ ∃ g o n cap N, v = .slice (some ⟨g, o, none⟩) n cap ∧ base ≤ g ∧ AB w g N ∧ o + cap * 4 ≤ N ∧ cap ≤ 9223372036854775807 ∧ n ≤ cap
theorem SPV.own {w : World} {base : Nat} {v : Value} {l : List Atm} (h : OwnG KA w base v l) : SPV w base v := by
  rcases h.2 with ⟨e, e2⟩ | ⟨g, cap, cur, e, hb, hg, hcp, hmx, hcs, _⟩
  · exact Or.inl e
  · have e3 : cap * KA.W = cap * 4 := rfl
    unfold maxLen at hmx
    exact Or.inr ⟨g, 0, _, cap, cur.size, e, hb, ⟨cur, hg, rfl⟩, by omega, by omega, hcp⟩
theorem SPV.far {w w' : World} {base : Nat} {v : Value} (h : SPV w base v) (k : ∀ g, v.ownBlock = some g → w'.heap[g]? = w.heap[g]?) : SPV w' base v := by
  rcases h with h | ⟨g, o, n, cap, N, rfl, hb, ⟨cur, h1, h2⟩, h3⟩
  · exact Or.inl h
  · exact Or.inr ⟨g, o, n, cap, N, rfl, hb, ⟨cur, (k g rfl).trans h1, h2⟩, h3⟩
theorem SPV.apart {α : Type} {K : RK α} (hne : K.ty ≠ 45) {w : World} {base b : Nat} {u v : Value} {l : List α} (h : SPV w base u) (ho : OwnG K w b v l) {g : Nat} (hg : v.ownBlock = some g) : some g ≠ u.ownBlock := by
  rcases h with rfl | ⟨g', o, n, cap, N, rfl, _, ⟨cur, h1, _⟩, _⟩
  · intro e; cases e
  · intro e
    have e : g = g' := by simpa [Value.ownBlock] using e
    subst e
    rcases ho.2 with ⟨e, _⟩ | ⟨g1, cap1, cur1, e1, _, e3, _⟩
    · rw [e] at hg; cases hg
    · rw [e1] at hg
      have e4 : g1 = g := by simpa [Value.ownBlock] using hg
      subst e4
      rw [h1] at e3
      injection e3 with e3
      injection e3 with _ e3
      exact hne e3.symm
theorem SPV.low {w : World} {base base' : Nat} {v : Value} (h : SPV w base v) (hb' : base' ≤ base) : SPV w base' v := by
  rcases h with h | ⟨g, o, n, cap, N, rfl, hb, h3⟩
  · exact Or.inl h
  · exact Or.inr ⟨g, o, n, cap, N, rfl, by omega, h3⟩
set_option maxHeartbeats 4000000 in
set_option maxRecDepth 100000 in
theorem spoil_any (w : World) (base : Nat) (v : Value) (h : SPV w base v) :
    Calls Try.prog 13 #[v] w fun e w' => e = .returned (.tuple #[]) ∧ Below base w w' ∧ (∀ j, some j ≠ v.ownBlock → w'.heap[j]? = w.heap[j]?) ∧ ∀ b u, SPV w b u → SPV w' b u := by
  rcases h with rfl | ⟨g, o, n, cap, N, rfl, hb, hab, ho, hcm, hnc⟩
  · go_enter Try.func13, Try.ntmps13
    go_wp2
    go_loop [2] (fun a => a = .int .i64 0) (fun _ => 0)
    case atStart => exact rfl
    case round =>
      obtain rfl := hrel
      go_wp2
      go_end0
      exact ⟨rfl, Below.refl _ _, fun _ _ => rfl, fun b u h => h⟩
  · have R0 : Hid (AB w g N) := hab
    have FIN : Hid (∀ wk, AB wk g N → KB (some g) w wk → Below base w wk ∧ (∀ j, some j ≠ some g → wk.heap[j]? = w.heap[j]?) ∧ ∀ b u, SPV w b u → SPV wk b u) := fun wk h1 h2 => by
      refine ⟨h2.below (fun x hx => by injection hx with hx; omega), h2.block, fun b u hu => ?_⟩
      rcases hu with hu | ⟨g', o', n', cap', N', rfl, hb', hab', h3⟩
      · exact Or.inl hu
      · by_cases e : g' = g
        · subst e
          obtain ⟨c1, a1, a2⟩ := hab'
          obtain ⟨c2, b1, b2⟩ := hab
          rw [a1] at b1
          injection b1 with b1
          injection b1 with b1 _
          subst b1
          exact Or.inr ⟨g', o', n', cap', N, rfl, hb', h1, by omega, h3.2⟩
        · exact Or.inr ⟨g', o', n', cap', N', rfl, hb', (by obtain ⟨c, a1, a2⟩ := hab'; exact ⟨c, (h2.block g' (fun q => e (by injection q))).trans a1, a2⟩), h3⟩
    clear hab hb
    go_enter Try.func13, Try.ntmps13
    go_wp2
    go_loopw [2] (fun v2 wr => ∃ (k : Nat) (wk : World), v2 = .int .i64 k ∧ wk = wr ∧ k ≤ cap ∧ Hid (AB wk g N) ∧ Hid (KB (some g) w wk)) (fun v2 _ => cap - (intOf v2).toNat)
    case atStart => exact ⟨0, _, rfl, rfl, Nat.zero_le _, R0, KB.refl _ _⟩
    case round =>
      obtain ⟨k, wr, rfl, rfl, hk, HR, HK⟩ := hrel
      clear R0
      by_cases hlt : k < cap
      · obtain ⟨z0, hz0⟩ := HR.out.cell (o := o + k * 4) (by omega)
        obtain ⟨z1, hz1⟩ := HR.out.cell (o := o + k * 4 + 1) (by omega)
        obtain ⟨z2, hz2⟩ := HR.out.cell (o := o + k * 4 + 2) (by omega)
        obtain ⟨z3, hz3⟩ := HR.out.cell (o := o + k * 4 + 3) (by omega)
        have f0 := HR.out.frozen (o + k * 4)
        have f1 := HR.out.frozen (o + k * 4 + 1)
        have f2 := HR.out.frozen (o + k * 4 + 2)
        have f3 := HR.out.frozen (o + k * 4 + 3)
        have hz1' : ∀ v, (wr.setCell ⟨g, o + k * 4, none⟩ v).cell? ⟨g, o + k * 4 + 1, none⟩ = some z1 := fun v => (World.cell?_setCell_other _ _ _ _ (by intro e; injection e with _ e2 _; omega)).trans hz1
        have hz2' : ∀ v u, ((wr.setCell ⟨g, o + k * 4, none⟩ v).setCell ⟨g, o + k * 4 + 1, none⟩ u).cell? ⟨g, o + k * 4 + 2, none⟩ = some z2 := fun v u => (World.cell?_setCell_other _ _ _ _ (by intro e; injection e with _ e2 _; omega)).trans ((World.cell?_setCell_other _ _ _ _ (by intro e; injection e with _ e2 _; omega)).trans hz2)
        have hz3' : ∀ v u x, (((wr.setCell ⟨g, o + k * 4, none⟩ v).setCell ⟨g, o + k * 4 + 1, none⟩ u).setCell ⟨g, o + k * 4 + 2, none⟩ x).cell? ⟨g, o + k * 4 + 3, none⟩ = some z3 := fun v u x => (World.cell?_setCell_other _ _ _ _ (by intro e; injection e with _ e2 _; omega)).trans ((World.cell?_setCell_other _ _ _ _ (by intro e; injection e with _ e2 _; omega)).trans ((World.cell?_setCell_other _ _ _ _ (by intro e; injection e with _ e2 _; omega)).trans hz3))
        have f1' : ∀ v, (wr.setCell ⟨g, o + k * 4, none⟩ v).frozen? ⟨g, o + k * 4 + 1, none⟩ = false := fun v => (HR.out.set _ v).frozen _
        have f2' : ∀ v u, ((wr.setCell ⟨g, o + k * 4, none⟩ v).setCell ⟨g, o + k * 4 + 1, none⟩ u).frozen? ⟨g, o + k * 4 + 2, none⟩ = false := fun v u => ((HR.out.set _ v).set _ u).frozen _
        have f3' : ∀ v u x, (((wr.setCell ⟨g, o + k * 4, none⟩ v).setCell ⟨g, o + k * 4 + 1, none⟩ u).setCell ⟨g, o + k * 4 + 2, none⟩ x).frozen? ⟨g, o + k * 4 + 3, none⟩ = false := fun v u x => (((HR.out.set _ v).set _ u).set _ x).frozen _
        have NX : Hid (∀ x y z t, AB ((((wr.setCell ⟨g, o + k * 4, none⟩ x).setCell ⟨g, o + k * 4 + 1, none⟩ y).setCell ⟨g, o + k * 4 + 2, none⟩ z).setCell ⟨g, o + k * 4 + 3, none⟩ t) g N ∧ KB (some g) w ((((wr.setCell ⟨g, o + k * 4, none⟩ x).setCell ⟨g, o + k * 4 + 1, none⟩ y).setCell ⟨g, o + k * 4 + 2, none⟩ z).setCell ⟨g, o + k * 4 + 3, none⟩ t)) := fun x y z t => ⟨(((HR.out.set _ x).set _ y).set _ z).set _ t, (((HK.out.set _ x).set _ y).set _ z).set _ t⟩
        go_wp2
        go_roundw
        case rel => exact ⟨k + 1, _, by go_num, rfl, by omega, (NX.out _ _ _ _).1, (NX.out _ _ _ _).2⟩
        case measure => simp [intOf]; omega
      · go_wp2
        go_end0
        exact ⟨rfl, FIN.out _ HR.out HK.out⟩
end Go.Proofs.Ytahcllncjpaijaa
