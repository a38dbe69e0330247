/- Failures: rows of failures; a failure written over. -/
import Derived.Test.YtaleagkhblokgaaDoorFx10
namespace Go.Proofs.YtaleagkhblokgaaDoor
open Go.RowKit

theorem CS.blk {w w' : World} {v : Value} {l : List Cr} (h : CS w v l) (hs : w.heap.size ≤ w'.heap.size) (k : ∀ x, v.ownBlock = some x → x < w.heap.size → w'.heap[x]? = w.heap[x]?) : CS w' v l := by
  rcases h with h | ⟨X, o, cap, rfl, hX, hcp, hc⟩
  · exact Or.inl h
  · have kb : w'.heap[X]? = w.heap[X]? := k X rfl hX
    refine Or.inr ⟨X, o, cap, rfl, by omega, hcp, fun i hi => ?_⟩
    obtain ⟨c1, c2, c3⟩ := hc i hi
    exact ⟨(World.cell?_of_block (w := w) (a := ⟨X, _, none⟩) kb).trans c1, (World.cell?_of_block (w := w) (a := ⟨X, _, none⟩) kb).trans c2, (World.cell?_of_block (w := w) (a := ⟨X, _, none⟩) kb).trans c3⟩
/-- The slice reads as these failures. -/
def FS (w : World) (v : Value) (ll : List (List Cr)) : Prop := ∃ p cap, v = .slice p ll.length cap ∧ ll.length ≤ cap ∧ ∀ k (h : k < ll.length), ∃ X o u, p = some ⟨X, o, none⟩ ∧ X < w.heap.size ∧ w.cell? ⟨X, o + k, none⟩ = some u ∧ CS w u ll[k]
theorem FS.form {w : World} {v : Value} {ll : List (List Cr)} (h : FS w v ll) : ∃ p cap, v = .slice p ll.length cap := by
  obtain ⟨p, cap, rfl, _⟩ := h; exact ⟨p, cap, rfl⟩
theorem FS.below {w w' : World} {v : Value} {ll : List (List Cr)} (h : FS w v ll) (b : Below w.heap.size w w') : FS w' v ll := by
  obtain ⟨p, cap, rfl, hcp, h⟩ := h
  refine ⟨p, cap, rfl, hcp, fun k hk => ?_⟩
  obtain ⟨X, o, u, e, hX, hc, hs⟩ := h k hk
  exact ⟨X, o, u, e, Nat.lt_of_lt_of_le hX b.size, (b.cell (p := ⟨X, o + k, none⟩) hX).trans hc, hs.below b⟩
theorem FS.at {w : World} {p : Option Addr} {n cap : Nat} {ll : List (List Cr)} (h : FS w (.slice p n cap) ll) {k : Nat} (hk : k < ll.length) : ∃ X o pu cu, p = some ⟨X, o, none⟩ ∧ X < w.heap.size ∧ w.cell? ⟨X, o + k, none⟩ = some (.slice pu ll[k].length cu) ∧ CS w (.slice pu ll[k].length cu) ll[k] := by
  obtain ⟨p', cap', e, _, h⟩ := h
  injection e with e1 _ _
  subst e1
  obtain ⟨X, o, u, e, hX, hc, hs⟩ := h k hk
  obtain ⟨pu, cu, rfl⟩ := hs.form
  exact ⟨X, o, pu, cu, e, hX, hc, hs⟩
theorem info_fl : (Tryd.prog.info? 23).map (fun i => (i.zero, i.size, i.bytes)) = some (some (.slice none 0 0), 1, 24) := by kernel_rfl
/-- The slice owns a row of these slices. -/
def OwnS (w : World) (base : Nat) (v : Value) (us : List Value) : Prop := w.ownsRow base 23 1 v us.length us
theorem OwnS.far {w w' : World} {base : Nat} {v : Value} {l : List Value} (h : OwnS w base v l) (k : ∀ g, v.ownBlock = some g → w'.heap[g]? = w.heap[g]?) : OwnS w' base v l := by
  obtain ⟨h1, h2⟩ := h
  refine ⟨h1, ?_⟩
  rcases h2 with h2 | ⟨g, cap, cur, e1, e2, e3, e4⟩
  · exact Or.inl h2
  · exact Or.inr ⟨g, cap, cur, e1, e2, by rw [k g (by rw [e1]; rfl)]; exact e3, e4⟩
theorem OwnS.below {w : World} {base : Nat} {v : Value} {l : List Value} (h : OwnS w base v l) {w' : World} (k : Below w.heap.size w w') : OwnS w' base v l :=
  h.far (fun g hg => k.block g (World.ownsRow.lt h g hg).2)
theorem OwnS.low {w : World} {base base' : Nat} {v : Value} {l : List Value} (h : OwnS w base v l) (hb : base' ≤ base) : OwnS w base' v l := by
  obtain ⟨h1, h2⟩ := h
  refine ⟨h1, ?_⟩
  rcases h2 with h2 | ⟨g, cap, cur, e1, e2, e3⟩
  · exact Or.inl h2
  · exact Or.inr ⟨g, cap, cur, e1, Nat.le_trans hb e2, e3⟩
theorem ownS_empty (w : World) : OwnS (w.alloc (.cells #[] 23)) w.heap.size (.slice (some ⟨w.heap.size, 0, none⟩) 0 0) [] :=
  ⟨rfl, Or.inr ⟨w.heap.size, 0, #[], rfl, Nat.le_refl _, heap_alloc_new w _, Nat.le_refl _, Nat.zero_le _, rfl, rfl⟩⟩
theorem OwnS.form {w : World} {base : Nat} {v : Value} {l : List Value} (h : OwnS w base v l) : ∃ p cap, v = .slice p l.length cap ∧ l.length ≤ cap := by
  rcases h.2 with ⟨e, e2⟩ | ⟨g, cap, cur, e, _, _, hcp, _⟩
  · exact ⟨none, 0, by rw [e2]; exact e, by omega⟩
  · exact ⟨_, cap, e, hcp⟩
/-- A row whose members read as failures is a row of these failures. -/
theorem OwnS.fs {w : World} {base : Nat} {v : Value} {us : List Value} {ll : List (List Cr)} (h : OwnS w base v us) (hl : us.length = ll.length) (hc : ∀ k (h1 : k < us.length) (h2 : k < ll.length), CS w us[k] ll[k]) : FS w v ll := by
  have h0 := h
  rcases h.2 with ⟨e, e2⟩ | ⟨g, cap, cur, e, _, _, hcp, _⟩
  · refine ⟨none, 0, by rw [← hl, e2]; exact e, by omega, fun k hk => by omega⟩
  · subst e
    refine ⟨_, cap, by rw [hl], by omega, fun k hk => ⟨g, 0, us[k], rfl, (World.ownsRow.lt h0 g rfl).2, ?_, hc k (by omega) hk⟩⟩
    rw [Nat.zero_add]
    exact (World.ownsRow.cellAt h0 k (by omega)).trans (List.getElem?_eq_getElem (by omega))
theorem append_sv {P : Program} {ops : Array Oper} {rest : List Oper} {o : Oper} {a : Act} {Q : Exit → Act → World → Prop} (hgd : o.guard = none) (s x : Operand) (t : TypeId)
    (ho : o.op = .call { callee := .builtin .append, args := #[s, x], argTypes := #[t, t] })
    (base : Nat) (ht : P.underlying t = some (.slice 23)) (hi : (P.info? 23).map (fun i => (i.zero, i.size, i.bytes)) = some (some (.slice none 0 0), 1, 24))
    (w0 : World) (cells : Array Value) (tc : TypeId) (v : Value) (l : List Value) (pu : Option Addr) (nu cu : Nat) (c : Nat) (hs : a.eval s = v) (hown : OwnS w0 base v l) (b : Nat) (hb : w0.heap.size = b)
    (hx : a.eval x = .slice (some ⟨b, 0, none⟩) 1 c) (hc : cells.toList = [.slice pu nu cu])
    (hlen : (l.length + 1) * 24 ≤ 140737488355328) (hbase : base ≤ w0.heap.size)
    (h : ∀ g cap w', OwnS w' base (.slice (some ⟨g, 0, none⟩) (l.length + 1) cap) (l ++ [.slice pu nu cu]) → Below base w0 w' → (∀ k, k < w0.heap.size → some k ≠ v.ownBlock → w'.heap[k]? = w0.heap[k]?) → (v.ownBlock = some g ∨ w0.heap.size ≤ g) → wpList P ops Q rest (a.put o.dst (.slice (some ⟨g, 0, none⟩) (l.length + 1) cap)) w') : wpList P ops Q (o :: rest) a (w0.alloc (.cells cells tc)) := by
  subst hb
  obtain ⟨i0, hi0, hz0, hz1, hz2⟩ := info_parts hi
  have hown2 : (w0.alloc (.cells cells tc)).ownsRow base 23 1 v l.length l := World.ownsRow.alloc hown _
  have one : ∀ u ∈ [Value.slice pu nu cu], u.oneCell' = true := fun u hu => by simp at hu; subst hu; rfl
  refine wpList_append_lies _ hgd s x t ho base 23 i0 (.slice none 0 0) 1 24 ht hi0 hz0 hz1 hz2 rfl (by decide) v l.length l hs hown2 ⟨w0.heap.size, 0, none⟩ 1 c [.slice pu nu cu] hx rfl (news_at w0 cells tc _ hc) one
    (by decide) (by unfold maxLen; omega) (by omega) (by simp; omega) _ rfl ?_
  intro g cap w' ho' hg hgg _
  have hgb : Below base w0 w' := ((Below.refl base w0).alloc hbase _).grown hg (by simp; omega) (fun q hq => (hown2.lt q hq).1)
  refine h g cap w' ?_ hgb ?_ ?_
  · unfold OwnS
    rw [List.length_append]
    simpa using ho'
  · intro k hk hne
    rw [hg.block k (by simp; omega) hne]
    exact Below.heap_alloc w0 _ k hk
  · rcases hgg with hgg | hgg
    · exact Or.inl hgg
    · right; rw [hgg]; simp
/-- A block of n cracks. -/
def RB (w : World) (g n : Nat) : Prop := ∃ cur, w.heap[g]? = some (.cells cur 55) ∧ cur.size = n * 3
theorem RB.cell {w : World} {g n : Nat} (h : RB w g n) {o : Nat} (ho : o < n * 3) : ∃ v, w.cell? ⟨g, o, none⟩ = some v := by
  obtain ⟨cur, h1, h2⟩ := h
  exact ⟨cur[o]'(by omega), cell_of_row _ _ _ _ _ _ h1 |>.trans (by simp [h2, ho])⟩
theorem RB.frozen {w : World} {g n : Nat} (h : RB w g n) (o : Nat) : w.frozen? ⟨g, o, none⟩ = false := by
  obtain ⟨cur, h1, h2⟩ := h
  simp [World.frozen?, h1]
theorem RB.set {w : World} {g n : Nat} (h : RB w g n) (o : Nat) (v : Value) : RB (w.setCell ⟨g, o, none⟩ v) g n := by
  obtain ⟨cur, h1, h2⟩ := h
  exact ⟨cur.setIfInBounds o v, heap_setCell_same w g o cur _ v h1, by simpa using h2⟩
/-- All but one block as it was. -/
structure KB (g : Option Nat) (a b : World) : Prop where
  os : b.os = a.os
  tape : b.tape = a.tape
  output : b.output = a.output
  size : b.heap.size = a.heap.size
  block : ∀ j, some j ≠ g → b.heap[j]? = a.heap[j]?
theorem KB.refl (g : Option Nat) (a : World) : KB g a a := ⟨rfl, rfl, rfl, rfl, fun _ _ => rfl⟩
theorem KB.set {g : Nat} {a b : World} (h : KB (some g) a b) (o : Nat) (v : Value) : KB (some g) a (b.setCell ⟨g, o, none⟩ v) :=
  ⟨h.os, h.tape, h.output, by simpa [World.setCell] using h.size, fun j hj => (Below.heap_setCell _ _ _ _ (fun e => hj (by rw [e]))).trans (h.block j hj)⟩
theorem KB.below {g : Option Nat} {a b : World} (h : KB g a b) {N : Nat} (hN : ∀ x, g = some x → N ≤ x) : Below N a b :=
  ⟨h.os, h.tape, h.output, by rw [h.size]; exact Nat.le_refl _, fun j hj => h.block j (fun e => by have := hN j e.symm; omega)⟩
theorem KB.trans {g : Option Nat} {a b c : World} (h : KB g a b) (k : KB g b c) : KB g a c :=
  ⟨k.os.trans h.os, k.tape.trans h.tape, k.output.trans h.output, k.size.trans h.size, fun j hj => (k.block j hj).trans (h.block j hj)⟩
set_option maxHeartbeats 4000000 in
set_option maxRecDepth 100000 in
theorem spoil_own (w : World) (base : Nat) (v : Value) (l : List Cr) (h : OwnC w base v l) :
    Calls Tryd.prog 16 #[v] w fun e w' => e = .returned (.tuple #[]) ∧ KB v.ownBlock w w' := by
  rcases h.2 with ⟨rfl, e⟩ | ⟨g, cap, cur, rfl, hb, hg, hcp, hmx, hcs, _⟩
  · clear h
    go_enter Tryd.func16, Tryd.ntmps16
    go_wp2
    go_loop [2] (fun a => a = .int .i64 0) (fun _ => 0)
    case atStart => exact rfl
    case round =>
      obtain rfl := hrel
      go_wp2
      go_end0
      exact ⟨rfl, KB.refl _ _⟩
  · have R0 : Hid (RB w g cap) := ⟨cur, hg, hcs⟩
    have hmx2 : cap ≤ 9223372036854775807 := by unfold maxLen at hmx; omega
    clear h hg hcs hmx
    go_enter Tryd.func16, Tryd.ntmps16
    go_wp2
    go_loopw [2] (fun v2 wr => ∃ (k : Nat) (wk : World), v2 = .int .i64 k ∧ wk = wr ∧ k ≤ cap ∧ Hid (RB wk g cap) ∧ Hid (KB (some g) w wk)) (fun v2 _ => cap - (intOf v2).toNat)
    case atStart => exact ⟨0, _, rfl, rfl, Nat.zero_le _, R0, KB.refl _ _⟩
    case round =>
      obtain ⟨k, wr, rfl, rfl, hk, HR, HK⟩ := hrel
      clear R0
      by_cases hlt : k < cap
      · obtain ⟨z0, hz0⟩ := HR.out.cell (o := k * 3) (by omega)
        obtain ⟨z1, hz1⟩ := HR.out.cell (o := k * 3 + 1) (by omega)
        obtain ⟨z2, hz2⟩ := HR.out.cell (o := k * 3 + 2) (by omega)
        have f0 := HR.out.frozen (k * 3)
        have f1 := HR.out.frozen (k * 3 + 1)
        have f2 := HR.out.frozen (k * 3 + 2)
        have hz1' : ∀ v, (wr.setCell ⟨g, k * 3, none⟩ v).cell? ⟨g, k * 3 + 1, none⟩ = some z1 := fun v => (World.cell?_setCell_other _ _ _ _ (by intro e; injection e with _ e2 _; omega)).trans hz1
        have hz2' : ∀ v u, ((wr.setCell ⟨g, k * 3, none⟩ v).setCell ⟨g, k * 3 + 1, none⟩ u).cell? ⟨g, k * 3 + 2, none⟩ = some z2 := fun v u => (World.cell?_setCell_other _ _ _ _ (by intro e; injection e with _ e2 _; omega)).trans ((World.cell?_setCell_other _ _ _ _ (by intro e; injection e with _ e2 _; omega)).trans hz2)
        have f1' : ∀ v, (wr.setCell ⟨g, k * 3, none⟩ v).frozen? ⟨g, k * 3 + 1, none⟩ = false := fun v => (HR.out.set _ v).frozen _
        have f2' : ∀ v u, ((wr.setCell ⟨g, k * 3, none⟩ v).setCell ⟨g, k * 3 + 1, none⟩ u).frozen? ⟨g, k * 3 + 2, none⟩ = false := fun v u => ((HR.out.set _ v).set _ u).frozen _
        have NX : Hid (∀ x y z, RB (((wr.setCell ⟨g, k * 3, none⟩ x).setCell ⟨g, k * 3 + 1, none⟩ y).setCell ⟨g, k * 3 + 2, none⟩ z) g cap ∧ KB (some g) w (((wr.setCell ⟨g, k * 3, none⟩ x).setCell ⟨g, k * 3 + 1, none⟩ y).setCell ⟨g, k * 3 + 2, none⟩ z)) := fun x y z => ⟨((HR.out.set _ x).set _ y).set _ z, ((HK.out.set _ x).set _ y).set _ z⟩
        go_wp2
        go_roundw
        case rel => exact ⟨k + 1, _, by go_num, rfl, by omega, (NX.out _ _ _).1, (NX.out _ _ _).2⟩
        case measure => simp [intOf]; omega
      · go_wp2
        go_end0
        exact ⟨rfl, HK.out⟩
end Go.Proofs.YtaleagkhblokgaaDoor
