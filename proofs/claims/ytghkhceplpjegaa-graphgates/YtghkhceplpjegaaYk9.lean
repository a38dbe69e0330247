/- Graph: heaviest, walked. -/
import Derived.Test.YtghkhceplpjegaaYc1
import Derived.Test.YtghkhceplpjegaaYk6
import Derived.Test.YtghkhceplpjegaaYf8
import Derived.Deep.RegionHeld3
namespace Go.Proofs.Ytghkhceplpjegaa
open Go.RowKit

theorem clone_any (w : World) (v : Value) (l : List Int) (hv : GS KI w v l) (hl : l.length ≤ 100000) : Calls Try.prog 62 #[v] w fun e w' => ∃ p c, e = .returned (.slice p l.length c) ∧ OwnG KI w' w.heap.size (.slice p l.length c) l ∧ Below w.heap.size w w' := by
  have hv0 := hv
  rcases hv with ⟨rfl | ⟨ad, cap, rfl⟩, hmn⟩ | ⟨X, ox, cap, rfl, _⟩
  · subst hmn
    refine (Try.slices_Clone_int_nil 0 0 w).mono ?_
    rintro e w' ⟨rfl, hw⟩
    rw [hw]
    exact ⟨none, 0, rfl, OwnG.nil _ _ _, Below.refl _ _⟩
  · subst hmn
    refine (Try.slices_Clone_int_zero ad cap w).mono ?_
    rintro e w' ⟨v', rfl, ho, _, hb⟩
    have ho2 : OwnG KI w' w.heap.size v' ([] : List Int) := ho
    obtain ⟨p, c, e, _⟩ := ho2.form
    exact ⟨p, c, by rw [e], by rw [← e]; exact ho2, hb⟩
  · have hc : ∀ j, j < l.length → w.cell? ⟨X, ox + j, none⟩ = some (.int .i64 (l.getD j 0)) := fun j hj => by
      obtain ⟨Y, o, e, h⟩ := hv0.atI hj
      injection e with e
      injection e with e1 e2 _
      subst e1 e2
      rw [h]
      simp [List.getD, hj]
    refine (Try.slices_Clone_int X ox l.length cap l w (Nat.le_refl _) (by omega) hc).mono ?_
    rintro e w' ⟨v', rfl, ho, _, hb⟩
    have ho2 : OwnG KI w' w.heap.size v' l := by
      rw [List.take_length] at ho
      unfold OwnG
      rw [KI_flat]
      exact ho
    obtain ⟨p, c, e, _⟩ := ho2.form
    exact ⟨p, c, by rw [e], by rw [← e]; exact ho2, hb⟩
end Go.Proofs.Ytghkhceplpjegaa
namespace Go.Proofs.Ytghkhceplpjegaa
open Go.RowKit Go.Shelf
attribute [local go_sem] Oper.semAt_some

theorem results_cell2 {fn : Func} {p q : Tmp} (h : fn.results = #[.cell p 25, .cell q 25]) (tmps : Array Value) (w : World) (b c : Nat) (u v : Value) (hp : tmps[p]?.getD undef = .pointer (some ⟨b, 0, none⟩)) (hq : tmps[q]?.getD undef = .pointer (some ⟨c, 0, none⟩)) (hb : w.cell? ⟨b, 0, none⟩ = some u) (hc : w.cell? ⟨c, 0, none⟩ = some v) : (results fn tmps).run Try.prog w = .ok (.tuple #[u, v]) w := by
  simp [results, h, hp, hq, asAddr, loadVar, go_sem, hb, hc]
theorem wt_map {N : Nat} {ws : List Int} (h : ws.length = N) : (List.range N).map (wtF ws) = ws := by
  apply List.ext_getElem
  · simp [h]
  · intro k h1 h2
    have hk : k < ws.length := h2
    simp [wtF, List.getD, hk]
theorem rep_map (N : Nat) (x : Int) : (List.range N).map (fun _ => x) = List.replicate N x := by simp [List.map_const']
theorem HS.drew {w W0 : World} {N : Nat} {v6 v7 : Value} {s : (Nat → Int) × (Nat → Int)} {W' : World} (h : HS w W0 N v6 v7 s W') (n : Nat) : HS w W0 N v6 v7 s (W'.drewN n) :=
  ⟨h.ge, h.fr, h.bl.trans ((drew_below W' n).mono h.bl.size), h.r6.far fun _ _ => rfl, h.r7.far fun _ _ => rfl⟩
/-- Behind heaviest's loop. -/
theorem hv_fin {w W0 : World} {N b6 b7 D : Nat} {v6 v7 : Value} {s : (Nat → Int) × (Nat → Int)} (k6 : W0.heap[b6]? = some (.cells #[v6] 25)) (k7 : W0.heap[b7]? = some (.cells #[v7] 25)) (n6 : v6.ownBlock ≠ some b6 ∧ v7.ownBlock ≠ some b6) (n7 : v6.ownBlock ≠ some b7 ∧ v7.ownBlock ≠ some b7) (hne : b6 ≠ b7) (g6 : w.heap.size ≤ b6) (g7 : w.heap.size ≤ b7) {W' : World} (hD : W0.heap.size ≤ D) (h : HS w W0 N v6 v7 s W') (hk : W'.heap[D]? = some (.deferred (some []))) :
    (W'.cell? ⟨b6, 0, none⟩ = some v6 ∧ W'.frozen? ⟨b6, 0, none⟩ = false) ∧ (W'.cell? ⟨b7, 0, none⟩ = some v7 ∧ W'.frozen? ⟨b7, 0, none⟩ = false) ∧ ((W'.setCell ⟨b6, 0, none⟩ v6).cell? ⟨b7, 0, none⟩ = some v7 ∧ (W'.setCell ⟨b6, 0, none⟩ v6).frozen? ⟨b7, 0, none⟩ = false) ∧
    ((W'.setCell ⟨b6, 0, none⟩ v6).setCell ⟨b7, 0, none⟩ v7).heap[D]? = some (.deferred (some [])) ∧ (((W'.setCell ⟨b6, 0, none⟩ v6).setCell ⟨b7, 0, none⟩ v7).putObj D (.deferred none)).cell? ⟨b6, 0, none⟩ = some v6 ∧ (((W'.setCell ⟨b6, 0, none⟩ v6).setCell ⟨b7, 0, none⟩ v7).putObj D (.deferred none)).cell? ⟨b7, 0, none⟩ = some v7 ∧
    GS KI (((W'.setCell ⟨b6, 0, none⟩ v6).setCell ⟨b7, 0, none⟩ v7).putObj D (.deferred none)) v6 ((List.range N).map s.1) ∧ GS KI (((W'.setCell ⟨b6, 0, none⟩ v6).setCell ⟨b7, 0, none⟩ v7).putObj D (.deferred none)) v7 ((List.range N).map s.2) ∧ Below w.heap.size w (((W'.setCell ⟨b6, 0, none⟩ v6).setCell ⟨b7, 0, none⟩ v7).putObj D (.deferred none)) := by
  have l6 := lt_of_heap k6
  have l7 := lt_of_heap k7
  have e6 := (h.fr b6 l6 n6.1 n6.2).trans k6
  have e7 := (h.fr b7 l7 n7.1 n7.2).trans k7
  have D6 : D ≠ b6 := by omega
  have D7 : D ≠ b7 := by omega
  have a6 : (W'.setCell ⟨b6, 0, none⟩ v6).heap[b6]? = some (.cells #[v6] 25) := heap_setCell_same W' b6 0 _ _ v6 e6
  have a7 : (W'.setCell ⟨b6, 0, none⟩ v6).heap[b7]? = some (.cells #[v7] 25) := (set_far hne.symm).trans e7
  have c6 : ((W'.setCell ⟨b6, 0, none⟩ v6).setCell ⟨b7, 0, none⟩ v7).heap[b6]? = some (.cells #[v6] 25) := (set_far hne).trans a6
  have c7 : ((W'.setCell ⟨b6, 0, none⟩ v6).setCell ⟨b7, 0, none⟩ v7).heap[b7]? = some (.cells #[v7] 25) := heap_setCell_same _ b7 0 _ _ v7 a7
  have cD : ((W'.setCell ⟨b6, 0, none⟩ v6).setCell ⟨b7, 0, none⟩ v7).heap[D]? = some (.deferred (some [])) := (set_far D7).trans ((set_far D6).trans hk)
  have own : ∀ {v : Value} {l : List Int}, OwnG KI W' w.heap.size v l → GS KI (((W'.setCell ⟨b6, 0, none⟩ v6).setCell ⟨b7, 0, none⟩ v7).putObj D (.deferred none)) v l := fun o => by
    refine OwnG.gs KI_ok.len (base := w.heap.size) (o.far fun g hg => ?_)
    obtain ⟨c9, e9⟩ := o.ty hg
    rw [World.putObj_heap_other (fun e => by rw [e, hk] at e9; cases e9), set_far (fun e => o.notat e7 (by decide) (by rw [← e]; exact hg)), set_far (fun e => o.notat e6 (by decide) (by rw [← e]; exact hg))]
  refine ⟨bx3 e6, bx3 e7, bx3 a7, cD, cell_of_row _ _ _ _ _ _ ((World.putObj_heap_other D6.symm).trans c6), cell_of_row _ _ _ _ _ _ ((World.putObj_heap_other D7.symm).trans c7), own h.r6, own h.r7, ?_⟩
  have b2 : Below w.heap.size w ((W'.setCell ⟨b6, 0, none⟩ v6).setCell ⟨b7, 0, none⟩ v7) := (h.bl.setCell (p := ⟨b6, 0, none⟩) g6 _).setCell (p := ⟨b7, 0, none⟩) g7 _
  exact ⟨b2.os, b2.tape, b2.output, Nat.le_trans b2.size (by simp), fun x hx => (World.putObj_heap_other (by omega)).trans (b2.block x hx)⟩
set_option maxRecDepth 100000 in
set_option maxHeartbeats 32000000 in
theorem heaviest_any (w : World) (N : Nat) (E : List (Nat × Nat)) (hg : GOK N E) (zb lb : Nat) (vs : List Sl) (hz : LZ w zb lb N vs (fun i => nI (nx N E i))) (q : Option Addr) (cq ob : Nat) (L : List Nat) (hL : ∀ x ∈ L, x < N) (hLl : L.length ≤ 4096) (hd : OwnG KI w ob (.slice q L.length cq) (nI L)) (u : Value) (ws : List Int) (hws : ws.length = N) (hu : GS KI w u ws) :
    Calls Try.prog 36 #[.slice (some ⟨lb, 0, none⟩) N N, .slice q L.length cq, u] w fun e w' => ∃ p c q d, e = .returned (.tuple #[.slice p N c, .slice q N d]) ∧ GS KI w' (.slice p N c) ((List.range N).map (hvF (nx N E) (wtF ws) L.reverse).1) ∧ GS KI w' (.slice q N d) ((List.range N).map (hvF (nx N E) (wtF ws) L.reverse).2) ∧ Below w.heap.size w w' := by
  have NB : N ≤ 4096 := hg.n
  obtain ⟨pu, cu, hpu⟩ := hu.form
  have HUV : Hid (u = .slice pu ws.length cu) := hpu
  rw [hpu, hws]
  generalize hW : ((w.alloc (.cells #[.slice (some ⟨lb, 0, none⟩) N N] 57)).alloc (.cells #[.slice none 0 0] 25)).alloc (.cells #[.slice none 0 0] 25) = W
  refine (callsIn_wide (n := 9)).1 ?_
  refine callsIn_of_wp_marks Try.func36 rfl trivial ?_ rfl
  refine wpIn_wide.2 ?_
  simp only [Try.ntmps36, List.size_toArray, List.length_cons, List.length_nil, Nat.reduceAdd, Nat.reduceSub, Array.replicate_succ, Array.replicate_zero, List.push_toArray, List.append_toArray, List.nil_append, List.cons_append]
  go_upto_region 1 with fail
  have BD : Hid (Below W.heap.size W W.drew) := drew_below W 1
  have AD : Hid (∀ ob, Below W.heap.size W (W.drew.alloc ob)) := fun ob => bl3 (drew_below W 1) (bal _ _)
  have BW : Hid (Below w.heap.size w W) := by rw [← hW]; exact bl3 (bl3 (bal _ _) (bal _ _)) (bal _ _)
  have SW : W.heap.size = w.heap.size + 3 := by rw [← hW, asz, asz, asz]
  obtain ⟨b3, h3⟩ : ∃ b3, b3 = w.heap.size := ⟨_, rfl⟩
  obtain ⟨b6, h6⟩ : ∃ b6, b6 = w.heap.size + 1 := ⟨_, rfl⟩
  obtain ⟨b7, h7⟩ : ∃ b7, b7 = w.heap.size + 1 + 1 := ⟨_, rfl⟩
  have K3 : W.heap[b3]? = some (.cells #[.slice (some ⟨lb, 0, none⟩) N N] 57) := by
    rw [← hW, h3]
    exact boxkeep (bal _ _) (boxkeep (bal _ _) (heap_alloc_new _ _))
  have K6 : W.heap[b6]? = some (.cells #[.slice none 0 0] 25) := by
    rw [← hW, h6]
    refine boxkeep (bal _ _) ?_
    have := heap_alloc_new (w.alloc (.cells #[.slice (some ⟨lb, 0, none⟩) N N] 57)) (.cells #[.slice none 0 0] 25)
    rw [asz] at this
    exact this
  have K7 : W.heap[b7]? = some (.cells #[.slice none 0 0] 25) := by
    rw [← hW, h7]
    have := heap_alloc_new ((w.alloc (.cells #[.slice (some ⟨lb, 0, none⟩) N N] 57)).alloc (.cells #[.slice none 0 0] 25)) (.cells #[.slice none 0 0] 25)
    rw [asz, asz] at this
    exact this
  have N67 : Hid (b6 ≠ b7) := by show _ ≠ _; omega
  have N3 : Hid (b3 ≠ b6 ∧ b3 ≠ b7) := by show _ ∧ _; omega
  have G367 : Hid (w.heap.size ≤ b3 ∧ w.heap.size ≤ b6 ∧ w.heap.size ≤ b7) := by show _ ∧ _; omega
  have LT : Hid (b3 < W.heap.size ∧ b6 < W.heap.size ∧ b7 < W.heap.size) := by show _ ∧ _; omega
  have CB : Hid (∀ W', Below W.heap.size W W' → W'.heap[b3]? = some (.cells #[.slice (some ⟨lb, 0, none⟩) N N] 57) ∧ W'.heap[b6]? = some (.cells #[.slice none 0 0] 25) ∧ W'.heap[b7]? = some (.cells #[.slice none 0 0] 25)) := fun W' hb => ⟨boxkeep hb K3, boxkeep hb K6, boxkeep hb K7⟩
  have CN := hid (fun W' (hb : Below W.heap.size W W') => (clone_any W' u ws (hu.below (bl3 BW.out hb)) (by omega)).mono (R' := fun e w' => ∃ p c, e = .returned (.slice p N c) ∧ OwnG KI w' W'.heap.size (.slice p N c) ((List.range N).map (wtF ws)) ∧ Below W'.heap.size W' w') fun e w' ⟨p, c, h1, h2, h3⟩ => ⟨p, c, by rw [h1, hws], by rw [wt_map hws, ← hws]; exact h2, h3⟩)
  rw [hpu, hws] at CN
  have RP := hid (fun W' X (t : TypeId) (h : W'.heap[X]? = some (.cells #[.int .i64 (-1)] t)) => repeat_any W' X 0 1 (-1) N (by omega) (cell_of_row _ _ _ _ _ _ h) (lt_of_heap h))
  have GW : Hid (W.heap.size ≤ W.heap.size) := Nat.le_refl _
  rw [← h7, ← h6, ← h3]
  have x3 : W.drew.cell? ⟨b3, 0, none⟩ = some (.slice (some ⟨lb, 0, none⟩) N N) := cell_of_row _ _ _ _ _ _ (CB.out _ BD.out).1
  have HZ := hid hz
  have HD := hid hd
  have HG := hid hg
  have LE : Hid (L.length ≤ 4096) := hLl
  have LL := hid hL
  clear K3 K6 K7 hW hpu HUV hws hu hz hd h3 h6 h7 SW hg hLl hL
  go_region_held3 (fun w' => w'.cell? ⟨b3, 0, none⟩ = some (.slice (some ⟨lb, 0, none⟩) N N)) (first | exact x3 | exact cell_of_row _ _ _ _ _ _ (CB.out _ (AD.out _)).1 | exact cell_of_row _ _ _ _ _ _ (CB.out _ X1.out).1 | exact cell_of_row _ _ _ _ _ _ (CB.out _ (bl3 X1.out (bal _ _))).1 | exact cell_of_row _ _ _ _ _ _ (CB.out _ X2.out).1 | exact z3a | exact z3b | go_keep) (first
    | (go_at_call 62; refine (CN.out _ (by first | exact BD.out | exact AD.out _)).mono ?_; rintro e w1 ⟨p6, c6, rfl, o6, b1⟩; have X1 : Hid (Below W.heap.size W w1) := (by first | exact bl3 BD.out b1 | exact bl3 (AD.out _) b1); have O6 := hid (o6.low (base' := W.heap.size) (by first | exact GW.out | exact BD.out.size | exact (AD.out _).size)); (first | (have n4 := newbox b1 rfl; have N4 := hid n4; clear n4) | (have n4 := newboxD b1 rfl; have N4 := hid n4; clear n4) | skip); clear o6 b1)
    | (go_at_call 46; refine (RP.out _ _ _ (by first | exact N4.out | exact heap_alloc_new _ _)).mono ?_; rintro e w2 ⟨g7, rfl, o7, b2⟩; have X2 : Hid (Below W.heap.size W w2) := (by first | exact bl3 X1.out b2 | exact bl3 (bl3 X1.out (bal _ _)) b2); have O7 := hid (o7.low (base' := W.heap.size) (by first | exact X1.out.size | exact (bl3 X1.out (bal _ _)).size)); have P6 := hid (by first | exact O6.out.below b2 | exact (O6.out.below (bal _ _)).below b2 : OwnG KI w2 W.heap.size (.slice p6 N c6) ((List.range N).map (wtF ws))); obtain ⟨y3, y6, y7⟩ := CB.out _ X2.out; have Y := hid (And.intro y3 (And.intro y6 y7)); obtain ⟨z6, f6⟩ := bx3 y6; obtain ⟨z7, f7⟩ := bx3 ((set_far N67.out.symm : (w2.setCell ⟨b6, 0, none⟩ (.slice p6 N c6)).heap[b7]? = _).trans y7); have z3a : (w2.setCell ⟨b6, 0, none⟩ (.slice p6 N c6)).cell? ⟨b3, 0, none⟩ = some (.slice (some ⟨lb, 0, none⟩) N N) := cell_of_row _ _ _ _ _ _ ((set_far N3.out.1).trans y3); have z3b : ((w2.setCell ⟨b6, 0, none⟩ (.slice p6 N c6)).setCell ⟨b7, 0, none⟩ (.slice (some ⟨g7, 0, none⟩) N N)).cell? ⟨b3, 0, none⟩ = some (.slice (some ⟨lb, 0, none⟩) N N) := cell_of_row _ _ _ _ _ _ ((set_far N3.out.2).trans ((set_far N3.out.1).trans y3)); have AP := hid (fun g (hg : (Value.slice p6 N c6).ownBlock = some g) (e : (Value.slice (some ⟨g7, 0, none⟩) N N).ownBlock = some g) => by have h1 := (o7.lt e).1; have h2 := (O6.out.lt hg).2; first | omega | (rw [asz] at h1; omega) : ∀ g, (Value.slice p6 N c6).ownBlock = some g → (Value.slice (some ⟨g7, 0, none⟩) N N).ownBlock ≠ some g); clear o7 b2 y3 y6 y7)
    | fail)
  all_goals
    obtain ⟨W9, hW9⟩ : ∃ W9, W9 = (w2.setCell ⟨b6, 0, none⟩ (.slice p6 N c6)).setCell ⟨b7, 0, none⟩ (.slice (some ⟨g7, 0, none⟩) N N) := ⟨_, rfl⟩
    rw [← hW9]
    have B9 : Below w.heap.size w W9 := by
      rw [hW9]
      exact ((bl3 BW.out X2.out).setCell (p := ⟨b6, 0, none⟩) G367.out.2.1 _).setCell (p := ⟨b7, 0, none⟩) G367.out.2.2 _
    have e3 : W9.heap[b3]? = some (.cells #[.slice (some ⟨lb, 0, none⟩) N N] 57) := by
      rw [hW9]
      exact (set_far N3.out.2).trans ((set_far N3.out.1).trans Y.out.1)
    have e6 : W9.heap[b6]? = some (.cells #[.slice p6 N c6] 25) := by
      rw [hW9]
      exact (set_far N67.out).trans (heap_setCell_same w2 b6 0 _ _ _ Y.out.2.1)
    have e7 : W9.heap[b7]? = some (.cells #[.slice (some ⟨g7, 0, none⟩) N N] 25) := by
      rw [hW9]
      exact heap_setCell_same _ b7 0 _ _ _ ((set_far N67.out.symm).trans Y.out.2.2)
    have own : ∀ {v : Value} {l : List Int}, OwnG KI w2 W.heap.size v l → OwnG KI W9 w.heap.size v l := fun o => (o.far fun g hg => by
      rw [hW9]
      exact (set_far (fun e => o.notat Y.out.2.2 (by decide) (by rw [← e]; exact hg))).trans (set_far (fun e => o.notat Y.out.2.1 (by decide) (by rw [← e]; exact hg)))).low BW.out.size
    have r6 := own P6.out
    have r7 := own O7.out
    rw [← rep_map] at r7
    obtain ⟨W0, hW0⟩ : ∃ W0, W0 = W9.alloc (.cells #[.slice q L.length cq] 25) := ⟨_, rfl⟩
    have B0 : Below W9.heap.size W9 W0 := by rw [hW0]; exact bal _ _
    have H0 : Hid (HS w W0 N (.slice p6 N c6) (.slice (some ⟨g7, 0, none⟩) N N) (wtF ws, fun _ => -1) W0) := ⟨Nat.le_refl _, fun _ _ _ _ => rfl, bl3 B9 B0, r6.below B0, r7.below B0⟩
    have K3 := hid (boxkeep B0 e3)
    have K6 := hid (boxkeep B0 e6)
    have K7 := hid (boxkeep B0 e7)
    have KB := hid (by rw [hW0]; exact heap_alloc_new _ _ : W0.heap[W9.heap.size]? = some (.cells #[.slice q L.length cq] 25))
    have WW : Hid (w.heap.size ≤ W0.heap.size) := H0.out.bl.size
    have N6 := hid (And.intro (H0.out.r6.notat K6.out (by decide)) (H0.out.r7.notat K6.out (by decide)))
    have N7 := hid (And.intro (H0.out.r6.notat K7.out (by decide)) (H0.out.r7.notat K7.out (by decide)))
    have W0h := hid hW0
    clear e3 e6 e7 own r6 r7 B9 B0 hW9 z3a z3b z6 z7 f6 f7 Y O6 O7 P6 X1 X2 CN RP CB AD BD x3 hW0
    go_wp2_with (go_at_call 47; refine (callsIn_wide.1 (backward_in Fence.wide 9 trivial rfl _ _ _ _)).mono ?_; rintro e w' ⟨rfl, rfl⟩)
    rw [← W0h.out]
    obtain ⟨Bs, hBs⟩ : ∃ Bs, Bs = W9.heap.size := ⟨_, rfl⟩
    rw [← hBs] at KB ⊢
    clear W0h hBs
    refine hv_loop (L := L) HG.out LL.out LE.out H0.out AP.out HZ.out K3.out K6.out K7.out KB.out HD.out WW.out _ ?_
    intro D W' hD hS hK
    have FN := hid (hv_fin K6.out K7.out N6.out N7.out N67.out G367.out.2.1 G367.out.2.2 hD (hS.drew 1) hK)
    have m1 : W'.drew.cell? ⟨b6, 0, none⟩ = some (.slice p6 N c6) := FN.out.1.1
    have m2 : W'.drew.frozen? ⟨b6, 0, none⟩ = false := FN.out.1.2
    have m3 : W'.drew.cell? ⟨b7, 0, none⟩ = some (.slice (some ⟨g7, 0, none⟩) N N) := FN.out.2.1.1
    have m4 : W'.drew.frozen? ⟨b7, 0, none⟩ = false := FN.out.2.1.2
    have m5 : (W'.drew.setCell ⟨b6, 0, none⟩ (.slice p6 N c6)).cell? ⟨b7, 0, none⟩ = some (.slice (some ⟨g7, 0, none⟩) N N) := FN.out.2.2.1.1
    have m6 : (W'.drew.setCell ⟨b6, 0, none⟩ (.slice p6 N c6)).frozen? ⟨b7, 0, none⟩ = false := FN.out.2.2.1.2
    have n1 : W'.cell? ⟨b6, 0, none⟩ = some (.slice p6 N c6) := m1
    have n2 : W'.frozen? ⟨b6, 0, none⟩ = false := m2
    have n4 : W'.frozen? ⟨b7, 0, none⟩ = false := m4
    have n5 : (W'.setCell ⟨b6, 0, none⟩ (.slice p6 N c6)).cell? ⟨b7, 0, none⟩ = some (.slice (some ⟨g7, 0, none⟩) N N) := m5
    have n3 : W'.cell? ⟨b7, 0, none⟩ = some (.slice (some ⟨g7, 0, none⟩) N N) := m3
    clear hS hK H0 HZ HD LL LE K3 K6 K7 KB
    go_wp2_with fail
    go_region
    all_goals
      go_wp2_with fail
      refine ⟨by simp, .inl ⟨_, _, rfl, run_takeDeferred FN.out.2.2.2.1, ?_⟩⟩
      exact ⟨_, results_cell2 rfl _ _ b6 b7 _ _ rfl rfl FN.out.2.2.2.2.1 FN.out.2.2.2.2.2.1, p6, c6, some ⟨g7, 0, none⟩, N, rfl, FN.out.2.2.2.2.2.2.1, FN.out.2.2.2.2.2.2.2.1, FN.out.2.2.2.2.2.2.2.2⟩
end Go.Proofs.Ytghkhceplpjegaa
