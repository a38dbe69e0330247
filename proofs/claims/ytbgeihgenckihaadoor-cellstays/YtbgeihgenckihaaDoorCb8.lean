/- Cells: Told. -/
import Derived.Test.YtbgeihgenckihaaDoorCb6
namespace Go.Proofs.YtbgeihgenckihaaDoor
open Go.RowKit

theorem set5 {w : World} {b : Nat} {a0 a1 a2 a3 a4 : Value} {T : TypeId} (hp : w.heap[b]? = some (.cells #[a0, a1, a2, a3, a4] T)) (x0 x1 x2 x3 x4 : Value) :
    (((((w.setCell ⟨b, 0, none⟩ x0).setCell ⟨b, 1, none⟩ x1).setCell ⟨b, 2, none⟩ x2).setCell ⟨b, 3, none⟩ x3).setCell ⟨b, 4, none⟩ x4).cell? ⟨b, 0, none⟩ = some x0 ∧ (((((w.setCell ⟨b, 0, none⟩ x0).setCell ⟨b, 1, none⟩ x1).setCell ⟨b, 2, none⟩ x2).setCell ⟨b, 3, none⟩ x3).setCell ⟨b, 4, none⟩ x4).cell? ⟨b, 1, none⟩ = some x1 ∧ (((((w.setCell ⟨b, 0, none⟩ x0).setCell ⟨b, 1, none⟩ x1).setCell ⟨b, 2, none⟩ x2).setCell ⟨b, 3, none⟩ x3).setCell ⟨b, 4, none⟩ x4).cell? ⟨b, 2, none⟩ = some x2 ∧ (((((w.setCell ⟨b, 0, none⟩ x0).setCell ⟨b, 1, none⟩ x1).setCell ⟨b, 2, none⟩ x2).setCell ⟨b, 3, none⟩ x3).setCell ⟨b, 4, none⟩ x4).cell? ⟨b, 3, none⟩ = some x3 ∧ (((((w.setCell ⟨b, 0, none⟩ x0).setCell ⟨b, 1, none⟩ x1).setCell ⟨b, 2, none⟩ x2).setCell ⟨b, 3, none⟩ x3).setCell ⟨b, 4, none⟩ x4).cell? ⟨b, 4, none⟩ = some x4 := by
  have h3 := heap_setCell_same _ b 4 _ _ x4 (heap_setCell_same _ b 3 _ _ x3 (heap_setCell_same _ b 2 _ _ x2 (heap_setCell_same _ b 1 _ _ x1 (heap_setCell_same _ b 0 _ _ x0 hp))))
  exact ⟨cell_of_row _ _ _ _ _ _ h3, cell_of_row _ _ _ _ _ _ h3, cell_of_row _ _ _ _ _ _ h3, cell_of_row _ _ _ _ _ _ h3, cell_of_row _ _ _ _ _ _ h3⟩
theorem below5 {w w' : World} {base b : Nat} (h : Below base w w') (hb : base ≤ b) (x0 x1 x2 x3 x4 : Value) : Below base w (((((w'.setCell ⟨b, 0, none⟩ x0).setCell ⟨b, 1, none⟩ x1).setCell ⟨b, 2, none⟩ x2).setCell ⟨b, 3, none⟩ x3).setCell ⟨b, 4, none⟩ x4) :=
  ((((h.setCell hb _).setCell hb _).setCell hb _).setCell hb _).setCell hb _
/-- What a cell tells of itself. -/
def tldV (c : Ce) : Value := .agg #[.int .i64 c.st, .int .i64 c.gen, .int .i64 c.tk, .int .i64 c.fails, .int .i64 (tnx c)]
set_option maxHeartbeats 8000000 in
set_option maxRecDepth 100000 in
theorem told_any (w : World) (b : Nat) (c : Ce) (vv fv : Value) (h : CX w b c vv fv) (hi : CI c) : Calls Tryd.prog 19 #[.pointer (some ⟨b, 0, none⟩)] w fun e w' => e = .returned (.agg #[.int .i64 c.st, .int .i64 c.gen, .int .i64 c.tk, .int .i64 c.fails, .int .i64 (tnx c)]) ∧ Below w.heap.size w w' := by
  have HN : Hid (tnx c = if dueB c = true then nextC c else 0) := rfl
  generalize tnx c = nx at *
  have CB : Hid (∀ w', Below w.heap.size w w' → w'.cell? ⟨b, 5, none⟩ = some (.int .i64 c.st) ∧ w'.cell? ⟨b, 6, none⟩ = some (.int .i64 c.tk) ∧ w'.cell? ⟨b, 7, none⟩ = some (.int .i64 c.gen) ∧ w'.cell? ⟨b, 8, none⟩ = some (.int .i64 c.fails)) := fun w' k => by
    obtain ⟨d0, d1, d2, d3, d4, d5, d6, d7, d8, d9, d10, d11, d12⟩ := (h.below k).cells
    exact ⟨d5, d6, d7, d8⟩
  have TA : Hid (∀ w1, Below w.heap.size w w1 → Calls Tryd.prog 39 #[.pointer (some ⟨b, 0, none⟩)] w1 fun e w' => e = .returned (.bool (dueB c)) ∧ ∃ n, w' = w1.drewN n) := fun w1 k => triesAgain_any w1 b c vv fv (h.below k)
  have NX : Hid (∀ w1, Below w.heap.size w w1 → Calls Tryd.prog 40 #[.pointer (some ⟨b, 0, none⟩)] w1 fun e w' => e = .returned (.int .i64 (nextC c)) ∧ Below w1.heap.size w1 w') := fun w1 k => next_any w1 b c vv fv (h.below k) hi
  have hbl := h.lt
  have AL : Hid (∀ ob, Below w.heap.size w (w.alloc ob)) := fun ob => (Below.refl _ _).alloc (Nat.le_refl _) ob
  clear h hi
  go_enter Tryd.func19, Tryd.ntmps19
  go_wp2_with fail
  generalize hW : w.alloc _ = W
  have BW : Hid (Below w.heap.size w W) := by rw [← hW]; exact AL.out _
  have hz : W.heap.size = w.heap.size + 1 := by rw [← hW]; simp
  have HP : Hid (W.heap[w.heap.size]? = some (.cells #[.int .i64 0, .int .i64 0, .int .i64 0, .int .i64 0, .int .i64 0] 57)) := by rw [← hW]; exact heap_alloc_new w _
  clear hW
  obtain ⟨d5, d6, d7, d8⟩ := CB.out _ BW.out
  go_region
  generalize hV : (W.alloc _).drew = V
  have BV : Hid (Below W.heap.size W V) := by rw [← hV]; exact ((Below.refl _ _).alloc (Nat.le_refl _) _).drew
  have HQ : Hid (V.heap[w.heap.size + 1]? = some (.cells #[.int .i64 c.st, .int .i64 c.gen, .int .i64 c.tk, .int .i64 c.fails, .int .i64 0] 57)) := by rw [← hV, ← hz]; exact heap_alloc_new W _
  clear hV
  have BWV : Hid (Below w.heap.size w V) := BW.out.trans (BV.out.mono BW.out.size)
  have hvz : w.heap.size + 1 < V.heap.size := by have := lt_of_heap HQ.out; omega
  have BC : Hid (∀ w', Below V.heap.size V w' → w'.heap[w.heap.size]? = some (.cells #[.int .i64 0, .int .i64 0, .int .i64 0, .int .i64 0, .int .i64 0] 57) ∧ w'.heap[w.heap.size + 1]? = some (.cells #[.int .i64 c.st, .int .i64 c.gen, .int .i64 c.tk, .int .i64 c.fails, .int .i64 0] 57) ∧ Below w.heap.size w w') := fun w' k => ⟨(k.block w.heap.size (by omega)).trans ((BV.out.block w.heap.size (by omega)).trans HP.out), (k.block (w.heap.size + 1) (by omega)).trans HQ.out, BWV.out.trans (k.mono BWV.out.size)⟩
  clear HP HQ BV BW hz d5 d6 d7 d8 CB AL
  have TV := hid (TA.out V BWV.out)
  cases hd : dueB c with
  | false =>
    rw [hd] at TV HN
    rw [if_neg (by simp)] at HN
    clear TA NX
    go_wp2_with (go_at_call 39; refine TV.out.mono ?_; rintro e w1 ⟨rfl, n1, hw1⟩; obtain ⟨p1, p2, p3⟩ := BC.out w1 (by rw [hw1]; exact drew_below V n1); clear hw1; have z0 : w1.cell? ⟨w.heap.size + 1, 0, none⟩ = some (.int .i64 c.st) := cell_of_row _ _ _ _ _ _ p2; have z1 : w1.cell? ⟨w.heap.size + 1, 1, none⟩ = some (.int .i64 c.gen) := cell_of_row _ _ _ _ _ _ p2; have z2 : w1.cell? ⟨w.heap.size + 1, 2, none⟩ = some (.int .i64 c.tk) := cell_of_row _ _ _ _ _ _ p2; have z3 : w1.cell? ⟨w.heap.size + 1, 3, none⟩ = some (.int .i64 c.fails) := cell_of_row _ _ _ _ _ _ p2; have z4 : w1.cell? ⟨w.heap.size + 1, 4, none⟩ = some (.int .i64 0) := cell_of_row _ _ _ _ _ _ p2; have t0 : w1.cell? ⟨w.heap.size, 0, none⟩ = some (.int .i64 0) := cell_of_row _ _ _ _ _ _ p1; have t1 : w1.cell? ⟨w.heap.size, 1, none⟩ = some (.int .i64 0) := cell_of_row _ _ _ _ _ _ p1; have t2 : w1.cell? ⟨w.heap.size, 2, none⟩ = some (.int .i64 0) := cell_of_row _ _ _ _ _ _ p1; have t3 : w1.cell? ⟨w.heap.size, 3, none⟩ = some (.int .i64 0) := cell_of_row _ _ _ _ _ _ p1; have t4 : w1.cell? ⟨w.heap.size, 4, none⟩ = some (.int .i64 0) := cell_of_row _ _ _ _ _ _ p1; have fz : ∀ o, w1.frozen? ⟨w.heap.size, o, none⟩ = false := (fun o => by simp [World.frozen?, p1]); have P1 := hid p1; have P3 := hid p3; clear p1 p2 p3)
    obtain ⟨y0, y1, y2, y3, y4⟩ := set5 P1.out (.int .i64 c.st) (.int .i64 c.gen) (.int .i64 c.tk) (.int .i64 c.fails) (.int .i64 0)
    exact bodyPost_ret (v := .agg #[.int .i64 c.st, .int .i64 c.gen, .int .i64 c.tk, .int .i64 c.fails, .int .i64 0]) (by simp [results, Tryd.results19, go_sem, y0, y1, y2, y3, y4]) rfl ⟨by rw [HN.out], below5 P3.out (Nat.le_refl _) _ _ _ _ _⟩
  | true =>
    rw [hd] at TV HN
    rw [if_pos rfl] at HN
    clear TA
    go_wp2_with (first | (go_at_call 39; refine TV.out.mono ?_; rintro e w1 ⟨rfl, n1, hw1⟩; have B1 : Hid (Below V.heap.size V w1) := (by rw [hw1]; exact drew_below V n1); have N1 := hid (NX.out w1 (BC.out w1 B1.out).2.2); clear hw1) | (go_at_call 40; refine N1.out.mono ?_; rintro e w2 ⟨rfl, hb2⟩; obtain ⟨p1, p2, p3⟩ := BC.out w2 (B1.out.trans (hb2.mono B1.out.size)); have z0 : w2.cell? ⟨w.heap.size + 1, 0, none⟩ = some (.int .i64 c.st) := cell_of_row _ _ _ _ _ _ p2; have z1 : w2.cell? ⟨w.heap.size + 1, 1, none⟩ = some (.int .i64 c.gen) := cell_of_row _ _ _ _ _ _ p2; have z2 : w2.cell? ⟨w.heap.size + 1, 2, none⟩ = some (.int .i64 c.tk) := cell_of_row _ _ _ _ _ _ p2; have z3 : w2.cell? ⟨w.heap.size + 1, 3, none⟩ = some (.int .i64 c.fails) := cell_of_row _ _ _ _ _ _ p2; have z4 : w2.cell? ⟨w.heap.size + 1, 4, none⟩ = some (.int .i64 0) := cell_of_row _ _ _ _ _ _ p2; have t0 : w2.cell? ⟨w.heap.size, 0, none⟩ = some (.int .i64 0) := cell_of_row _ _ _ _ _ _ p1; have t1 : w2.cell? ⟨w.heap.size, 1, none⟩ = some (.int .i64 0) := cell_of_row _ _ _ _ _ _ p1; have t2 : w2.cell? ⟨w.heap.size, 2, none⟩ = some (.int .i64 0) := cell_of_row _ _ _ _ _ _ p1; have t3 : w2.cell? ⟨w.heap.size, 3, none⟩ = some (.int .i64 0) := cell_of_row _ _ _ _ _ _ p1; have t4 : w2.cell? ⟨w.heap.size, 4, none⟩ = some (.int .i64 0) := cell_of_row _ _ _ _ _ _ p1; have fz : ∀ o, w2.frozen? ⟨w.heap.size, o, none⟩ = false := (fun o => by simp [World.frozen?, p1]); have fz2 : ∀ o, w2.frozen? ⟨w.heap.size + 1, o, none⟩ = false := (fun o => by simp [World.frozen?, p2]); have P1 : Hid (∀ u, (w2.setCell ⟨w.heap.size + 1, 4, none⟩ u).heap[w.heap.size]? = some (.cells #[.int .i64 0, .int .i64 0, .int .i64 0, .int .i64 0, .int .i64 0] 57)) := (fun u => (Below.heap_setCell _ _ _ _ (Nat.ne_of_lt (Nat.lt_succ_self _))).trans p1); have P3 := hid p3; clear p1 p2 p3 hb2))
    obtain ⟨y0, y1, y2, y3, y4⟩ := set5 (P1.out (.int .i64 (nextC c))) (.int .i64 c.st) (.int .i64 c.gen) (.int .i64 c.tk) (.int .i64 c.fails) (.int .i64 (nextC c))
    exact bodyPost_ret (v := .agg #[.int .i64 c.st, .int .i64 c.gen, .int .i64 c.tk, .int .i64 c.fails, .int .i64 (nextC c)]) (by simp [results, Tryd.results19, go_sem, y0, y1, y2, y3, y4]) rfl ⟨by rw [HN.out], below5 (P3.out.setCell (p := ⟨w.heap.size + 1, 4, none⟩) (Nat.le_succ _) _) (Nat.le_refl _) _ _ _ _ _⟩
end Go.Proofs.YtbgeihgenckihaaDoor
