/- Waiting: Leave. -/
import Derived.Test.YtofdfofpdfaimaaWs7
namespace Go.Proofs.Ytofdfofpdfaimaa
open Go.RowKit Go.Maps

set_option maxHeartbeats 2000000 in
theorem leaves_any (t : Int) (B : Nat) (k : Nat) (x : Wc) (w : World) (hB : w.heap[B]? = some (.cells #[.int .i64 t] 3)) : Calls Try.prog 52 #[.int .i64 k, .agg #[.int .i64 x.w.task, .int .i64 x.w.kind, .string x.w.key, .string x.w.tok, .int .i64 x.came], .pointer (some ⟨B, 0, none⟩)] w fun e w' => e = .returned (.bool (decide (x.w.task = t))) ∧ Below w.heap.size w w' := by
  have hl := lt_of_heap hB
  have c0 := box1 hB
  have hne : ¬ B = w.heap.size := by omega
  have AL := hid (fun ob => bal w ob)
  have B0 := hid (Below.refl w.heap.size w)
  clear hB
  by_cases e : x.w.task = t
  · rw [decide_eq_true e]
    have e2 : (x.w.task == t) = true := by simpa using e
    clear e
    go_enter Try.func52, Try.ntmps52
    go_wp2
    go_ret
    exact ⟨ret_bool rfl, by first | exact B0.out | exact AL.out _⟩
  · rw [decide_eq_false e]
    have e2 : (x.w.task == t) = false := by simpa using e
    clear e
    go_enter Try.func52, Try.ntmps52
    go_wp2
    go_ret
    exact ⟨ret_bool rfl, by first | exact B0.out | exact AL.out _⟩
/-- Leave's boxes: the task, the waiter of the answer. -/
structure LV (w : World) (t : Int) (wk : World) : Prop where
  b0 : wk.heap[w.heap.size]? = some (.cells #[.int .i64 t] 3)
  b2 : wk.heap[w.heap.size + 1]? = some (.cells #[.int .i64 0, .int .i64 0, .string ByteArray.empty, .string ByteArray.empty] 30)
  bl : Below w.heap.size w wk
theorem LV.new (w : World) (t : Int) : LV w t ((w.alloc (.cells #[.int .i64 t] 3)).alloc (.cells #[.int .i64 0, .int .i64 0, .string ByteArray.empty, .string ByteArray.empty] 30)) := by
  refine ⟨(Below.heap_alloc _ _ _ (by simp)).trans (heap_alloc_new w _), ?_, bl3 (bal _ _) (bal _ _)⟩
  have := heap_alloc_new (w.alloc (.cells #[.int .i64 t] 3)) (.cells #[.int .i64 0, .int .i64 0, .string ByteArray.empty, .string ByteArray.empty] 30)
  rw [show (w.alloc (.cells #[.int .i64 t] 3)).heap.size = w.heap.size + 1 by simp] at this
  exact this
theorem LV.below {w w1 w2 : World} {t : Int} (h : LV w t w1) (k : Below w1.heap.size w1 w2) : LV w t w2 := ⟨(k.block _ (lt_of_heap h.b0)).trans h.b0, (k.block _ (lt_of_heap h.b2)).trans h.b2, bl3 h.bl k⟩
theorem LV.cells {w w1 : World} {t : Int} (h : LV w t w1) : w1.cell? ⟨w.heap.size, 0, none⟩ = some (.int .i64 t) ∧ (w1.cell? ⟨w.heap.size + 1, 0, none⟩ = some (.int .i64 0) ∧ w1.cell? ⟨w.heap.size + 1, 1, none⟩ = some (.int .i64 0) ∧ w1.cell? ⟨w.heap.size + 1, 2, none⟩ = some (.string ByteArray.empty) ∧ w1.cell? ⟨w.heap.size + 1, 3, none⟩ = some (.string ByteArray.empty)) ∧ (∀ o, w1.frozen? ⟨w.heap.size + 1, o, none⟩ = false) := by
  obtain ⟨a0, a1, a2, a3, _⟩ := cells4 h.b2
  exact ⟨box1 h.b0, ⟨a0, a1, a2, a3⟩, frz1 h.b2⟩
theorem LV.fin {w w6 : World} {t : Int} (h : LV w t w6) (x0 x1 x2 x3 : Value) : (((((w6.setCell ⟨w.heap.size + 1, 0, none⟩ x0).setCell ⟨w.heap.size + 1, 1, none⟩ x1).setCell ⟨w.heap.size + 1, 2, none⟩ x2).setCell ⟨w.heap.size + 1, 3, none⟩ x3).cell? ⟨w.heap.size + 1, 0, none⟩ = some x0 ∧ ((((w6.setCell ⟨w.heap.size + 1, 0, none⟩ x0).setCell ⟨w.heap.size + 1, 1, none⟩ x1).setCell ⟨w.heap.size + 1, 2, none⟩ x2).setCell ⟨w.heap.size + 1, 3, none⟩ x3).cell? ⟨w.heap.size + 1, 1, none⟩ = some x1 ∧ ((((w6.setCell ⟨w.heap.size + 1, 0, none⟩ x0).setCell ⟨w.heap.size + 1, 1, none⟩ x1).setCell ⟨w.heap.size + 1, 2, none⟩ x2).setCell ⟨w.heap.size + 1, 3, none⟩ x3).cell? ⟨w.heap.size + 1, 2, none⟩ = some x2 ∧ ((((w6.setCell ⟨w.heap.size + 1, 0, none⟩ x0).setCell ⟨w.heap.size + 1, 1, none⟩ x1).setCell ⟨w.heap.size + 1, 2, none⟩ x2).setCell ⟨w.heap.size + 1, 3, none⟩ x3).cell? ⟨w.heap.size + 1, 3, none⟩ = some x3) ∧ Below w.heap.size w ((((w6.setCell ⟨w.heap.size + 1, 0, none⟩ x0).setCell ⟨w.heap.size + 1, 1, none⟩ x1).setCell ⟨w.heap.size + 1, 2, none⟩ x2).setCell ⟨w.heap.size + 1, 3, none⟩ x3) := by
  have t1 := heap_setCell_same _ (w.heap.size + 1) 0 _ _ x0 h.b2
  have t2 := heap_setCell_same _ (w.heap.size + 1) 1 _ _ x1 t1
  have t3 := heap_setCell_same _ (w.heap.size + 1) 2 _ _ x2 t2
  have t4 := heap_setCell_same _ (w.heap.size + 1) 3 _ _ x3 t3
  obtain ⟨a0, a1, a2, a3, _⟩ := cells4 t4
  refine ⟨⟨a0, a1, a2, a3⟩, ?_⟩
  have g : w.heap.size ≤ w.heap.size + 1 := by omega
  exact (((h.bl.setCell (p := ⟨w.heap.size + 1, 0, none⟩) g x0).setCell (p := ⟨w.heap.size + 1, 1, none⟩) g x1).setCell (p := ⟨w.heap.size + 1, 2, none⟩) g x2).setCell (p := ⟨w.heap.size + 1, 3, none⟩) g x3
theorem leaveP_res {W : World} {c : Nat} {a : Act} {x0 x1 x2 x3 : Value} {e : Int} (y1 : W.cell? ⟨c, 0, none⟩ = some x0) (y2 : W.cell? ⟨c, 1, none⟩ = some x1) (y3 : W.cell? ⟨c, 2, none⟩ = some x2) (y4 : W.cell? ⟨c, 3, none⟩ = some x3) (h4 : a.tmps[4]? = some (.pointer (some ⟨c, 0, none⟩)) := by rfl) (h5 : a.tmps[5]? = some (.int .i64 e) := by rfl) : (results Try.f32 a.tmps).run Try.prog W = .ok (.tuple #[.agg #[x0, x1, x2, x3], .int .i64 e]) W := by
  simp [results, Try.results32, go_sem, h4, h5, y1, y2, y3, y4]
set_option maxHeartbeats 4000000 in
theorem leave_no (t : Int) (w : World) (base r m : Nat) (L : List Wc) (c : Nat) (f : ByteArray → Option Value) (h : RX w base r m L c f) (he : fdE L t ≠ 0) : Calls Try.prog 32 #[.pointer (some ⟨r, 0, none⟩), .int .i64 t] w fun e w' => e = .returned (.tuple #[.agg #[.int .i64 0, .int .i64 0, .string ByteArray.empty, .string ByteArray.empty], .int .i64 (fdE L t)]) ∧ Below w.heap.size w w' := by
  have FD := hid (fun w' (hb : Below w.heap.size w w') => find_any t w' base r m L c f (h.below hb))
  generalize fdW L t = x at *
  generalize fdP L t = q at *
  generalize fdE L t = e at *
  have e1 : (e == 0) = false := by simpa using he
  have e2 : (e != 0) = true := by simpa using he
  have L0 := hid (LV.new w t)
  clear h he
  go_enter Try.func32, Try.ntmps32
  go_wp2_with (go_at_call 25; refine (FD.out _ L0.out.bl).mono ?_; rintro e w6 ⟨rfl, hb⟩; have L6 := hid (L0.out.below (bl3 hb (bal w6 (.cells #[.int .i64 x.task, .int .i64 x.kind, .string x.key, .string x.tok] 30)))); obtain ⟨c0, ⟨d0, d1, d2, d3⟩, f2⟩ := L6.out.cells; clear hb)
  obtain ⟨⟨y1, y2, y3, y4⟩, BZ⟩ := L6.out.fin (.int .i64 0) (.int .i64 0) (.string ByteArray.empty) (.string ByteArray.empty)
  exact bodyPost_ret (v := .tuple #[.agg #[.int .i64 0, .int .i64 0, .string ByteArray.empty, .string ByteArray.empty], .int .i64 e]) (leaveP_res y1 y2 y3 y4) rfl ⟨rfl, BZ⟩
/-- A block of the call's own written behind a change of the room. -/
theorem RR.own {w0 w7 w8 w9 : World} {base r m : Nat} {f : ByteArray → Option Value} {L0 L : List Wc} {c0 c b : Nat} (k : Below w0.heap.size w0 w7) (h0 : RX w0 base r m L0 c0 f) (hr : RR w7 base r m f L c w8) (hb0 : w0.heap.size ≤ b) (hb1 : b < w7.heap.size) (h9 : But (fun y => y = b) w8 w9) : RR w0 base r m f L c w9 := by
  obtain ⟨⟨f', h1, h2⟩, h3⟩ := hr
  refine ⟨⟨f', h1.keep (fun x hx => h9.block x (h1.lt hx).2 (fun e => ?_)), fun x hx => ?_⟩, ((But.of_below k).trans (F := FP r m f) (G := FP r m f) h3 (fun x hx => Or.inl hx)).trans h9 (fun x hx => Or.inr (by omega))⟩
  · rcases h2 x hx with q | q
    · have := (h0.lt q).2; omega
    · omega
  · rcases h2 x hx with q | q
    · exact Or.inl q
    · exact Or.inr (Nat.le_trans k.size q)
theorem but4 (w : World) (b : Nat) (x0 x1 x2 x3 : Value) : But (fun y => y = b) w ((((w.setCell ⟨b, 0, none⟩ x0).setCell ⟨b, 1, none⟩ x1).setCell ⟨b, 2, none⟩ x2).setCell ⟨b, 3, none⟩ x3) := by
  have f : ∀ (W : World) (o : Nat) (v : Value) y, y ≠ b → (W.setCell ⟨b, o, none⟩ v).heap[y]? = W.heap[y]? := fun W o v y hy => Below.heap_setCell _ _ _ _ hy
  refine ⟨rfl, rfl, rfl, by simp, fun y _ hn => ?_⟩
  rw [f _ _ _ _ hn, f _ _ _ _ hn, f _ _ _ _ hn, f _ _ _ _ hn]
theorem LV.but {w w7 w8 : World} {t : Int} {F : Nat → Prop} (h : LV w t w7) (k : But F w7 w8) (h1 : ¬ F w.heap.size) (h2 : ¬ F (w.heap.size + 1)) : w8.heap[w.heap.size]? = some (.cells #[.int .i64 t] 3) ∧ w8.heap[w.heap.size + 1]? = some (.cells #[.int .i64 0, .int .i64 0, .string ByteArray.empty, .string ByteArray.empty] 30) :=
  ⟨(k.block _ (lt_of_heap h.b0) h1).trans h.b0, (k.block _ (lt_of_heap h.b2) h2).trans h.b2⟩
set_option maxHeartbeats 8000000 in
set_option maxRecDepth 100000 in
theorem leave_ok (t : Int) (w : World) (base r m : Nat) (L : List Wc) (c : Nat) (f : ByteArray → Option Value) (h : RX w base r m L c f) (he : fdE L t = 0) (hk : (fdW L t).key.size ≤ maxLen) : Calls Try.prog 32 #[.pointer (some ⟨r, 0, none⟩), .int .i64 t] w fun e w' => e = .returned (.tuple #[.agg #[.int .i64 (fdW L t).task, .int .i64 (fdW L t).kind, .string (fdW L t).key, .string (fdW L t).tok], .int .i64 0]) ∧ RR w base r m f (outL L (gnL (fun _ x => decide (x.w.task = t)) 0 (qK L (fdW L t).key))) c w' := by
  have FD := hid (fun w' (hb : Below w.heap.size w w') => find_any t w' base r m L c f (h.below hb))
  have HX := hid h
  have TB := hid (fun w7 (l7 : LV w t w7) => take_any 52 #[.pointer (some ⟨w.heap.size, 0, none⟩)] (fun _ x => decide (x.w.task = t)) (fdW L t).key w7 base r m L c f (h.below l7.bl) hk Try.call52 (fun W k x hb => leaves_any t w.heap.size k x W ((hb.block _ (lt_of_heap l7.b0)).trans l7.b0)))
  have hmf : ∀ (fn : Fn) (first cap : Array Value) (w : World), (Instr.makeFunc fn first cap).run Try.prog w = .ok (.func fn first cap) w := fun _ _ _ _ => rfl
  rw [he] at FD
  generalize outL L (gnL (fun _ x => decide (x.w.task = t)) 0 (qK L (fdW L t).key)) = LL at *
  generalize (gnL (fun _ x => decide (x.w.task = t)) 0 (qK L (fdW L t).key)) = GG at *
  generalize fdW L t = x at *
  generalize fdP L t = q at *
  have L0 := hid (LV.new w t)
  have NF : Hid (∀ y, w.heap.size ≤ y → ¬ FP r m f y) := fun y hy q => by have := (h.lt q).2; omega
  clear h he hk
  go_enter Try.func32, Try.ntmps32
  go_wp2_with (first | (go_at_call 25; refine (FD.out _ L0.out.bl).mono ?_; rintro e w6 ⟨rfl, hb⟩; have L6 := hid (L0.out.below (bl3 hb (bal w6 (.cells #[.int .i64 x.task, .int .i64 x.kind, .string x.key, .string x.tok] 30)))); obtain ⟨c0, ⟨d0, d1, d2, d3⟩, f2⟩ := L6.out.cells; have hz6 : w.heap.size ≤ w6.heap.size := Nat.le_trans L0.out.bl.size hb.size; clear hb) | (go_at_call 29; refine (TB.out _ L6.out).mono ?_; rintro e w8 ⟨p8, c8, rfl, _, hr8⟩; have R8 := hid hr8; obtain ⟨k0, k1⟩ := L6.out.but hr8.bt (NF.out _ (Nat.le_refl _)) (NF.out _ (Nat.le_succ _)); have kz := (hr8.bt.block w6.heap.size (by simp) (NF.out _ hz6)).trans (heap_alloc_new w6 _); obtain ⟨n0, n1, n2, n3, _⟩ := cells4 kz; obtain ⟨m0, m1, m2, m3, _⟩ := cells4 k1; have f8 := frz1 k1; clear hr8))
  have t1 := heap_setCell_same _ (w.heap.size + 1) 0 _ _ (.int .i64 x.task) k1
  have t2 := heap_setCell_same _ (w.heap.size + 1) 1 _ _ (.int .i64 x.kind) t1
  have t3 := heap_setCell_same _ (w.heap.size + 1) 2 _ _ (.string x.key) t2
  have t4 := heap_setCell_same _ (w.heap.size + 1) 3 _ _ (.string x.tok) t3
  obtain ⟨y1, y2, y3, y4, _⟩ := cells4 t4
  have FR := RR.own L6.out.bl HX.out R8.out (Nat.le_succ _) (lt_of_heap L6.out.b2) (but4 w8 (w.heap.size + 1) (.int .i64 x.task) (.int .i64 x.kind) (.string x.key) (.string x.tok))
  exact bodyPost_ret (v := .tuple #[.agg #[.int .i64 x.task, .int .i64 x.kind, .string x.key, .string x.tok], .int .i64 0]) (leaveP_res y1 y2 y3 y4) rfl ⟨rfl, FR⟩
end Go.Proofs.Ytofdfofpdfaimaa
