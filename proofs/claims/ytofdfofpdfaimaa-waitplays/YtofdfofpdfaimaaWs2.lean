/- Waiting, the document's side: Find. -/
import Derived.Test.YtofdfofpdfaimaaWs1
namespace Go.Proofs.Ytofdfofpdfaimaa
open Go.RowKit Go.Maps

/-- Find's boxes: the room, the waiter of the answer. -/
structure QE (w : World) (vx : Value) (wk : World) : Prop where
  b0 : wk.heap[w.heap.size]? = some (.cells #[vx] 27)
  b2 : wk.heap[w.heap.size + 1]? = some (.cells #[.int .i64 0, .int .i64 0, .string ByteArray.empty, .string ByteArray.empty] 30)
  bl : Below w.heap.size w wk
theorem QE.new (w : World) (vx : Value) : QE w vx ((w.alloc (.cells #[vx] 27)).alloc (.cells #[.int .i64 0, .int .i64 0, .string ByteArray.empty, .string ByteArray.empty] 30)) := by
  refine ⟨(Below.heap_alloc _ _ _ (by simp)).trans (heap_alloc_new w _), ?_, bl3 (bal _ _) (bal _ _)⟩
  have := heap_alloc_new (w.alloc (.cells #[vx] 27)) (.cells #[.int .i64 0, .int .i64 0, .string ByteArray.empty, .string ByteArray.empty] 30)
  rw [show (w.alloc (.cells #[vx] 27)).heap.size = w.heap.size + 1 by simp] at this
  exact this
theorem QE.below {w w1 w2 : World} {v : Value} (h : QE w v w1) (k : Below w1.heap.size w1 w2) : QE w v w2 := ⟨(k.block _ (lt_of_heap h.b0)).trans h.b0, (k.block _ (lt_of_heap h.b2)).trans h.b2, bl3 h.bl k⟩
theorem QE.cells {w w1 : World} {v : Value} (h : QE w v w1) : w1.cell? ⟨w.heap.size, 0, none⟩ = some v ∧ (w1.cell? ⟨w.heap.size + 1, 0, none⟩ = some (.int .i64 0) ∧ w1.cell? ⟨w.heap.size + 1, 1, none⟩ = some (.int .i64 0) ∧ w1.cell? ⟨w.heap.size + 1, 2, none⟩ = some (.string ByteArray.empty) ∧ w1.cell? ⟨w.heap.size + 1, 3, none⟩ = some (.string ByteArray.empty)) ∧ (∀ o, w1.frozen? ⟨w.heap.size + 1, o, none⟩ = false) := by
  obtain ⟨a0, a1, a2, a3, _⟩ := cells4 h.b2
  exact ⟨box1 h.b0, ⟨a0, a1, a2, a3⟩, frz1 h.b2⟩
theorem QE.fin {w w6 : World} {v : Value} (h : QE w v w6) (x0 x1 x2 x3 : Value) : (((((w6.setCell ⟨w.heap.size + 1, 0, none⟩ x0).setCell ⟨w.heap.size + 1, 1, none⟩ x1).setCell ⟨w.heap.size + 1, 2, none⟩ x2).setCell ⟨w.heap.size + 1, 3, none⟩ x3).cell? ⟨w.heap.size + 1, 0, none⟩ = some x0 ∧ ((((w6.setCell ⟨w.heap.size + 1, 0, none⟩ x0).setCell ⟨w.heap.size + 1, 1, none⟩ x1).setCell ⟨w.heap.size + 1, 2, none⟩ x2).setCell ⟨w.heap.size + 1, 3, none⟩ x3).cell? ⟨w.heap.size + 1, 1, none⟩ = some x1 ∧ ((((w6.setCell ⟨w.heap.size + 1, 0, none⟩ x0).setCell ⟨w.heap.size + 1, 1, none⟩ x1).setCell ⟨w.heap.size + 1, 2, none⟩ x2).setCell ⟨w.heap.size + 1, 3, none⟩ x3).cell? ⟨w.heap.size + 1, 2, none⟩ = some x2 ∧ ((((w6.setCell ⟨w.heap.size + 1, 0, none⟩ x0).setCell ⟨w.heap.size + 1, 1, none⟩ x1).setCell ⟨w.heap.size + 1, 2, none⟩ x2).setCell ⟨w.heap.size + 1, 3, none⟩ x3).cell? ⟨w.heap.size + 1, 3, none⟩ = some x3) ∧ Below w.heap.size w ((((w6.setCell ⟨w.heap.size + 1, 0, none⟩ x0).setCell ⟨w.heap.size + 1, 1, none⟩ x1).setCell ⟨w.heap.size + 1, 2, none⟩ x2).setCell ⟨w.heap.size + 1, 3, none⟩ x3) := by
  have t1 := heap_setCell_same _ (w.heap.size + 1) 0 _ _ x0 h.b2
  have t2 := heap_setCell_same _ (w.heap.size + 1) 1 _ _ x1 t1
  have t3 := heap_setCell_same _ (w.heap.size + 1) 2 _ _ x2 t2
  have t4 := heap_setCell_same _ (w.heap.size + 1) 3 _ _ x3 t3
  obtain ⟨a0, a1, a2, a3, _⟩ := cells4 t4
  refine ⟨⟨a0, a1, a2, a3⟩, ?_⟩
  have g : w.heap.size ≤ w.heap.size + 1 := by omega
  exact (((h.bl.setCell (p := ⟨w.heap.size + 1, 0, none⟩) g x0).setCell (p := ⟨w.heap.size + 1, 1, none⟩) g x1).setCell (p := ⟨w.heap.size + 1, 2, none⟩) g x2).setCell (p := ⟨w.heap.size + 1, 3, none⟩) g x3
theorem find_res {W : World} {c : Nat} {a : Act} {x0 x1 x2 x3 : Value} {n e : Int} (y1 : W.cell? ⟨c, 0, none⟩ = some x0) (y2 : W.cell? ⟨c, 1, none⟩ = some x1) (y3 : W.cell? ⟨c, 2, none⟩ = some x2) (y4 : W.cell? ⟨c, 3, none⟩ = some x3) (h4 : a.tmps[4]? = some (.pointer (some ⟨c, 0, none⟩)) := by rfl) (h5 : a.tmps[5]? = some (.int .i64 n) := by rfl) (h6 : a.tmps[6]? = some (.int .i64 e) := by rfl) : (results Try.f38 a.tmps).run Try.prog W = .ok (.tuple #[.agg #[x0, x1, x2, x3], .int .i64 n, .int .i64 e]) W := by
  simp [results, Try.results38, go_sem, h4, h5, h6, y1, y2, y3, y4]
set_option maxHeartbeats 8000000 in
set_option maxRecDepth 100000 in
theorem rfind_no (v : Value) (M : List Wt) (t : Int) (w : World) (h : GS KW w v M) (hl : M.length ≤ 128) (hn : taskB t = true → ∀ x ∈ M, x.task ≠ t) : Calls Try.prog 38 #[.agg #[v], .int .i64 t] w fun e w' => e = .returned (.tuple #[.agg #[.int .i64 0, .int .i64 0, .string ByteArray.empty, .string ByteArray.empty], .int .i64 0, .int .i64 (if taskB t then 4 else 1)]) ∧ Below w.heap.size w w' := by
  have TS := hid (fun w' => rtask_any t w')
  have AT := hid (fun w' (hb : Below w.heap.size w w') => rat_any v M t w' (h.below hb) (by omega))
  obtain ⟨p, cap, rfl⟩ := h.form
  have Q0 := hid (QE.new w (.slice p M.length cap))
  have BJ : Hid (∀ o1 o2 : Obj, Below w.heap.size w ((w.alloc o1).alloc o2)) := fun o1 o2 => bl3 (bal _ _) (bal _ _)
  clear h hl
  cases hb : taskB t with
  | false =>
    rw [hb] at TS
    clear AT Q0 hb hn
    go_enter Try.func38, Try.ntmps38
    go_wp2_with (go_at_call 40; refine (TS.out _).mono ?_; rintro e w2 ⟨rfl, hw⟩; rw [hw]; clear hw)
    go_returns
    exact ⟨rfl, BJ.out _ _⟩
  | true =>
    rw [hb] at TS
    rw [atT_none M t 0 (hn hb)] at AT
    clear hb BJ hn
    go_enter Try.func38, Try.ntmps38
    go_wp2_with (first | (go_at_call 40; refine (TS.out _).mono ?_; rintro e w2 ⟨rfl, hw⟩; rw [hw]; clear hw) | (go_at_call 42; refine (AT.out _ Q0.out.bl).mono ?_; rintro e w6 ⟨rfl, hb⟩; have Q6 := hid (Q0.out.below hb); obtain ⟨c0, ⟨d0, d1, d2, d3⟩, f2⟩ := Q6.out.cells; clear hb))
    obtain ⟨⟨y1, y2, y3, y4⟩, BZ⟩ := Q6.out.fin (.int .i64 0) (.int .i64 0) (.string ByteArray.empty) (.string ByteArray.empty)
    exact bodyPost_ret (v := .tuple #[.agg #[.int .i64 0, .int .i64 0, .string ByteArray.empty, .string ByteArray.empty], .int .i64 0, .int .i64 4]) (find_res y1 y2 y3 y4) rfl ⟨rfl, BZ⟩
/-- What the document's Find leaves. -/
def FdR (w : World) (M : List Wt) (t : Int) (e : Ending) (w' : World) : Prop := ∃ (i : Nat) (hi : i < M.length), M[i].task = t ∧ e = .returned (.tuple #[.agg #[.int .i64 M[i].task, .int .i64 M[i].kind, .string M[i].key, .string M[i].tok], .int .i64 ((M.take i).filter fun y => decide (y.key = M[i].key)).length, .int .i64 0]) ∧ Below w.heap.size w w'
set_option maxHeartbeats 8000000 in
set_option maxRecDepth 100000 in
theorem rfind_ok (v : Value) (M : List Wt) (t : Int) (w : World) (h : GS KW w v M) (hl : M.length ≤ 128) (hd : M.Pairwise (fun x y => x.task ≠ y.task)) (ht : taskB t = true) (hx : ∃ x ∈ M, x.task = t) : Calls Try.prog 38 #[.agg #[v], .int .i64 t] w fun e w' => FdR w M t e w' := by
  have TS := hid (fun w' => rtask_any t w')
  rw [ht] at TS
  have AT := hid (fun w' (hb : Below w.heap.size w w') => rat_any v M t w' (h.below hb) (by omega))
  obtain ⟨i, hi1, hi2, _⟩ := atT_drop M t 0 hd hx
  obtain ⟨_, hi4⟩ := atT_at M t 0 i hi1 hx (Int.le_refl _)
  rw [show atT M t 0 = (i : Int) by rw [hi1]; omega] at AT
  obtain ⟨p, cap, rfl⟩ := h.form
  have Q0 := hid (QE.new w (.slice p M.length cap))
  have hi0 : ¬ (i : Int) < 0 := by omega
  have EQ := hid eq_list
  have HS := hid h
  have CN : Hid (∀ k (hk : k < M.length), ((M.take (k + 1)).filter fun y => decide (y.key = M[i].key)).length = ((M.take k).filter fun y => decide (y.key = M[i].key)).length + (if M[k].key = M[i].key then 1 else 0)) := fun k hk => by
    rw [List.take_succ_eq_append_getElem hk, List.filter_append, List.length_append]
    by_cases e : M[k].key = M[i].key <;> simp [e]
  have CL : Hid (∀ k, ((M.take k).filter fun y => decide (y.key = M[i].key)).length ≤ 128) := fun k => by
    have h1 := List.length_filter_le (fun y : Wt => decide (y.key = M[i].key)) (M.take k)
    have h2 := List.length_take_le' k M
    omega
  have C0 : Hid (((M.take 0).filter fun y => decide (y.key = M[i].key)).length = 0) := rfl
  have FX : Hid (∀ (e : Ending) (w' : World), e = .returned (.tuple #[.agg #[.int .i64 M[i].task, .int .i64 M[i].kind, .string M[i].key, .string M[i].tok], .int .i64 ((M.take i).filter fun y => decide (y.key = M[i].key)).length, .int .i64 0]) → Below w.heap.size w w' → FdR w M t e w') := fun e w' h1 h2 => ⟨i, hi2, hi4, h1, h2⟩
  obtain ⟨X, o, e1, _⟩ := h.atW hi2
  obtain rfl : p = some ⟨X, o, none⟩ := e1
  have XD : Hid (∀ w', Below w.heap.size w w' → ∀ k (hk : k < M.length), w'.cell? ⟨X, o + k * 4, none⟩ = some (.int .i64 M[k].task) ∧ w'.cell? ⟨X, o + k * 4 + 1, none⟩ = some (.int .i64 M[k].kind) ∧ w'.cell? ⟨X, o + k * 4 + 2, none⟩ = some (.string M[k].key) ∧ w'.cell? ⟨X, o + k * 4 + 3, none⟩ = some (.string M[k].tok)) := fun w' hb k hk => by
    obtain ⟨X', o', e1, q⟩ := (h.below hb).atW hk
    injection e1 with e1
    injection e1 with e1 e2 _
    subst e1 e2
    exact q
  have XI := hid (fun w' hb => XD.out w' hb i hi2)
  obtain ⟨n, hn⟩ : ∃ n, n = M.length := ⟨_, rfl⟩
  have HN := hid hn
  rw [← hn] at AT Q0 hi2 hl
  rw [← hn]
  have hi5 : (i : Int) < (n : Int) := by omega
  obtain ⟨CC, hCC⟩ : ∃ CC : Nat → Nat, CC = fun k => ((M.take k).filter fun y => decide (y.key = M[i].key)).length := ⟨_, rfl⟩
  have hC : ∀ k, ((M.take k).filter fun y => decide (y.key = M[i].key)).length = CC k := fun k => by rw [hCC]
  simp only [hC] at CN CL C0 FX
  generalize hxi : M[i] = x at *
  generalize FdR w M t = RR at *
  clear h hd hx ht hi1 hi4 hn hC hCC hxi
  go_enter Try.func38, Try.ntmps38
  go_wp2_with (first | (go_at_call 40; refine (TS.out _).mono ?_; rintro e w2 ⟨rfl, hw⟩; rw [hw]; clear hw) | (go_at_call 42; refine (AT.out _ Q0.out.bl).mono ?_; rintro e w6 ⟨rfl, hb⟩; have Q6 := hid (Q0.out.below hb); clear hb))
  go_loopw [8, 9] (fun v8 v9 wr => ∃ (k : Nat) (wk : World), v9 = .int .i64 k ∧ v8 = .int .i64 (CC k) ∧ wk = wr ∧ k ≤ i ∧ Hid (QE w (.slice (some ⟨X, o, none⟩) n cap) wk)) (fun _ v9 _ => i - (intOf v9).toNat)
  case atStart => exact ⟨0, _, rfl, by rw [C0.out]; rfl, rfl, Nat.zero_le _, Q6⟩
  case round =>
    obtain ⟨k, wr, rfl, rfl, rfl, hk, HQ⟩ := hrel
    clear Q6 Q0 TS AT C0
    by_cases hlt : k < i
    · have hkl : k < M.length := by have := HN.out; omega
      have hkn : (k : Int) < (n : Int) := by omega
      have BD : Hid (Below wr.heap.size wr wr.drew) := drew_below wr 1
      have HQ2 := hid (HQ.out.below BD.out)
      obtain ⟨c0, ⟨d0, d1, d2, d3⟩, f2⟩ := HQ2.out.cells
      obtain ⟨x0, x1, x2, x3⟩ := XI.out _ HQ2.out.bl
      obtain ⟨y0, y1, y2, y3⟩ := XD.out _ HQ2.out.bl k hkl
      have NK := hid (CN.out k hkl)
      have LK := CL.out k
      generalize M[k] = y at *
      clear XD XI CN CL
      by_cases he : y.key = x.key
      · rw [if_pos he] at NK
        have e2 : (y.key.toList == x.key.toList) = true := by rw [EQ.out, decide_eq_true he]
        have NK2 : Hid (((CC k : Nat) : Int) + 1 = ((CC (k + 1) : Nat) : Int)) := by show _ = _; rw [NK.out]; omega
        clear he EQ NK
        go_wp2_with fail
        go_region
        all_goals
          go_wp2_with fail
          go_roundw
          case rel => exact ⟨k + 1, _, by go_num, by rw [← NK2.out], rfl, by omega, HQ2⟩
          case measure => simp [intOf]; omega
      · have NK2 : Hid (CC (k + 1) = CC k) := by have := NK.out; rw [if_neg he] at this; exact this
        have e2 : (y.key.toList == x.key.toList) = false := by rw [EQ.out, decide_eq_false he]
        clear he EQ NK
        go_wp2_with fail
        go_region
        all_goals
          go_wp2_with fail
          go_roundw
          case rel => exact ⟨k + 1, _, by go_num, by rw [NK2.out], rfl, by omega, HQ2⟩
          case measure => simp [intOf]; omega
    · obtain rfl : k = i := by omega
      obtain ⟨c0, ⟨d0, d1, d2, d3⟩, f2⟩ := HQ.out.cells
      obtain ⟨x0, x1, x2, x3⟩ := XI.out _ HQ.out.bl
      obtain ⟨⟨z1, z2, z3, z4⟩, BZ⟩ := HQ.out.fin (.int .i64 x.task) (.int .i64 x.kind) (.string x.key) (.string x.tok)
      clear XD XI CN CL EQ
      go_wp2_with fail
      exact bodyPost_ret (v := .tuple #[.agg #[.int .i64 x.task, .int .i64 x.kind, .string x.key, .string x.tok], .int .i64 (CC k), .int .i64 0]) (find_res z1 z2 z3 z4) rfl (FX.out _ _ rfl BZ)
end Go.Proofs.Ytofdfofpdfaimaa
