/- Waiting, the document's side: Leave. -/
import Derived.Test.YtofdfofpdfaimaaWr9
namespace Go.Proofs.Ytofdfofpdfaimaa
open Go.RowKit Go.Maps

theorem atT_at : ∀ (M : List Wt) (t k : Int) (i : Nat), atT M t k = k + i → (∃ x ∈ M, x.task = t) → 0 ≤ k → ∃ h : i < M.length, M[i].task = t
  | [], _, _, _, _, ⟨x, hx, _⟩, _ => by cases hx
  | x :: l, t, k, i, h, hx, hk => by
    rw [atT] at h
    by_cases e : x.task = t
    · rw [if_pos e] at h
      obtain rfl : i = 0 := by omega
      exact ⟨by simp, e⟩
    · rw [if_neg e] at h
      have hx2 : ∃ y ∈ l, y.task = t := by
        obtain ⟨y, hy, ey⟩ := hx
        rcases List.mem_cons.1 hy with rfl | hy
        · exact absurd ey e
        · exact ⟨y, hy, ey⟩
      have h0 : k + 1 ≤ atT l t (k + 1) := by
        have : ∀ (l : List Wt) (k : Int), (∃ y ∈ l, y.task = t) → k ≤ atT l t k := fun l => by
          induction l with
          | nil => rintro k ⟨y, hy, _⟩; cases hy
          | cons z r ih =>
            intro k hz
            rw [atT]
            by_cases q : z.task = t
            · rw [if_pos q]; exact Int.le_refl _
            · rw [if_neg q]
              have := ih (k + 1) (by
                obtain ⟨y, hy, ey⟩ := hz
                rcases List.mem_cons.1 hy with rfl | hy
                · exact absurd ey q
                · exact ⟨y, hy, ey⟩)
              omega
        exact this l (k + 1) hx2
      obtain ⟨j, rfl⟩ : ∃ j, i = j + 1 := ⟨i - 1, by omega⟩
      obtain ⟨h1, h2⟩ := atT_at l t (k + 1) j (by omega) hx2 (by omega)
      exact ⟨by simp; omega, by simpa using h2⟩
/-- Leave's boxes: the room, the room of the answer, the waiter of the answer. -/
structure QD (w : World) (vx : Value) (wk : World) : Prop where
  b0 : wk.heap[w.heap.size]? = some (.cells #[vx] 27)
  b1 : wk.heap[w.heap.size + 1]? = some (.cells #[.slice none 0 0] 27)
  b2 : wk.heap[w.heap.size + 1 + 1]? = some (.cells #[.int .i64 0, .int .i64 0, .string ByteArray.empty, .string ByteArray.empty] 30)
  bl : Below w.heap.size w wk
theorem QD.new (w : World) (vx : Value) : QD w vx (((w.alloc (.cells #[vx] 27)).alloc (.cells #[.slice none 0 0] 27)).alloc (.cells #[.int .i64 0, .int .i64 0, .string ByteArray.empty, .string ByteArray.empty] 30)) := by
  have h := QC.new w vx
  refine ⟨(Below.heap_alloc _ _ _ (by simp; omega)).trans h.b0, (Below.heap_alloc _ _ _ (by simp)).trans h.b1, ?_, bl3 h.bl (bal _ _)⟩
  have := heap_alloc_new ((w.alloc (.cells #[vx] 27)).alloc (.cells #[.slice none 0 0] 27)) (.cells #[.int .i64 0, .int .i64 0, .string ByteArray.empty, .string ByteArray.empty] 30)
  rw [show ((w.alloc (.cells #[vx] 27)).alloc (.cells #[.slice none 0 0] 27)).heap.size = w.heap.size + 1 + 1 by simp] at this
  exact this
theorem QD.below {w w1 w2 : World} {v : Value} (h : QD w v w1) (k : Below w1.heap.size w1 w2) : QD w v w2 := ⟨(k.block _ (lt_of_heap h.b0)).trans h.b0, (k.block _ (lt_of_heap h.b1)).trans h.b1, (k.block _ (lt_of_heap h.b2)).trans h.b2, bl3 h.bl k⟩
theorem QD.lt {w w1 : World} {v : Value} (h : QD w v w1) : w.heap.size + 3 ≤ w1.heap.size := lt_of_heap h.b2
theorem QD.cells {w w1 : World} {v : Value} (h : QD w v w1) : w1.cell? ⟨w.heap.size, 0, none⟩ = some v ∧ w1.cell? ⟨w.heap.size + 1, 0, none⟩ = some (.slice none 0 0) ∧ (w1.cell? ⟨w.heap.size + 1 + 1, 0, none⟩ = some (.int .i64 0) ∧ w1.cell? ⟨w.heap.size + 1 + 1, 1, none⟩ = some (.int .i64 0) ∧ w1.cell? ⟨w.heap.size + 1 + 1, 2, none⟩ = some (.string ByteArray.empty) ∧ w1.cell? ⟨w.heap.size + 1 + 1, 3, none⟩ = some (.string ByteArray.empty)) ∧ (∀ o, w1.frozen? ⟨w.heap.size + 1, o, none⟩ = false) ∧ (∀ o, w1.frozen? ⟨w.heap.size + 1 + 1, o, none⟩ = false) := by
  obtain ⟨a0, a1, a2, a3, _⟩ := cells4 h.b2
  exact ⟨box1 h.b0, box1 h.b1, ⟨a0, a1, a2, a3⟩, frz1 h.b1, frz1 h.b2⟩
theorem QD.fin {w w6 : World} {v : Value} (h : QD w v w6) (u x0 x1 x2 x3 : Value) : ((((((w6.setCell ⟨w.heap.size + 1, 0, none⟩ u).setCell ⟨w.heap.size + 1 + 1, 0, none⟩ x0).setCell ⟨w.heap.size + 1 + 1, 1, none⟩ x1).setCell ⟨w.heap.size + 1 + 1, 2, none⟩ x2).setCell ⟨w.heap.size + 1 + 1, 3, none⟩ x3).cell? ⟨w.heap.size + 1, 0, none⟩ = some u ∧ (((((w6.setCell ⟨w.heap.size + 1, 0, none⟩ u).setCell ⟨w.heap.size + 1 + 1, 0, none⟩ x0).setCell ⟨w.heap.size + 1 + 1, 1, none⟩ x1).setCell ⟨w.heap.size + 1 + 1, 2, none⟩ x2).setCell ⟨w.heap.size + 1 + 1, 3, none⟩ x3).cell? ⟨w.heap.size + 1 + 1, 0, none⟩ = some x0 ∧ (((((w6.setCell ⟨w.heap.size + 1, 0, none⟩ u).setCell ⟨w.heap.size + 1 + 1, 0, none⟩ x0).setCell ⟨w.heap.size + 1 + 1, 1, none⟩ x1).setCell ⟨w.heap.size + 1 + 1, 2, none⟩ x2).setCell ⟨w.heap.size + 1 + 1, 3, none⟩ x3).cell? ⟨w.heap.size + 1 + 1, 1, none⟩ = some x1 ∧ (((((w6.setCell ⟨w.heap.size + 1, 0, none⟩ u).setCell ⟨w.heap.size + 1 + 1, 0, none⟩ x0).setCell ⟨w.heap.size + 1 + 1, 1, none⟩ x1).setCell ⟨w.heap.size + 1 + 1, 2, none⟩ x2).setCell ⟨w.heap.size + 1 + 1, 3, none⟩ x3).cell? ⟨w.heap.size + 1 + 1, 2, none⟩ = some x2 ∧ (((((w6.setCell ⟨w.heap.size + 1, 0, none⟩ u).setCell ⟨w.heap.size + 1 + 1, 0, none⟩ x0).setCell ⟨w.heap.size + 1 + 1, 1, none⟩ x1).setCell ⟨w.heap.size + 1 + 1, 2, none⟩ x2).setCell ⟨w.heap.size + 1 + 1, 3, none⟩ x3).cell? ⟨w.heap.size + 1 + 1, 3, none⟩ = some x3) ∧ Below w.heap.size w (((((w6.setCell ⟨w.heap.size + 1, 0, none⟩ u).setCell ⟨w.heap.size + 1 + 1, 0, none⟩ x0).setCell ⟨w.heap.size + 1 + 1, 1, none⟩ x1).setCell ⟨w.heap.size + 1 + 1, 2, none⟩ x2).setCell ⟨w.heap.size + 1 + 1, 3, none⟩ x3) := by
  have s0 := heap_setCell_same w6 (w.heap.size + 1) 0 _ _ u h.b1
  have t0 : (w6.setCell ⟨w.heap.size + 1, 0, none⟩ u).heap[w.heap.size + 1 + 1]? = _ := (Below.heap_setCell _ _ _ _ (show w.heap.size + 1 + 1 ≠ w.heap.size + 1 by omega)).trans h.b2
  have t1 := heap_setCell_same _ (w.heap.size + 1 + 1) 0 _ _ x0 t0
  have t2 := heap_setCell_same _ (w.heap.size + 1 + 1) 1 _ _ x1 t1
  have t3 := heap_setCell_same _ (w.heap.size + 1 + 1) 2 _ _ x2 t2
  have t4 := heap_setCell_same _ (w.heap.size + 1 + 1) 3 _ _ x3 t3
  have f : ∀ (W : World) (o : Nat) (z : Value), (W.setCell ⟨w.heap.size + 1 + 1, o, none⟩ z).heap[w.heap.size + 1]? = W.heap[w.heap.size + 1]? := fun W o z => Below.heap_setCell _ _ _ _ (show w.heap.size + 1 ≠ w.heap.size + 1 + 1 by omega)
  have s4 : (((((w6.setCell ⟨w.heap.size + 1, 0, none⟩ u).setCell ⟨w.heap.size + 1 + 1, 0, none⟩ x0).setCell ⟨w.heap.size + 1 + 1, 1, none⟩ x1).setCell ⟨w.heap.size + 1 + 1, 2, none⟩ x2).setCell ⟨w.heap.size + 1 + 1, 3, none⟩ x3).heap[w.heap.size + 1]? = some (.cells #[u] 27) := by rw [f, f, f, f]; exact s0
  obtain ⟨a0, a1, a2, a3, _⟩ := cells4 t4
  refine ⟨⟨box1 s4, a0, a1, a2, a3⟩, ?_⟩
  have b1 := h.bl.setCell (p := ⟨w.heap.size + 1, 0, none⟩) (show w.heap.size ≤ w.heap.size + 1 by omega) u
  have g : w.heap.size ≤ w.heap.size + 1 + 1 := by omega
  exact (((b1.setCell (p := ⟨w.heap.size + 1 + 1, 0, none⟩) g x0).setCell (p := ⟨w.heap.size + 1 + 1, 1, none⟩) g x1).setCell (p := ⟨w.heap.size + 1 + 1, 2, none⟩) g x2).setCell (p := ⟨w.heap.size + 1 + 1, 3, none⟩) g x3
theorem leave_res {W : World} {b c : Nat} {a : Act} {u x0 x1 x2 x3 : Value} {e : Int} (y0 : W.cell? ⟨b, 0, none⟩ = some u) (y1 : W.cell? ⟨c, 0, none⟩ = some x0) (y2 : W.cell? ⟨c, 1, none⟩ = some x1) (y3 : W.cell? ⟨c, 2, none⟩ = some x2) (y4 : W.cell? ⟨c, 3, none⟩ = some x3) (h4 : a.tmps[4]? = some (.pointer (some ⟨b, 0, none⟩)) := by rfl) (h5 : a.tmps[5]? = some (.pointer (some ⟨c, 0, none⟩)) := by rfl) (h6 : a.tmps[6]? = some (.int .i64 e) := by rfl) : (results Try.f33 a.tmps).run Try.prog W = .ok (.tuple #[.agg #[u], .agg #[x0, x1, x2, x3], .int .i64 e]) W := by
  simp [results, Try.results33, go_sem, h4, h5, h6, y0, y1, y2, y3, y4]
set_option maxHeartbeats 8000000 in
set_option maxRecDepth 100000 in
theorem rleave_no (v : Value) (M : List Wt) (t : Int) (w : World) (h : GS KW w v M) (hl : M.length ≤ 128) (hn : ∀ x ∈ M, x.task ≠ t) : Calls Try.prog 33 #[.agg #[v], .int .i64 t] w fun e w' => e = .returned (.tuple #[.agg #[v], .agg #[.int .i64 0, .int .i64 0, .string ByteArray.empty, .string ByteArray.empty], .int .i64 (if taskB t then 4 else 1)]) ∧ Below w.heap.size w w' := by
  have TS := hid (fun w' => rtask_any t w')
  have AT := hid (fun w' (hb : Below w.heap.size w w') => rat_any v M t w' (h.below hb) (by omega))
  rw [atT_none M t 0 hn] at AT
  obtain ⟨p, cap, rfl⟩ := h.form
  have Q0 := hid (QD.new w (.slice p M.length cap))
  have BJ : Hid (∀ o1 o2 o3 : Obj, Below w.heap.size w (((w.alloc o1).alloc o2).alloc o3)) := fun o1 o2 o3 => bl3 (bal _ _) (bl3 (bal _ _) (bal _ _))
  clear h hl hn
  cases hb : taskB t with
  | false =>
    rw [hb] at TS
    clear AT Q0 hb
    go_enter Try.func33, Try.ntmps33
    go_wp2_with (go_at_call 40; refine (TS.out _).mono ?_; rintro e w2 ⟨rfl, hw⟩; rw [hw]; clear hw)
    go_returns
    exact ⟨rfl, BJ.out _ _ _⟩
  | true =>
    rw [hb] at TS
    clear hb BJ
    go_enter Try.func33, Try.ntmps33
    go_wp2_with (first | (go_at_call 40; refine (TS.out _).mono ?_; rintro e w2 ⟨rfl, hw⟩; rw [hw]; clear hw) | (go_at_call 42; refine (AT.out _ Q0.out.bl).mono ?_; rintro e w6 ⟨rfl, hb⟩; have Q6 := hid (Q0.out.below hb); obtain ⟨c0, c1, ⟨d0, d1, d2, d3⟩, f1, f2⟩ := Q6.out.cells; clear hb))
    obtain ⟨⟨y0, y1, y2, y3, y4⟩, BZ⟩ := Q6.out.fin (.slice p M.length cap) (.int .i64 0) (.int .i64 0) (.string ByteArray.empty) (.string ByteArray.empty)
    exact bodyPost_ret (v := .tuple #[.agg #[.slice p M.length cap], .agg #[.int .i64 0, .int .i64 0, .string ByteArray.empty, .string ByteArray.empty], .int .i64 4]) (leave_res y0 y1 y2 y3 y4) rfl ⟨rfl, BZ⟩
set_option maxHeartbeats 8000000 in
set_option maxRecDepth 100000 in
theorem rleave_ok (v : Value) (M : List Wt) (t : Int) (w : World) (h : GS KW w v M) (hl : M.length ≤ 128) (hd : M.Pairwise (fun x y => x.task ≠ y.task)) (ht : taskB t = true) (hx : ∃ x ∈ M, x.task = t) : Calls Try.prog 33 #[.agg #[v], .int .i64 t] w fun e w' => ∃ v' x, x ∈ M ∧ x.task = t ∧ e = .returned (.tuple #[.agg #[v'], .agg #[.int .i64 x.task, .int .i64 x.kind, .string x.key, .string x.tok], .int .i64 0]) ∧ OwnG KW w' w.heap.size v' (dropT M t) ∧ Below w.heap.size w w' := by
  have TS := hid (fun w' => rtask_any t w')
  rw [ht] at TS
  have AT := hid (fun w' (hb : Below w.heap.size w w') => rat_any v M t w' (h.below hb) (by omega))
  obtain ⟨i, hi1, hi2, hi3⟩ := atT_drop M t 0 hd hx
  obtain ⟨_, hi4⟩ := atT_at M t 0 i hi1 hx (Int.le_refl _)
  rw [show atT M t 0 = (i : Int) by rw [hi1]; omega] at AT
  have WO := hid (fun w' (hb : Below w.heap.size w w') => rwithout_any v M i w' (h.below hb) hi2 (by omega))
  rw [hi3] at WO
  obtain ⟨p, cap, rfl⟩ := h.form
  have Q0 := hid (QD.new w (.slice p M.length cap))
  have XC := hid (fun w' (hb : Below w.heap.size w w') => (h.below hb).atW hi2)
  have HX : Hid (M[i] ∈ M ∧ M[i].task = t) := ⟨List.getElem_mem hi2, hi4⟩
  obtain ⟨X, o, e1, _⟩ := h.atW hi2
  obtain rfl : p = some ⟨X, o, none⟩ := e1
  have hX := h.ltX hi2
  have XD : Hid (∀ w', Below w.heap.size w w' → w'.cell? ⟨X, o + i * 4, none⟩ = some (.int .i64 M[i].task) ∧ w'.cell? ⟨X, o + i * 4 + 1, none⟩ = some (.int .i64 M[i].kind) ∧ w'.cell? ⟨X, o + i * 4 + 2, none⟩ = some (.string M[i].key) ∧ w'.cell? ⟨X, o + i * 4 + 3, none⟩ = some (.string M[i].tok)) := fun w' hb => by
    obtain ⟨X', o', e1, q⟩ := XC.out w' hb
    injection e1 with e1
    injection e1 with e1 e2 _
    subst e1 e2
    exact q
  have hi0 : ¬ (i : Int) < 0 := by omega
  obtain ⟨n, hn⟩ : ∃ n, n = M.length := ⟨_, rfl⟩
  rw [← hn] at WO AT Q0 hi2 hl
  rw [← hn]
  have hi5 : (i : Int) < (n : Int) := by omega
  generalize M[i] = x at *
  generalize dropT M t = D at *
  clear h hd hx ht hi1 hi3 hi4 XC hn
  go_enter Try.func33, Try.ntmps33
  go_wp2_with (first | (go_at_call 40; refine (TS.out _).mono ?_; rintro e w2 ⟨rfl, hw⟩; rw [hw]; clear hw) | (go_at_call 42; refine (AT.out _ Q0.out.bl).mono ?_; rintro e w6 ⟨rfl, hb⟩; have Q6 := hid (Q0.out.below hb); obtain ⟨c0, c1, ⟨d0, d1, d2, d3⟩, f1, f2⟩ := Q6.out.cells; clear hb))
  have BD : Hid (Below w6.heap.size w6 w6.drew) := drew_below w6 1
  have QD6 := hid (Q6.out.below BD.out)
  clear c0 c1 d0 d1 d2 d3 f1 f2
  obtain ⟨c0, c1, ⟨d0, d1, d2, d3⟩, f1, f2⟩ := QD6.out.cells
  obtain ⟨x0, x1, x2, x3⟩ := XD.out _ QD6.out.bl
  go_region_with (go_at_call 53; refine (WO.out _ QD6.out.bl).mono ?_; rintro e w7 ⟨p7, c7, rfl, ho, hb⟩; have O7 := hid (ho.low (show w.heap.size + 3 ≤ _ from QD6.out.lt)); have Q7 := hid (QD6.out.below hb); obtain ⟨k0, k1, ⟨m0, m1, m2, m3⟩, h1, h2⟩ := Q7.out.cells; obtain ⟨u0, u1, u2, u3⟩ := XD.out _ Q7.out.bl; clear ho hb)
  all_goals
    obtain ⟨⟨y0, y1, y2, y3, y4⟩, BZ⟩ := Q7.out.fin (.slice p7 (n - 1) c7) (.int .i64 x.task) (.int .i64 x.kind) (.string x.key) (.string x.tok)
    have OZ := ((((O7.out.setB (b := w.heap.size + 1) (o := 0) (u := .slice p7 (n - 1) c7) (by omega)).setB (b := w.heap.size + 1 + 1) (o := 0) (u := .int .i64 x.task) (by omega)).setB (b := w.heap.size + 1 + 1) (o := 1) (u := .int .i64 x.kind) (by omega)).setB (b := w.heap.size + 1 + 1) (o := 2) (u := .string x.key) (by omega)).setB (b := w.heap.size + 1 + 1) (o := 3) (u := .string x.tok) (by omega)
    go_wp2_with fail
    exact bodyPost_ret (v := .tuple #[.agg #[.slice p7 (n - 1) c7], .agg #[.int .i64 x.task, .int .i64 x.kind, .string x.key, .string x.tok], .int .i64 0]) (leave_res y0 y1 y2 y3 y4) rfl ⟨_, x, HX.out.1, HX.out.2, rfl, OZ.low (by omega), BZ⟩
end Go.Proofs.Ytofdfofpdfaimaa
