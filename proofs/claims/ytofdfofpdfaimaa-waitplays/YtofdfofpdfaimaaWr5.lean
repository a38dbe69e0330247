/- Waiting, the document's side: Join that is refused. -/
import Derived.Test.YtofdfofpdfaimaaWr4
import Derived.Handy
namespace Go.Proofs.Ytofdfofpdfaimaa
open Go.RowKit Go.Maps

theorem atT_some : ∀ (l : List Wt) (t k : Int), 0 ≤ k → (∃ x ∈ l, x.task = t) → 0 ≤ atT l t k
  | [], _, _, _, ⟨x, hx, _⟩ => by cases hx
  | x :: l, t, k, hk, h => by
    rw [atT]
    by_cases e : x.task = t
    · rw [if_pos e]; exact hk
    · rw [if_neg e]
      refine atT_some l t (k + 1) (by omega) ?_
      obtain ⟨y, hy, ey⟩ := h
      rcases List.mem_cons.1 hy with rfl | hy
      · exact absurd ey e
      · exact ⟨y, hy, ey⟩
/-- What the document's Join answers. -/
def rjE (M : List Wt) (x : Wt) : Int := if chkE x = 0 then (if M.any (fun y => decide (y.task = x.task)) then 6 else 0) else chkE x
set_option maxHeartbeats 8000000 in
set_option maxRecDepth 100000 in
theorem rjoin_no (v : Value) (M : List Wt) (x : Wt) (w : World) (h : GS KW w v M) (hl : M.length ≤ 128) (hs : x.tok.size ≤ maxLen) (hn : rjE M x ≠ 0) : Calls Try.prog 14 #[.agg #[v], .agg #[.int .i64 x.task, .int .i64 x.kind, .string x.key, .string x.tok]] w fun e w' => e = .returned (.tuple #[.agg #[v], .int .i64 (rjE M x)]) ∧ Below w.heap.size w w' := by
  have TS := hid (fun w' => rtask_any x.task w')
  have NM := hid (fun w' => rname_any x.tok w' hs)
  have AT := hid (fun w' (hb : Below w.heap.size w w') => rat_any v M x.task w' (h.below hb) (by omega))
  have J0 := hid (J3.new w v x)
  have HE : Hid (rjE M x = if chkE x = 0 then (if M.any (fun y => decide (y.task = x.task)) then 6 else 0) else chkE x) := rfl
  have HC : Hid (chkE x = if taskB x.task = false then 1 else if 4096 < x.key.size then 3 else if tokB x.tok = false then 2 else if x.kind < 0 ∨ 7 < x.kind then 1 else 0) := rfl
  have BJ : Hid (∀ o1 o2 o3 : Obj, Below w.heap.size w (((w.alloc o1).alloc o2).alloc o3)) := fun o1 o2 o3 => bl3 (bal _ _) (bl3 (bal _ _) (bal _ _))
  have HN := hid hn
  obtain ⟨p, cap, rfl⟩ := h.form
  clear h hs hn
  generalize rjE M x = E at *
  cases h1 : taskB x.task with
  | false =>
    rw [h1] at TS HC
    have EE : Hid (E = 1) := by show _ = _; rw [HE.out, HC.out]; simp
    clear HE HC NM AT J0 h1
    go_enter Try.func14, Try.ntmps14
    go_wp2_with (go_at_call 40; refine (TS.out _).mono ?_; rintro e w2 ⟨rfl, hw⟩; rw [hw]; clear hw)
    go_returns
    exact ⟨by rw [EE.out], BJ.out _ _ _⟩
  | true =>
    rw [h1] at TS HC
    by_cases h2 : 4096 < x.key.size
    · have EE : Hid (E = 3) := by show _ = _; rw [HE.out, HC.out]; simp [h2]
      have h2i : (4096 : Int) < (x.key.size : Int) := by omega
      clear HE HC NM AT J0 h1
      go_enter Try.func14, Try.ntmps14
      go_wp2_with (go_at_call 40; refine (TS.out _).mono ?_; rintro e w2 ⟨rfl, hw⟩; rw [hw]; clear hw)
      go_returns
      exact ⟨by rw [EE.out], BJ.out _ _ _⟩
    · have h2i : ¬ (4096 : Int) < (x.key.size : Int) := by omega
      cases h3 : tokB x.tok with
      | false =>
        rw [h3] at NM HC
        have EE : Hid (E = 2) := by show _ = _; rw [HE.out, HC.out]; simp [h2]
        clear HE HC AT J0 h1 h3
        go_enter Try.func14, Try.ntmps14
        go_wp2_with (first | (go_at_call 40; refine (TS.out _).mono ?_; rintro e w2 ⟨rfl, hw⟩; rw [hw]; clear hw) | (go_at_call 41; refine (NM.out _).mono ?_; rintro e w2 ⟨rfl, hw⟩; rw [hw]; clear hw))
        go_returns
        exact ⟨by rw [EE.out], BJ.out _ _ _⟩
      | true =>
        rw [h3] at NM HC
        by_cases h4 : x.kind < 0 ∨ 7 < x.kind
        · have EE : Hid (E = 1) := by show _ = _; rw [HE.out, HC.out]; simp [h2, h4]
          clear HE HC AT J0 h1 h3
          rcases h4 with h4 | h4
          · go_enter Try.func14, Try.ntmps14
            go_wp2_with (first | (go_at_call 40; refine (TS.out _).mono ?_; rintro e w2 ⟨rfl, hw⟩; rw [hw]; clear hw) | (go_at_call 41; refine (NM.out _).mono ?_; rintro e w2 ⟨rfl, hw⟩; rw [hw]; clear hw))
            go_returns
            exact ⟨by rw [EE.out], BJ.out _ _ _⟩
          · have h5 : ¬ x.kind < 0 := by omega
            go_enter Try.func14, Try.ntmps14
            go_wp2_with (first | (go_at_call 40; refine (TS.out _).mono ?_; rintro e w2 ⟨rfl, hw⟩; rw [hw]; clear hw) | (go_at_call 41; refine (NM.out _).mono ?_; rintro e w2 ⟨rfl, hw⟩; rw [hw]; clear hw))
            go_returns
            exact ⟨by rw [EE.out], BJ.out _ _ _⟩
        · have hz : chkE x = 0 := by rw [HC.out]; simp [h2, h4]
          rw [hz, if_pos rfl] at HE
          have ha : M.any (fun y => decide (y.task = x.task)) = true := by
            cases q : M.any (fun y => decide (y.task = x.task)) with
            | true => rfl
            | false => exact absurd (by rw [HE.out, q]; rfl) HN.out
          have EE : Hid (E = 6) := by show _ = _; rw [HE.out, if_pos ha]
          have A0 : 0 ≤ atT M x.task 0 := atT_some M x.task 0 (Int.le_refl _) (by rw [List.any_eq_true] at ha; obtain ⟨y, hy, e⟩ := ha; exact ⟨y, hy, of_decide_eq_true e⟩)
          have h5 : ¬ x.kind < 0 := by omega
          have h6 : ¬ 7 < x.kind := by omega
          generalize atT M x.task 0 = at0 at *
          clear HE HC h1 h3 ha hz h4 HN
          go_enter Try.func14, Try.ntmps14
          go_wp2_with (first | (go_at_call 40; refine (TS.out _).mono ?_; rintro e w2 ⟨rfl, hw⟩; rw [hw]; clear hw) | (go_at_call 41; refine (NM.out _).mono ?_; rintro e w2 ⟨rfl, hw⟩; rw [hw]; clear hw) | (go_at_call 42; refine (AT.out _ J0.out.bl).mono ?_; rintro e w6 ⟨rfl, hb⟩; have J6 := hid (J0.out.below hb); obtain ⟨k0, ⟨k1, k2, k3, k4⟩, k5, k6⟩ := J6.out.cells; clear hb))
          have hz := heap_setCell_same w6 (w.heap.size + 1 + 1) 0 _ _ (.slice p M.length cap) J6.out.b2
          have BZ := J6.out.bl.setCell (p := ⟨w.heap.size + 1 + 1, 0, none⟩) (show w.heap.size ≤ w.heap.size + 1 + 1 by omega) (.slice p M.length cap)
          have hc9 := box1 hz
          exact bodyPost_ret (v := .tuple #[.agg #[.slice p M.length cap], .int .i64 6]) (by simp [results, Try.results14, go_sem, hc9]) rfl ⟨by rw [EE.out], BZ⟩
end Go.Proofs.Ytofdfofpdfaimaa
