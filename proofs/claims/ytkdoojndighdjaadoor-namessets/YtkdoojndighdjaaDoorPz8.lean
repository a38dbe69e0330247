/- Names: isTooDeep, Check. -/
import Derived.Test.YtkdoojndighdjaaDoorPz7
namespace Go.Proofs.YtkdoojndighdjaaDoor
open Go.RowKit

theorem deepEach_any (v : Value) (l : List Opn) (g bd base : Nat) (w : World) (h : OS w v l) (hX : ∀ x, v.ownBlock = some x → x ≠ g) (hw : walkN 0 (nsO l) = some 1) (hlm : l.length ≤ 256)
    (o : OwnG KI w base (.slice (some ⟨g, 0, none⟩) l.length l.length) (List.replicate l.length 0)) (cd : w.cell? ⟨bd, 0, none⟩ = some (.slice (some ⟨g, 0, none⟩) l.length l.length)) (hbg : bd ≠ g) :
    Calls Tryd.prog 64 #[v, .func (.func 83) #[] #[.pointer (some ⟨bd, 0, none⟩)]] w fun e w' => e = .returned (.tuple #[]) ∧ w'.cell? ⟨bd, 0, none⟩ = some (.slice (some ⟨g, 0, none⟩) l.length l.length) ∧ w'.cell? ⟨g, l.length - 1, none⟩ = some (.int .i64 (deepO l)) ∧ But (fun x => x = g) w w' := by
  have hbd : bd < w.heap.size := block_lt_of_cell cd
  refine (eachWhole_any v l 83 #[.pointer (some ⟨bd, 0, none⟩)] w (TD l g base) (fun x => x = g) (TD_vis _ _ _) h (fun x hx e => hX x hx e) hw hlm ⟨by simpa [dK, dW] using o, fun x => Iff.rfl⟩ Tryd.call83 (fun k F wk vp hk hI hP hap hfn hbt => ?_)).mono ?_
  · exact depthV_any l k bd g base F vp wk hk hlm hI ((World.cell?_of_block (w := w) (w' := wk) (a := ⟨bd, 0, none⟩) (hbt.block bd hbd hbg)).trans cd) hbg hP hap
  · rintro e w' ⟨rfl, F', T, _, hbt⟩
    have hd := deepV_dK hw
    rw [nsO_len] at hd
    have T1 := T.1
    rw [Nat.sub_self, List.replicate_zero, List.append_nil] at T1
    have hl : (dK (whA (nsO l)) l.length).length = l.length := dK_len (by rw [whA_len, nsO_len]; exact Nat.le_refl _)
    refine ⟨rfl, (World.cell?_of_block (w := w) (w' := w') (a := ⟨bd, 0, none⟩) (hbt.block bd hbd hbg)).trans cd, ?_, hbt⟩
    have := own_int T1 hl.symm (j := l.length - 1) (by omega)
    rw [hd.2] at this; exact this
set_option maxHeartbeats 4000000 in
theorem isTooDeep_any (v : Value) (l : List Opn) (w : World) (h : OS w v l) (hw : walkN 0 (nsO l) = some 1) (hlm : l.length ≤ 256) :
    Calls Tryd.prog 46 #[v] w fun e w' => e = .returned (.bool (decide (32 < deepO l))) ∧ Below w.heap.size w w' := by
  have hne := walk_ne hw
  have HS : Hid (OS w v l) := h
  have HW : Hid (walkN 0 (nsO l) = some 1) := hw
  have DE : Hid (∀ w1, Below w.heap.size w w1 → OwnG KI w1 w.heap.size (.slice (some ⟨w.heap.size, 0, none⟩) l.length l.length) (List.replicate l.length 0) → Calls Tryd.prog 64 #[v, .func (.func 83) #[] #[.pointer (some ⟨w1.heap.size, 0, none⟩)]] (w1.alloc (.cells #[.slice (some ⟨w.heap.size, 0, none⟩) l.length l.length] 49)) fun e w' => e = .returned (.tuple #[]) ∧ w'.cell? ⟨w1.heap.size, 0, none⟩ = some (.slice (some ⟨w.heap.size, 0, none⟩) l.length l.length) ∧ w'.cell? ⟨w.heap.size, l.length - 1, none⟩ = some (.int .i64 (deepO l)) ∧ Below w.heap.size w w') := fun w1 hb ho => by
    have AL := (Below.refl _ w1).alloc (Nat.le_refl _) (.cells #[.slice (some ⟨w.heap.size, 0, none⟩) l.length l.length] 49)
    have hg : w.heap.size < w1.heap.size := (ho.lt rfl).2
    refine (deepEach_any v l w.heap.size w1.heap.size w.heap.size _ ((HS.out.below hb).below AL) (fun x hx e => by have := HS.out.lt hne hx; omega) HW.out hlm (ho.below AL) (box_cell (heap_alloc_new _ _)) (by omega)).mono ?_
    rintro e w' ⟨rfl, c1, c2, hbt⟩
    exact ⟨rfl, c1, c2, (hb.trans (AL.mono hb.size)).trans ⟨hbt.os, hbt.tape, hbt.output, hbt.size, fun x hx => hbt.block x (Nat.lt_of_lt_of_le hx (Nat.le_trans hb.size AL.size)) (by omega)⟩⟩
  obtain ⟨p, cap, rfl⟩ := h.form
  have hmf : ∀ (fn : Fn) (first cap : Array Value) (w : World), (Instr.makeFunc fn first cap).run Tryd.prog w = .ok (.func fn first cap) w := fun _ _ _ _ => rfl
  generalize deepO l = d at *
  clear h hw
  go_enter Tryd.func46, Tryd.ntmps46
  go_wp2_with (first | (at_make; refine make_g KI KI_ok 0 rfl rfl _ rfl _ _ 49 rfl Tryd.underlying49 l.length rfl rfl (by omega) (by decide) ?_; intro w1 ho1 hb1; have O1 : Hid _ := ho1; have B1 : Hid (Below w.heap.size w w1) := hb1; clear ho1 hb1) | (go_at_call 64; refine (DE.out _ B1.out O1.out).mono ?_; rintro e w2 ⟨rfl, c1, c2, hb2⟩; have B2 : Hid (Below w.heap.size w w2) := hb2; clear hb2))
  have hi : (l.length : Int) - 1 = ((l.length - 1 : Nat) : Int) := by omega
  have hi2 : l.length - 1 < l.length := by omega
  go_wp2
  go_ret
  exact ⟨rfl, B2.out⟩
set_option maxHeartbeats 4000000 in
theorem check_any (v : Value) (l : List Opn) (w : World) (h : OS w v l) (ht : ∀ c ∈ l, c.text.size ≤ maxLen) (hv : NV w) (_hlm : l.length ≤ 1000000000000000) :
    Calls Tryd.prog 11 #[v] w fun e w' => e = .returned (.int .i64 (chkO l)) ∧ Below w.heap.size w w' := by
  have hlm := _hlm
  have HC : Hid (chkO l = if 256 < l.length then 3 else if wholeB l = true ∧ boundB l = true then (if longB l = true ∨ 32 < deepO l then 3 else 0) else 5) := rfl
  by_cases hl : 256 < l.length
  · obtain ⟨p, cap, rfl⟩ := h.form
    rw [if_pos hl] at HC
    generalize chkO l = r at *
    have hl2 : (l.length : Int) > 256 := by omega
    clear h ht hv
    go_enter Tryd.func11, Tryd.ntmps11
    go_wp2
    go_ret
    exact ⟨ret_int HC.out.symm, Below.refl _ _⟩
  · rw [if_neg hl] at HC
    have hl2 : ¬ (l.length : Int) > 256 := by omega
    have IW : Hid _ := isWhole_any v l w h ht hv (by omega)
    cases hwh : wholeB l with
    | false =>
      rw [hwh] at IW HC
      obtain ⟨p, cap, rfl⟩ := h.form
      generalize chkO l = r at *
      clear h ht hv hwh
      go_enter Tryd.func11, Tryd.ntmps11
      go_wp2_with (go_at_call 43; refine Calls.mono IW.out ?_; rintro e w1 ⟨rfl, hb1⟩; have B1 : Hid (Below w.heap.size w w1) := hb1; clear hb1)
      go_ret
      exact ⟨ret_int (by rw [HC.out]; rfl), B1.out⟩
    | true =>
      rw [hwh] at IW HC
      have IB : Hid (∀ w1, Below w.heap.size w w1 → _) := fun w1 b => isBound_any v l w1 (h.below b) hwh (by omega)
      have IL : Hid (∀ w1, Below w.heap.size w w1 → _) := fun w1 b => hasLong_any v l w1 (h.below b) (by omega)
      have ID : Hid (∀ w1, Below w.heap.size w w1 → _) := fun w1 b => isTooDeep_any v l w1 (h.below b) (wholeB_ok hwh).2 (by omega)
      obtain ⟨p, cap, rfl⟩ := h.form
      generalize chkO l = r at *
      generalize boundB l = rb at *
      generalize longB l = rl at *
      generalize deepO l = rd at *
      clear h ht hv hwh
      cases rb with
      | false =>
        go_enter Tryd.func11, Tryd.ntmps11
        go_wp2_with (first | (go_at_call 43; refine Calls.mono IW.out ?_; rintro e w1 ⟨rfl, hb1⟩; have B1 : Hid (Below w.heap.size w w1) := hb1; clear hb1) | (go_at_call 44; refine Calls.mono (IB.out _ B1.out) ?_; rintro e w2 ⟨rfl, hb2⟩; have B2 : Hid (Below w.heap.size w w2) := B1.out.trans (hb2.mono B1.out.size); clear hb2))
        go_ret
        exact ⟨ret_int (by rw [HC.out]; rfl), B2.out⟩
      | true =>
        cases rl with
        | true =>
          go_enter Tryd.func11, Tryd.ntmps11
          go_wp2_with (first | (go_at_call 43; refine Calls.mono IW.out ?_; rintro e w1 ⟨rfl, hb1⟩; have B1 : Hid (Below w.heap.size w w1) := hb1; clear hb1) | (go_at_call 44; refine Calls.mono (IB.out _ B1.out) ?_; rintro e w2 ⟨rfl, hb2⟩; have B2 : Hid (Below w.heap.size w w2) := B1.out.trans (hb2.mono B1.out.size); clear hb2) | (go_at_call 45; refine Calls.mono (IL.out _ B2.out) ?_; rintro e w3 ⟨rfl, hb3⟩; have B3 : Hid (Below w.heap.size w w3) := B2.out.trans (hb3.mono B2.out.size); clear hb3))
          go_ret
          exact ⟨ret_int (by rw [HC.out]; simp), B3.out⟩
        | false =>
          by_cases hd : 32 < rd
          · rw [decide_eq_true hd] at ID
            go_enter Tryd.func11, Tryd.ntmps11
            go_wp2_with (first | (go_at_call 43; refine Calls.mono IW.out ?_; rintro e w1 ⟨rfl, hb1⟩; have B1 : Hid (Below w.heap.size w w1) := hb1; clear hb1) | (go_at_call 44; refine Calls.mono (IB.out _ B1.out) ?_; rintro e w2 ⟨rfl, hb2⟩; have B2 : Hid (Below w.heap.size w w2) := B1.out.trans (hb2.mono B1.out.size); clear hb2) | (go_at_call 45; refine Calls.mono (IL.out _ B2.out) ?_; rintro e w3 ⟨rfl, hb3⟩; have B3 : Hid (Below w.heap.size w w3) := B2.out.trans (hb3.mono B2.out.size); clear hb3) | (go_at_call 46; refine Calls.mono (ID.out _ B3.out) ?_; rintro e w4 ⟨rfl, hb4⟩; have B4 : Hid (Below w.heap.size w w4) := B3.out.trans (hb4.mono B3.out.size); clear hb4))
            go_ret
            exact ⟨ret_int (by rw [HC.out]; simp [hd]), B4.out⟩
          · rw [decide_eq_false hd] at ID
            go_enter Tryd.func11, Tryd.ntmps11
            go_wp2_with (first | (go_at_call 43; refine Calls.mono IW.out ?_; rintro e w1 ⟨rfl, hb1⟩; have B1 : Hid (Below w.heap.size w w1) := hb1; clear hb1) | (go_at_call 44; refine Calls.mono (IB.out _ B1.out) ?_; rintro e w2 ⟨rfl, hb2⟩; have B2 : Hid (Below w.heap.size w w2) := B1.out.trans (hb2.mono B1.out.size); clear hb2) | (go_at_call 45; refine Calls.mono (IL.out _ B2.out) ?_; rintro e w3 ⟨rfl, hb3⟩; have B3 : Hid (Below w.heap.size w w3) := B2.out.trans (hb3.mono B2.out.size); clear hb3) | (go_at_call 46; refine Calls.mono (ID.out _ B3.out) ?_; rintro e w4 ⟨rfl, hb4⟩; have B4 : Hid (Below w.heap.size w w4) := B3.out.trans (hb4.mono B3.out.size); clear hb4))
            go_ret
            exact ⟨ret_int (by rw [HC.out]; simp [hd]), B4.out⟩
end Go.Proofs.YtkdoojndighdjaaDoor
