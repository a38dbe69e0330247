/- Names: isTooDeep, Check. -/
import Derived.Test.YtffabehipcomfaaDoorPz6
import Derived.BigRegion
namespace Go.Proofs.YtffabehipcomfaaDoor
open Go.RowKit

/-- The row of depths while the k-th is reckoned. -/
def dRow (A : List (Int × List Int)) (n k : Nat) (x : Int) : List Int := dK A k ++ x :: List.replicate (n - k - 1) 0
theorem dRow_zero (A : List (Int × List Int)) {n k : Nat} (h : k < n) : dK A k ++ List.replicate (n - k) 0 = dRow A n k 0 := by
  unfold dRow
  rw [show n - k = (n - k - 1) + 1 by omega, List.replicate_succ]
  congr 2
theorem dRow_next {A : List (Int × List Int)} {n k : Nat} (h : k < A.length) : dRow A n k (dJ A k (A.getD k (0, [])).2.length) = dK A (k + 1) ++ List.replicate (n - (k + 1)) 0 := by
  unfold dRow
  rw [← dJ_all h, List.append_assoc]
  congr 2
theorem dRow_set {A : List (Int × List Int)} {n k : Nat} (h : k ≤ A.length) (x y : Int) : (dRow A n k x).set k y = dRow A n k y := by
  unfold dRow
  rw [List.set_append_right _ _ (by rw [dK_len h]; exact Nat.le_refl _), dK_len h, Nat.sub_self]; rfl
theorem dRow_len {A : List (Int × List Int)} {n k : Nat} (h : k ≤ A.length) (hk : k < n) (x : Int) : (dRow A n k x).length = n := by
  unfold dRow
  rw [List.length_append, dK_len h]; simp; omega
theorem dRow_at {A : List (Int × List Int)} {n k : Nat} (h : k ≤ A.length) (x : Int) : (dRow A n k x).getD k 0 = x := by
  unfold dRow
  rw [List.getD_eq_getElem?_getD, List.getElem?_append_right (by rw [dK_len h]; exact Nat.le_refl _), dK_len h, Nat.sub_self]; rfl
theorem dRow_low {A : List (Int × List Int)} {n k : Nat} (h : k ≤ A.length) (x : Int) {q : Nat} (hq : q < k) : (dRow A n k x).getD q 0 = (dK A k).getD q 0 := by
  unfold dRow
  rw [List.getD_eq_getElem?_getD, List.getElem?_append_left (by rw [dK_len h]; exact hq), ← List.getD_eq_getElem?_getD]
/-- The state of isTooDeep's visits. -/
def TD (l : List Opn) (g base k : Nat) (F : Nat → Prop) (w : World) : Prop := OwnG KI w base (.slice (some ⟨g, 0, none⟩) l.length l.length) (dK (whA (nsO l)) k ++ List.replicate (l.length - k) 0) ∧ ∀ x, F x ↔ x = g
theorem TD_vis (l : List Opn) (g base : Nat) : Vis (TD l g base) where
  lt := fun k F w h x hx => by
    rw [h.2 x] at hx; subst hx; exact (h.1.lt rfl).2
  keep := fun k F w w' h hs _ _ _ hk => ⟨h.1.far (fun x hx => hk x ((h.2 x).2 (by simpa [Value.ownBlock] using hx.symm))), h.2⟩
set_option maxHeartbeats 8000000 in
set_option maxRecDepth 100000 in
theorem depthV_any (l : List Opn) (k bd g base : Nat) (F : Nat → Prop) (vp : Value) (w : World) (hk : k < l.length) (hlm : l.length ≤ 256)
    (T : TD l g base k F w) (cd : w.cell? ⟨bd, 0, none⟩ = some (.slice (some ⟨g, 0, none⟩) l.length l.length)) (hbg : bd ≠ g) (hP : IS w vp (ptO l k)) (hap : ∀ x, vp.ownBlock = some x → ¬ F x) :
    Calls Tryd.prog 89 (#[.int .i64 k, vp] ++ #[.pointer (some ⟨bd, 0, none⟩)]) w fun e w' => e = .returned (.tuple #[]) ∧ ∃ F', TD l g base (k + 1) F' w' ∧ (∀ x, F' x → F x ∨ w.heap.size ≤ x) ∧ But F w w' := by
  obtain ⟨T1, T2⟩ := T
  have hLA : (whA (nsO l)).length = l.length := by rw [whA_len, nsO_len]
  have HPB : Hid (PB (whA (nsO l))) := whA_PB _
  have HP : Hid (ptO l k = ((whA (nsO l)).getD k (0, [])).2) := rfl
  obtain ⟨A, hA⟩ : ∃ A, A = whA (nsO l) := ⟨_, rfl⟩
  have HA : Hid (A = whA (nsO l)) := hA
  rw [← hA] at hLA HPB HP T1
  rw [dRow_zero A hk] at T1
  have HT2 : Hid (∀ x, F x ↔ x = g) := T2
  obtain ⟨pp, cp, rfl⟩ := hP.form
  obtain ⟨P, hPP⟩ : ∃ P, P = ptO l k := ⟨_, rfl⟩
  have hPl : P.length ≤ 256 := by
    have := (HPB.out k (by omega)).1
    rw [← HP.out, ← hPP] at this; omega
  rw [← hPP] at HP hP hap
  have HIS : Hid (IS w (.slice pp P.length cp) P) := hP
  have HX : Hid (∀ x, (Value.slice pp P.length cp).ownBlock = some x → x ≠ g) := fun x h e => hap x h ((T2 x).2 e)
  have J0 : Hid (OwnG KI w base (.slice (some ⟨g, 0, none⟩) l.length l.length) (dRow A l.length k (dJ A k 0 - 1)) ∧ But (fun x => x = g) w w) := by rw [dJ_zero]; exact ⟨T1, But.refl _ _⟩
  have hgl := (T1.lt rfl).2
  have HLA : Hid (A.length = l.length) := hLA
  have HCD : Hid (w.cell? ⟨bd, 0, none⟩ = some (.slice (some ⟨g, 0, none⟩) l.length l.length)) := cd
  have ZD : Hid (bd < w.heap.size) := block_lt_of_cell cd
  rw [← hPP]
  clear hP hap T1 T2 hA hPP hLA cd
  go_enter Tryd.func89, Tryd.ntmps89
  go_wp2
  go_loopw [9] (fun v9 wr => ∃ (j : Nat) (wj : World), v9 = .int .i64 j ∧ wj = wr ∧ j ≤ P.length ∧ Hid (OwnG KI wj base (.slice (some ⟨g, 0, none⟩) l.length l.length) (dRow A l.length k (dJ A k j - 1)) ∧ But (fun x => x = g) w wj)) (fun v9 _ => P.length - (intOf v9).toNat)
  case atStart => exact ⟨0, _, rfl, rfl, Nat.zero_le _, J0⟩
  case round =>
    obtain ⟨j, wj, rfl, rfl, hj, HJ⟩ := hrel
    clear J0
    have cd : wj.cell? ⟨bd, 0, none⟩ = some (.slice (some ⟨g, 0, none⟩) l.length l.length) := (World.cell?_of_block (w := w) (w' := wj) (a := ⟨bd, 0, none⟩) (HJ.out.2.block bd ZD.out hbg)).trans HCD.out
    have hDl : k ≤ A.length := by have := HLA.out; omega
    have hRl : ∀ x, (dRow A l.length k x).length = l.length := fun x => dRow_len hDl hk x
    have ck : wj.cell? ⟨g, k, none⟩ = some (.int .i64 (dJ A k j - 1)) := by
      have := own_int HJ.out.1 (hRl _).symm (j := k) (by rw [hRl]; exact hk)
      rw [dRow_at hDl] at this; exact this
    have fz : wj.frozen? ⟨g, k, none⟩ = false := by
      have := HJ.out.1; unfold OwnG at this; rw [hRl] at this
      exact World.ownsRow.frozenAt this k
    have SET0 : Hid (∀ x, OwnG KI (wj.setCell ⟨g, k, none⟩ (.int .i64 x)) base (.slice (some ⟨g, 0, none⟩) l.length l.length) (dRow A l.length k x) ∧ But (fun x => x = g) w (wj.setCell ⟨g, k, none⟩ (.int .i64 x))) := fun x => ⟨by
      have := HJ.out.1.set1 rfl KI_ok.len (k := k) x (.int .i64 x) rfl
      rw [dRow_set hDl] at this; exact this, ⟨HJ.out.2.os, HJ.out.2.tape, HJ.out.2.output, by rw [set_size]; exact HJ.out.2.size, fun y hy hn => (set_far hn).trans (HJ.out.2.block y hy hn)⟩⟩
    by_cases hjl : j < P.length
    · obtain ⟨q, y, hq, hqk, hy, hy1, hy2, hd, hd1, hd2⟩ := dJ_succ HPB.out (k := k) (j := j) (by rw [HLA.out]; exact hk) (by rw [← HP.out]; exact hjl)
      rw [← HP.out] at hq
      obtain ⟨X, o, rfl, hcj⟩ := HIS.out.atI hjl
      have hq2 : P[j] = q := by rw [← hq]; simp [List.getD, List.getElem?_eq_getElem hjl]
      rw [hq2] at hcj
      have cj : wj.cell? ⟨X, o + j, none⟩ = some (.int .i64 q) := (World.cell?_of_block (w := w) (w' := wj) (a := ⟨X, o + j, none⟩) (HJ.out.2.block X (block_lt_of_cell hcj) (HX.out X rfl))).trans hcj
      have cq : wj.cell? ⟨g, q, none⟩ = some (.int .i64 y) := by
        have := own_int HJ.out.1 (hRl _).symm (j := q) (by rw [hRl]; omega)
        rw [dRow_low hDl _ hqk, hy] at this; exact this
      have SET : Hid (∀ x, x = dJ A k (j + 1) - 1 → OwnG KI ((wj.setCell ⟨g, k, none⟩ (.int .i64 x)).drew) base (.slice (some ⟨g, 0, none⟩) l.length l.length) (dRow A l.length k (dJ A k (j + 1) - 1)) ∧ But (fun x => x = g) w ((wj.setCell ⟨g, k, none⟩ (.int .i64 x)).drew)) := fun x hx => by
        rw [← hx]
        obtain ⟨a, b⟩ := SET0.out x
        exact ⟨a, ⟨b.os, b.tape, b.output, b.size, b.block⟩⟩
      have HN : Hid (dJ A k (j + 1) = max (dJ A k j) (1 + y)) := hd
      obtain ⟨x, hx⟩ : ∃ x, x = dJ A k j - 1 := ⟨_, rfl⟩
      have hxb : 0 ≤ x ∧ x ≤ k := by omega
      have HXX : Hid (dJ A k j = x + 1) := by show _ = _; omega
      rw [← hx] at ck
      have hql : q < l.length := by omega
      clear SET0 hd hy hcj hq hq2 hx hd1 hd2 hqk
      go_wp2
      clear HJ HIS HX HPB HLA HP HT2 hgl hRl hDl
      go_region
      go_wp2
      go_roundw
      case rel => exact ⟨j + 1, _, by go_num, rfl, by omega, SET.out _ (by rw [HN.out, HXX.out]; split <;> omega)⟩
      case measure => simp [intOf]; omega
    · have hje : j = P.length := by omega
      have hdb : 1 ≤ dJ A k j ∧ dJ A k j ≤ 257 := by
        have h1 := mxL_bd (((A.getD k (0, [])).2.take j).map (dvL (dK A k))) 256 (by omega) (fun y hy => by
          obtain ⟨z, hz, rfl⟩ := List.mem_map.1 hy
          have hz2 := (HPB.out k (by have := HLA.out; omega)).2 z (List.mem_of_mem_take hz)
          have h3 := dK_bd HPB.out k hDl _ (dvL_mem (D := dK A k) (x := z) (by rw [dK_len hDl]; omega))
          omega)
        unfold dJ; omega
      have SET : Hid (∀ x, x = dJ A k j → ∃ F', TD l g base (k + 1) F' (wj.setCell ⟨g, k, none⟩ (.int .i64 x)) ∧ (∀ x, F' x → F x ∨ w.heap.size ≤ x) ∧ But F w (wj.setCell ⟨g, k, none⟩ (.int .i64 x))) := fun x hx => by
        obtain ⟨a, b⟩ := SET0.out x
        have e : dRow A l.length k x = dK A (k + 1) ++ List.replicate (l.length - (k + 1)) 0 := by
          rw [hx, hje, HP.out]; exact dRow_next (by have := HLA.out; omega)
        rw [e, HA.out] at a
        exact ⟨F, ⟨a, HT2.out⟩, fun y hy => Or.inl hy, ⟨b.os, b.tape, b.output, b.size, fun y hy hn => b.block y hy (fun e => hn ((HT2.out y).2 e))⟩⟩
      obtain ⟨x, hx⟩ : ∃ x, x = dJ A k j := ⟨_, rfl⟩
      rw [← hx] at ck hdb SET
      obtain ⟨hx1, hx2⟩ := hdb
      clear hx SET0 hje HJ hRl hDl
      go_wp2
      go_end0
      exact ⟨rfl, SET.out _ (by omega)⟩
end Go.Proofs.YtffabehipcomfaaDoor
namespace Go.Proofs.YtffabehipcomfaaDoor
open Go.RowKit

theorem deepEach_any (v : Value) (l : List Opn) (g bd base : Nat) (w : World) (h : OS w v l) (hX : ∀ x, v.ownBlock = some x → x ≠ g) (hw : walkN 0 (nsO l) = some 1) (hlm : l.length ≤ 256)
    (o : OwnG KI w base (.slice (some ⟨g, 0, none⟩) l.length l.length) (List.replicate l.length 0)) (cd : w.cell? ⟨bd, 0, none⟩ = some (.slice (some ⟨g, 0, none⟩) l.length l.length)) (hbg : bd ≠ g) :
    Calls Tryd.prog 85 #[v, .func (.func 89) #[] #[.pointer (some ⟨bd, 0, none⟩)]] w fun e w' => e = .returned (.tuple #[]) ∧ w'.cell? ⟨bd, 0, none⟩ = some (.slice (some ⟨g, 0, none⟩) l.length l.length) ∧ w'.cell? ⟨g, l.length - 1, none⟩ = some (.int .i64 (deepO l)) ∧ But (fun x => x = g) w w' := by
  have hbd : bd < w.heap.size := block_lt_of_cell cd
  refine (eachWhole_any v l 89 #[.pointer (some ⟨bd, 0, none⟩)] w (TD l g base) (fun x => x = g) (TD_vis _ _ _) h (fun x hx e => hX x hx e) hw hlm ⟨by simpa [dK, dW] using o, fun x => Iff.rfl⟩ Tryd.call89 (fun k F wk vp hk hI hP hap hfn hbt => ?_)).mono ?_
  · exact depthV_any l k bd g base F vp wk hk hlm hI ((World.cell?_of_block (w := w) (w' := wk) (a := ⟨bd, 0, none⟩) (hbt.block bd hbd hbg)).trans cd) hbg hP hap
  · rintro e w' ⟨rfl, F', T, _, hbt⟩
    have hd := deepV_dK hw
    rw [nsO_len] at hd
    have T1 := T.1
    rw [Nat.sub_self, List.replicate_zero, List.append_nil] at T1
    have hl : (dK (whA (nsO l)) l.length).length = l.length := dK_len (by rw [whA_len, nsO_len]; exact Nat.le_refl _)
    refine ⟨rfl, (World.cell?_of_block (w := w) (w' := w') (a := ⟨bd, 0, none⟩) (hbt.block bd hbd hbg)).trans cd, ?_, hbt⟩
    have := own_int T1 hl.symm (j := l.length - 1) (by omega)
    rw [hd.2] at this; exact this
set_option maxHeartbeats 4000000 in
theorem isTooDeep_any (v : Value) (l : List Opn) (w : World) (h : OS w v l) (hw : walkN 0 (nsO l) = some 1) (hlm : l.length ≤ 256) :
    Calls Tryd.prog 74 #[v] w fun e w' => e = .returned (.bool (decide (32 < deepO l))) ∧ Below w.heap.size w w' := by
  have hne := walk_ne hw
  have HS : Hid (OS w v l) := h
  have HW : Hid (walkN 0 (nsO l) = some 1) := hw
  have DE : Hid (∀ w1, Below w.heap.size w w1 → OwnG KI w1 w.heap.size (.slice (some ⟨w.heap.size, 0, none⟩) l.length l.length) (List.replicate l.length 0) → Calls Tryd.prog 85 #[v, .func (.func 89) #[] #[.pointer (some ⟨w1.heap.size, 0, none⟩)]] (w1.alloc (.cells #[.slice (some ⟨w.heap.size, 0, none⟩) l.length l.length] 100)) fun e w' => e = .returned (.tuple #[]) ∧ w'.cell? ⟨w1.heap.size, 0, none⟩ = some (.slice (some ⟨w.heap.size, 0, none⟩) l.length l.length) ∧ w'.cell? ⟨w.heap.size, l.length - 1, none⟩ = some (.int .i64 (deepO l)) ∧ Below w.heap.size w w') := fun w1 hb ho => by
    have AL := (Below.refl _ w1).alloc (Nat.le_refl _) (.cells #[.slice (some ⟨w.heap.size, 0, none⟩) l.length l.length] 100)
    have hg : w.heap.size < w1.heap.size := (ho.lt rfl).2
    refine (deepEach_any v l w.heap.size w1.heap.size w.heap.size _ ((HS.out.below hb).below AL) (fun x hx e => by have := HS.out.lt hne hx; omega) HW.out hlm (ho.below AL) (box_cell (heap_alloc_new _ _)) (by omega)).mono ?_
    rintro e w' ⟨rfl, c1, c2, hbt⟩
    exact ⟨rfl, c1, c2, (hb.trans (AL.mono hb.size)).trans ⟨hbt.os, hbt.tape, hbt.output, hbt.size, fun x hx => hbt.block x (Nat.lt_of_lt_of_le hx (Nat.le_trans hb.size AL.size)) (by omega)⟩⟩
  obtain ⟨p, cap, rfl⟩ := h.form
  have hmf : ∀ (fn : Fn) (first cap : Array Value) (w : World), (Instr.makeFunc fn first cap).run Tryd.prog w = .ok (.func fn first cap) w := fun _ _ _ _ => rfl
  generalize deepO l = d at *
  clear h hw
  go_enter Tryd.func74, Tryd.ntmps74
  go_wp2_with (first | (at_make; refine make_g KI KI_ok 0 rfl rfl _ rfl _ _ 100 rfl Tryd.underlying100 l.length rfl rfl (by omega) (by decide) ?_; intro w1 ho1 hb1; have O1 : Hid _ := ho1; have B1 : Hid (Below w.heap.size w w1) := hb1; clear ho1 hb1) | (go_at_call 85; refine (DE.out _ B1.out O1.out).mono ?_; rintro e w2 ⟨rfl, c1, c2, hb2⟩; have B2 : Hid (Below w.heap.size w w2) := hb2; clear hb2))
  have hi : (l.length : Int) - 1 = ((l.length - 1 : Nat) : Int) := by omega
  have hi2 : l.length - 1 < l.length := by omega
  go_wp2
  go_ret
  exact ⟨rfl, B2.out⟩
set_option maxHeartbeats 4000000 in
theorem check_any (v : Value) (l : List Opn) (w : World) (h : OS w v l) (ht : ∀ c ∈ l, c.text.size ≤ maxLen) (hv : NV w) (_hlm : l.length ≤ 1000000000000000) :
    Calls Tryd.prog 52 #[v] w fun e w' => e = .returned (.int .i64 (chkO l)) ∧ Below w.heap.size w w' := by
  have hlm := _hlm
  have HC : Hid (chkO l = if 256 < l.length then 3 else if wholeB l = true ∧ boundB l = true then (if longB l = true ∨ 32 < deepO l then 3 else 0) else 5) := rfl
  by_cases hl : 256 < l.length
  · obtain ⟨p, cap, rfl⟩ := h.form
    rw [if_pos hl] at HC
    generalize chkO l = r at *
    have hl2 : (l.length : Int) > 256 := by omega
    clear h ht hv
    go_enter Tryd.func52, Tryd.ntmps52
    go_wp2
    go_ret
    exact ⟨ret_int HC.out.symm, Below.refl _ _⟩
  · rw [if_neg hl] at HC
    have hl2 : ¬ (l.length : Int) > 256 := by omega
    have IW : Hid _ := isWhole_any v l w h ht hv (by omega)
    cases hwh : wholeB l with
    | false =>
      rw [hwh] at IW HC
      obtain ⟨p, cap, rfl⟩ := h.form
      generalize chkO l = r at *
      clear h ht hv hwh
      go_enter Tryd.func52, Tryd.ntmps52
      go_wp2_with (go_at_call 71; refine Calls.mono IW.out ?_; rintro e w1 ⟨rfl, hb1⟩; have B1 : Hid (Below w.heap.size w w1) := hb1; clear hb1)
      go_ret
      exact ⟨ret_int (by rw [HC.out]; rfl), B1.out⟩
    | true =>
      rw [hwh] at IW HC
      have IB : Hid (∀ w1, Below w.heap.size w w1 → _) := fun w1 b => isBound_any v l w1 (h.below b) hwh (by omega)
      have IL : Hid (∀ w1, Below w.heap.size w w1 → _) := fun w1 b => hasLong_any v l w1 (h.below b) (by omega)
      have ID : Hid (∀ w1, Below w.heap.size w w1 → _) := fun w1 b => isTooDeep_any v l w1 (h.below b) (wholeB_ok hwh).2 (by omega)
      obtain ⟨p, cap, rfl⟩ := h.form
      generalize chkO l = r at *
      generalize boundB l = rb at *
      generalize longB l = rl at *
      generalize deepO l = rd at *
      clear h ht hv hwh
      cases rb with
      | false =>
        go_enter Tryd.func52, Tryd.ntmps52
        go_wp2_with (first | (go_at_call 71; refine Calls.mono IW.out ?_; rintro e w1 ⟨rfl, hb1⟩; have B1 : Hid (Below w.heap.size w w1) := hb1; clear hb1) | (go_at_call 72; refine Calls.mono (IB.out _ B1.out) ?_; rintro e w2 ⟨rfl, hb2⟩; have B2 : Hid (Below w.heap.size w w2) := B1.out.trans (hb2.mono B1.out.size); clear hb2))
        go_ret
        exact ⟨ret_int (by rw [HC.out]; rfl), B2.out⟩
      | true =>
        cases rl with
        | true =>
          go_enter Tryd.func52, Tryd.ntmps52
          go_wp2_with (first | (go_at_call 71; refine Calls.mono IW.out ?_; rintro e w1 ⟨rfl, hb1⟩; have B1 : Hid (Below w.heap.size w w1) := hb1; clear hb1) | (go_at_call 72; refine Calls.mono (IB.out _ B1.out) ?_; rintro e w2 ⟨rfl, hb2⟩; have B2 : Hid (Below w.heap.size w w2) := B1.out.trans (hb2.mono B1.out.size); clear hb2) | (go_at_call 73; refine Calls.mono (IL.out _ B2.out) ?_; rintro e w3 ⟨rfl, hb3⟩; have B3 : Hid (Below w.heap.size w w3) := B2.out.trans (hb3.mono B2.out.size); clear hb3))
          go_ret
          exact ⟨ret_int (by rw [HC.out]; simp), B3.out⟩
        | false =>
          by_cases hd : 32 < rd
          · rw [decide_eq_true hd] at ID
            go_enter Tryd.func52, Tryd.ntmps52
            go_wp2_with (first | (go_at_call 71; refine Calls.mono IW.out ?_; rintro e w1 ⟨rfl, hb1⟩; have B1 : Hid (Below w.heap.size w w1) := hb1; clear hb1) | (go_at_call 72; refine Calls.mono (IB.out _ B1.out) ?_; rintro e w2 ⟨rfl, hb2⟩; have B2 : Hid (Below w.heap.size w w2) := B1.out.trans (hb2.mono B1.out.size); clear hb2) | (go_at_call 73; refine Calls.mono (IL.out _ B2.out) ?_; rintro e w3 ⟨rfl, hb3⟩; have B3 : Hid (Below w.heap.size w w3) := B2.out.trans (hb3.mono B2.out.size); clear hb3) | (go_at_call 74; refine Calls.mono (ID.out _ B3.out) ?_; rintro e w4 ⟨rfl, hb4⟩; have B4 : Hid (Below w.heap.size w w4) := B3.out.trans (hb4.mono B3.out.size); clear hb4))
            go_ret
            exact ⟨ret_int (by rw [HC.out]; simp [hd]), B4.out⟩
          · rw [decide_eq_false hd] at ID
            go_enter Tryd.func52, Tryd.ntmps52
            go_wp2_with (first | (go_at_call 71; refine Calls.mono IW.out ?_; rintro e w1 ⟨rfl, hb1⟩; have B1 : Hid (Below w.heap.size w w1) := hb1; clear hb1) | (go_at_call 72; refine Calls.mono (IB.out _ B1.out) ?_; rintro e w2 ⟨rfl, hb2⟩; have B2 : Hid (Below w.heap.size w w2) := B1.out.trans (hb2.mono B1.out.size); clear hb2) | (go_at_call 73; refine Calls.mono (IL.out _ B2.out) ?_; rintro e w3 ⟨rfl, hb3⟩; have B3 : Hid (Below w.heap.size w w3) := B2.out.trans (hb3.mono B2.out.size); clear hb3) | (go_at_call 74; refine Calls.mono (ID.out _ B3.out) ?_; rintro e w4 ⟨rfl, hb4⟩; have B4 : Hid (Below w.heap.size w w4) := B3.out.trans (hb4.mono B3.out.size); clear hb4))
            go_ret
            exact ⟨ret_int (by rw [HC.out]; simp [hd]), B4.out⟩
end Go.Proofs.YtffabehipcomfaaDoor
