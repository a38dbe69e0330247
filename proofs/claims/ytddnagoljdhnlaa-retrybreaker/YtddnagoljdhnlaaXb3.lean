/- Retry: NewBreaker, Ask. -/
import Derived.Test.YtddnagoljdhnlaaXb2
import Derived.Deep.Cut
namespace Go.Proofs.Ytddnagoljdhnlaa
open Go.RowKit Go.Maps

theorem ret_pe {v : Value} {a b : Int} (h : a = b) : Ending.returned (.tuple #[v, .int .i64 a]) = .returned (.tuple #[v, .int .i64 b]) := by rw [h]
set_option maxHeartbeats 2000000 in
theorem newBreaker_no (l r : Int) (w : World) (h : nwkB l r = false) : Calls Try.prog 5 #[.int .i64 l, .int .i64 r] w fun e w' => e = .returned (.tuple #[.pointer none, .int .i64 1]) ∧ w' = w := by
  have I1 := fun w' => isWithin_any l 1 1000 w'
  have I2 := fun w' => isWithin_any r 1 1099511627776 w'
  have HB : (decide (1 ≤ l ∧ l ≤ 1000) && decide (1 ≤ r ∧ r ≤ 1099511627776)) = false := h
  clear h
  cases h1 : decide (1 ≤ l ∧ l ≤ 1000) with
  | false =>
    rw [h1] at I1
    clear h1 HB
    go_enter Try.func5, Try.ntmps5
    go_wp2_with (first | (go_at_call 16; refine (I1 _).mono ?_; rintro e w' ⟨rfl, rfl⟩))
    go_ret2
    exact ⟨rfl, rfl⟩
  | true =>
    rw [h1] at I1 HB
    rw [Bool.true_and] at HB
    rw [HB] at I2
    clear h1 HB
    go_enter Try.func5, Try.ntmps5
    go_wp2_with fail
    refine Calls.mono (I1 _) ?_
    rintro e w0 ⟨rfl, hw0⟩
    rw [hw0]
    clear hw0
    go_wp2_with fail
    refine Calls.mono (I2 _) ?_
    rintro e w0 ⟨rfl, hw0⟩
    rw [hw0]
    clear hw0
    go_wp2_with fail
    go_ret2
    exact ⟨rfl, rfl⟩
set_option maxHeartbeats 2000000 in
theorem newBreaker_ok (l r : Int) (w : World) (h : nwkB l r = true) : Calls Try.prog 5 #[.int .i64 l, .int .i64 r] w fun e w' => e = .returned (.tuple #[.pointer (some ⟨w.heap.size + 1, 0, none⟩), .int .i64 0]) ∧ BX w' (w.heap.size + 1) w.heap.size (newK l r) ∧ Below w.heap.size w w' := by
  have I1 := fun w' => isWithin_any l 1 1000 w'
  have I2 := fun w' => isWithin_any r 1 1099511627776 w'
  have HB : (decide (1 ≤ l ∧ l ≤ 1000) && decide (1 ≤ r ∧ r ≤ 1099511627776)) = true := h
  obtain ⟨h1, h2⟩ := Bool.and_eq_true_iff.1 HB
  rw [h1] at I1
  rw [h2] at I2
  clear h h1 h2 HB
  have hmm := @run_makeMap Try.prog
  go_enter Try.func5, Try.ntmps5
  go_wp2_with fail
  refine Calls.mono (I1 _) ?_
  rintro e w0 ⟨rfl, hw0⟩
  rw [hw0]
  clear hw0
  go_wp2_with fail
  refine Calls.mono (I2 _) ?_
  rintro e w0 ⟨rfl, hw0⟩
  rw [hw0]
  clear hw0
  go_wp2_with fail
  go_ret2
  refine ⟨by first | rfl | simp, ⟨?_, ?_⟩, ?_⟩
  · have := heap_alloc_new (w.alloc (.map #[] 0)) (.cells (bkA (newK l r) w.heap.size) 56)
    rw [show (w.alloc (.map #[] 0)).heap.size = w.heap.size + 1 by simp] at this
    exact this
  · exact (MI.made w).far (Below.heap_alloc _ _ _ (by simp))
  · exact ((Below.refl _ _).alloc (Nat.le_refl _) _).alloc (by simp) _
theorem HK.puts {w w' w2 : World} {b m : Nat} {A : Array Value} {L L2 : List (Int × Int)} (h : HK w b m A L w') (q : MI w2 m L2) (t : w'.mapTurned w2 m) : HK w b m A L2 w2 :=
  ⟨by rw [t.grown.block b (lt_of_heap h.hp) (fun e => h.ne (by injection e))]; exact h.hp, q, h.bq.trans (Bq.map t), h.ne⟩
theorem HK.drewO {w w' : World} {b m : Nat} {A : Array Value} {L : List (Int × Int)} (h : HK w b m A L w') : HK w b m A L w'.drew := ⟨h.hp, h.mp.far rfl, ⟨h.bq.os, h.bq.tape, h.bq.output, h.bq.size, h.bq.block⟩, h.ne⟩
theorem askE_t {k : Bk} {a : Int} (h : tdE k a ≠ 0) : askE k a = tdE k a ∧ askB k a = false ∧ askN k a = 0 ∧ askX k a = k := by
  have e : askE k a = tdE k a := by unfold askE; rw [if_pos h]
  have b : askB k a = false := by unfold askB; rw [e]; simp [h]
  exact ⟨e, b, by unfold askN; rw [b]; rfl, by unfold askX; rw [e, if_pos h]⟩
theorem askE_l {k : Bk} {a : Int} (h : tdE k a = 0) (hl : letB k a = true) (hn : k.ways.length = 1024) : askE k a = 3 ∧ askB k a = false ∧ askN k a = 0 ∧ askX k a = k := by
  have e : askE k a = 3 := by unfold askE; rw [if_neg (by simp [h]), if_pos ⟨hl, hn⟩]
  have b : askB k a = false := by unfold askB; rw [e]; simp
  exact ⟨e, b, by unfold askN; rw [b]; rfl, by unfold askX; rw [e, if_pos (by decide)]⟩
theorem askE_n {k : Bk} {a : Int} (h : tdE k a = 0) (hl : letB k a = false) : askE k a = 0 ∧ askB k a = false ∧ askN k a = 0 ∧ askX k a = { k with lst := a } := by
  have e : askE k a = 0 := by unfold askE; rw [if_neg (by simp [h]), if_neg (by simp [hl])]
  have b : askB k a = false := by unfold askB; rw [e, hl]; simp
  exact ⟨e, b, by unfold askN; rw [b]; rfl, by unfold askX; rw [e, if_neg (by simp), if_neg (by simp [hl])]⟩
theorem askE_y {k : Bk} {a : Int} (h : tdE k a = 0) (hl : letB k a = true) (hn : k.ways.length ≠ 1024) : askE k a = 0 ∧ askB k a = true ∧ askN k a = k.trs + 1 ∧ askX k a = lettry (hlf { k with lst := a }) := by
  have e : askE k a = 0 := by unfold askE; rw [if_neg (by simp [h]), if_neg (by simp [hn])]
  have b : askB k a = true := by unfold askB; rw [e, hl]; simp
  exact ⟨e, b, by unfold askN; rw [b]; rfl, by unfold askX; rw [e, if_neg (by simp), if_pos hl]⟩
theorem ret_ibi {a b c d : Int} {p q : Bool} (h : a = b) (k : p = q) (l : c = d) : Ending.returned (.tuple #[.int .i64 a, .bool p, .int .i64 c]) = .returned (.tuple #[.int .i64 b, .bool q, .int .i64 d]) := by rw [h, k, l]
set_option maxHeartbeats 8000000 in
set_option maxRecDepth 100000 in
theorem ask_any (w : World) (b m : Nat) (k : Bk) (C : Int) (h : BX w b m k) (hi : KI2 C k) (hC : C ≤ 1000000000000000000) (a : Int) : Calls Try.prog 8 #[.pointer (some ⟨b, 0, none⟩), .int .i64 a] w fun e w' => e = .returned (.tuple #[.int .i64 (askN k a), .bool (askB k a), .int .i64 (askE k a)]) ∧ BX w' b m (askX k a) ∧ Bq b m w w' := by
  have CT := hid (checkTime_any w b m k h a)
  have LT := hid (lets_any w b m k h a)
  have R0 : Hid (BX w b m k ∧ Bq b m w w) := ⟨h, Bq.refl _ _ _⟩
  have HK0 := hid (HK.of h (Bq.refl b m w))
  by_cases ht : tdE k a = 0
  · rw [ht] at CT
    cases hl : letB k a with
    | false =>
      have E := hid (askE_n ht hl)
      rw [hl] at LT
      have fz := h.fz
      obtain ⟨c0, c1, c2, c3, c4, c5, c6, c7, c8⟩ := h.cells
      have KK : Hid (bkA { k with lst := a } m = (bkA k m).setIfInBounds 6 (.int .i64 a)) := rfl
      have KW : Hid (({ k with lst := a } : Bk).ways = k.ways) := rfl
      generalize ({ k with lst := a } : Bk) = k2 at *
      generalize askE k a = er at *
      generalize askB k a = br at *
      generalize askN k a = nr at *
      generalize askX k a = xr at *
      clear ht hl h hi
      go_enter Try.func8, Try.ntmps8
      go_wp2_with (first | (go_at_call 17; refine CT.out.mono ?_; rintro e w1 ⟨rfl, hw⟩; rw [hw]; clear hw) | (go_at_call 18; refine LT.out.mono ?_; rintro e w1 ⟨rfl, hw⟩; rw [hw]; clear hw))
      go_ret3
      exact ⟨ret_ibi E.out.2.2.1.symm E.out.2.1.symm E.out.1.symm, by rw [E.out.2.2.2]; exact (HK0.out.set 6 _).bx k2 KK.out.symm KW.out⟩
    | true =>
      rw [hl] at LT
      by_cases hn : k.ways.length = 1024
      · have E := hid (askE_l ht hl hn)
        have ML := fun ty => h.mp.len Try.underlying54 ty
        rw [hn] at ML
        obtain ⟨c0, c1, c2, c3, c4, c5, c6, c7, c8⟩ := h.cells
        generalize askE k a = er at *
        generalize askB k a = br at *
        generalize askN k a = nr at *
        generalize askX k a = xr at *
        clear ht hl h hi
        go_enter Try.func8, Try.ntmps8
        go_wp2_with (first | (go_at_call 17; refine CT.out.mono ?_; rintro e w1 ⟨rfl, hw⟩; rw [hw]; clear hw) | (go_at_call 18; refine LT.out.mono ?_; rintro e w1 ⟨rfl, hw⟩; rw [hw]; clear hw))
        go_ret3
        exact ⟨ret_ibi E.out.2.2.1.symm E.out.2.1.symm E.out.1.symm, by rw [E.out.2.2.2]; exact R0.out⟩
      · have E := hid (askE_y ht hl hn)
        have ML := fun ty => h.mp.len Try.underlying54 ty
        have hn2 : ((k.ways.length : Int) == 1024) = false := by simp; omega
        obtain ⟨c0, c1, c2, c3, c4, c5, c6, c7, c8⟩ := h.cells
        have fz := h.fz
        have hst : k.st = 1 ∨ k.st = 2 := by unfold letB at hl; simp at hl; omega
        have H1 : Hid (BX (w.setCell ⟨b, 6, none⟩ (.int .i64 a)) b m { k with lst := a } ∧ Bq b m w (w.setCell ⟨b, 6, none⟩ (.int .i64 a))) := (HK0.out.set 6 _).bx _ rfl rfl
        have I1 := hid (lst_ki hi (tdE_ok ht).1)
        have hlen := hi.len
        have YY : Hid (askX k a = lettry (hlf { k with lst := a })) := E.out.2.2.2
        have Y0 : Hid (hlf { k with lst := a } = if k.st = 2 then ({ k with lst := a } : Bk).turn 3 0 else { k with lst := a }) := rfl
        have Y1 : Hid (({ k with lst := a } : Bk).ways = k.ways ∧ ({ k with lst := a } : Bk).trs = k.trs ∧ ({ k with lst := a } : Bk).st = k.st) := ⟨rfl, rfl, rfl⟩
        generalize ({ k with lst := a } : Bk) = k1 at *
        generalize askE k a = er at *
        generalize askB k a = br at *
        generalize askN k a = nr at *
        generalize askX k a = xr at *
        clear ht hl h hi HK0
        rcases hst with hst | hst
        · rw [hst] at c2 Y0
          rw [if_neg (by decide)] at Y0
          rw [Y0.out] at YY
          have LN : Hid (k1.ways.length < maxLen) := by rw [Y1.out.1]; show _ < _; unfold maxLen; omega
          have T0 := hid I1.out.trs
          have WF : Hid ((Lit.int .i64 (k1.trs + 1)).wf = true) := wfI (by have := T0.out; omega)
          have NO : Hid (lkp k1.ways (k1.trs + 1) = none) := lkp_none (fun x hx => by have := (I1.out.num x hx).1.2; omega)
          have TR : Hid (k1.trs = k.trs) := Y1.out.2.1
          have TB : 0 ≤ k.trs ∧ k.trs ≤ 1000000000000000000 := by have := T0.out; have := TR.out; omega
          clear Y1
          go_enter Try.func8, Try.ntmps8
          go_upto_region 13 with (first | (go_at_call 17; refine CT.out.mono ?_; rintro e w1 ⟨rfl, hw⟩; rw [hw]; clear hw) | (go_at_call 18; refine LT.out.mono ?_; rintro e w1 ⟨rfl, hw⟩; rw [hw]; clear hw))
          have H2 := H1
          clear H1
          generalize hW : (World.setCell _ _ _) = w6
          have P6 : Hid (HK w b m ((bkA k1 m).setIfInBounds 7 (.int .i64 (k1.trs + 1))) k1.ways w6) := by rw [← hW, TR.out]; exact (HK.of H2.out.1 H2.out.2).set 7 _
          clear hW
          have e5 : w6.cell? ⟨b, 5, none⟩ = some (.int .i64 k1.trn) := cell_of_row _ _ _ _ _ _ P6.out.hp
          have e7 : w6.cell? ⟨b, 7, none⟩ = some (.int .i64 (k1.trs + 1)) := cell_of_row _ _ _ _ _ _ P6.out.hp
          have e8 : w6.cell? ⟨b, 8, none⟩ = some (.map (some m)) := cell_of_row _ _ _ _ _ _ P6.out.hp
          obtain ⟨w7, hr7, q7, t7⟩ := P6.out.mp.put Try.underlying54 LN.out (s := k1.trs + 1) WF.out k1.trn NO.out
          obtain ⟨w8, hr8, q8, t8⟩ := P6.out.drewO.mp.put Try.underlying54 LN.out (s := k1.trs + 1) WF.out k1.trn NO.out
          have F7 := hid (P6.out.puts q7 t7)
          have F8 := hid (P6.out.drewO.puts q8 t8)
          have d5 : w7.cell? ⟨b, 5, none⟩ = some (.int .i64 k1.trn) := cell_of_row _ _ _ _ _ _ F7.out.hp
          have d7 : w7.cell? ⟨b, 7, none⟩ = some (.int .i64 (k1.trs + 1)) := cell_of_row _ _ _ _ _ _ F7.out.hp
          have d8 : w7.cell? ⟨b, 8, none⟩ = some (.map (some m)) := cell_of_row _ _ _ _ _ _ F7.out.hp
          have g5 : w8.cell? ⟨b, 5, none⟩ = some (.int .i64 k1.trn) := cell_of_row _ _ _ _ _ _ F8.out.hp
          have g7 : w8.cell? ⟨b, 7, none⟩ = some (.int .i64 (k1.trs + 1)) := cell_of_row _ _ _ _ _ _ F8.out.hp
          have g8 : w8.cell? ⟨b, 8, none⟩ = some (.map (some m)) := cell_of_row _ _ _ _ _ _ F8.out.hp
          have KK : Hid (bkA (lettry k1) m = (bkA k1 m).setIfInBounds 7 (.int .i64 (k1.trs + 1))) := rfl
          have KW : Hid ((lettry k1).ways = k1.ways ++ [(k1.trs + 1, k1.trn)]) := rfl
          have TN : Hid (nr = k1.trs + 1) := by rw [TR.out]; exact E.out.2.2.1
          generalize lettry k1 = k3 at *
          generalize k1.trs + 1 = t1 at *
          generalize k1.trn = t2 at *
          clear q7 t7 q8 t8 P6 H2 LN WF NO TR
          go_region_held3 (fun w' => w'.cell? ⟨b, 5, none⟩ = some (.int .i64 t2) ∧ w'.cell? ⟨b, 7, none⟩ = some (.int .i64 t1) ∧ w'.cell? ⟨b, 8, none⟩ = some (.map (some m))) (go_keep) (fail)
          all_goals
            go_wp2_with fail
            go_ret3
            refine ⟨ret_ibi TN.out.symm E.out.2.1.symm E.out.1.symm, ?_⟩
            rw [YY.out]
            first | exact F7.out.bx _ KK.out.symm KW.out | exact F8.out.bx _ KK.out.symm KW.out
        · rw [hst] at c2 Y0
          rw [if_pos rfl] at Y0
          rw [Y0.out] at YY
          have J1 := hid (turn_ki I1.out (s := 3) (u := 0) (by decide) (by decide))
          have TU := hid (turn_any _ b m k1 H1.out.1 ⟨I1.out.trn.1, by have := I1.out.trn.2; omega⟩ 3)
          have Y2 : Hid ((k1.turn 3 0).ways = k1.ways ∧ (k1.turn 3 0).trs = k1.trs) := ⟨rfl, rfl⟩
          have CC : Hid (∀ w2, BX w2 b m (k1.turn 3 0) → w2.cell? ⟨b, 7, none⟩ = some (.int .i64 k.trs) ∧ ∀ o, w2.frozen? ⟨b, o, none⟩ = false) := fun w2 q => ⟨by rw [← Y1.out.2.1]; exact q.cells.2.2.2.2.2.2.2.1, q.fz⟩
          generalize k1.turn 3 0 = k2 at *
          have LN : Hid (k2.ways.length < maxLen) := by rw [Y2.out.1, Y1.out.1]; show _ < _; unfold maxLen; omega
          have T0 := hid J1.out.trs
          have WF : Hid ((Lit.int .i64 (k2.trs + 1)).wf = true) := wfI (by have := T0.out; omega)
          have NO : Hid (lkp k2.ways (k2.trs + 1) = none) := lkp_none (fun x hx => by have := (J1.out.num x hx).1.2; omega)
          have TR : Hid (k2.trs = k.trs) := Y2.out.2.trans Y1.out.2.1
          have TB : 0 ≤ k.trs ∧ k.trs ≤ 2000000000000000000 := by have := T0.out; have := TR.out; omega
          clear Y1 Y2
          go_enter Try.func8, Try.ntmps8
          go_upto_region 13 with (first | (go_at_call 17; refine CT.out.mono ?_; rintro e w1 ⟨rfl, hw⟩; rw [hw]; clear hw) | (go_at_call 18; refine LT.out.mono ?_; rintro e w1 ⟨rfl, hw⟩; rw [hw]; clear hw) | (go_at_call 19; refine TU.out.mono ?_; rintro e w2 ⟨rfl, q1, q2⟩; have H2 : Hid (BX w2 b m k2 ∧ Bq b m w w2) := ⟨q1, H1.out.2.trans q2⟩; obtain ⟨z7, zf⟩ := CC.out _ q1; clear q1 q2))
          generalize hW : (World.setCell _ _ _) = w6
          have P6 : Hid (HK w b m ((bkA k2 m).setIfInBounds 7 (.int .i64 (k2.trs + 1))) k2.ways w6) := by rw [← hW, TR.out]; exact (HK.of H2.out.1 H2.out.2).set 7 _
          clear hW
          have e5 : w6.cell? ⟨b, 5, none⟩ = some (.int .i64 k2.trn) := cell_of_row _ _ _ _ _ _ P6.out.hp
          have e7 : w6.cell? ⟨b, 7, none⟩ = some (.int .i64 (k2.trs + 1)) := cell_of_row _ _ _ _ _ _ P6.out.hp
          have e8 : w6.cell? ⟨b, 8, none⟩ = some (.map (some m)) := cell_of_row _ _ _ _ _ _ P6.out.hp
          obtain ⟨w7, hr7, q7, t7⟩ := P6.out.mp.put Try.underlying54 LN.out (s := k2.trs + 1) WF.out k2.trn NO.out
          obtain ⟨w8, hr8, q8, t8⟩ := P6.out.drewO.mp.put Try.underlying54 LN.out (s := k2.trs + 1) WF.out k2.trn NO.out
          have F7 := hid (P6.out.puts q7 t7)
          have F8 := hid (P6.out.drewO.puts q8 t8)
          have d5 : w7.cell? ⟨b, 5, none⟩ = some (.int .i64 k2.trn) := cell_of_row _ _ _ _ _ _ F7.out.hp
          have d7 : w7.cell? ⟨b, 7, none⟩ = some (.int .i64 (k2.trs + 1)) := cell_of_row _ _ _ _ _ _ F7.out.hp
          have d8 : w7.cell? ⟨b, 8, none⟩ = some (.map (some m)) := cell_of_row _ _ _ _ _ _ F7.out.hp
          have g5 : w8.cell? ⟨b, 5, none⟩ = some (.int .i64 k2.trn) := cell_of_row _ _ _ _ _ _ F8.out.hp
          have g7 : w8.cell? ⟨b, 7, none⟩ = some (.int .i64 (k2.trs + 1)) := cell_of_row _ _ _ _ _ _ F8.out.hp
          have g8 : w8.cell? ⟨b, 8, none⟩ = some (.map (some m)) := cell_of_row _ _ _ _ _ _ F8.out.hp
          have KK : Hid (bkA (lettry k2) m = (bkA k2 m).setIfInBounds 7 (.int .i64 (k2.trs + 1))) := rfl
          have KW : Hid ((lettry k2).ways = k2.ways ++ [(k2.trs + 1, k2.trn)]) := rfl
          have TN : Hid (nr = k2.trs + 1) := by rw [TR.out]; exact E.out.2.2.1
          generalize lettry k2 = k3 at *
          generalize k2.trs + 1 = t1 at *
          generalize k2.trn = t2 at *
          clear q7 t7 q8 t8 P6 H2 LN WF NO TR
          go_region_held3 (fun w' => w'.cell? ⟨b, 5, none⟩ = some (.int .i64 t2) ∧ w'.cell? ⟨b, 7, none⟩ = some (.int .i64 t1) ∧ w'.cell? ⟨b, 8, none⟩ = some (.map (some m))) (go_keep) (fail)
          all_goals
            go_wp2_with fail
            go_ret3
            refine ⟨ret_ibi TN.out.symm E.out.2.1.symm E.out.1.symm, ?_⟩
            rw [YY.out]
            first | exact F7.out.bx _ KK.out.symm KW.out | exact F8.out.bx _ KK.out.symm KW.out
  · have E := hid (askE_t ht)
    have hE2 : (tdE k a == 0) = false := by simpa using ht
    have hE3 : (tdE k a != 0) = true := by simpa using ht
    generalize askE k a = er at *
    generalize askB k a = br at *
    generalize askN k a = nr at *
    generalize askX k a = xr at *
    generalize tdE k a = y at *
    clear h hi
    go_enter Try.func8, Try.ntmps8
    go_wp2_with (first | (go_at_call 17; refine CT.out.mono ?_; rintro e w1 ⟨rfl, hw⟩; rw [hw]; clear hw))
    go_ret3
    exact ⟨ret_ibi E.out.2.2.1.symm E.out.2.1.symm E.out.1.symm, by rw [E.out.2.2.2]; exact R0.out⟩
end Go.Proofs.Ytddnagoljdhnlaa
