/- The law NamesOrders. -/
import Derived.Test.YthmppnmmlblbhaaDoorPn2
namespace Go.Proofs.YthmppnmmlblbhaaDoor
open Go.RowKit

/-- Two boxes with faults, laid behind a world. -/
structure TB (wT wk : World) (g1 g2 : Nat) (x y : Int × Int) : Prop where
  bl : Below wT.heap.size wT wk
  b1 : FBx wk g1 x.1 x.2
  b2 : FBx wk g2 y.1 y.2
  l1 : wT.heap.size ≤ g1
  l2 : wT.heap.size ≤ g2
  ne : g1 ≠ g2
theorem TB.below {wT wk w2 : World} {g1 g2 : Nat} {x y : Int × Int} (h : TB wT wk g1 g2 x y) (b : Below wk.heap.size wk w2) : TB wT w2 g1 g2 x y := ⟨h.bl.trans (b.mono h.bl.size), h.b1.below b, h.b2.below b, h.l1, h.l2, h.ne⟩
theorem TB.set1 {wT wk : World} {g1 g2 : Nat} {x y : Int × Int} (h : TB wT wk g1 g2 x y) (z : Int × Int) : TB wT ((wk.setCell ⟨g1, 0, none⟩ (.int .i64 z.1)).setCell ⟨g1, 1, none⟩ (.int .i64 z.2)) g1 g2 z y :=
  ⟨below_set2 h.bl h.l1 _ _, h.b1.set z.1 z.2, h.b2.far (by rw [set_far (Ne.symm h.ne), set_far (Ne.symm h.ne)]), h.l1, h.l2, h.ne⟩
theorem TB.set2 {wT wk : World} {g1 g2 : Nat} {x y : Int × Int} (h : TB wT wk g1 g2 x y) (z : Int × Int) : TB wT ((wk.setCell ⟨g2, 0, none⟩ (.int .i64 z.1)).setCell ⟨g2, 1, none⟩ (.int .i64 z.2)) g1 g2 x z :=
  ⟨below_set2 h.bl h.l2 _ _, h.b1.far (by rw [set_far h.ne, set_far h.ne]), h.b2.set z.1 z.2, h.l1, h.l2, h.ne⟩
/-- A row that a call has made is not touched by a store into an elder box. -/
theorem gs_set {w w3 : World} {v : Value} {T : List ByteArray} (o : OwnG KS w3 w.heap.size v T) {g : Nat} (hg : g < w.heap.size) (u0 u1 : Value) : GS KS ((w3.setCell ⟨g, 0, none⟩ u0).setCell ⟨g, 1, none⟩ u1) v T := by
  refine (o.gs KS_ok.len).blk (by simp) fun x hx _ => ?_
  have h1 := (o.lt hx).1
  rw [set_far (show x ≠ g by omega), set_far (show x ≠ g by omega)]
theorem gs_set2 {w3 : World} {v : Value} {T : List ByteArray} (o : GS KS w3 v T) {g : Nat} (u0 u1 : Value) (hn : ∀ x, v.ownBlock = some x → x ≠ g) : GS KS ((w3.setCell ⟨g, 0, none⟩ u0).setCell ⟨g, 1, none⟩ u1) v T := by
  refine o.blk (by simp) fun x hx _ => ?_
  rw [set_far (hn x hx), set_far (hn x hx)]
set_option maxHeartbeats 16000000 in
theorem namesOrders_any (v : Value) (L : List Pvx) (nm : ByteArray) (w : World) (h : PR w v L) (hv : NV w) (hl : L.length * 104 ≤ 140737488355328) (hnm : nm.size ≤ maxLen) :
    Calls Tryd.prog 8 #[v, .string nm] w fun e w' => e = .returned (.bool true) ∧ Below w.heap.size w w' := by
  have WK : Hid _ := works_any w hv
  have CS : Hid (∀ w1, Below w.heap.size w w1 → _) := fun w1 b => checkSet_any v L w1 (h.below b) (hv.below b)
  by_cases hn : (setF (pL L)).2 = 0
  · obtain ⟨t1, t2, t3, t4, t5⟩ := turned_same hn nm
    rw [← pL_rev] at t1 t2 t3 t4 t5
    have hz := (fine_of hn).2
    have hlen := (fine_of hn).1.len
    rw [hz] at CS t5
    have C1 : Hid (∀ w1, Below w.heap.size w w1 → _) := fun w1 b => closureE_any v L nm w1 (h.below b) (hv.below b) hnm
    have C2 : Hid (∀ w1 u, Below w.heap.size w w1 → PR w1 u L.reverse → Calls Tryd.prog 29 #[u, .string nm] w1 fun e w' => AnsF w1 w' e (closL (pL L) nm) (fromF (pL L) nm)) := fun w1 u b hu => by rw [← t1, ← t2]; exact closureE_any u L.reverse nm w1 hu (hv.below b) hnm
    have Y1 : Hid (∀ w1, Below w.heap.size w w1 → Calls Tryd.prog 31 #[v] w1 fun e w' => AnsF w1 w' e (cycL (pL L)) (0, 0)) := fun w1 b => by rw [← hz]; exact cyclic_any v L w1 (h.below b) (hv.below b)
    have Y2 : Hid (∀ w1 u, Below w.heap.size w w1 → PR w1 u L.reverse → Calls Tryd.prog 31 #[u] w1 fun e w' => AnsF w1 w' e (cycL (pL L)) (0, 0)) := fun w1 u b hu => by rw [← t3, ← t5]; exact cyclic_any u L.reverse w1 hu (hv.below b)
    have G1 : Hid (∀ w1, Below w.heap.size w w1 → _) := fun w1 b => longestE_any v L nm w1 (h.below b) (hv.below b) hnm
    have G2 : Hid (∀ w1 u, Below w.heap.size w w1 → PR w1 u L.reverse → Calls Tryd.prog 33 #[u, .string nm] w1 fun e w' => AnsN w1 w' e (longF (pL L) nm) (fromF (pL L) nm)) := fun w1 u b hu => by rw [← t1, ← t4]; exact longestE_any u L.reverse nm w1 hu (hv.below b) hnm
    have ST : Hid (∀ w1 u1 u2 (m : List ByteArray), GS KS w1 u1 m → GS KS w1 u2 m → m.length ≤ 1000000000000 → Calls Tryd.prog 14 #[u1, u2] w1 fun e w' => e = .returned (.bool true) ∧ Below w1.heap.size w1 w') := fun w1 u1 u2 m h1 h2 h3 => by
      refine (sameTextsG w1 u1 u2 m h1 h2 (by omega)).mono ?_
      rintro e w' ⟨rfl, n, rfl⟩
      exact ⟨rfl, ⟨rfl, rfl, rfl, Nat.le_refl _, fun _ _ => rfl⟩⟩
    have RL : Hid (∀ k (hk : k < L.length), L.reverse.take (k + 1) = L.reverse.take k ++ [L[L.length - 1 - k]'(by omega)]) := fun k hk => by
      rw [List.take_add_one, List.getElem?_eq_getElem (by rw [List.length_reverse]; exact hk), Option.toList_some, List.getElem_reverse]
    have RF : Hid (L.reverse.take L.length = L.reverse) := by show _ = _; rw [List.take_of_length_le (by rw [List.length_reverse]; omega)]
    have PT : Hid (∀ w1 u, Below w.heap.size w w1 → GS KP w1 u L.reverse → PR w1 u L.reverse) := fun w1 u b hu => ⟨hu, fun x hx => (h.ps x (List.mem_reverse.1 hx)).below b⟩
    obtain ⟨p, cap, rfl⟩ := h.gs.form
    have HS : Hid (PR w (.slice p L.length cap) L) := h
    have HL : Hid (∀ M : List Pvx, M.length ≤ 256 → (M.length + 1) * KP.B ≤ 140737488355328) := fun M hM => by show (M.length + 1) * 104 ≤ _; omega
    have LC : Hid ((closL (pL L) nm).length ≤ 1000000000000) := closL_len (pL L) nm
    have LY : Hid ((cycL (pL L)).length ≤ 1000000000000) := cycL_len (pL L)
    clear h hv hn t1 t2 t3 t4 t5 hz
    generalize fromF (pL L) nm = R at *
    obtain ⟨ra, rc⟩ := R
    generalize closL (pL L) nm = TC at *
    generalize cycL (pL L) = TY at *
    generalize longF (pL L) nm = lg at *
    have z1 : (ra == ra) = true := by simp
    have z2 : (rc == rc) = true := by simp
    have z3 : (lg == lg) = true := by simp
    go_enter Tryd.func8, Tryd.ntmps8
    go_wp2_with fail
    refine Calls.mono WK.out ?_
    rintro e w1 ⟨rfl, hb1⟩
    have B1 : Hid (Below w.heap.size w w1) := hb1
    clear hb1 WK
    go_wp2_with fail
    refine Calls.mono (CS.out _ B1.out) ?_
    rintro e w2 ⟨rfl, hb2⟩
    have B2 : Hid (Below w.heap.size w w2) := B1.out.trans (hb2.mono B1.out.size)
    have D0 : Hid (OwnG KP (w2.alloc (.cells #[] 60)) w2.heap.size (.slice (some ⟨w2.heap.size, 0, none⟩) 0 0) [] ∧ Below w2.heap.size w2 (w2.alloc (.cells #[] 60))) := ⟨OwnG.empty KP w2, (Below.refl _ _).alloc (Nat.le_refl _) _⟩
    clear hb2 CS B1
    go_wp2_with fail
    go_loopw [5, 6] (fun v5 v6 wr => ∃ (k g c : Nat) (M : List Pvx) (wk : World), v6 = .int .i64 k ∧ v5 = .slice (some ⟨g, 0, none⟩) M.length c ∧ wk = wr ∧ k ≤ L.length ∧ Hid (M = L.reverse.take k) ∧ Hid (OwnG KP wk w2.heap.size (.slice (some ⟨g, 0, none⟩) M.length c) M ∧ Below w2.heap.size w2 wk)) (fun _ v6 _ => L.length - (intOf v6).toNat)
    case atStart => exact ⟨0, _, 0, [], _, rfl, rfl, rfl, Nat.zero_le _, (by show _ = _; simp), D0⟩
    case round =>
      obtain ⟨k, g, cp, M, wr, rfl, rfl, rfl, hk, HM, HI⟩ := hrel
      clear D0
      have BW : Hid (Below w.heap.size w wr) := B2.out.trans (HI.out.2.mono B2.out.size)
      have hMl : Hid (M.length = k) := by show _ = _; rw [HM.out, List.length_take, List.length_reverse]; omega
      by_cases hlt : k < L.length
      · obtain ⟨X, o, e1, x0, x1, x2, x3, x4, x5, x6, x7, x8⟩ := (HS.out.gs.below BW.out).atP (k := L.length - 1 - k) (by omega)
        obtain rfl : p = some ⟨X, o, none⟩ := e1
        have LS : Hid ((M.length + 1) * KP.B ≤ 140737488355328) := HL.out M (by have := hMl.out; omega)
        have HN : Hid _ := RL.out k hlt
        rw [← HM.out] at HN
        obtain ⟨j, hj⟩ : ∃ j, j = L.length - 1 - k := ⟨_, rfl⟩
        have hjI : (L.length : Int) - 1 - (k : Int) = (j : Int) := by omega
        have hjl : j < L.length := by omega
        obtain ⟨c, hc⟩ : ∃ c, c = L[L.length - 1 - k]'(by omega) := ⟨_, rfl⟩
        rw [← hc] at x0 x1 x2 x3 x4 x5 x6 x7 x8 HN
        rw [← hj] at x0 x1 x2 x3 x4 x5 x6 x7 x8
        clear hc hj
        go_wp2_with (at_builtin; refine append_g KP KP_ok rfl (.tmp 26) (.tmp 35) 22 rfl w2.heap.size Tryd.underlying22 wr _ _ (.slice (some ⟨g, 0, none⟩) M.length cp) M c _ rfl HI.out.1 _ rfl rfl rfl LS.out HI.out.2.size ?_; intro g2 c2 w4 ho4 hb4 hk4 hg4)
        have H4 : Hid (OwnG KP w4 w2.heap.size (.slice (some ⟨g2, 0, none⟩) (M ++ [c]).length c2) (M ++ [c]) ∧ Below w2.heap.size w2 w4) := ⟨by rw [List.length_append]; exact ho4, HI.out.2.trans hb4⟩
        have hne : (M ++ [c]).length = M.length + 1 := by simp
        clear ho4 hb4 hk4 hg4
        go_roundw
        case rel => exact ⟨k + 1, g2, c2, M ++ [c], _, by go_num, by rw [hne], rfl, by omega, HN.out.symm, H4⟩
        case measure => simp [intOf]; omega
      · have hke : k = L.length := by omega
        have HMR : Hid (M = L.reverse) := by show _ = _; rw [HM.out, hke, RF.out]
        have HTU : Hid (PR wr (.slice (some ⟨g, 0, none⟩) M.length cp) L.reverse) := by
          have := HI.out.1.gs KP_ok.len
          exact PT.out wr _ BW.out (by rw [← HMR.out]; exact this)
        have WB : Hid (∀ w1, Below wr.heap.size wr w1 → Below w.heap.size w w1) := fun w1 b => BW.out.trans (b.mono BW.out.size)
        clear HM HMR HI RL RF PT hMl HL hke B2
        generalize M.length = ml at *
        go_wp2_with fail
        refine Calls.mono (C1.out _ BW.out) ?_
        rintro e w3 ⟨pa, ca, rfl, o3, b3⟩
        have A3 : Hid (GS KS w3 (.slice pa TC.length ca) TC) := o3.gs KS_ok.len
        have B3 : Hid (Below wr.heap.size wr w3) := b3
        have AB : Hid (∀ ob, Below w3.heap.size w3 (w3.alloc ob)) := fun ob => (Below.refl _ _).alloc (Nat.le_refl _) ob
        have F3 : Hid (FBx (w3.alloc (.cells #[.int .i64 ra, .int .i64 rc] 26)) w3.heap.size ra rc) := heap_alloc_new _ _
        clear o3 b3 C1
        have BZ : Hid (∀ ob, Below wr.heap.size wr (w3.alloc ob)) := fun ob => B3.out.trans ((AB.out ob).mono B3.out.size)
        go_wp2_with fail
        refine Calls.mono (C2.out _ _ (WB.out _ (BZ.out _)) (HTU.out.below (BZ.out _))) ?_
        rintro e w4 ⟨pb, cb, rfl, o4, b4⟩
        have C4 : Hid (Below w3.heap.size w3 w4) := (AB.out _).trans (b4.mono (AB.out _).size)
        have A4 : Hid (GS KS w4 (.slice pa TC.length ca) TC) := A3.out.below C4.out
        have E4 : Hid (GS KS w4 (.slice pb TC.length cb) TC) := o4.gs KS_ok.len
        have F4 : Hid (FBx w4 w3.heap.size ra rc) := F3.out.below b4
        have B4 : Hid (Below wr.heap.size wr w4) := B3.out.trans (C4.out.mono B3.out.size)
        have L34 : Hid (w3.heap.size < w4.heap.size) := F4.out.lt
        clear o4 b4 C2 AB F3 BZ A3
        have TB5 : Hid (TB wr (w4.alloc (.cells #[.int .i64 ra, .int .i64 rc] 26)) w3.heap.size w4.heap.size (ra, rc) (ra, rc)) := ⟨B4.out.trans (((Below.refl _ _).alloc (Nat.le_refl _) _).mono B4.out.size), F4.out.below ((Below.refl _ _).alloc (Nat.le_refl _) _), heap_alloc_new _ _, B3.out.size, B4.out.size, by have := L34.out; omega⟩
        have AC : Hid (∀ ob, Below w4.heap.size w4 (w4.alloc ob)) := fun ob => (Below.refl _ _).alloc (Nat.le_refl _) ob
        have q0 : ∀ ob, (w4.alloc ob).cell? ⟨w3.heap.size, 0, none⟩ = some (.int .i64 ra) := fun ob => (F4.out.below (AC.out ob)).cells.1
        have q1 : ∀ ob, (w4.alloc ob).cell? ⟨w3.heap.size, 1, none⟩ = some (.int .i64 rc) := fun ob => (F4.out.below (AC.out ob)).cells.2
        have TCl : Hid (TC.length ≤ 1000000000000) := LC.out
        go_wp2_with fail
        refine Calls.mono (ST.out _ _ _ _ (A4.out.below (AC.out _)) (E4.out.below (AC.out _)) TCl.out) ?_
        rintro e w5 ⟨rfl, hb5⟩
        have T5 : Hid (TB wr w5 w3.heap.size w4.heap.size (ra, rc) (ra, rc)) := TB5.out.below hb5
        clear hb5 TB5 AC q0 q1 A4 E4 F4
        generalize w3.heap.size = ga at *
        generalize w4.heap.size = gb at *
        go_wp2_with fail
        refine Calls.mono (Y1.out _ (WB.out _ T5.out.bl)) ?_
        rintro e w6 ⟨pa, ca, rfl, o6, b6⟩
        have T6 : Hid (TB wr w6 ga gb (ra, rc) (ra, rc)) := T5.out.below b6
        have A6 : Hid (∀ u0 u1, GS KS ((w6.setCell ⟨ga, 0, none⟩ u0).setCell ⟨ga, 1, none⟩ u1) (.slice pa TY.length ca) TY) := fun u0 u1 => gs_set o6 T5.out.b1.lt u0 u1
        have N6 : Hid (∀ x, (Value.slice pa TY.length ca).ownBlock = some x → x ≠ gb) := fun x hx => by have h1 := (o6.lt hx).1; have h2 := T5.out.b2.lt; omega
        obtain ⟨y0, y1⟩ := T6.out.b1.cells
        have fz := T6.out.b1.fz
        have zl := T6.out.b1.lt
        clear o6 b6 Y1 T5
        go_wp2_with fail
        refine Calls.mono (Y2.out _ _ (WB.out _ (T6.out.set1 (0, 0)).bl) (HTU.out.below (T6.out.set1 (0, 0)).bl)) ?_
        rintro e w7 ⟨pb, cb, rfl, o7, b7⟩
        have T7 : Hid (TB wr w7 ga gb (0, 0) (ra, rc)) := (T6.out.set1 (0, 0)).below b7
        have A7 : Hid (GS KS w7 (.slice pa TY.length ca) TY) := (A6.out _ _).below b7
        have E7 : Hid (∀ u0 u1, GS KS ((w7.setCell ⟨gb, 0, none⟩ u0).setCell ⟨gb, 1, none⟩ u1) (.slice pb TY.length cb) TY) := fun u0 u1 => gs_set o7 (T6.out.set1 (0, 0)).b2.lt u0 u1
        have A8 : Hid (∀ u0 u1, GS KS ((w7.setCell ⟨gb, 0, none⟩ u0).setCell ⟨gb, 1, none⟩ u1) (.slice pa TY.length ca) TY) := fun u0 u1 => gs_set2 A7.out u0 u1 N6.out
        clear o7 b7 Y2 A6 A7 N6 y0 y1 fz zl T6
        obtain ⟨y0, y1⟩ := T7.out.b2.cells
        have fz := T7.out.b2.fz
        have zl := T7.out.b2.lt
        have T8 : Hid (TB wr ((w7.setCell ⟨gb, 0, none⟩ (.int .i64 0)).setCell ⟨gb, 1, none⟩ (.int .i64 0)) ga gb (0, 0) (0, 0)) := T7.out.set2 (0, 0)
        obtain ⟨r0, r1⟩ := T8.out.b1.cells
        obtain ⟨r2, r3⟩ := T8.out.b2.cells
        have TYl : Hid (TY.length ≤ 1000000000000) := LY.out
        go_wp2_with fail
        refine Calls.mono (ST.out _ _ _ _ (A8.out _ _) (E7.out _ _) TYl.out) ?_
        rintro e w8 ⟨rfl, hb8⟩
        have T9 : Hid (TB wr w8 ga gb (0, 0) (0, 0)) := T8.out.below hb8
        clear hb8 T8 T7 A8 E7 y0 y1 fz zl r0 r1 r2 r3
        go_wp2_with fail
        refine Calls.mono (G1.out _ (WB.out _ T9.out.bl)) ?_
        rintro e w9 ⟨rfl, b9⟩
        have Ta : Hid (TB wr w9 ga gb (0, 0) (0, 0)) := T9.out.below b9
        clear b9 G1 T9
        obtain ⟨y0, y1⟩ := Ta.out.b1.cells
        have fz := Ta.out.b1.fz
        have zl := Ta.out.b1.lt
        go_wp2_with fail
        refine Calls.mono (G2.out _ _ (WB.out _ (Ta.out.set1 (ra, rc)).bl) (HTU.out.below (Ta.out.set1 (ra, rc)).bl)) ?_
        rintro e wb ⟨rfl, bb⟩
        have Tb : Hid (TB wr wb ga gb (ra, rc) (0, 0)) := (Ta.out.set1 (ra, rc)).below bb
        clear bb G2 Ta y0 y1 fz zl
        obtain ⟨y0, y1⟩ := Tb.out.b2.cells
        have fz := Tb.out.b2.fz
        have zl := Tb.out.b2.lt
        have Tc : Hid (TB wr ((wb.setCell ⟨gb, 0, none⟩ (.int .i64 ra)).setCell ⟨gb, 1, none⟩ (.int .i64 rc)) ga gb (ra, rc) (ra, rc)) := Tb.out.set2 (ra, rc)
        obtain ⟨r0, r1⟩ := Tc.out.b1.cells
        obtain ⟨r2, r3⟩ := Tc.out.b2.cells
        go_wp2_with fail
        go_ret
        exact ⟨rfl, WB.out _ Tc.out.bl⟩
  · clear hl
    have hz : Hid ((setF (pL L)).2 ≠ 0) := hn
    obtain ⟨p, cap, rfl⟩ := h.gs.form
    generalize setF (pL L) = R at *
    obtain ⟨ra, rc⟩ := R
    have h1 : (rc == 0) = false := by simpa using hz.out
    clear h hv hn hz
    go_enter Tryd.func8, Tryd.ntmps8
    go_wp2_with fail
    refine Calls.mono WK.out ?_
    rintro e w1 ⟨rfl, hb1⟩
    have B1 : Hid (Below w.heap.size w w1) := hb1
    clear hb1 WK
    go_wp2_with fail
    refine Calls.mono (CS.out _ B1.out) ?_
    rintro e w2 ⟨rfl, hb2⟩
    have B2 : Hid (Below w.heap.size w w2) := B1.out.trans (hb2.mono B1.out.size)
    clear hb2 CS
    go_wp2_with fail
    go_ret
    exact ⟨rfl, B2.out⟩
end Go.Proofs.YthmppnmmlblbhaaDoor
