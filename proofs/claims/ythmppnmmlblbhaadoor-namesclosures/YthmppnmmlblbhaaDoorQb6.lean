/- Names: Cyclic. -/
import Derived.Test.YthmppnmmlblbhaaDoorQb5
namespace Go.Proofs.YthmppnmmlblbhaaDoor
open Go.RowKit Go.Maps

theorem RM.isIn {w : World} {b r n : Nat} {p left : ByteArray → Bool} {cnt : Nat} (h : RM w b r n p left cnt) {s : ByteArray} (hs : left s = true) : p s = true := by
  obtain ⟨D', lf, ⟨es, clock, since, seen, c0, g1, g2, g3, g4, g5, g6, g7, g8, g9, _⟩, q2, q3⟩ := h
  obtain ⟨y, hy, hyk⟩ := g9 (kS s) ((q3 s).trans hs)
  rw [← q2 s, g4, has_eq, List.any_eq_true]
  exact ⟨_, mem_sorted.2 (List.mem_map.2 ⟨y, hy, rfl⟩), by rw [hyk]; exact WideAt.sameKey_self (kS_key _)⟩
theorem RM.notRow {w : World} {b r n : Nat} {p left : ByteArray → Bool} {cnt : Nat} (h : RM w b r n p left cnt) : ∀ cs, w.heap[r]? ≠ some (.cells cs 9) := fun cs e => by
  obtain ⟨D', lf, ⟨es, clock, since, seen, c0, g1, g2, g3, g4, g5, _⟩, q2, q3⟩ := h
  rw [e] at g5; cases g5
theorem rch_prov {L : List Prv} {s z : ByteArray} (h : Rch (askF L) s z) : inB (nameL L) s = true := by
  obtain ⟨y, hy, _⟩ := h.first
  unfold askF at hy
  split at hy
  · rename_i p hp
    have h1 := List.mem_of_find?_eq_some hp
    have h2 := List.find?_some hp
    exact (inB_iff _ _).2 (List.mem_map.2 ⟨p, h1, by simpa using h2⟩)
  · cases hy
/-- Cyclic's loop: what is left to look at; what is gathered. -/
structure CYI (w wr : World) (b r bC : Nat) (L : List Prv) (f : ByteArray → Option Value) (left : ByteArray → Bool) (cnt j : Nat) (p : ByteArray → Bool) : Prop where
  rm : RM wr b r L.length (fun s => (f s).isSome) left cnt
  ak : AKM wr b L f
  sa : SA wr bC j p
  hp : ∀ s, p s = true ↔ (f s).isSome = true ∧ left s = false ∧ Rch (askF L) s s
  jc : j + cnt ≤ 256
  bl : Below w.heap.size w wr
  bx : FBx wr w.heap.size 0 0
  ne : bC ≠ b ∧ bC ≠ r ∧ r ≠ b ∧ r ≠ w.heap.size ∧ bC ≠ w.heap.size ∧ w.heap.size ≤ bC ∧ w.heap.size ≤ r
theorem CYI.below {w wr w2 : World} {b r bC : Nat} {L : List Prv} {f : ByteArray → Option Value} {left : ByteArray → Bool} {cnt j : Nat} {p : ByteArray → Bool} (h : CYI w wr b r bC L f left cnt j p) (k : Below wr.heap.size wr w2) : CYI w w2 b r bC L f left cnt j p :=
  ⟨h.rm.below k, h.ak.below k, h.sa.below k, h.hp, h.jc, h.bl.trans (k.mono h.bl.size), h.bx.below k, h.ne⟩
/-- One is taken. -/
theorem CYI.take {w wr w1 : World} {b r bC : Nat} {L : List Prv} {f : ByteArray → Option Value} {left : ByteArray → Bool} {cnt cnt' j : Nat} {p : ByteArray → Bool} (h : CYI w wr b r bC L f left cnt j p) (k : But (fun y => y = r) wr w1) (hlt : cnt' < cnt) :
    AKM w1 b L f ∧ SA w1 bC j p ∧ Below w.heap.size w w1 ∧ FBx w1 w.heap.size 0 0 ∧ j + 1 + cnt' ≤ 256 := by
  obtain ⟨n1, n2, n3, n4, n5, n6, n7⟩ := h.ne
  have hj := h.jc
  refine ⟨h.ak.far k (fun y e => by rw [e]; exact h.rm.notRow) (fun e => n3 e.symm), h.sa.far (k.block _ h.sa.lt n2), h.bl.trans ⟨k.os, k.tape, k.output, k.size, fun y hy => k.block y (by have := h.bl.size; omega) (by omega)⟩, h.bx.far (k.block _ h.bx.lt (fun e => n4 e.symm)), by omega⟩
theorem CYI.miss {w wr w1 w3 : World} {b r bC : Nat} {L : List Prv} {f : ByteArray → Option Value} {left : ByteArray → Bool} {cnt cnt' j : Nat} {p : ByteArray → Bool} {x : ByteArray} (h : CYI w wr b r bC L f left cnt j p) (k : But (fun y => y = r) wr w1) (rm : RM w1 b r L.length (fun s => (f s).isSome) (fun s => left s && !decide (s = x)) cnt') (hlt : cnt' < cnt) (hx : left x = true) (hr : ¬ Rch (askF L) x x) (b3 : Below w1.heap.size w1 w3) :
    CYI w w3 b r bC L f (fun s => left s && !decide (s = x)) cnt' j p := by
  obtain ⟨k1, k2, k3, k4, k5⟩ := h.take k hlt
  refine CYI.below ⟨rm, k1, k2, fun s => ?_, by omega, k3, k4, h.ne⟩ b3
  rw [h.hp]
  by_cases e : s = x
  · subst e
    simp [hx, hr]
  · simp [e]
theorem CYI.hit {w wr w1 w3 w4 : World} {b r bC : Nat} {L : List Prv} {f : ByteArray → Option Value} {left : ByteArray → Bool} {cnt cnt' j : Nat} {p : ByteArray → Bool} {x : ByteArray} (h : CYI w wr b r bC L f left cnt j p) (k : But (fun y => y = r) wr w1) (rm : RM w1 b r L.length (fun s => (f s).isSome) (fun s => left s && !decide (s = x)) cnt') (hlt : cnt' < cnt) (hx : left x = true) (hr : Rch (askF L) x x) (b3 : Below w1.heap.size w1 w3) (s4 : SA w4 bC (j + 1) (fun s => p s || decide (s = x))) (b4 : But (fun y => y = bC) w3 w4) :
    CYI w w4 b r bC L f (fun s => left s && !decide (s = x)) cnt' (j + 1) (fun s => p s || decide (s = x)) := by
  obtain ⟨k1, k2, k3, k4, k5⟩ := h.take k hlt
  obtain ⟨n1, n2, n3, n4, n5, n6, n7⟩ := h.ne
  have r3 := rm.below b3
  have f3 := k4.below b3
  have l3 := k3.trans (b3.mono k3.size)
  refine ⟨r3.far (b4.block _ r3.lt.1 (fun e => n1 e.symm)) (b4.block _ r3.lt.2 (fun e => n2 e.symm)), (k1.below b3).far b4 (fun y e => by rw [e]; exact (k2.below b3).notRow) (fun e => n1 e.symm), s4, fun s => ?_, k5, l3.trans ⟨b4.os, b4.tape, b4.output, b4.size, fun y hy => b4.block y (by have := l3.size; omega) (by omega)⟩, f3.far (b4.block _ f3.lt (fun e => n5 e.symm)), h.ne⟩
  have hin : (f x).isSome = true := h.rm.isIn hx
  rw [Bool.or_eq_true, h.hp, decide_eq_true_eq]
  by_cases e : s = x
  · subst e
    simp [hr, hin]
  · simp [e]
set_option maxHeartbeats 16000000 in
theorem cyclic_any (v : Value) (L : List Pvx) (w : World) (h : PR w v L) (hv : NV w) :
    Calls Tryd.prog 31 #[v] w fun e w' => AnsF w w' e (cycL (pL L)) (setF (pL L)) := by
  have A0 : Hid (∀ ob, Below w.heap.size w (w.alloc ob)) := fun ob => (Below.refl _ _).alloc (Nat.le_refl _) ob
  have F0 : Hid (FBx (w.alloc (.cells #[.int .i64 0, .int .i64 0] 26)) w.heap.size 0 0) := heap_alloc_new _ _
  by_cases hn : (setF (pL L)).2 = 0
  · obtain ⟨hfi, hz⟩ := fine_of hn
    have e1 : cycL (pL L) = srtL (fun s => rchB (askF (pL L)) s s) := by unfold cycL; rw [if_pos hn]
    rw [e1, hz]
    have hl256 := hfi.len
    have AK : Hid (∀ w1, Below w.heap.size w w1 → _) := fun w1 b => asking_akm v L w1 (h.below b) (hv.below b) hn
    have CL : Hid (∀ w1 b f (x : ByteArray), AKM w1 b (pL L) f → x.size ≤ maxLen → _) := fun w1 b f x hk hx => closure_any (pL L) b f x w1 hk hx
    have SO : Hid (∀ w1 bS n p, SA w1 bS n p → n ≤ 1000000 → (∀ s, p s = true ↔ Rch (askF (pL L)) s s) → Calls Tryd.prog 65 #[.map (some bS)] w1 fun e w' => ∃ q c, e = .returned (.slice q (srtL (fun s => rchB (askF (pL L)) s s)).length c) ∧ OwnG KS w' w1.heap.size (.slice q (srtL (fun s => rchB (askF (pL L)) s s)).length c) (srtL (fun s => rchB (askF (pL L)) s s)) ∧ Below w1.heap.size w1 w') := fun w1 bS n p hs hn hp => by
      refine (sorted_any bS n _ w1 hs hn).mono ?_
      rintro e w' ⟨q, c, T, rfl, ho, hsr, hb⟩
      have ep : p = fun s => rchB (askF (pL L)) s s := funext fun s => by rw [Bool.eq_iff_iff, hp, rchB_iff]
      rw [ep] at hsr
      have e := hsr.eq
      rw [← e]
      exact ⟨q, c, rfl, ho, hb⟩
    have RP : Hid (∀ s, Rch (askF (pL L)) s s → inB (nameL (pL L)) s = true) := fun s hr => rch_prov hr
    obtain ⟨p, cap, rfl⟩ := h.gs.form
    have hmm := @run_makeMap Tryd.prog
    have PL : Hid ((pL L).length ≤ 256) := by show _ ≤ _; rw [pL_len]; exact hl256
    clear h hv hn hz e1 hfi
    generalize pL L = LL at *
    go_enter Tryd.func31, Tryd.ntmps31
    go_wp2_with fail
    refine Calls.mono (AK.out _ (A0.out _)) ?_
    rintro e w1 ⟨b, f, rfl, hk, hlo, hb1⟩
    have K1 : Hid (AKM w1 b LL f) := hk
    have B1 : Hid (Below w.heap.size w w1) := (A0.out _).trans (hb1.mono (A0.out _).size)
    have F1 : Hid (FBx w1 w.heap.size 0 0) := F0.out.below hb1
    have LB : Hid (w.heap.size < b ∧ b < w1.heap.size) := ⟨by simp at hlo; omega, hk.mv.lt⟩
    clear hk hb1 AK F0 hlo
    have D2 : Hid (∀ ob, AKM ((w1.alloc ob).alloc (.map #[] 0)) b LL f ∧ SA ((w1.alloc ob).alloc (.map #[] 0)) (w1.heap.size + 1) 0 (fun _ => false) ∧ Below w1.heap.size w1 ((w1.alloc ob).alloc (.map #[] 0)) ∧ ((w1.alloc ob).alloc (.map #[] 0)).heap.size = w1.heap.size + 2) := fun ob => by
      have b2 : Below w1.heap.size w1 ((w1.alloc ob).alloc (.map #[] 0)) := ((Below.refl _ _).alloc (Nat.le_refl _) _).alloc (by simp) _
      have h := SA.made (w1.alloc ob)
      rw [show (w1.alloc ob).heap.size = w1.heap.size + 1 by simp] at h
      exact ⟨K1.out.below b2, h, b2, by simp⟩
    go_wp2_with (first | (at_range; refine range_mv rfl _ 70 rfl 28 Tryd.underlying70 b LL.length f rfl (D2.out _).1.mv (w1.heap.size + 2) (by simp) ?_; intro w3 cnt3 hrg3 hc3 hb3 hs3))
    go_frame
    have C3 : Hid (∃ left cnt j p, CYI w w3 b (w1.heap.size + 2) (w1.heap.size + 1) LL f left cnt j p) := by
      obtain ⟨d1, d2, d3, d4⟩ := D2.out (.cells #[.int .i64 0, .int .i64 0] 26)
      have b13 : Below w1.heap.size w1 w3 := d3.trans (hb3.mono d3.size)
      have l1 := F1.out.lt
      have l2 := LB.out
      have l3 := PL.out
      refine ⟨_, cnt3, 0, _, hrg3, d1.below hb3, d2.below hb3, fun s => ?_, by omega, B1.out.trans (b13.mono B1.out.size), F1.out.below b13, by omega, by omega, by omega, by omega, by omega, by omega, by omega⟩
      cases hfs : (f s).isSome <;> simp
    clear hrg3 hb3 hs3 hc3 D2
    go_loopw [20] (fun _ wr => ∃ wk, wk = wr ∧ Hid (∃ left cnt j p, CYI w wk b (w1.heap.size + 2) (w1.heap.size + 1) LL f left cnt j p)) (fun _ wr => wr.rangeLeft b (w1.heap.size + 2))
    case atStart => exact ⟨_, rfl, C3⟩
    case round =>
      obtain ⟨wr, rfl, HI⟩ := hrel
      clear C3
      obtain ⟨left, cnt, j, p, hcy⟩ := HI.out
      have HC : Hid (CYI w wr b (w1.heap.size + 2) (w1.heap.size + 1) LL f left cnt j p) := hcy
      clear HI hcy
      go_wp2_with (first | (at_next; refine next_mv rfl _ rfl b (w1.heap.size + 2) LL.length _ left cnt rfl HC.out.rm ?_ ?_))
      · intro hd
        have S1 : Hid _ := SO.out wr (w1.heap.size + 1) j p HC.out.sa (by have := HC.out.jc; omega) (fun s => by
          rw [HC.out.hp]
          constructor
          · rintro ⟨_, _, hr⟩; exact hr
          · intro hr; exact ⟨by rw [HC.out.ak.hs]; exact RP.out s hr, hd s, hr⟩)
        clear hd
        go_wp2_with fail
        refine Calls.mono S1.out ?_
        rintro e w4 ⟨q4, c4, rfl, o4, b4⟩
        have B4 : Hid (Below w.heap.size w w4) := HC.out.bl.trans (b4.mono HC.out.bl.size)
        have F4 : Hid (FBx w4 w.heap.size 0 0) := HC.out.bx.below b4
        have O4 : Hid (∀ u0 u1, OwnG KS ((w4.setCell ⟨w.heap.size, 0, none⟩ u0).setCell ⟨w.heap.size, 1, none⟩ u1) w.heap.size (.slice q4 (srtL (fun s => rchB (askF LL) s s)).length c4) (srtL (fun s => rchB (askF LL) s s))) := fun u0 u1 => by
          have h1 := HC.out.bx.lt
          refine (o4.low (by omega)).far fun g hg => ?_
          have h3 := (o4.lt hg).1
          rw [set_far (show g ≠ w.heap.size by omega), set_far (show g ≠ w.heap.size by omega)]
        obtain ⟨y0, y1⟩ := F4.out.cells
        have fz := F4.out.fz
        have zl := F4.out.lt
        clear o4 b4 S1
        go_wp2_with fail
        exact bodyPost_ret (v := .tuple #[.slice q4 (srtL (fun s => rchB (askF LL) s s)).length c4, .agg #[.int .i64 0, .int .i64 0]]) (by simp [results, Tryd.results31, go_sem, y0, y1]) rfl ⟨q4, c4, rfl, O4.out _ _, below_set2 B4.out (Nat.le_refl _) _ _⟩
      · intro x v w4 cnt4 hx hlx hrg4 hlt hbt4 hs4 hen
        have LX : Hid (left x = true) := hlx
        have R4 : Hid _ := hrg4
        have T4 : Hid (But (fun y => y = w1.heap.size + 2) wr w4) := hbt4
        have C4 : Hid _ := CL.out w4 b f x (HC.out.take hbt4 hlt).1 hx
        have ZW : Hid (wr.rangeLeft b (w1.heap.size + 2) = cnt) := HC.out.rm.left_eq
        have LT4 : Hid (cnt4 < cnt) := hlt
        clear hrg4 hlx hbt4
        go_wp2_with fail
        refine Calls.mono C4.out ?_
        rintro e w5 ⟨bS, n5, q5, rfl, hs5, hn5, hq5, hlo5, hb5⟩
        have HA : Hid _ := has_any bS n5 q5 x w5 hs5 hx
        have Q5 : Hid (q5 x = true ↔ Rch (askF LL) x x) := hq5 x
        have B5 : Hid (Below w4.heap.size w4 w5) := hb5
        clear hs5 hq5 hb5 C4
        go_wp2_with fail
        refine Calls.mono HA.out ?_
        rintro e w6 ⟨rfl, hb6⟩
        have B6 : Hid (Below w4.heap.size w4 w6) := B5.out.trans (hb6.mono B5.out.size)
        clear hb6 HA B5
        cases hqx : q5 x with
        | true =>
          have hr := Q5.out.1 hqx
          have AD : Hid _ := add_any (w1.heap.size + 1) j p x w6 ((HC.out.take T4.out LT4.out).2.1.below B6.out) hx (by have := HC.out.jc; unfold maxLen; omega)
          go_wp2_with fail
          refine Calls.mono AD.out ?_
          rintro e w7 ⟨rfl, hs7, hb7⟩
          have N7 : Hid (∃ left cnt j p, CYI w w7 b (w1.heap.size + 2) (w1.heap.size + 1) LL f left cnt j p) := ⟨_, _, _, _, HC.out.hit T4.out R4.out LT4.out LX.out hr B6.out hs7 hb7⟩
          have L7 : Hid (w7.rangeLeft b (w1.heap.size + 2) = cnt4) := (HC.out.hit T4.out R4.out LT4.out LX.out hr B6.out hs7 hb7).rm.left_eq
          clear hs7 hb7 AD hr
          go_wp2_with fail
          go_roundw
          case rel => exact ⟨_, rfl, N7⟩
          case measure => rw [L7.out, ZW.out]; exact LT4.out
        | false =>
          have hr : ¬ Rch (askF LL) x x := fun e => by rw [Q5.out.2 e] at hqx; cases hqx
          have N7 : Hid (∃ left cnt j p, CYI w w6 b (w1.heap.size + 2) (w1.heap.size + 1) LL f left cnt j p) := ⟨_, _, _, _, HC.out.miss T4.out R4.out LT4.out LX.out hr B6.out⟩
          have L7 : Hid (w6.rangeLeft b (w1.heap.size + 2) = cnt4) := (HC.out.miss T4.out R4.out LT4.out LX.out hr B6.out).rm.left_eq
          clear hr
          go_wp2_with fail
          go_roundw
          case rel => exact ⟨_, rfl, N7⟩
          case measure => rw [L7.out, ZW.out]; exact LT4.out
  · have e1 : cycL (pL L) = [] := by unfold cycL; rw [if_neg hn]
    rw [e1]
    have AK : Hid (∀ w1, Below w.heap.size w w1 → _) := fun w1 b => askingOf_no v L w1 (h.below b) (hv.below b) hn
    obtain ⟨p, cap, rfl⟩ := h.gs.form
    generalize setF (pL L) = R at *
    obtain ⟨ra, rc⟩ := R
    have h1 : (rc == 0) = false := by simpa using hn
    have h2 : (rc != 0) = true := by simpa using hn
    clear h hv e1
    go_enter Tryd.func31, Tryd.ntmps31
    go_wp2_with fail
    refine Calls.mono (AK.out _ (A0.out _)) ?_
    rintro e w1 ⟨rfl, hb1⟩
    have B1 : Hid (Below w.heap.size w w1) := (A0.out _).trans (hb1.mono (A0.out _).size)
    have F1 : Hid (FBx w1 w.heap.size 0 0) := F0.out.below hb1
    clear hb1 AK
    obtain ⟨y0, y1⟩ := F1.out.cells
    have fz := F1.out.fz
    have zl := F1.out.lt
    obtain ⟨z0, z1⟩ := F1.out.setA ra rc
    go_wp2_with fail
    go_region
    all_goals
      go_wp2_with fail
      exact bodyPost_ret (v := .tuple #[.slice none 0 0, .agg #[.int .i64 ra, .int .i64 rc]]) (by simp [results, Tryd.results31, go_sem, z0, z1]) rfl ⟨none, 0, rfl, OwnG.nil _ _ _, (below_alloc' (below_set2 B1.out (Nat.le_refl _) _ _) _).drew⟩
end Go.Proofs.YthmppnmmlblbhaaDoor
