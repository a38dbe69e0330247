/- The law NamesCloses. -/
import Derived.Test.YthmppnmmlblbhaaDoorQc2
import Derived.Test.YthmppnmmlblbhaaDoorQd2
import Derived.BigQuiet
namespace Go.Proofs.YthmppnmmlblbhaaDoor
open Go.RowKit

theorem dN_same {w : World} (n : Nat) : Below w.heap.size w (w.drewN n) := ⟨rfl, rfl, rfl, Nat.le_refl _, fun _ _ => rfl⟩
/-- A right set, as the law's calls see it. -/
structure CL (w : World) (v : Value) (L : List Pvx) : Prop where
  pr : PR w v L
  nv : NV w
  ok : (setF (pL L)).2 = 0
theorem CL.below {w w' : World} {v : Value} {L : List Pvx} (h : CL w v L) (b : Below w.heap.size w w') : CL w' v L := ⟨h.pr.below b, h.nv.below b, h.ok⟩
theorem CL.from {w : World} {v : Value} {L : List Pvx} (h : CL w v L) {s : ByteArray} (hs : inB (nameL (pL L)) s = true) : fromF (pL L) s = (0, 0) := by unfold fromF; rw [if_pos h.ok, if_pos hs]
theorem CL.clo {w : World} {v : Value} {L : List Pvx} (h : CL w v L) {s : ByteArray} (hs : inB (nameL (pL L)) s = true) (hz : s.size ≤ maxLen) : Calls Tryd.prog 29 #[v, .string s] w fun e w' => AnsF w w' e (closL (pL L) s) (0, 0) := by
  have := closureE_any v L s w h.pr h.nv hz
  rw [h.from hs] at this; exact this
theorem CL.lng {w : World} {v : Value} {L : List Pvx} (h : CL w v L) {s : ByteArray} (hs : inB (nameL (pL L)) s = true) (hz : s.size ≤ maxLen) : Calls Tryd.prog 33 #[v, .string s] w fun e w' => AnsN w w' e (lngI (pL L) s) (0, 0) := by
  have := longestE_any v L s w h.pr h.nv hz
  have e : longF (pL L) s = lngI (pL L) s := by unfold longF; rw [if_pos (by rw [h.from hs])]
  rw [h.from hs, e] at this; exact this
theorem CL.asked {w : World} {v : Value} {L : List Pvx} (h : CL w v L) {k : Nat} (hk : k < L.length) : Calls Tryd.prog 23 #[.slice L[k].q L[k].p.ops.length L[k].c] w fun e w' => AnsT w w' e (askF (pL L) L[k].p.name) 0 := by
  have hf := (fine_of h.ok).1
  have hc := hf.chk k hk
  have ps := h.pr.ps _ (List.getElem_mem hk)
  have := asked_any (.slice L[k].q L[k].p.ops.length L[k].c) L[k].p.ops w ps.os ps.tx h.nv (by have := ps.ln; omega)
  have e : askL L[k].p.ops 3 = askF (pL L) L[k].p.name := by
    unfold askL
    rw [if_pos hc]
    have hn := find_name (L := pL L) (k := k) (by rw [pL_len]; exact hk) (by rw [pL_len]; exact hf.dup)
    rw [pL_at hk] at hn
    unfold askF
    rw [hn]
  rw [hc, e] at this; exact this
theorem CL.name {w : World} {v : Value} {L : List Pvx} (h : CL w v L) {k : Nat} (hk : k < L.length) : inB (nameL (pL L)) L[k].p.name = true ∧ L[k].p.name.size ≤ maxLen := by
  refine ⟨(inB_iff _ _).2 ?_, (h.pr.ps _ (List.getElem_mem hk)).nm⟩
  unfold nameL pL
  rw [List.map_map]
  exact List.mem_map.2 ⟨L[k], List.getElem_mem hk, rfl⟩
theorem CL.szs {w : World} {v : Value} {L : List Pvx} (h : CL w v L) {s y : ByteArray} (hy : y ∈ askF (pL L) s) : y.size ≤ maxLen := by
  have hm := askF_mem hy
  unfold askU pL at hm
  obtain ⟨q, hq, hx⟩ := List.mem_flatMap.1 hm
  obtain ⟨z, hz, rfl⟩ := List.mem_map.1 hq
  exact texts_sz (h.pr.ps z hz).tx y hx
set_option maxHeartbeats 32000000 in
set_option maxRecDepth 100000 in
theorem namesCloses_any (v : Value) (L : List Pvx) (w : World) (h : PR w v L) (hv : NV w) :
    Calls Tryd.prog 7 #[v] w fun e w' => e = .returned (.bool true) ∧ Below w.heap.size w w' := by
  have WK : Hid _ := works_any w hv
  have CS : Hid (∀ w1, Below w.heap.size w w1 → _) := fun w1 b => checkSet_any v L w1 (h.below b) (hv.below b)
  by_cases hn : (setF (pL L)).2 = 0
  · have hc : CL w v L := ⟨h, hv, hn⟩
    have hz := (fine_of hn).2
    have hlen := (fine_of hn).1.len
    rw [hz] at CS
    have HC : Hid (∀ w1, Below w.heap.size w w1 → CL w1 v L) := fun w1 b => hc.below b
    have Y1 : Hid (∀ w1, Below w.heap.size w w1 → Calls Tryd.prog 31 #[v] w1 fun e w' => AnsF w1 w' e (cycL (pL L)) (0, 0)) := fun w1 b => by rw [← hz]; exact cyclic_any v L w1 (h.below b) (hv.below b)
    have LY : Hid ((cycL (pL L)).length ≤ 1000000000000) := cycL_len (pL L)
    have CYA : Hid (∀ x, inB (cycL (pL L)) x = rchB (askF (pL L)) x x) := fun x => cyc_in hn x
    obtain ⟨p, cap, rfl⟩ := h.gs.form
    clear h hv hz
    generalize cycL (pL L) = TY at *
    go_enter Tryd.func7, Tryd.ntmps7
    go_wp2_with fail
    refine Calls.mono WK.out ?_
    rintro e w1 ⟨rfl, hb1⟩
    have B1 : Hid (Below w.heap.size w w1) := hb1
    clear hb1 WK
    go_wp2_with fail
    refine Calls.mono (CS.out _ B1.out) ?_
    rintro e w2 ⟨rfl, hb2⟩
    have B2 : Hid (Below w.heap.size w w2) := B1.out.trans (hb2.mono B1.out.size)
    clear hb2 CS B1
    go_wp2_with fail
    refine Calls.mono (Y1.out _ B2.out) ?_
    rintro e w3 ⟨pr, cr, rfl, o3, b3⟩
    have B3 : Hid (Below w.heap.size w w3) := B2.out.trans (b3.mono B2.out.size)
    have R3 : Hid (GS KS w3 (.slice pr (TY).length cr) (TY)) := o3.gs KS_ok.len
    have AB : Hid (∀ ob, Below w3.heap.size w3 (w3.alloc ob)) := fun ob => (Below.refl _ _).alloc (Nat.le_refl _) ob
    clear o3 b3 B2 Y1
    by_cases h40 : 40 < L.length
    · go_wp2_with fail
      go_ret
      exact ⟨rfl, B3.out.trans ((AB.out _).mono B3.out.size)⟩
    · go_wp2_with fail
      generalize hW : w3.alloc _ = wB at *
      have BB : Hid (Below w.heap.size w wB) := by rw [← hW]; exact B3.out.trans ((AB.out _).mono B3.out.size)
      have RB : Hid (GS KS wB (.slice pr (TY).length cr) (TY)) := by rw [← hW]; exact R3.out.below (AB.out _)
      clear hW AB R3 B3
      generalize w3.heap.size = gr at *
      go_loopw [5] (fun v5 wr => ∃ (i : Nat) (wk : World), v5 = .int .i64 i ∧ wk = wr ∧ i ≤ L.length ∧ Hid (Below wB.heap.size wB wk)) (fun v5 _ => L.length - (intOf v5).toNat)
      case atStart => exact ⟨0, _, rfl, rfl, Nat.zero_le _, Below.refl _ _⟩
      case round =>
        obtain ⟨i, wr, rfl, rfl, hi, HB⟩ := hrel
        have BW : Hid (Below w.heap.size w wr) := BB.out.trans (HB.out.mono BB.out.size)
        by_cases hlt : i < L.length
        · have cl := HC.out _ BW.out
          obtain ⟨X, o, e1, x0, x1, _⟩ := cl.pr.gs.atP hlt
          obtain rfl : p = some ⟨X, o, none⟩ := e1
          obtain ⟨hpn, hsz⟩ := cl.name hlt
          have CW : Hid (CL wr (.slice (some ⟨X, o, none⟩) L.length cap) L) := cl
          have C1 : Hid _ := cl.clo hpn hsz
          have LC : Hid _ := closL_len (pL L) L[i].p.name
          have XC : Hid (∀ w1, Below wr.heap.size wr w1 → w1.cell? ⟨X, o + i * 9, none⟩ = some (.string L[i].p.name) ∧ w1.cell? ⟨X, o + i * 9 + 1, none⟩ = some (.slice L[i].q L[i].p.ops.length L[i].c)) := fun w1 b => ⟨(b.cell (p := ⟨X, o + i * 9, none⟩) (block_lt_of_cell x0)).trans x0, (b.cell (p := ⟨X, o + i * 9 + 1, none⟩) (block_lt_of_cell x1)).trans x1⟩
          have AK : Hid (∀ w1, Below wr.heap.size wr w1 → _) := fun w1 b => (cl.below b).asked hlt
          have CI : Hid (∀ x, inB (closL (pL L) L[i].p.name) x = rchB (askF (pL L)) L[i].p.name x) := fun x => clos_in (by rw [cl.from hpn]) x
          have RI : Hid (inB (TY) L[i].p.name = rchB (askF (pL L)) L[i].p.name L[i].p.name) := CYA.out _
          have FI : Hid _ := closes_fin hpn
          have HPN : Hid (inB (nameL (pL L)) L[i].p.name = true) := hpn
          obtain ⟨c, hcc⟩ : ∃ c, c = L[i] := ⟨_, rfl⟩
          rw [← hcc] at x0 x1 C1 LC XC AK CI RI FI HPN hsz
          clear hcc cl hpn
          obtain ⟨nm, hnm⟩ : ∃ nm, nm = c.p.name := ⟨_, rfl⟩
          rw [← hnm] at x0 C1 LC XC AK CI RI FI HPN hsz
          clear hnm
          generalize closL (pL L) nm = TC at *
          go_wp2_with fail
          refine Calls.mono C1.out ?_
          rintro e w4 ⟨pc, cc, rfl, o4, b4⟩
          have G4 : Hid (GS KS w4 (.slice pc TC.length cc) TC) := o4.gs KS_ok.len
          have B4 : Hid (Below wr.heap.size wr w4) := b4
          have GCL : Hid (wB.heap.size ≤ w4.heap.size) := Nat.le_trans HB.out.size b4.size
          have AC : Hid (∀ ob, Below w4.heap.size w4 (w4.alloc ob)) := fun ob => (Below.refl _ _).alloc (Nat.le_refl _) ob
          have F4 : Hid (FBx (w4.alloc (.cells #[.int .i64 0, .int .i64 0] 26)) w4.heap.size 0 0) := heap_alloc_new _ _
          have q1 : ∀ ob, (w4.alloc ob).cell? ⟨X, o + i * 9 + 1, none⟩ = some (.slice c.q c.p.ops.length c.c) := fun ob => (XC.out _ (B4.out.trans ((AC.out ob).mono B4.out.size))).2
          clear o4 b4 C1 x0 x1
          go_wp2_with fail
          refine Calls.mono (AK.out _ (B4.out.trans ((AC.out _).mono B4.out.size))) ?_
          rintro e w5 ⟨pa, ca, rfl, o5, b5⟩
          have C5 : Hid (Below w4.heap.size w4 w5) := (AC.out _).trans (b5.mono (AC.out _).size)
          have B5 : Hid (Below wr.heap.size wr w5) := B4.out.trans (C5.out.mono B4.out.size)
          have G5 : Hid (GS KS w5 (.slice pc TC.length cc) TC) := G4.out.below C5.out
          have A5 : Hid (GS KS w5 (.slice pa (askF (pL L) nm).length ca) (askF (pL L) nm)) := o5.gs KS_ok.len
          have F5 : Hid (FBx w5 w4.heap.size 0 0) := F4.out.below b5
          have R5 : Hid (GS KS w5 (.slice pr (TY).length cr) (TY)) := RB.out.below (HB.out.trans (B5.out.mono HB.out.size))
          clear o5 b5 AK C5 F4 q1 G4 AC B4
          have IC : Hid (∀ wn x, Below w5.heap.size w5 wn → Calls Tryd.prog 36 #[.slice pc TC.length cc, .string x] wn fun e w' => e = .returned (.bool (rchB (askF (pL L)) nm x)) ∧ w' = wn) := fun wn x b => by
            have := inG_any _ TC x wn (G5.out.below b) (by have := LC.out; omega)
            rw [CI.out x] at this; exact this
          have IR : Hid (∀ wn, Below w5.heap.size w5 wn → Calls Tryd.prog 36 #[.slice pr (TY).length cr, .string nm] wn fun e w' => e = .returned (.bool (rchB (askF (pL L)) nm nm)) ∧ w' = wn) := fun wn b => by
            have := inG_any _ (TY) nm wn (R5.out.below b) (by have := LY.out; omega)
            rw [RI.out] at this; exact this
          have QC : Hid (∀ wn, Below w5.heap.size w5 wn → wn.cell? ⟨X, o + i * 9, none⟩ = some (.string nm) ∧ FBx wn w4.heap.size 0 0) := fun wn b => ⟨(XC.out _ (B5.out.trans (b.mono B5.out.size))).1, F5.out.below b⟩
          obtain ⟨x5, f5⟩ := QC.out w5 (Below.refl _ _)
          obtain ⟨y0, y1⟩ := f5.cells
          have BR : Hid (Below w5.heap.size w5 w5) := Below.refl _ _
          have BD : Hid (Below w5.heap.size w5 w5.drew) := (Below.refl _ _).drew
          clear f5 G5 R5 CI RI
          obtain ⟨rr, hrr⟩ : ∃ rr, rr = rchB (askF (pL L)) nm nm := ⟨_, rfl⟩
          have IC0 : Hid (∀ wn, Below w5.heap.size w5 wn → Calls Tryd.prog 36 #[.slice pc TC.length cc, .string nm] wn fun e w' => e = .returned (.bool rr) ∧ w' = wn) := fun wn b => by rw [hrr]; exact IC.out wn nm b
          rw [← hrr] at IR FI
          have zr : (rr == rr) = true := by simp
          have zr2 : (rr != rr) = false := by simp
          clear hrr
          generalize w4.heap.size = gc at *
          go_upto_region 13 with fail
          refine wp_region_quiet_lit (by kernel_rfl) (by kernel_rfl) ?_
          go_big_quiet_step (fail)
          go_big_quiet_step (fail)
          go_big_quiet_step (fail)
          go_big_quiet_step (fail)
          go_big_quiet_step (fail)
          go_big_quiet_step (fail)
          go_big_quiet_step (fail)
          go_big_quiet_step (fail)
          go_big_quiet_step (fail)
          go_big_quiet_step (fail)
          go_big_quiet_step (fail)
          go_big_quiet_step (fail)
          go_big_quiet_step (fail)
          go_big_quiet_step (fail)
          go_big_quiet_step ((go_at_call 36; exact Calls.quiet_of_same (IC0.out _ (dN_same _))))
          go_big_quiet_step (fail)
          go_big_quiet_step (fail)
          go_big_quiet_step (fail)
          go_big_quiet_step (fail)
          go_big_quiet_step (fail)
          go_big_quiet_step (fail)
          go_big_quiet_step ((go_at_call 36; exact Calls.quiet_of_same (IR.out _ (dN_same _))))
          go_big_quiet_step (fail)
          go_big_quiet_step (fail)
          refine wpQuiet_nil ?_
          intro _ hw'
          obtain ⟨nq, hw''⟩ := hw'
          subst hw''
          have B6 : Hid (Below w5.heap.size w5 (w5.drewN nq)) := dN_same nq
          generalize hw6 : w5.drewN nq = w6 at *
          clear hw6 x5 y0 y1 BR BD IC0
          have HY : Hid (∀ k (hk : k < (askF (pL L) nm).length), rchB (askF (pL L)) nm (askF (pL L) nm)[k] = true ∧ ((askF (pL L) nm)[k]).size ≤ maxLen ∧ ∀ z, rchB (askF (pL L)) (askF (pL L) nm)[k] z = true → rchB (askF (pL L)) nm z = true) := fun k hk => ⟨rchB_iff.2 (.one (List.getElem_mem hk)), CW.out.szs (List.getElem_mem hk), fun z hz => rchB_iff.2 (.more (List.getElem_mem hk) (rchB_iff.1 hz))⟩
          have A6 : Hid (GS KS w6 (.slice pa (askF (pL L) nm).length ca) (askF (pL L) nm)) := A5.out.below B6.out
          have C6 : Hid (∀ wn, Below w6.heap.size w6 wn → CL wn (.slice (some ⟨X, o, none⟩) L.length cap) L ∧ FBx wn gc 0 0 ∧ Below wr.heap.size wr wn) := fun wn b => by
            have b5 : Below w5.heap.size w5 wn := B6.out.trans (b.mono B6.out.size)
            have br : Below wr.heap.size wr wn := B5.out.trans (b5.mono B5.out.size)
            exact ⟨CW.out.below br, (QC.out wn b5).2, br⟩
          have IC6 : Hid (∀ wn x, Below w6.heap.size w6 wn → rchB (askF (pL L)) nm x = true → Calls Tryd.prog 36 #[.slice pc TC.length cc, .string x] wn fun e w' => e = .returned (.bool true) ∧ w' = wn) := fun wn x b hx => by
            have := IC.out wn x (B6.out.trans (b.mono B6.out.size))
            rw [hx] at this; exact this
          have I6 : Hid _ := IR.out w6 B6.out
          have XN : Hid (∀ wn, Below w6.heap.size w6 wn → wn.cell? ⟨X, o + i * 9, none⟩ = some (.string nm)) := fun wn b => (QC.out wn (B6.out.trans (b.mono B6.out.size))).1
          have x6 := XN.out w6 (Below.refl _ _)
          have HAL : Hid ((askF (pL L) nm).length ≤ 65536) := Nat.le_trans (askF_len _ _) (askU_len CW.out.ok)
          clear IC IR A5 QC F5 B5 CW B6 LC XC
          have hAL := HAL.out
          obtain ⟨AL, hALe⟩ : ∃ AL, AL = askF (pL L) nm := ⟨_, rfl⟩
          rw [← hALe] at HY A6 FI hAL
          rw [← hALe]
          clear hALe HAL
          go_wp2_with fail
          refine Calls.mono I6.out ?_
          rintro e w7 ⟨rfl, hw7⟩
          rw [hw7]
          clear hw7 I6
          go_wp2_with fail
          go_loopw [10, 11, 12] (fun v10 v11 v12 wx => ∃ (k : Nat) (wk : World), v10 = .int .i64 (bstN (pL L) 0 (AL.take k)) ∧ v11 = .bool (trnN (pL L) rr (AL.take k)) ∧ v12 = .int .i64 k ∧ wk = wx ∧ k ≤ AL.length ∧ Hid (Below w6.heap.size w6 wk)) (fun _ _ v12 _ => AL.length - (intOf v12).toNat)
          case atStart => exact ⟨0, _, rfl, rfl, rfl, rfl, Nat.zero_le _, Below.refl _ _⟩
          case round =>
            obtain ⟨k, wk, rfl, rfl, rfl, rfl, hk, HK⟩ := hrel
            by_cases hkl : k < AL.length
            · obtain ⟨X2, o2, e2, yc⟩ := (A6.out.below HK.out).atS hkl
              obtain rfl : pa = some ⟨X2, o2, none⟩ := e2
              have HKL : Hid (k + 1 ≤ AL.length) := hkl
              have BBD := bstN_bd (pL L) (AL.take k) 0 (by omega) (by omega)
              rw [pL_len] at BBD
              have ALL : ∃ y : ByteArray, wk.cell? ⟨X2, o2 + k, none⟩ = some (.string y) ∧ y.size ≤ maxLen ∧ Hid (Calls Tryd.prog 36 #[.slice pc TC.length cc, .string y] wk fun e w' => e = .returned (.bool true) ∧ w' = wk) ∧ Hid (Calls Tryd.prog 37 #[.slice (some ⟨X, o, none⟩) L.length cap, .string y] wk fun e w' => e = .returned (.int .i64 (numI (nameL (pL L)) y)) ∧ w' = wk) ∧ Hid (∀ z, rchB (askF (pL L)) y z = true → rchB (askF (pL L)) nm z = true) ∧ Hid (trnN (pL L) rr (AL.take (k + 1)) = if inB (nameL (pL L)) y = true then trnN (pL L) rr (AL.take k) || (lngI (pL L) y == -1) else trnN (pL L) rr (AL.take k)) ∧ Hid (bstN (pL L) 0 (AL.take (k + 1)) = if inB (nameL (pL L)) y = true then max (bstN (pL L) 0 (AL.take k)) (lngI (pL L) y) else bstN (pL L) 0 (AL.take k)) ∧ Hid (∀ wn, Below w6.heap.size w6 wn → wn.cell? ⟨X2, o2 + k, none⟩ = some (.string y)) :=
                ⟨AL[k]'hkl, yc, (HY.out k hkl).2.1, IC6.out wk _ HK.out (HY.out k hkl).1, find_any (.slice (some ⟨X, o, none⟩) L.length cap) L _ wk (C6.out wk HK.out).1.pr.gs (by omega), (HY.out k hkl).2.2, trnN_next (pL L) rr AL hkl, bstN_next (pL L) 0 AL hkl, fun wn b => by
                  obtain ⟨X3, o3, e3, yc3⟩ := (A6.out.below b).atS hkl
                  injection e3 with e3
                  injection e3 with e3 e4 _
                  subst e3 e4
                  exact yc3⟩
              clear yc
              obtain ⟨y, yc, hy2, IY, FN, HY3, TN, BN, YC⟩ := ALL
              obtain ⟨nn1, nn2⟩ := numI_neg (nameL (pL L)) y
              have NN1 : Hid _ := nn1
              have NN2 : Hid _ := nn2
              clear nn1 nn2
              generalize numI (nameL (pL L)) y = nn at *
              go_wp2_with fail
              refine Calls.mono IY.out ?_
              rintro e w8 ⟨rfl, hw8⟩
              rw [hw8]
              clear hw8 IY
              cases hpy : inB (nameL (pL L)) y with
              | false =>
                have hnn : nn < 0 := NN1.out.2 hpy
                rw [hpy, if_neg (by decide)] at TN BN
                have TE := TN.out
                have BE := BN.out
                go_wp2_with fail
                refine Calls.mono FN.out ?_
                rintro e w8 ⟨rfl, hw8⟩
                rw [hw8]
                clear hw8 FN TE BE
                go_wp2_with fail
                go_roundw
                case rel => exact ⟨k + 1, _, by rw [BN.out], by rw [TN.out], by go_num, rfl, HKL.out, HK⟩
                case measure => have := HKL.out; simp [intOf]; omega
              | true =>
                have hnn : 0 ≤ nn := NN2.out.2 hpy
                rw [hpy, if_pos rfl] at TN BN
                have C7 : Hid _ := (C6.out wk HK.out).1.clo hpy hy2
                have L7 : Hid (∀ wn, Below w6.heap.size w6 wn → _) := fun wn b => (C6.out wn b).1.lng hpy hy2
                have LBD := lngI_bd (pL L) y
                rw [pL_len] at LBD
                have DM : Hid (∀ j (hj : j < (closL (pL L) y).length), rchB (askF (pL L)) y (closL (pL L) y)[j] = true) := fun j hj => by
                  rw [← clos_in (by rw [(C6.out wk HK.out).1.from hpy])]
                  exact (inB_iff _ _).2 (List.getElem_mem hj)
                have DL : Hid ((closL (pL L) y).length ≤ 1000000000000) := closL_len _ _
                generalize closL (pL L) y = TD at *
                generalize lngI (pL L) y = lg at *
                obtain ⟨t, ht⟩ : ∃ t, t = trnN (pL L) rr (AL.take k) := ⟨_, rfl⟩
                rw [← ht] at TN
                rw [← ht]
                clear ht
                obtain ⟨bs, hbs⟩ : ∃ bs, bs = bstN (pL L) 0 (AL.take k) := ⟨_, rfl⟩
                rw [← hbs] at BN BBD
                rw [← hbs]
                clear hbs
                go_wp2_with fail
                refine Calls.mono FN.out ?_
                rintro e w8 ⟨rfl, hw8⟩
                rw [hw8]
                clear hw8 FN NN1 NN2
                go_wp2_with fail
                refine Calls.mono C7.out ?_
                rintro e w8 ⟨pd, cd, rfl, o8, b8⟩
                have G8 : Hid (GS KS w8 (.slice pd TD.length cd) TD) := o8.gs KS_ok.len
                have B8 : Hid (Below w6.heap.size w6 w8) := HK.out.trans (b8.mono HK.out.size)
                have A8 : Hid (∀ ob, Below w8.heap.size w8 (w8.alloc ob)) := fun ob => (Below.refl _ _).alloc (Nat.le_refl _) ob
                have F8 : Hid (FBx (w8.alloc (.cells #[.int .i64 0, .int .i64 0] 26)) w8.heap.size 0 0) := heap_alloc_new _ _
                have yq : ∀ ob, (w8.alloc ob).cell? ⟨X2, o2 + k, none⟩ = some (.string y) := fun ob => YC.out _ (B8.out.trans ((A8.out ob).mono B8.out.size))
                clear o8 b8 C7 yc
                go_wp2_with fail
                refine Calls.mono (L7.out _ (B8.out.trans ((A8.out _).mono B8.out.size))) ?_
                rintro e w9 ⟨rfl, b9⟩
                have C9 : Hid (Below w8.heap.size w8 w9) := (A8.out _).trans (b9.mono (A8.out _).size)
                have B9 : Hid (Below w6.heap.size w6 w9) := B8.out.trans (C9.out.mono B8.out.size)
                have F9 : Hid (FBx w9 w8.heap.size 0 0) := F8.out.below b9
                have A9 : Hid (∀ ob, Below w9.heap.size w9 (w9.alloc ob)) := fun ob => (Below.refl _ _).alloc (Nat.le_refl _) ob
                have r0 : ∀ ob, (w9.alloc ob).cell? ⟨w8.heap.size, 0, none⟩ = some (.int .i64 0) := fun ob => (F9.out.below (A9.out ob)).cells.1
                have r1 : ∀ ob, (w9.alloc ob).cell? ⟨w8.heap.size, 1, none⟩ = some (.int .i64 0) := fun ob => (F9.out.below (A9.out ob)).cells.2
                clear b9 L7 F8 yq A8
                go_wp2_with fail
                generalize hwL : w9.alloc _ = wL at *
                have BL : Hid (Below w6.heap.size w6 wL) := by rw [← hwL]; exact B9.out.trans ((A9.out _).mono B9.out.size)
                have GL : Hid (GS KS wL (.slice pd TD.length cd) TD) := by rw [← hwL]; exact (G8.out.below C9.out).below (A9.out _)
                clear hwL r0 r1 A9 F9 C9 B9 G8 B8
                go_loop [17] (fun v17 => ∃ j : Nat, j ≤ TD.length ∧ v17 = .int .i64 j) (fun v17 => TD.length - (intOf v17).toNat)
                case atStart => exact ⟨0, Nat.zero_le _, rfl⟩
                case round =>
                  obtain ⟨j, hj, rfl⟩ := hrel
                  have hDL := DL.out
                  by_cases hjl : j < TD.length
                  · obtain ⟨X4, o4, e4, zc0⟩ := GL.out.atS hjl
                    obtain rfl : pd = some ⟨X4, o4, none⟩ := e4
                    obtain ⟨z, zc, IZ⟩ : ∃ z : ByteArray, wL.cell? ⟨X4, o4 + j, none⟩ = some (.string z) ∧ Hid (Calls Tryd.prog 36 #[.slice pc TC.length cc, .string z] wL fun e w' => e = .returned (.bool true) ∧ w' = wL) := ⟨_, zc0, IC6.out wL _ BL.out (HY3.out _ (DM.out j hjl))⟩
                    clear zc0
                    go_wp2_with fail
                    refine Calls.mono IZ.out ?_
                    rintro e wz ⟨rfl, hwz⟩
                    rw [hwz]
                    clear hwz IZ
                    go_wp2_with fail
                    go_round
                    case rel => exact ⟨j + 1, by omega, by go_num⟩
                    case measure => simp [intOf]; omega
                  · have NB : Hid (Below w6.heap.size w6 wL) := BL.out
                    cases t with
                    | true =>
                      have TE : Hid (trnN (pL L) rr (AL.take (k + 1)) = true) := by show _ = _; rw [TN.out]; rfl
                      go_wp2_with fail
                      go_roundw
                      case rel => exact ⟨k + 1, _, by rw [BN.out], by rw [TE.out], by go_num, rfl, HKL.out, NB⟩
                      case measure => have := HKL.out; simp [intOf]; omega
                    | false =>
                      by_cases hlg : lg = -1
                      · have hl1 : (lg == -1) = true := by simpa using hlg
                        have TE : Hid (trnN (pL L) rr (AL.take (k + 1)) = true) := by show _ = _; rw [TN.out, hl1]; rfl
                        clear hlg
                        go_wp2_with fail
                        go_roundw
                        case rel => exact ⟨k + 1, _, by rw [BN.out], by rw [TE.out], by go_num, rfl, HKL.out, NB⟩
                        case measure => have := HKL.out; simp [intOf]; omega
                      · have hl1 : (lg == -1) = false := by simpa using hlg
                        have TE : Hid (trnN (pL L) rr (AL.take (k + 1)) = false) := by show _ = _; rw [TN.out, hl1]; rfl
                        clear hlg
                        go_wp2_with fail
                        go_roundw
                        case rel => exact ⟨k + 1, _, by rw [BN.out], by rw [TE.out], by go_num, rfl, HKL.out, NB⟩
                        case measure => have := HKL.out; simp [intOf]; omega
            · have hke : k = AL.length := by omega
              have TA : Hid (AL.take k = AL) := by show _ = _; rw [hke, List.take_length]
              have FI2 : Hid _ := FI.out
              rw [pL_len] at FI2
              have L7 : Hid _ := (C6.out wk HK.out).1.lng HPN.out hsz
              have HC7 : Hid (Below wr.heap.size wr wk ∧ FBx wk gc 0 0) := ⟨(C6.out wk HK.out).2.2, (C6.out wk HK.out).2.1⟩
              have x7 := XN.out wk HK.out
              have BBD := bstN_bd (pL L) AL 0 (by omega) (by omega)
              have LBD := lngI_bd (pL L) nm
              rw [pL_len] at BBD LBD
              rw [TA.out]
              generalize trnN (pL L) rr AL = t at *
              generalize bstN (pL L) 0 AL = bs at *
              generalize lngI (pL L) nm = lg at *
              clear FI HY A6 IC6 C6 XN TA hke HK x6 HPN
              go_wp2_with fail
              refine Calls.mono L7.out ?_
              rintro e w8 ⟨rfl, b8⟩
              have F8 : Hid (FBx w8 gc 0 0) := HC7.out.2.below b8
              have B8 : Hid (Below wB.heap.size wB w8) := HB.out.trans ((HC7.out.1.trans (b8.mono HC7.out.1.size)).mono HB.out.size)
              have N8 : Hid (∀ u0 u1, Below wB.heap.size wB ((w8.setCell ⟨gc, 0, none⟩ u0).setCell ⟨gc, 1, none⟩ u1)) := fun u0 u1 => below_set2 B8.out GCL.out u0 u1
              obtain ⟨y0, y1⟩ := F8.out.cells
              have fz := F8.out.fz
              have zl := F8.out.lt
              obtain ⟨s0, s1⟩ := (F8.out.set 0 0).cells
              clear b8 L7 x7 HC7
              have HIL : Hid (i + 1 ≤ L.length) := hlt
              cases t with
              | true =>
                have hl1 : (lg == -1) = true := FI2.out.1.symm
                clear FI2
                go_wp2_with fail
                go_roundw
                case rel => exact ⟨i + 1, _, by go_num, rfl, HIL.out, N8.out _ _⟩
                case measure => have := HIL.out; simp [intOf]; omega
              | false =>
                have hl1 : (lg == -1) = false := FI2.out.1.symm
                obtain ⟨hl2, hl3⟩ := FI2.out.2 rfl
                have hl4 : (lg == bs + 1) = true := by simpa using hl2
                have hl5 : (lg != bs + 1) = false := by simp [hl2]
                have hl6 : ¬ (L.length : Int) < lg := by omega
                clear FI2 hl2
                go_wp2_with fail
                go_roundw
                case rel => exact ⟨i + 1, _, by go_num, rfl, HIL.out, N8.out _ _⟩
                case measure => have := HIL.out; simp [intOf]; omega
        · go_wp2_with fail
          go_ret
          exact ⟨rfl, BW.out⟩
  · have hz : Hid ((setF (pL L)).2 ≠ 0) := hn
    obtain ⟨p, cap, rfl⟩ := h.gs.form
    generalize setF (pL L) = R at *
    obtain ⟨ra, rc⟩ := R
    have h1 : (rc == 0) = false := by simpa using hz.out
    clear h hv hn hz
    go_enter Tryd.func7, Tryd.ntmps7
    go_wp2_with fail
    refine Calls.mono WK.out ?_
    rintro e w1 ⟨rfl, hb1⟩
    have B1 : Hid (Below w.heap.size w w1) := hb1
    clear hb1 WK
    go_wp2_with fail
    refine Calls.mono (CS.out _ B1.out) ?_
    rintro e w2 ⟨rfl, hb2⟩
    have B2 : Hid (Below w.heap.size w w2) := B1.out.trans (hb2.mono B1.out.size)
    clear hb2 CS
    go_wp2_with fail
    go_ret
    exact ⟨rfl, B2.out⟩
end Go.Proofs.YthmppnmmlblbhaaDoor
