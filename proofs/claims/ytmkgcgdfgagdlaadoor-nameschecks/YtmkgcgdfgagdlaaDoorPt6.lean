/- The walk of the law NamesChecks. -/
import Derived.Test.YtmkgcgdfgagdlaaDoorPt5
namespace Go.Proofs.YtmkgcgdfgagdlaaDoor
open Go.RowKit

set_option maxHeartbeats 8000000 in
set_option maxRecDepth 100000 in
theorem namesChecks_any (v : Value) (l : List Opn) (p : Prv) (ve : Value) (w : World) (h : OS w v l) (ht : ∀ c ∈ l, c.text.size ≤ maxLen) (hl : l.length * 40 ≤ 140737488355328) (hp : PS w p ve) (hv : NV w) :
    Calls Tryd.prog 3 #[v, prvV p ve] w fun e w' => e = .returned (.bool true) ∧ Below w.heap.size w w' := by
  have CE : Hid (∀ w1, Below w.heap.size w w1 → _) := fun w1 b => copyExpr_any v l w1 (h.below b) hl
  have CP : Hid (∀ w1, Below w.heap.size w w1 → _) := fun w1 b => copyProv_any p ve w1 (hp.below b)
  have CK : Hid (∀ w1 w0 b0 v1 g v2, NR w w0 w1 b0 l p ve v1 g v2 → Calls Tryd.prog 11 #[v1] w1 fun e w2 => e = .returned (.int .i64 (chkO l)) ∧ Below w1.heap.size w1 w2) := fun w1 w0 b0 v1 g v2 n => check_any v1 l w1 n.ex ht (hv.below n.nc.bl) (by omega)
  have RC : Hid (∀ w1 w0 b0 v1 g v2, NR w w0 w1 b0 l p ve v1 g v2 → Calls Tryd.prog 12 #[v] w1 fun e w2 => e = .returned (.int .i64 (chkO l)) ∧ Below w1.heap.size w1 w2) := fun w1 w0 b0 v1 g v2 n => rcheck_any v l w1 (h.below n.nc.bl) ht (by omega)
  have CKP : Hid (∀ w1 w0 b0 v1 g v2, NR w w0 w1 b0 l p ve v1 g v2 → Calls Tryd.prog 13 #[prvV p v2] w1 fun e w2 => e = .returned (.int .i64 (prvE p)) ∧ Below w1.heap.size w1 w2) := fun w1 w0 b0 v1 g v2 n => checkProv_any p v2 w1 ⟨n.mo, hp.tx, hp.nm, hp.ln⟩ (hv.below n.nc.bl)
  have RCP : Hid (∀ w1 w0 b0 v1 g v2, NR w w0 w1 b0 l p ve v1 g v2 → Calls Tryd.prog 14 #[prvV p ve] w1 fun e w2 => e = .returned (.int .i64 (prvE p)) ∧ Below w1.heap.size w1 w2) := fun w1 w0 b0 v1 g v2 n => rcheckProv_any p ve w1 (hp.below n.nc.bl)
  have SE : Hid (∀ w1 w0 b0 v1 g v2, NR w w0 w1 b0 l p ve v1 g v2 → Calls Tryd.prog 15 #[v1, v] w1 fun e w2 => e = .returned (.bool true) ∧ Below w1.heap.size w1 w2) := fun w1 w0 b0 v1 g v2 n => sameExpr_same w1 v1 v l n.ex (h.below n.nc.bl) (by omega)
  have SP : Hid (∀ w1 w0 b0 v1 g v2, NR w w0 w1 b0 l p ve v1 g v2 → Calls Tryd.prog 16 #[prvV p v2, prvV p ve] w1 fun e w2 => e = .returned (.bool true) ∧ Below w1.heap.size w1 w2) := fun w1 w0 b0 v1 g v2 n => sameProv_same p v2 ve w1 n.mo (hp.os.below n.nc.bl) (by have := hp.ln; omega)
  have MY : Hid (∀ w1 w0 b0 v1 g v2, NR w w0 w1 b0 l p ve v1 g v2 → _) := fun w1 w0 b0 v1 g v2 n => PBx.cells n.nc.bx
  have MM : Hid (∀ w1 w0 b0 v1 g v2, NR w w0 w1 b0 l p ve v1 g v2 → _) := fun w1 w0 b0 v1 g v2 n => PBx.cells n.mb
  generalize chkO l = C at *
  generalize prvE p = D at *
  have P0 : Hid (PBx (w.alloc (.cells (prvC p ve) 29)) w.heap.size p ve) := heap_alloc_new _ _
  have PY : Hid (∀ w1 g, PBx w1 g p ve → _) := fun w1 g h => PBx.cells h
  have PA : Hid (∀ w1 g, PBx w1 g p ve → _) := fun w1 g h => PBx.cellsA h
  have N0 : Hid (NC w (w.alloc (.cells (prvC p ve) 29)) (w.alloc (.cells (prvC p ve) 29)) w.heap.size l p ve) := ⟨(Below.refl _ _).alloc (Nat.le_refl _) _, Below.refl _ _, P0.out⟩
  obtain ⟨pv, cv, hvv⟩ := h.form
  obtain ⟨pe, ce, hve⟩ := hp.os.form
  subst hvv hve
  obtain ⟨nm, ops, ag, ⟨pt, pb, pf, pc⟩, ck, ct⟩ := p
  simp only [prvV, prvC] at *
  clear h hp hv ht
  go_enter Tryd.func3, Tryd.ntmps3
  go_upto_region 1 with fail
  obtain ⟨w0, hw0⟩ : ∃ w0, w0 = w.alloc (.cells #[.string nm, .slice pe ops.length ce, .bool ag, .int .i64 pt, .int .i64 pb, .int .i64 pf, .int .i64 pc, .int .i64 ck, .string ct] 29) := ⟨_, rfl⟩
  obtain ⟨b0, hb0⟩ : ∃ b0, b0 = w.heap.size := ⟨_, rfl⟩
  have HB0 : Hid (b0 = w.heap.size) := hb0
  have HW0 : Hid (b0 < w0.heap.size) := by show b0 < w0.heap.size; rw [hw0, hb0]; simp
  rw [← hw0, ← hb0] at P0
  have N1 : Hid (NC w w0 w0 b0 l ⟨nm, ops, ag, ⟨pt, pb, pf, pc⟩, ck, ct⟩ (.slice pe ops.length ce)) := by rw [hw0, hb0]; exact N0.out
  obtain ⟨x0, x1, x2, x3, x4, x5, x6, x7, x8⟩ := PY.out _ _ P0.out
  obtain ⟨v0, v1, v2, v3, v4, v5, v6, v7, v8⟩ := PA.out _ _ P0.out
  rw [← hw0, ← hb0]
  have HZ : Hid (w.heap.size ≤ w0.heap.size) := N1.out.bl.size
  have SZ : Hid (∀ (W : World) (ob : Obj), (W.alloc ob).heap.size = W.heap.size + 1) := fun W ob => by simp
  have SD : Hid (∀ (W : World), W.drew.heap.size = W.heap.size) := fun _ => rfl
  clear hw0 N0 hb0
  go_cut [5, 6] (fun v5 v6 wc => ∃ pA cA g pB cB wk, v5 = .slice pA l.length cA ∧ v6 = .pointer (some ⟨g, 0, none⟩) ∧ wk = wc ∧ Hid (NR w w0 wk b0 l ⟨nm, ops, ag, ⟨pt, pb, pf, pc⟩, ck, ct⟩ (.slice pe ops.length ce) (.slice pA l.length cA) g (.slice pB ops.length cB)))
  case first =>
    go_region_with (first | (go_at_call 9; refine Calls.mono (CE.out _ ?_) ?_; (first | exact N1.out.bl | exact N1.out.drew.bl | exact (N1.out.alloc _).bl | exact (N1.out.alloc _).drew.bl | exact (N1.out.drew.alloc _).bl); rintro e wA ⟨pA, cA, rfl, hoA, hbA⟩; have N1 : Hid (NC w w0 wA b0 l ⟨nm, ops, ag, ⟨pt, pb, pf, pc⟩, ck, ct⟩ (.slice pe ops.length ce)) := (by first | exact N1.out.next hbA | exact N1.out.drew.next hbA | exact (N1.out.alloc _).next hbA | exact (N1.out.alloc _).drew.next hbA | exact (N1.out.drew.alloc _).next hbA); obtain ⟨y0, y1, y2, y3, y4, y5, y6, y7, y8⟩ := PY.out _ _ N1.out.bx; obtain ⟨ya0, ya1, ya2, ya3, ya4, ya5, ya6, ya7, ya8⟩ := PA.out _ _ N1.out.bx; (first | (have HM : Hid _ := kept_new hbA; obtain ⟨m0, m1, m2, m3, m4, m5, m6, m7, m8⟩ := zPrv_cells HM.out; have fM := fun o => box_frozen (o := o) HM.out) | (have HM : Hid _ := kept_newD hbA; obtain ⟨m0, m1, m2, m3, m4, m5, m6, m7, m8⟩ := zPrv_cells HM.out; have fM := fun o => box_frozen (o := o) HM.out) | (have HM : Hid _ := kept_old HM.out hbA; obtain ⟨m0, m1, m2, m3, m4, m5, m6, m7, m8⟩ := zPrv_cells HM.out; have fM := fun o => box_frozen (o := o) HM.out) | skip)) | (go_at_call 10; refine Calls.mono (CP.out _ ?_) ?_; (first | exact N1.out.bl | exact N1.out.drew.bl | exact (N1.out.alloc _).bl | exact (N1.out.alloc _).drew.bl | exact (N1.out.drew.alloc _).bl); rintro e wB ⟨pB, cB, rfl, hoB, hbB⟩; have EA : Hid (OS wB (.slice pA l.length cA) l) := (by first | exact (hoA.gs KO_ok.len).below hbB | exact ((hoA.gs KO_ok.len).below ((Below.refl _ _).alloc (Nat.le_refl _) _)).below hbB); have N1 : Hid (NC w w0 wB b0 l ⟨nm, ops, ag, ⟨pt, pb, pf, pc⟩, ck, ct⟩ (.slice pe ops.length ce)) := (by first | exact N1.out.next hbB | exact N1.out.drew.next hbB | exact (N1.out.alloc _).next hbB | exact (N1.out.alloc _).drew.next hbB | exact (N1.out.drew.alloc _).next hbB); obtain ⟨z0, z1, z2, z3, z4, z5, z6, z7, z8⟩ := PY.out _ _ N1.out.bx; (first | (have HM : Hid _ := kept_new hbB; obtain ⟨m0, m1, m2, m3, m4, m5, m6, m7, m8⟩ := zPrv_cells HM.out; have fM := fun o => box_frozen (o := o) HM.out) | (have HM : Hid _ := kept_newD hbB; obtain ⟨m0, m1, m2, m3, m4, m5, m6, m7, m8⟩ := zPrv_cells HM.out; have fM := fun o => box_frozen (o := o) HM.out) | (have HM : Hid _ := kept_old HM.out hbB; obtain ⟨m0, m1, m2, m3, m4, m5, m6, m7, m8⟩ := zPrv_cells HM.out; have fM := fun o => box_frozen (o := o) HM.out) | skip)))
    all_goals
      go_wp2_with fail
      go_meet
      have h1 := fun x hx => hoA.lt (g := x) hx
      have h2 := hbA.size
      have h3 := hbB.size
      have h4 := fun x hx => hoB.lt (g := x) hx
      have h5 := HZ.out
      have h6 := HW0.out
      simp only [SZ.out, SD.out] at h1 h2 h3 h4
      refine ⟨pA, cA, _, pB, cB, _, rfl, rfl, rfl, ?_⟩
      first
      | (have HM2 := HM.out
         have mb := PBx_store (p := ⟨nm, ops, ag, ⟨pt, pb, pf, pc⟩, ck, ct⟩) (v := .slice pB ops.length cB) HM2
         simp only at mb
         refine NR.fin_set N1.out EA.out (hoB.gs KO_ok.len) h5 h6 ?_ ?_ ?_ ?_ ?_ mb
         · omega
         · intro x hx; have := h1 x hx; omega
         · intro x hx; have := h4 x hx; omega
         · exact below9 _ _ _ _ _ _ _ _ _ _ _
         · intro x hx
           rw [set_far hx, set_far hx, set_far hx, set_far hx, set_far hx, set_far hx, set_far hx, set_far hx, set_far hx])
      | exact NR.fin_alloc N1.out EA.out (hoB.gs KO_ok.len)
  case rest =>
    obtain ⟨pA, cA, g, pB, cB, wk, rfl, rfl, rfl, NRh⟩ := hcut
    clear CE CP N1 P0 PY PA x0 x1 x2 x3 x4 x5 x6 x7 x8 v0 v1 v2 v3 v4 v5 v6 v7 v8
    obtain ⟨y0, y1, y2, y3, y4, y5, y6, y7, y8⟩ := MY.out _ _ _ _ _ _ NRh.out
    obtain ⟨m0, m1, m2, m3, m4, m5, m6, m7, m8⟩ := MM.out _ _ _ _ _ _ NRh.out
    go_wp2_with fail
    go_region_with (first | (go_at_call 11; refine Calls.mono (CK.out _ w0 b0 (.slice pA l.length cA) g (.slice pB ops.length cB) ?_) ?_; (first | exact NRh.out | exact NRh.out.drew); rintro e wn ⟨rfl, hbn⟩; have NRn : Hid (NR w w0 wn b0 l ⟨nm, ops, ag, ⟨pt, pb, pf, pc⟩, ck, ct⟩ (.slice pe ops.length ce) (.slice pA l.length cA) g (.slice pB ops.length cB)) := (by first | exact NRh.out.next hbn | exact NRh.out.drew.next hbn); clear hbn NRh y0 y1 y2 y3 y4 y5 y6 y7 y8 m0 m1 m2 m3 m4 m5 m6 m7 m8; have NRh := NRn; clear NRn; obtain ⟨y0, y1, y2, y3, y4, y5, y6, y7, y8⟩ := MY.out _ _ _ _ _ _ NRh.out; obtain ⟨m0, m1, m2, m3, m4, m5, m6, m7, m8⟩ := MM.out _ _ _ _ _ _ NRh.out) | (go_at_call 12; refine Calls.mono (RC.out _ w0 b0 (.slice pA l.length cA) g (.slice pB ops.length cB) ?_) ?_; (first | exact NRh.out | exact NRh.out.drew); rintro e wn ⟨rfl, hbn⟩; have NRn : Hid (NR w w0 wn b0 l ⟨nm, ops, ag, ⟨pt, pb, pf, pc⟩, ck, ct⟩ (.slice pe ops.length ce) (.slice pA l.length cA) g (.slice pB ops.length cB)) := (by first | exact NRh.out.next hbn | exact NRh.out.drew.next hbn); clear hbn NRh y0 y1 y2 y3 y4 y5 y6 y7 y8 m0 m1 m2 m3 m4 m5 m6 m7 m8; have NRh := NRn; clear NRn; obtain ⟨y0, y1, y2, y3, y4, y5, y6, y7, y8⟩ := MY.out _ _ _ _ _ _ NRh.out; obtain ⟨m0, m1, m2, m3, m4, m5, m6, m7, m8⟩ := MM.out _ _ _ _ _ _ NRh.out) | (go_at_call 13; refine Calls.mono (CKP.out _ w0 b0 (.slice pA l.length cA) g (.slice pB ops.length cB) ?_) ?_; (first | exact NRh.out | exact NRh.out.drew); rintro e wn ⟨rfl, hbn⟩; have NRn : Hid (NR w w0 wn b0 l ⟨nm, ops, ag, ⟨pt, pb, pf, pc⟩, ck, ct⟩ (.slice pe ops.length ce) (.slice pA l.length cA) g (.slice pB ops.length cB)) := (by first | exact NRh.out.next hbn | exact NRh.out.drew.next hbn); clear hbn NRh y0 y1 y2 y3 y4 y5 y6 y7 y8 m0 m1 m2 m3 m4 m5 m6 m7 m8; have NRh := NRn; clear NRn; obtain ⟨y0, y1, y2, y3, y4, y5, y6, y7, y8⟩ := MY.out _ _ _ _ _ _ NRh.out; obtain ⟨m0, m1, m2, m3, m4, m5, m6, m7, m8⟩ := MM.out _ _ _ _ _ _ NRh.out) | (go_at_call 14; refine Calls.mono (RCP.out _ w0 b0 (.slice pA l.length cA) g (.slice pB ops.length cB) ?_) ?_; (first | exact NRh.out | exact NRh.out.drew); rintro e wn ⟨rfl, hbn⟩; have NRn : Hid (NR w w0 wn b0 l ⟨nm, ops, ag, ⟨pt, pb, pf, pc⟩, ck, ct⟩ (.slice pe ops.length ce) (.slice pA l.length cA) g (.slice pB ops.length cB)) := (by first | exact NRh.out.next hbn | exact NRh.out.drew.next hbn); clear hbn NRh y0 y1 y2 y3 y4 y5 y6 y7 y8 m0 m1 m2 m3 m4 m5 m6 m7 m8; have NRh := NRn; clear NRn; obtain ⟨y0, y1, y2, y3, y4, y5, y6, y7, y8⟩ := MY.out _ _ _ _ _ _ NRh.out; obtain ⟨m0, m1, m2, m3, m4, m5, m6, m7, m8⟩ := MM.out _ _ _ _ _ _ NRh.out) | (go_at_call 15; refine Calls.mono (SE.out _ w0 b0 (.slice pA l.length cA) g (.slice pB ops.length cB) ?_) ?_; (first | exact NRh.out | exact NRh.out.drew); rintro e wn ⟨rfl, hbn⟩; have NRn : Hid (NR w w0 wn b0 l ⟨nm, ops, ag, ⟨pt, pb, pf, pc⟩, ck, ct⟩ (.slice pe ops.length ce) (.slice pA l.length cA) g (.slice pB ops.length cB)) := (by first | exact NRh.out.next hbn | exact NRh.out.drew.next hbn); clear hbn NRh y0 y1 y2 y3 y4 y5 y6 y7 y8 m0 m1 m2 m3 m4 m5 m6 m7 m8; have NRh := NRn; clear NRn; obtain ⟨y0, y1, y2, y3, y4, y5, y6, y7, y8⟩ := MY.out _ _ _ _ _ _ NRh.out; obtain ⟨m0, m1, m2, m3, m4, m5, m6, m7, m8⟩ := MM.out _ _ _ _ _ _ NRh.out) | (go_at_call 16; refine Calls.mono (SP.out _ w0 b0 (.slice pA l.length cA) g (.slice pB ops.length cB) ?_) ?_; (first | exact NRh.out | exact NRh.out.drew); rintro e wn ⟨rfl, hbn⟩; have NRn : Hid (NR w w0 wn b0 l ⟨nm, ops, ag, ⟨pt, pb, pf, pc⟩, ck, ct⟩ (.slice pe ops.length ce) (.slice pA l.length cA) g (.slice pB ops.length cB)) := (by first | exact NRh.out.next hbn | exact NRh.out.drew.next hbn); clear hbn NRh y0 y1 y2 y3 y4 y5 y6 y7 y8 m0 m1 m2 m3 m4 m5 m6 m7 m8; have NRh := NRn; clear NRn; obtain ⟨y0, y1, y2, y3, y4, y5, y6, y7, y8⟩ := MY.out _ _ _ _ _ _ NRh.out; obtain ⟨m0, m1, m2, m3, m4, m5, m6, m7, m8⟩ := MM.out _ _ _ _ _ _ NRh.out))
    all_goals
      go_wp2_with fail
      go_ret
      exact ⟨rfl, NRh.out.nc.bl⟩
end Go.Proofs.YtmkgcgdfgagdlaaDoor
