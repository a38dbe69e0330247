/- Cells: Clone; the statements' CopyOut, SameOut. -/
import Derived.Test.YtbgeihgenckihaaDoorCb7
namespace Go.Proofs.YtbgeihgenckihaaDoor
open Go.RowKit

/-- A right outcome is short. -/
theorem out_len {o : Oc} (h : o = oc0 ∨ outB o = true) : o.val.length ≤ 1024 ∧ o.fl.length ≤ 1024 := by
  rcases h with rfl | h
  · decide
  · unfold outB at h
    have cv : ∀ l, chkV l = 0 → l.length ≤ 1024 := fun l q => by
      unfold chkV at q
      split at q
      · cases q
      · omega
    have cf : ∀ l, chk l = 0 → l.length ≤ 1024 := fun l q => by
      unfold chk at q
      split at q
      · cases q
      · omega
    split at h
    · simp at h; exact ⟨cv _ h.1, by rw [h.2]; simp⟩
    · split at h
      · simp at h; exact ⟨by rw [h.2]; simp, cf _ h.1⟩
      · split at h
        · simp at h; exact ⟨by rw [h.1.2]; simp, cf _ h.1.1⟩
        · cases h
/-- A copy, and a box ahead of it written. -/
theorem cp_set {w w0 w3 : World} {o : Oc} {v f : Value} {ob : Obj} (h : CpR w0 o w3 v f) (hw : w0 = w.alloc ob) (x0 x1 x2 : Value) : CpR w o (((w3.setCell ⟨w.heap.size, 0, none⟩ x0).setCell ⟨w.heap.size, 1, none⟩ x1).setCell ⟨w.heap.size, 2, none⟩ x2) v f := by
  subst hw
  obtain ⟨q1, q2, q3⟩ := h
  have hz : (w.alloc ob).heap.size = w.heap.size + 1 := by simp
  have st : ∀ x, x ≠ w.heap.size → (((w3.setCell ⟨w.heap.size, 0, none⟩ x0).setCell ⟨w.heap.size, 1, none⟩ x1).setCell ⟨w.heap.size, 2, none⟩ x2).heap[x]? = w3.heap[x]? := fun x hx => (Below.heap_setCell _ _ _ _ hx).trans ((Below.heap_setCell _ _ _ _ hx).trans (Below.heap_setCell _ _ _ _ hx))
  have hb : Below w.heap.size w w3 := ((Below.refl _ _).alloc (Nat.le_refl _) ob).trans (q3.mono (by omega))
  exact ⟨(q1.far (fun g hg => st g (by have := (q1.lt hg).1; omega))).low (by omega), (q2.far (fun g hg => st g (by have := (q2.lt hg).1; omega))).low (by omega), ((hb.setCell (Nat.le_refl _) _).setCell (Nat.le_refl _) _).setCell (Nat.le_refl _) _⟩
def ocE (c : Ce) : Int := if c.out.kind = 0 then 4 else 0
/-- What Outcome answers. -/
def OutR (w : World) (c : Ce) (w' : World) (e : Ending) : Prop := ∃ p n q m, e = .returned (.tuple #[.agg #[.int .i64 c.out.kind, .slice p c.out.val.length n, .slice q c.out.fl.length m], .int .i64 (ocE c)]) ∧ CpR w c.out w' (.slice p c.out.val.length n) (.slice q c.out.fl.length m)
set_option maxHeartbeats 8000000 in
set_option maxRecDepth 100000 in
theorem outcome_any (w : World) (b : Nat) (c : Ce) (vv fv : Value) (h : CX w b c vv fv) (hi : CI c) : Calls Tryd.prog 20 #[.pointer (some ⟨b, 0, none⟩)] w fun e w' => OutR w c w' e := by
  have HE : Hid (ocE c = if c.out.kind = 0 then 4 else 0) := rfl
  have hlen := out_len hi.out
  have AL : Hid (∀ ob, Below w.heap.size w (w.alloc ob)) := fun ob => (Below.refl _ _).alloc (Nat.le_refl _) ob
  obtain ⟨pv, cv, rfl⟩ := GS.form h.sv
  obtain ⟨pf, cf, rfl⟩ := CS.form h.sf
  have k10 : ∀ ob, (w.alloc ob).cell? ⟨b, 10, none⟩ = some (.int .i64 c.out.kind) := fun ob => (h.below (AL.out ob)).cells.2.2.2.2.2.2.2.2.2.2.1
  have k11 : ∀ ob, (w.alloc ob).cell? ⟨b, 11, none⟩ = some (.slice pv c.out.val.length cv) := fun ob => (h.below (AL.out ob)).cells.2.2.2.2.2.2.2.2.2.2.2.1
  have k12 : ∀ ob, (w.alloc ob).cell? ⟨b, 12, none⟩ = some (.slice pf c.out.fl.length cf) := fun ob => (h.below (AL.out ob)).cells.2.2.2.2.2.2.2.2.2.2.2.2
  have hbl := h.lt
  have CO : Hid (∀ ob, Calls Tryd.prog 25 #[.agg #[.int .i64 c.out.kind, .slice pv c.out.val.length cv, .slice pf c.out.fl.length cf]] (w.alloc ob) fun e w' => ∃ v f, e = .returned (.agg #[.int .i64 c.out.kind, v, f]) ∧ CpR (w.alloc ob) c.out w' v f) := fun ob => by
    have q := h.below (AL.out ob)
    exact copyOf_any _ c.out _ _ q.sv q.sf (by omega) (by omega)
  have HO : Hid (∀ w' e, OutR w c w' e = ∃ p n q m, e = .returned (.tuple #[.agg #[.int .i64 c.out.kind, .slice p c.out.val.length n, .slice q c.out.fl.length m], .int .i64 (ocE c)]) ∧ CpR w c.out w' (.slice p c.out.val.length n) (.slice q c.out.fl.length m)) := fun _ _ => rfl
  generalize OutR w c = OR at *
  have hout := hid hi.out
  clear h hi
  by_cases h0 : c.out.kind = 0
  · have ez : c.out = oc0 := by
      rcases hout.out with e | e
      · exact e
      · have := outB_kind e; omega
    rw [ez] at HO k10 HE k11 k12 CO
    generalize ocE c = er at *
    clear ez h0 hlen hout
    go_enter Tryd.func20, Tryd.ntmps20
    go_wp2_with fail
    try go_returns
    rw [HO.out]
    exact ⟨none, 0, none, 0, by rw [HE.out]; rfl, OwnG.nil _ _ _, OwnG.nil _ _ _, AL.out _⟩
  · have hb0 : (c.out.kind == 0) = false := by simpa using h0
    rw [if_neg h0] at HE
    generalize ocE c = er at *
    clear h0 hlen hout
    generalize c.out = o at *
    obtain ⟨kd, va, fl⟩ := o
    simp only at *
    go_enter Tryd.func20, Tryd.ntmps20
    go_wp2_with (go_at_call 25; refine (CO.out _).mono ?_; rintro e w3 ⟨v, f, rfl, cp⟩; obtain ⟨p7, c7, rfl, _⟩ := OwnG.form cp.1; obtain ⟨p8, c8, rfl, _⟩ := OwnG.form cp.2.1; have hp : w3.heap[w.heap.size]? = some (.cells #[.int .i64 0, .slice none 0 0, .slice none 0 0] 36) := (cp.2.2.block w.heap.size (by simp)).trans (heap_alloc_new w _); have z0 : w3.cell? ⟨w.heap.size, 0, none⟩ = some (.int .i64 0) := cell_of_row _ _ _ _ _ _ hp; have z1 : w3.cell? ⟨w.heap.size, 1, none⟩ = some (.slice none 0 0) := cell_of_row _ _ _ _ _ _ hp; have z2 : w3.cell? ⟨w.heap.size, 2, none⟩ = some (.slice none 0 0) := cell_of_row _ _ _ _ _ _ hp; have fz : ∀ o, w3.frozen? ⟨w.heap.size, o, none⟩ = false := (fun o => by simp [World.frozen?, hp]); have HP := hid hp; have CP := hid cp; clear hp cp)
    obtain ⟨y0, y1, y2⟩ := set3 HP.out (.int .i64 kd) (.slice p7 va.length c7) (.slice p8 fl.length c8)
    refine bodyPost_ret (v := .tuple #[.agg #[.int .i64 kd, .slice p7 va.length c7, .slice p8 fl.length c8], .int .i64 0]) (by simp [results, Tryd.results20, go_sem, y0, y1, y2]) rfl ?_
    show OR _ _
    rw [HO.out]
    exact ⟨p7, c7, p8, c8, by rw [HE.out], cp_set CP.out rfl _ _ _⟩
end Go.Proofs.YtbgeihgenckihaaDoor
namespace Go.Proofs.YtbgeihgenckihaaDoor
open Go.RowKit

/-- A copied cell, its outcome laid anew. -/
theorem clo_cx {w w0 w3 : World} {c : Ce} {v f vv fv : Value} {ob : Obj} (h : CpR w0 c.out w3 v f) (hw : w0 = w.alloc ob) (hp : w3.heap[w.heap.size]? = some (.cells (ceA c vv fv) 67)) :
    ∃ v' f', CX (((w3.setCell ⟨w.heap.size, 10, none⟩ (.int .i64 c.out.kind)).setCell ⟨w.heap.size, 11, none⟩ v).setCell ⟨w.heap.size, 12, none⟩ f) w.heap.size c v' f' := by
  subst hw
  obtain ⟨q1, q2, q3⟩ := h
  have hz : (w.alloc ob).heap.size = w.heap.size + 1 := by simp
  have n1 : ∀ x, v.ownBlock = some x → x ≠ w.heap.size := fun x hx => by have := (q1.lt hx).1; omega
  have n2 : ∀ x, f.ownBlock = some x → x ≠ w.heap.size := fun x hx => by have := (q2.lt hx).1; omega
  have st : ∀ x, x ≠ w.heap.size → (((w3.setCell ⟨w.heap.size, 10, none⟩ (.int .i64 c.out.kind)).setCell ⟨w.heap.size, 11, none⟩ v).setCell ⟨w.heap.size, 12, none⟩ f).heap[x]? = w3.heap[x]? := fun x hx => (Below.heap_setCell _ _ _ _ hx).trans ((Below.heap_setCell _ _ _ _ hx).trans (Below.heap_setCell _ _ _ _ hx))
  refine ⟨v, f, ?_, (q1.gs KA_ok.len).blk (by simp) (fun x hx _ => st x (n1 x hx)), (ownC_g q2).cs.blk (by simp) (fun x hx _ => st x (n2 x hx)), n1, n2⟩
  exact heap_setCell_same _ _ 12 _ _ f (heap_setCell_same _ _ 11 _ _ v (heap_setCell_same _ _ 10 _ _ (.int .i64 c.out.kind) hp))
/-- What Clone answers. -/
def CloR (w : World) (c : Ce) (w' : World) (e : Ending) : Prop := e = .returned (.pointer (some ⟨w.heap.size, 0, none⟩)) ∧ Below w.heap.size w w' ∧ ∃ vv fv, CX w' w.heap.size c vv fv
set_option maxHeartbeats 8000000 in
set_option maxRecDepth 100000 in
theorem clone_any (w : World) (b : Nat) (c : Ce) (vv fv : Value) (h : CX w b c vv fv) (hi : CI c) : Calls Tryd.prog 10 #[.pointer (some ⟨b, 0, none⟩)] w fun e w' => CloR w c w' e := by
  have hlen := out_len hi.out
  have AL : Hid (∀ ob, Below w.heap.size w (w.alloc ob)) := fun ob => (Below.refl _ _).alloc (Nat.le_refl _) ob
  obtain ⟨pv, cv, rfl⟩ := GS.form h.sv
  obtain ⟨pf, cf, rfl⟩ := CS.form h.sf
  obtain ⟨d0, d1, d2, d3, d4, d5, d6, d7, d8, d9, d10, d11, d12⟩ := h.cells
  have k10 : ∀ ob, (w.alloc ob).cell? ⟨b, 10, none⟩ = some (.int .i64 c.out.kind) := fun ob => (h.below (AL.out ob)).cells.2.2.2.2.2.2.2.2.2.2.1
  have k11 : ∀ ob, (w.alloc ob).cell? ⟨b, 11, none⟩ = some (.slice pv c.out.val.length cv) := fun ob => (h.below (AL.out ob)).cells.2.2.2.2.2.2.2.2.2.2.2.1
  have k12 : ∀ ob, (w.alloc ob).cell? ⟨b, 12, none⟩ = some (.slice pf c.out.fl.length cf) := fun ob => (h.below (AL.out ob)).cells.2.2.2.2.2.2.2.2.2.2.2.2
  have hbl := h.lt
  have CO : Hid (∀ ob, Calls Tryd.prog 25 #[.agg #[.int .i64 c.out.kind, .slice pv c.out.val.length cv, .slice pf c.out.fl.length cf]] (w.alloc ob) fun e w' => ∃ v f, e = .returned (.agg #[.int .i64 c.out.kind, v, f]) ∧ CpR (w.alloc ob) c.out w' v f) := fun ob => by
    have q := h.below (AL.out ob)
    exact copyOf_any _ c.out _ _ q.sv q.sf (by omega) (by omega)
  have HO : Hid (∀ w' e, CloR w c w' e = (e = .returned (.pointer (some ⟨w.heap.size, 0, none⟩)) ∧ Below w.heap.size w w' ∧ ∃ vv fv, CX w' w.heap.size c vv fv)) := fun _ _ => rfl
  generalize CloR w c = OR at *
  clear h hi hlen
  have HC : Hid (∀ vv fv, ceA c vv fv = #[.bool c.again, .int .i64 c.p.t, .int .i64 c.p.b, .int .i64 c.p.f, .int .i64 c.p.c, .int .i64 c.st, .int .i64 c.tk, .int .i64 c.gen, .int .i64 c.fails, .int .i64 c.last, .int .i64 c.out.kind, vv, fv]) := fun _ _ => rfl
  go_enter Tryd.func10, Tryd.ntmps10
  go_wp2_with (go_at_call 25; refine (CO.out _).mono ?_; rintro e w3 ⟨v, f, rfl, cp⟩; obtain ⟨p7, c7, rfl, _⟩ := OwnG.form cp.1; obtain ⟨p8, c8, rfl, _⟩ := OwnG.form cp.2.1; have hp : w3.heap[w.heap.size]? = some (.cells #[.bool c.again, .int .i64 c.p.t, .int .i64 c.p.b, .int .i64 c.p.f, .int .i64 c.p.c, .int .i64 c.st, .int .i64 c.tk, .int .i64 c.gen, .int .i64 c.fails, .int .i64 c.last, .int .i64 c.out.kind, .slice pv c.out.val.length cv, .slice pf c.out.fl.length cf] 67) := (cp.2.2.block w.heap.size (by simp)).trans (heap_alloc_new w _); have z0 : w3.cell? ⟨w.heap.size, 10, none⟩ = some (.int .i64 c.out.kind) := cell_of_row _ _ _ _ _ _ hp; have z1 : w3.cell? ⟨w.heap.size, 11, none⟩ = some (.slice pv c.out.val.length cv) := cell_of_row _ _ _ _ _ _ hp; have z2 : w3.cell? ⟨w.heap.size, 12, none⟩ = some (.slice pf c.out.fl.length cf) := cell_of_row _ _ _ _ _ _ hp; have fz : ∀ o, w3.frozen? ⟨w.heap.size, o, none⟩ = false := (fun o => by simp [World.frozen?, hp]); have HP := hid hp; have CP := hid cp; clear hp cp)
  try go_ret
  rw [HO.out]
  refine ⟨rfl, ?_, ?_⟩
  · exact ((((AL.out _).trans (CP.out.2.2.mono (AL.out _).size)).setCell (Nat.le_refl _) _).setCell (Nat.le_refl _) _).setCell (Nat.le_refl _) _
  · exact clo_cx CP.out rfl HP.out
set_option maxHeartbeats 8000000 in
set_option maxRecDepth 100000 in
theorem copyOut_any (w : World) (o : Oc) (vv fv : Value) (hv : AS w vv o.val) (hf : CS w fv o.fl) (l1 : o.val.length * 40 ≤ 140737488355328) (l2 : o.fl.length * 32 ≤ 140737488355328) :
    Calls Tryd.prog 17 #[.agg #[.int .i64 o.kind, vv, fv]] w fun e w' => ∃ p n q m, e = .returned (.agg #[.int .i64 o.kind, .slice p o.val.length n, .slice q o.fl.length m]) ∧ CpR w o w' (.slice p o.val.length n) (.slice q o.fl.length m) := by
  obtain ⟨kd, va, fl⟩ := o
  simp only at *
  have CV : Hid (∀ w', Below w.heap.size w w' → Calls Tryd.prog 37 #[vv] w' fun e w'' => ∃ p cap, e = .returned (.slice p va.length cap) ∧ OwnG KA w'' w'.heap.size (.slice p va.length cap) va ∧ Below w'.heap.size w' w'') := fun w' h => copyV_any vv va w' (hv.below h) l1
  have CF : Hid (∀ w', Below w.heap.size w w' → Calls Tryd.prog 38 #[fv] w' fun e w'' => ∃ p cap, e = .returned (.slice p fl.length cap) ∧ OwnC w'' w'.heap.size (.slice p fl.length cap) fl ∧ Below w'.heap.size w' w'') := fun w' h => copyFail_any fv fl w' (hf.below h) l2
  have AL : Hid (∀ ob ob2, Below w.heap.size w ((w.alloc ob).alloc ob2)) := fun ob ob2 => ((Below.refl _ _).alloc (Nat.le_refl _) ob).alloc (by simp) ob2
  clear hv hf l1 l2
  go_enter Tryd.func17, Tryd.ntmps17
  go_wp2_with fail
  generalize hW : (w.alloc _).alloc _ = W
  have q0 : W.cell? ⟨w.heap.size, 0, none⟩ = some (.int .i64 kd) := by rw [← hW]; exact (Below.cell ((Below.refl _ _).alloc (Nat.le_refl _) _) (p := ⟨w.heap.size, 0, none⟩) (by simp)).trans (cell_of_row _ _ _ _ _ _ (heap_alloc_new w _))
  have q1 : W.cell? ⟨w.heap.size, 1, none⟩ = some vv := by rw [← hW]; exact (Below.cell ((Below.refl _ _).alloc (Nat.le_refl _) _) (p := ⟨w.heap.size, 1, none⟩) (by simp)).trans (cell_of_row _ _ _ _ _ _ (heap_alloc_new w _))
  have q2 : W.cell? ⟨w.heap.size, 2, none⟩ = some fv := by rw [← hW]; exact (Below.cell ((Below.refl _ _).alloc (Nat.le_refl _) _) (p := ⟨w.heap.size, 2, none⟩) (by simp)).trans (cell_of_row _ _ _ _ _ _ (heap_alloc_new w _))
  have BW : Hid (Below w.heap.size w W) := by rw [← hW]; exact AL.out _ _
  have hwz : W.heap.size = w.heap.size + 1 + 1 := by rw [← hW]; simp
  have HP : Hid (W.heap[w.heap.size + 1]? = some (.cells #[.int .i64 0, .slice none 0 0, .slice none 0 0] 36)) := by rw [← hW]; exact (heap2 w _ _)
  clear hW
  have BS : Hid (∀ w', Below W.heap.size W w' → w'.cell? ⟨w.heap.size, 0, none⟩ = some (.int .i64 kd) ∧ w'.cell? ⟨w.heap.size, 1, none⟩ = some vv ∧ w'.cell? ⟨w.heap.size, 2, none⟩ = some fv) := fun w' hb => ⟨(hb.cell (p := ⟨w.heap.size, 0, none⟩) (show w.heap.size < W.heap.size by omega)).trans q0, (hb.cell (p := ⟨w.heap.size, 1, none⟩) (show w.heap.size < W.heap.size by omega)).trans q1, (hb.cell (p := ⟨w.heap.size, 2, none⟩) (show w.heap.size < W.heap.size by omega)).trans q2⟩
  have BP : Hid (∀ w', Below W.heap.size W w' → w'.heap[w.heap.size + 1]? = some (.cells #[.int .i64 0, .slice none 0 0, .slice none 0 0] 36)) := fun w' hb => (hb.block (w.heap.size + 1) (by omega)).trans HP.out
  have FIN : Hid (∀ w7 v7 w10 v10, OwnG KA w7 W.heap.size v7 va → Below W.heap.size W w7 → OwnG KC w10 W.heap.size v10 fl → Below w7.heap.size w7 w10 → CpR w ⟨kd, va, fl⟩ (((w10.setCell ⟨w.heap.size + 1, 0, none⟩ (.int .i64 kd)).setCell ⟨w.heap.size + 1, 1, none⟩ v7).setCell ⟨w.heap.size + 1, 2, none⟩ v10) v7 v10) := fun w7 v7 w10 v10 o7 b7 o10 b10 => by
    have o7' := o7.below b10
    have st : ∀ x, x ≠ w.heap.size + 1 → (((w10.setCell ⟨w.heap.size + 1, 0, none⟩ (.int .i64 kd)).setCell ⟨w.heap.size + 1, 1, none⟩ v7).setCell ⟨w.heap.size + 1, 2, none⟩ v10).heap[x]? = w10.heap[x]? := fun x hx => (Below.heap_setCell _ _ _ _ hx).trans ((Below.heap_setCell _ _ _ _ hx).trans (Below.heap_setCell _ _ _ _ hx))
    refine ⟨(o7'.far (fun g hg => st g (by have := (o7'.lt hg).1; omega))).low (by omega), (o10.far (fun g hg => st g (by have := (o10.lt hg).1; omega))).low (by omega), ?_⟩
    have hb : Below w.heap.size w w10 := BW.out.trans ((b7.trans (b10.mono b7.size)).mono (by omega))
    refine ⟨hb.os, hb.tape, hb.output, by simpa using hb.size, fun x hx => (st x (by omega)).trans (hb.block x hx)⟩
  clear HP AL hwz
  have BR : Hid (Below W.heap.size W W) := Below.refl _ _
  have BD : Hid (Below W.heap.size W W.drew) := (Below.refl _ _).drew
  have BV : Hid (∀ w', Below W.heap.size W w' → Below w.heap.size w w') := fun w' h => BW.out.trans (h.mono BW.out.size)
  go_region_held3 (fun w' => w'.cell? ⟨w.heap.size, 0, none⟩ = some (.int .i64 kd) ∧ w'.cell? ⟨w.heap.size, 1, none⟩ = some vv ∧ w'.cell? ⟨w.heap.size, 2, none⟩ = some fv) (go_keep) (first
    | (go_at_call 37; refine Calls.mono (CV.out _ (BV.out _ ?_)) ?_; (first | exact BR.out | exact BD.out); rintro e w7 ⟨p7, c7, rfl, o7, b7⟩; have B7 : Hid (Below W.heap.size W w7) := (by first | exact BR.out.trans b7 | exact BD.out.trans b7); have O7 : Hid (OwnG KA w7 W.heap.size (.slice p7 va.length c7) va) := (by first | exact o7 | exact o7.low BD.out.size); obtain ⟨s0, s1, s2⟩ := BS.out _ B7.out; clear o7 b7)
    | (go_at_call 38; refine Calls.mono (CF.out _ (BV.out _ B7.out)) ?_; rintro e w10 ⟨p10, c10, rfl, o10, b10⟩; have B10 : Hid (Below w7.heap.size w7 w10) := b10; have B10' : Hid (Below W.heap.size W w10) := B7.out.trans (B10.out.mono B7.out.size); have O10 : Hid (OwnG KC w10 W.heap.size (.slice p10 fl.length c10) fl) := OwnG.low (OwnC.g o10) B7.out.size; obtain ⟨t0, t1, t2⟩ := BS.out _ B10'.out; have hp := BP.out _ B10'.out; have z0 : w10.cell? ⟨w.heap.size + 1, 0, none⟩ = some (.int .i64 0) := cell_of_row _ _ _ _ _ _ hp; have z1 : w10.cell? ⟨w.heap.size + 1, 1, none⟩ = some (.slice none 0 0) := cell_of_row _ _ _ _ _ _ hp; have z2 : w10.cell? ⟨w.heap.size + 1, 2, none⟩ = some (.slice none 0 0) := cell_of_row _ _ _ _ _ _ hp; have fz : ∀ o, w10.frozen? ⟨w.heap.size + 1, o, none⟩ = false := (fun o => by simp [World.frozen?, hp]); have HP9 := hid hp; clear o10 b10 hp))
  all_goals
    go_wp2_with fail
    obtain ⟨y0, y1, y2⟩ := set3 HP9.out (.int .i64 kd) (.slice p7 va.length c7) (.slice p10 fl.length c10)
    exact bodyPost_ret (v := .agg #[.int .i64 kd, .slice p7 va.length c7, .slice p10 fl.length c10]) (by simp [results, Tryd.results17, go_sem, y0, y1, y2]) rfl ⟨_, _, _, _, rfl, FIN.out w7 _ w10 _ O7.out B7.out O10.out B10.out⟩
set_option maxHeartbeats 8000000 in
set_option maxRecDepth 100000 in
theorem sameOut_same (w : World) (o : Oc) (p n q m p' n' q' m') (hv : AS w (.slice p o.val.length n) o.val) (hf : CS w (.slice q o.fl.length m) o.fl) (hv' : AS w (.slice p' o.val.length n') o.val) (hf' : CS w (.slice q' o.fl.length m') o.fl) (l1 : o.val.length ≤ 100000000000000000) (l2 : o.fl.length ≤ 100000000000000000) :
    Calls Tryd.prog 21 #[.agg #[.int .i64 o.kind, .slice p o.val.length n, .slice q o.fl.length m], .agg #[.int .i64 o.kind, .slice p' o.val.length n', .slice q' o.fl.length m']] w fun e w' => e = .returned (.bool true) ∧ Below w.heap.size w w' := by
  obtain ⟨kd, va, fl⟩ := o
  simp only at *
  have AL : Hid (∀ ob ob2, Below w.heap.size w ((w.alloc ob).alloc ob2)) := fun ob ob2 => ((Below.refl _ _).alloc (Nat.le_refl _) ob).alloc (by simp) ob2
  have SV : Hid (∀ ob ob2, Calls Tryd.prog 41 #[.slice p va.length n, .slice p' va.length n'] ((w.alloc ob).alloc ob2) fun e w' => e = .returned (.bool true) ∧ Below ((w.alloc ob).alloc ob2).heap.size ((w.alloc ob).alloc ob2) w') := fun ob ob2 => sameV_same _ _ _ va (hv.below (AL.out ob ob2)) (hv'.below (AL.out ob ob2)) l1
  have SF : Hid (∀ w', Below w.heap.size w w' → Calls Tryd.prog 42 #[.slice q fl.length m, .slice q' fl.length m'] w' fun e w'' => e = .returned (.bool true) ∧ ∃ n, w'' = w'.drewN n) := fun w' h => sameFail_same w' _ _ fl (hf.below h) (hf'.below h) l2
  have BX : Hid (∀ ob ob2 w5, Below ((w.alloc ob).alloc ob2).heap.size ((w.alloc ob).alloc ob2) w5 → (∀ o u, ((w.alloc ob).alloc ob2).cell? ⟨w.heap.size, o, none⟩ = some u → w5.cell? ⟨w.heap.size, o, none⟩ = some u) ∧ (∀ o u, ((w.alloc ob).alloc ob2).cell? ⟨w.heap.size + 1, o, none⟩ = some u → w5.cell? ⟨w.heap.size + 1, o, none⟩ = some u) ∧ Below w.heap.size w w5) := fun ob ob2 w5 hb => ⟨fun o u hu => (hb.cell (p := ⟨w.heap.size, o, none⟩) (by simp; omega)).trans hu, fun o u hu => (hb.cell (p := ⟨w.heap.size + 1, o, none⟩) (by simp)).trans hu, (AL.out ob ob2).trans (hb.mono (AL.out ob ob2).size)⟩
  have C2 : Hid (∀ ar T ob2, ∀ i u, ar[i]? = some u → ((w.alloc (.cells ar T)).alloc ob2).cell? ⟨w.heap.size, i, none⟩ = some u) := fun ar T ob2 i u hu => by
    have hh : ((w.alloc (.cells ar T)).alloc ob2).heap[w.heap.size]? = some (.cells ar T) := (Below.heap_alloc _ _ _ (by simp)).trans (heap_alloc_new w _)
    rw [cell_of_row _ _ _ _ _ _ hh]; exact hu
  have C3 : Hid (∀ ob ar T, ∀ i u, ar[i]? = some u → ((w.alloc ob).alloc (.cells ar T)).cell? ⟨w.heap.size + 1, i, none⟩ = some u) := fun ob ar T i u hu => by
    rw [cell_of_row _ _ _ _ _ _ (heap2 w ob (.cells ar T))]; exact hu
  clear hv hf hv' hf' l1 l2
  generalize va.length = lv at *
  generalize fl.length = lf at *
  go_enter Tryd.func21, Tryd.ntmps21
  go_wp2_with (first | (go_at_call 41; refine (SV.out _ _).mono ?_; rintro e w1 ⟨rfl, hb⟩; obtain ⟨k1, k2, k3⟩ := BX.out _ _ _ hb; have y1 : w1.cell? ⟨w.heap.size, 2, none⟩ = some (.slice q lf m) := k1 2 _ (C2.out _ _ _ 2 _ rfl); have y2 : w1.cell? ⟨w.heap.size + 1, 2, none⟩ = some (.slice q' lf m') := k2 2 _ (C3.out _ _ _ 2 _ rfl); have B1 := hid k3; clear hb k1 k2 k3) | (go_at_call 42; refine (SF.out _ B1.out).mono ?_; rintro e w2 ⟨rfl, n2, hw2⟩; have B2 : Hid (Below w.heap.size w w2) := (by rw [hw2]; exact B1.out.trans ((drew_below _ n2).mono B1.out.size)); clear hw2))
  go_ret
  exact ⟨rfl, B2.out⟩
end Go.Proofs.YtbgeihgenckihaaDoor
