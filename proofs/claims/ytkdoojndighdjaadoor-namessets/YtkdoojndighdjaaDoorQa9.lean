/- The law NamesSets. -/
import Derived.Test.YtkdoojndighdjaaDoorQa8
import Derived.Laws.StructEq
namespace Go.Proofs.YtkdoojndighdjaaDoor
open Go.RowKit

theorem pL_get {L M : List Pvx} (h : pL M = pL L) {k : Nat} (hk : k < L.length) (hk' : k < M.length) : M[k].p = L[k].p := by
  have := pL_at hk'
  rw [← this, ← pL_at hk]
  simp [h]
set_option maxHeartbeats 4000000 in
/-- The law's comparison: the same providers, wherever they lie. -/
theorem provs_same (v1 v2 : Value) (M L : List Pvx) (w : World) (h1 : PR w v1 M) (h2 : PR w v2 L) (he : pL M = pL L) (hlm : L.length ≤ 10000000000000) :
    Calls Tryd.prog 23 #[v1, v2] w fun e w' => e = .returned (.bool true) ∧ Below w.heap.size w w' := by
  have hlen : M.length = L.length := by rw [← pL_len M, he, pL_len]
  obtain ⟨p1, c1, rfl⟩ := h1.gs.form
  obtain ⟨p2, c2, rfl⟩ := h2.gs.form
  have H1 : Hid (PR w (.slice p1 M.length c1) M) := h1
  have H2 : Hid (PR w (.slice p2 L.length c2) L) := h2
  have SP : Hid (∀ w1 k (hk : k < L.length) (hk' : k < M.length), Below w.heap.size w w1 → Calls Tryd.prog 16 #[.agg #[.string L[k].p.name, .slice M[k].q L[k].p.ops.length M[k].c, .bool L[k].p.again, .int .i64 L[k].p.pol.t, .int .i64 L[k].p.pol.b, .int .i64 L[k].p.pol.f, .int .i64 L[k].p.pol.c, .int .i64 L[k].p.ck, .string L[k].p.ct], .agg #[.string L[k].p.name, .slice L[k].q L[k].p.ops.length L[k].c, .bool L[k].p.again, .int .i64 L[k].p.pol.t, .int .i64 L[k].p.pol.b, .int .i64 L[k].p.pol.f, .int .i64 L[k].p.pol.c, .int .i64 L[k].p.ck, .string L[k].p.ct]] w1 fun e w' => e = .returned (.bool true) ∧ Below w1.heap.size w1 w') := fun w1 k hk hk' b => by
    have e := pL_get he hk hk'
    have q1 := ((h1.ps _ (List.getElem_mem hk')).below b).os
    have q2 := ((h2.ps _ (List.getElem_mem hk)).below b).os
    have q3 := (h2.ps _ (List.getElem_mem hk)).ln
    unfold Pvx.v at q1 q2
    rw [e] at q1
    exact sameProv_same L[k].p (.slice M[k].q L[k].p.ops.length M[k].c) (.slice L[k].q L[k].p.ops.length L[k].c) w1 q1 q2 (by omega)
  have PE : Hid (∀ k (hk : k < L.length) (hk' : k < M.length), M[k].p = L[k].p) := fun k hk hk' => pL_get he hk hk'
  have HLE : Hid (M.length = L.length) := hlen
  rw [hlen]
  clear h1 h2 he hlen
  go_enter Tryd.func23, Tryd.ntmps23
  go_wp2
  go_loopw [5] (fun v5 wr => ∃ (k : Nat) (wk : World), v5 = .int .i64 k ∧ wk = wr ∧ k ≤ L.length ∧ Hid (Below w.heap.size w wk)) (fun v5 _ => L.length - (intOf v5).toNat)
  case atStart => exact ⟨0, _, rfl, rfl, Nat.zero_le _, Below.refl _ _⟩
  case round =>
    obtain ⟨k, wr, rfl, rfl, hk, HB⟩ := hrel
    by_cases hlt : k < L.length
    · have hlt' : k < M.length := by rw [HLE.out]; exact hlt
      obtain ⟨X, o, e1, x0, x1, x2, x3, x4, x5, x6, x7, x8⟩ := (H1.out.gs.below HB.out).atP hlt'
      obtain rfl : p1 = some ⟨X, o, none⟩ := e1
      obtain ⟨Y, u, e2, y0, y1, y2, y3, y4, y5, y6, y7, y8⟩ := (H2.out.gs.below HB.out).atP hlt
      obtain rfl : p2 = some ⟨Y, u, none⟩ := e2
      have S1 : Hid (∀ w1, Below wr.heap.size wr w1 → _) := fun w1 b => SP.out w1 k hlt hlt' (HB.out.trans (b.mono HB.out.size))
      rw [PE.out k hlt hlt'] at x0 x1 x2 x3 x4 x5 x6 x7 x8
      have XS : Hid (∀ w1, Below wr.heap.size wr w1 → ∀ b o v, wr.cell? ⟨b, o, none⟩ = some v → w1.cell? ⟨b, o, none⟩ = some v) := fun w1 c b o v hc => (c.cell (p := ⟨b, o, none⟩) (block_lt_of_cell hc)).trans hc
      obtain ⟨c, hc⟩ : ∃ c, c = L[k] := ⟨_, rfl⟩
      obtain ⟨d, hd⟩ : ∃ d, d = M[k] := ⟨_, rfl⟩
      rw [← hc] at x0 x1 x2 x3 x4 x5 x6 x7 x8 y0 y1 y2 y3 y4 y5 y6 y7 y8 S1
      rw [← hd] at x1 S1
      clear hc hd SP PE
      have BR : Hid (Below wr.heap.size wr wr) := Below.refl _ _
      have BD : Hid (Below wr.heap.size wr wr.drew) := (Below.refl _ _).drew
      go_wp2_with fail
      go_region_held3 (fun w' => w'.cell? ⟨X, o + k * 9, none⟩ = some (.string c.p.name) ∧ w'.cell? ⟨X, o + k * 9 + 1, none⟩ = some (.slice d.q c.p.ops.length d.c) ∧ w'.cell? ⟨X, o + k * 9 + 2, none⟩ = some (.bool c.p.again) ∧ w'.cell? ⟨X, o + k * 9 + 3, none⟩ = some (.int .i64 c.p.pol.t) ∧ w'.cell? ⟨X, o + k * 9 + 4, none⟩ = some (.int .i64 c.p.pol.b) ∧ w'.cell? ⟨X, o + k * 9 + 5, none⟩ = some (.int .i64 c.p.pol.f) ∧ w'.cell? ⟨X, o + k * 9 + 6, none⟩ = some (.int .i64 c.p.pol.c) ∧ w'.cell? ⟨X, o + k * 9 + 7, none⟩ = some (.int .i64 c.p.ck) ∧ w'.cell? ⟨X, o + k * 9 + 8, none⟩ = some (.string c.p.ct) ∧ w'.cell? ⟨Y, u + k * 9, none⟩ = some (.string c.p.name) ∧ w'.cell? ⟨Y, u + k * 9 + 1, none⟩ = some (.slice c.q c.p.ops.length c.c) ∧ w'.cell? ⟨Y, u + k * 9 + 2, none⟩ = some (.bool c.p.again) ∧ w'.cell? ⟨Y, u + k * 9 + 3, none⟩ = some (.int .i64 c.p.pol.t) ∧ w'.cell? ⟨Y, u + k * 9 + 4, none⟩ = some (.int .i64 c.p.pol.b) ∧ w'.cell? ⟨Y, u + k * 9 + 5, none⟩ = some (.int .i64 c.p.pol.f) ∧ w'.cell? ⟨Y, u + k * 9 + 6, none⟩ = some (.int .i64 c.p.pol.c) ∧ w'.cell? ⟨Y, u + k * 9 + 7, none⟩ = some (.int .i64 c.p.ck) ∧ w'.cell? ⟨Y, u + k * 9 + 8, none⟩ = some (.string c.p.ct)) (go_keep) (first | (go_at_call 16; refine Calls.mono (S1.out _ ?_) ?_; (first | exact BR.out | exact BD.out); rintro e w3 ⟨rfl, b3⟩; have B3 : Hid (Below wr.heap.size wr w3) := (by first | exact b3 | exact BD.out.trans (b3.mono BD.out.size)); have x0' := XS.out _ B3.out _ _ _ x0; have x1' := XS.out _ B3.out _ _ _ x1; have x2' := XS.out _ B3.out _ _ _ x2; have x3' := XS.out _ B3.out _ _ _ x3; have x4' := XS.out _ B3.out _ _ _ x4; have x5' := XS.out _ B3.out _ _ _ x5; have x6' := XS.out _ B3.out _ _ _ x6; have x7' := XS.out _ B3.out _ _ _ x7; have x8' := XS.out _ B3.out _ _ _ x8; have y0' := XS.out _ B3.out _ _ _ y0; have y1' := XS.out _ B3.out _ _ _ y1; have y2' := XS.out _ B3.out _ _ _ y2; have y3' := XS.out _ B3.out _ _ _ y3; have y4' := XS.out _ B3.out _ _ _ y4; have y5' := XS.out _ B3.out _ _ _ y5; have y6' := XS.out _ B3.out _ _ _ y6; have y7' := XS.out _ B3.out _ _ _ y7; have y8' := XS.out _ B3.out _ _ _ y8; clear b3))
      all_goals
        have N3 : Hid (Below w.heap.size w w3) := HB.out.trans (B3.out.mono HB.out.size)
        go_wp2_with fail
        go_roundw
        case rel => exact ⟨k + 1, _, by go_num, rfl, by omega, N3⟩
        case measure => simp [intOf]; omega
    · go_wp2
      go_ret
      exact ⟨rfl, HB.out⟩
theorem PR_of_CPS {w w' : World} {v vs : Value} {L M : List Pvx} (h : PR w v L) (c : CPS w w' vs L M L.length) : PR w' vs M ∧ pL M = pL L := by
  have e : pL M = pL L := by have := c.eq; rw [List.take_length] at this; exact this
  have hlen : M.length = L.length := by rw [← pL_len M, e, pL_len]
  refine ⟨⟨c.own.gs KP_ok.len, fun x hx => ?_⟩, e⟩
  obtain ⟨k, hk, rfl⟩ := List.mem_iff_getElem.1 hx
  have e2 := pL_get e (by omega : k < L.length) hk
  have q := h.ps _ (List.getElem_mem (by omega : k < L.length))
  exact ⟨(c.each _ hx).gs KO_ok.len, by rw [e2]; exact q.tx, by rw [e2]; exact q.nm, by rw [e2]; exact q.ln⟩
set_option maxHeartbeats 8000000 in
theorem namesSets_any (v : Value) (L : List Pvx) (w : World) (h : PR w v L) (hv : NV w) (hl : L.length * 104 ≤ 140737488355328) :
    Calls Tryd.prog 4 #[v] w fun e w' => e = .returned (.bool true) ∧ Below w.heap.size w w' := by
  have CE : Hid _ := copyProvs_any v L w h hl
  have PC : Hid (∀ w' vs M, CPS w w' vs L M L.length → PR w' vs M ∧ pL M = pL L) := fun w' vs M c => PR_of_CPS h c
  have C1 : Hid (∀ w1 u M, Below w.heap.size w w1 → PR w1 u M → pL M = pL L → Calls Tryd.prog 18 #[u] w1 fun e w' => e = .returned (.agg #[.int .i64 (setF (pL L)).1, .int .i64 (setF (pL L)).2]) ∧ Below w1.heap.size w1 w') := fun w1 u M b hu e => by rw [← e]; exact checkSet_any u M w1 hu (hv.below b)
  have C2 : Hid (∀ w1, Below w.heap.size w w1 → _) := fun w1 b => rcheckSet_any v L w1 (h.below b)
  have M1 : Hid (∀ w1 u M, Below w.heap.size w w1 → PR w1 u M → pL M = pL L → Calls Tryd.prog 20 #[u] w1 fun e w' => AnsF w1 w' e (misL (pL L)) (setF (pL L))) := fun w1 u M b hu e => by rw [← e]; exact missing_any u M w1 hu (hv.below b)
  have M2 : Hid (∀ w1, Below w.heap.size w w1 → _) := fun w1 b => rmissing_any v L w1 (h.below b)
  have ST : Hid (∀ w1 u1 u2 m, GS KS w1 u1 m → GS KS w1 u2 m → m.length ≤ 100000000000000000 → Calls Tryd.prog 22 #[u1, u2] w1 fun e w' => e = .returned (.bool true) ∧ Below w1.heap.size w1 w') := fun w1 u1 u2 m h1 h2 h3 => by
    refine (sameTextsG w1 u1 u2 m h1 h2 h3).mono ?_
    rintro e w' ⟨rfl, n, rfl⟩
    exact ⟨rfl, ⟨rfl, rfl, rfl, Nat.le_refl _, fun _ _ => rfl⟩⟩
  have SP : Hid (∀ w1 u M, Below w.heap.size w w1 → PR w1 u M → pL M = pL L → Calls Tryd.prog 23 #[u, v] w1 fun e w' => e = .returned (.bool true) ∧ Below w1.heap.size w1 w') := fun w1 u M b hu e => provs_same u v M L w1 hu (h.below b) e (by omega)
  have LM : Hid ((misL (pL L)).length ≤ 100000000000000000) := by
    show _ ≤ _
    unfold misL
    split
    · rename_i hn
      obtain ⟨hl2, hg, _, _⟩ := setF_fine hn
      have h1 := onceL_len (misU (pL L) (pL L).length)
      have h2 := misU_len (L := pL L) (fun j hj => (chkO_ok (prvE_ops (hg j hj)).1).1) (pL L).length (Nat.le_refl _)
      omega
    · simp
  have LL : Hid (∀ M, pL M = pL L → M.length = L.length) := fun M e => by rw [← pL_len M, e, pL_len]
  obtain ⟨p, cap, rfl⟩ := h.gs.form
  generalize misL (pL L) = PM at *
  generalize setF (pL L) = R at *
  obtain ⟨ra, rc⟩ := R
  have z1 : (ra == ra) = true := by simp
  have z2 : (rc == rc) = true := by simp
  clear h hv
  go_enter Tryd.func4, Tryd.ntmps4
  go_wp2_with fail
  refine Calls.mono CE.out ?_
  rintro e w1 ⟨p1, c1, M, rfl, cps⟩
  obtain ⟨pr1, eq1⟩ := PC.out _ _ _ cps
  have EQ : Hid (pL M = pL L) := eq1
  have P1 : Hid (PR w1 (.slice p1 L.length c1) M) := pr1
  have B1 : Hid (Below w.heap.size w w1) := cps.bl
  clear cps pr1 eq1 CE PC
  go_wp2_with fail
  refine Calls.mono (C1.out _ _ _ B1.out P1.out EQ.out) ?_
  rintro e w2 ⟨rfl, hb2⟩
  have B2 : Hid (Below w.heap.size w w2) := B1.out.trans (hb2.mono B1.out.size)
  have P2 : Hid (PR w2 (.slice p1 L.length c1) M) := P1.out.below hb2
  clear hb2 B1 P1 C1
  go_wp2_with fail
  refine Calls.mono (C2.out _ B2.out) ?_
  rintro e w3 ⟨rfl, hb3⟩
  have B3 : Hid (Below w.heap.size w w3) := B2.out.trans (hb3.mono B2.out.size)
  have P3 : Hid (PR w3 (.slice p1 L.length c1) M) := P2.out.below hb3
  clear hb3 B2 P2 C2
  go_wp2_with fail
  refine Calls.mono (M1.out _ _ _ B3.out P3.out EQ.out) ?_
  rintro e w4 ⟨pa, ca, rfl, hx4, hb4⟩
  have B4 : Hid (Below w.heap.size w w4) := B3.out.trans (hb4.mono B3.out.size)
  have P4 : Hid (PR w4 (.slice p1 L.length c1) M) := P3.out.below hb4
  have T4 : Hid (GS KS w4 (.slice pa PM.length ca) PM) := hx4.gs KS_ok.len
  clear hx4 hb4 B3 P3 M1
  have AB : Hid (∀ ob, Below w4.heap.size w4 (w4.alloc ob)) := fun ob => (Below.refl _ _).alloc (Nat.le_refl _) ob
  have F4 : Hid (FBx (w4.alloc (.cells #[.int .i64 ra, .int .i64 rc] 41)) w4.heap.size ra rc) := heap_alloc_new _ _
  go_wp2_with fail
  refine Calls.mono (M2.out _ (B4.out.trans ((AB.out _).mono B4.out.size))) ?_
  rintro e w5 ⟨pb, cb, rfl, hx5, hb5⟩
  have BB5 : Hid (Below w4.heap.size w4 w5) := (AB.out _).trans (hb5.mono (AB.out _).size)
  have B5 : Hid (Below w.heap.size w w5) := B4.out.trans (BB5.out.mono B4.out.size)
  have P5 : Hid (PR w5 (.slice p1 L.length c1) M) := P4.out.below BB5.out
  have T5 : Hid (GS KS w5 (.slice pa PM.length ca) PM) := T4.out.below BB5.out
  have U5 : Hid (GS KS w5 (.slice pb PM.length cb) PM) := hx5.gs KS_ok.len
  have F5 : Hid (FBx w5 w4.heap.size ra rc) := F4.out.below hb5
  obtain ⟨y0, y1⟩ := F5.out.cells
  have y2 : ∀ ob, (w5.alloc ob).cell? ⟨w4.heap.size, 0, none⟩ = some (.int .i64 ra) := fun ob => (F5.out.below ((Below.refl _ _).alloc (Nat.le_refl _) ob)).cells.1
  have y3 : ∀ ob, (w5.alloc ob).cell? ⟨w4.heap.size, 1, none⟩ = some (.int .i64 rc) := fun ob => (F5.out.below ((Below.refl _ _).alloc (Nat.le_refl _) ob)).cells.2
  clear hx5 hb5 B4 P4 T4 M2 F4 BB5 AB
  have AC : Hid (∀ ob, Below w5.heap.size w5 (w5.alloc ob)) := fun ob => (Below.refl _ _).alloc (Nat.le_refl _) ob
  go_wp2_with fail
  refine Calls.mono (ST.out _ _ _ _ (T5.out.below (AC.out _)) (U5.out.below (AC.out _)) LM.out) ?_
  rintro e w6 ⟨rfl, hb6⟩
  have BB6 : Hid (Below w5.heap.size w5 w6) := (AC.out _).trans (hb6.mono (AC.out _).size)
  have B6 : Hid (Below w.heap.size w w6) := B5.out.trans (BB6.out.mono B5.out.size)
  have P6 : Hid (PR w6 (.slice p1 L.length c1) M) := P5.out.below BB6.out
  clear hb6 BB6 AC B5 P5 T5 U5
  go_wp2_with fail
  refine Calls.mono (SP.out _ _ _ B6.out P6.out EQ.out) ?_
  rintro e w7 ⟨rfl, hb7⟩
  have B7 : Hid (Below w.heap.size w w7) := B6.out.trans (hb7.mono B6.out.size)
  clear hb7
  go_wp2_with fail
  go_ret
  exact ⟨rfl, B7.out⟩
end Go.Proofs.YtkdoojndighdjaaDoor
