/- The law ValueMakes. -/
import Derived.Test.YtpiikidpgjmmbaaVd2
namespace Go.Proofs.Ytpiikidpgjmmbaa
open Go.RowKit

theorem CPV.full {w w' : World} {vs : Value} {L M : List Vx} (h : CPV w w' vs L M L.length) : aL M = aL L := by
  have := h.eq; rw [List.take_length] at this; exact this
/-- Two values of calls are the same, wherever they lie. -/
theorem sameV_two {w : World} {v1 v2 : Value} {b1 b2 : Nat} {l : List Atm} (h1 : OwnG KA w b1 v1 l) (h2 : OwnG KA w b2 v2 l) (hl : l.length ≤ 100000000000000000) :
    Calls Try.prog 7 #[v1, v2] w fun e w' => e = .returned (.bool true) ∧ Below w.heap.size w w' := sameV_same w v1 v2 l (h1.gs KA_ok.len) (h2.gs KA_ok.len) hl
theorem intL_len (n : Int) : (intL n).length ≤ 1 := by unfold intL; split <;> simp
theorem txtL_len (s : ByteArray) : (txtL s).length ≤ 1 := by unfold txtL; split <;> simp
theorem listL_len (A : List (List Atm)) : (listL A).length ≤ 1024 := by
  unfold listL
  split
  · rename_i h
    unfold listE at h
    split at h
    · split at h
      · rename_i h2
        unfold lokB at h2
        rw [lstA_len]
        simp only [decide_eq_true_eq] at h2
        omega
      · cases h
    · rename_i h2; exact absurd h h2
  · simp
/-- Where the law's inner loop stands. -/
structure SQ (w1 wx : World) (vp : Value) (P : List Vx) : Prop where
  own : OwnG KV wx w1.heap.size vp P
  sp : ∀ x ∈ P, SPV wx w1.heap.size x.v
  bl : Below w1.heap.size w1 wx
theorem SQ.below {w1 wx wy : World} {vp : Value} {P : List Vx} (h : SQ w1 wx vp P) (b : Below wx.heap.size wx wy) : SQ w1 wy vp P :=
  ⟨h.own.below b, fun x hx => (h.sp x hx).far (fun g hg => b.block g (by
    rcases h.sp x hx with e | ⟨g', o, n, cap, N, e, _, ⟨cur, h1, _⟩, _⟩
    · rw [e] at hg; cases hg
    · rw [e] at hg
      have e4 : g' = g := by simpa [Value.ownBlock] using hg
      subst e4
      exact (Array.getElem?_eq_some_iff.1 h1).1)), h.bl.trans (b.mono h.bl.size)⟩
theorem SQ.next {w1 wx wy : World} {vp u : Value} {P : List Vx} (h : SQ w1 wx vp P) (hu : SPV wx w1.heap.size u) (b : Below w1.heap.size wx wy) (hk : ∀ j, some j ≠ u.ownBlock → wy.heap[j]? = wx.heap[j]?) (hs : ∀ b u, SPV wx b u → SPV wy b u) : SQ w1 wy vp P :=
  ⟨h.own.far (fun g hg => hk g (hu.apart (by decide) h.own hg)), fun x hx => hs _ _ (h.sp x hx), h.bl.trans b⟩
set_option maxHeartbeats 16000000 in
set_option maxRecDepth 100000 in
theorem valueMakes_any (n : Int) (s : ByteArray) (v : Value) (L : List Vx) (w : World) (hs : s.size ≤ maxLen) (h : VR w v L) (ht : VT L) :
    Calls Try.prog 3 #[.int .i64 n, .string s, v] w fun e w' => e = .returned (.bool true) ∧ Below w.heap.size w w' := by
  have I1 : Hid _ := int_any n w
  have I2 : Hid (∀ w1, _) := fun w1 => rint_any n w1
  have T1 : Hid (∀ w1, _) := fun w1 => text_any s w1 hs
  have T2 : Hid (∀ w1, _) := fun w1 => rtext_any s w1 hs
  have SV : Hid (∀ w1 b1 b2 v1 v2 l, OwnG KA w1 b1 v1 l → OwnG KA w1 b2 v2 l → l.length ≤ 100000000000000000 → Calls Try.prog 7 #[v1, v2] w1 fun e w' => e = .returned (.bool true) ∧ Below w1.heap.size w1 w') := fun w1 b1 b2 v1 v2 l h1 h2 h3 => sameV_two h1 h2 h3
  have LI : Hid ((intL n).length ≤ 100000000000000000) := by have := intL_len n; show _ ≤ _; omega
  have LT : Hid ((txtL s).length ≤ 100000000000000000) := by have := txtL_len s; show _ ≤ _; omega
  have LL : Hid ((listL (aL L)).length ≤ 100000000000000000) := by have := listL_len (aL L); show _ ≤ _; omega
  have CE : Hid (∀ w1, Below w.heap.size w w1 → _) := fun w1 b => copied_any v L w1 (h.below b) ht
  have L1 : Hid (∀ w1 u M, VR w1 u M → aL M = aL L → Calls Try.prog 11 #[u] w1 fun e w' => AnsV w1 w' e (listL (aL L)) (listE (aL L))) := fun w1 u M hu e => by rw [← e]; exact list_any u M w1 hu (ht.of e)
  have L2 : Hid (∀ w1, Below w.heap.size w w1 → _) := fun w1 b => rlist_any v L w1 (h.below b) ht
  have SO : Hid (∀ w1 b u l, OwnG KA w1 b u l → _) := fun w1 b u l hu => spoil_any w1 b u (SPV.own hu)
  have SX : Hid (∀ w1 b u, SPV w1 b u → _) := fun w1 b u hu => spoil_any w1 b u hu
  have HS : Hid (∀ w1, Below w.heap.size w w1 → VR w1 v L) := fun w1 b => h.below b
  have EL : Hid (∀ M, aL M = aL L → M.length = L.length) := fun M e => by rw [← aL_len M, e, aL_len]
  have K1 : Hid (∀ w1 u M k (hk : k < M.length) (hk' : k < L.length), VR w1 u M → aL M = aL L → Calls Try.prog 14 #[.slice M[k].q L[k].a.length M[k].c] w1 fun e w' => e = .returned (.int .i64 (chkV L[k].a)) ∧ Below w1.heap.size w1 w') := fun w1 u M k hk hk' hu e => by
    have e2 := aL_get e hk' hk
    have := vcheck_any M[k].v M[k].a w1 (hu.av _ (List.getElem_mem hk)) ((ht.of e).t _ (List.getElem_mem hk)) (by have := (ht.of e).l _ (List.getElem_mem hk); omega)
    unfold Vx.v at this
    rw [e2] at this; exact this
  have K2 : Hid (∀ w1 k (hk' : k < L.length), Below w.heap.size w w1 → Calls Try.prog 15 #[.slice L[k].q L[k].a.length L[k].c] w1 fun e w' => e = .returned (.int .i64 (chkV L[k].a)) ∧ Below w1.heap.size w1 w') := fun w1 k hk' b => rvcheck_any L[k].v L[k].a w1 ((h.below b).av _ (List.getElem_mem hk')) (ht.t _ (List.getElem_mem hk')) (by have := ht.l _ (List.getElem_mem hk'); omega)
  have M1 : Hid (∀ w1 u M k (hk : k < M.length) (hk' : k < L.length), VR w1 u M → aL M = aL L → Calls Try.prog 16 #[.slice M[k].q L[k].a.length M[k].c] w1 fun e w' => AnsS w1 w' e (memL L[k].a) (memE L[k].a)) := fun w1 u M k hk hk' hu e => by
    have e2 := aL_get e hk' hk
    have := members_any M[k].v M[k].a w1 (hu.av _ (List.getElem_mem hk)) ((ht.of e).t _ (List.getElem_mem hk)) (by have := (ht.of e).l _ (List.getElem_mem hk); omega)
    unfold Vx.v at this
    rw [e2] at this; exact this
  have M2 : Hid (∀ w1 k (hk' : k < L.length), Below w.heap.size w w1 → Calls Try.prog 17 #[.slice L[k].q L[k].a.length L[k].c] w1 fun e w' => AnsS w1 w' e (memL L[k].a) (memE L[k].a)) := fun w1 k hk' b => rmembersE_any L[k].v L[k].a w1 ((h.below b).av _ (List.getElem_mem hk')) (ht.t _ (List.getElem_mem hk')) (by have := ht.l _ (List.getElem_mem hk'); omega)
  have VS : Hid (∀ w1 v1 v2 M1 M2, VR w1 v1 M1 → VR w1 v2 M2 → aL M1 = aL M2 → VT M2 → Calls Try.prog 18 #[v1, v2] w1 fun e w' => e = .returned (.bool true) ∧ Below w1.heap.size w1 w') := fun w1 v1 v2 M1 M2 h1 h2 e h3 => values_same v1 v2 M1 M2 w1 h1 h2 e h3
  have HT : Hid (VT L) := ht
  have hlm : L.length ≤ 140737488355328 := by have := ht.n; omega
  obtain ⟨p, cap, rfl⟩ := h.gs.form
  generalize hLL : listL (aL L) = ll at *
  generalize hLE : listE (aL L) = le at *
  generalize hIL : intL n = il at *
  generalize hIE : intE n = ie at *
  generalize hTL : txtL s = tl at *
  generalize hTE : txtE s = te at *
  clear h ht hLL hLE hIL hIE hTL hTE
  go_enter Try.func3, Try.ntmps3
  go_wp2_with fail
  refine Calls.mono I1.out ?_
  rintro e w1 ⟨p1, c1, rfl, ho1, hb1⟩
  have B1 : Hid (Below w.heap.size w w1) := hb1
  have O1 : Hid (OwnG KA w1 w.heap.size (.slice p1 il.length c1) il) := ho1
  clear ho1 hb1 I1
  go_wp2_with fail
  refine Calls.mono (I2.out w1) ?_
  rintro e w2 ⟨p2, c2, rfl, ho2, hb2⟩
  have B2 : Hid (Below w.heap.size w w2) := B1.out.trans (hb2.mono B1.out.size)
  have S2 : Hid _ := SV.out w2 _ _ _ _ _ (O1.out.below hb2) ho2 LI.out
  clear ho2 hb2 I2 B1 O1
  go_wp2_with fail
  refine Calls.mono S2.out ?_
  rintro e w3 ⟨rfl, hb3⟩
  have B3 : Hid (Below w.heap.size w w3) := B2.out.trans (hb3.mono B2.out.size)
  clear hb3 S2 B2
  go_wp2_with fail
  refine Calls.mono (T1.out w3) ?_
  rintro e w4 ⟨p4, c4, rfl, ho4, hb4⟩
  have B4 : Hid (Below w.heap.size w w4) := B3.out.trans (hb4.mono B3.out.size)
  have O4 : Hid (OwnG KA w4 w3.heap.size (.slice p4 tl.length c4) tl) := ho4
  clear ho4 hb4 T1 B3
  go_wp2_with fail
  refine Calls.mono (T2.out w4) ?_
  rintro e w5 ⟨p5, c5, rfl, ho5, hb5⟩
  have B5 : Hid (Below w.heap.size w w5) := B4.out.trans (hb5.mono B4.out.size)
  have S5 : Hid _ := SV.out w5 _ _ _ _ _ (O4.out.below hb5) ho5 LT.out
  clear ho5 hb5 T2 B4 O4
  go_wp2_with fail
  refine Calls.mono S5.out ?_
  rintro e w6 ⟨rfl, hb6⟩
  have B6 : Hid (Below w.heap.size w w6) := B5.out.trans (hb6.mono B5.out.size)
  have C6 : Hid _ := CE.out w6 B6.out
  clear hb6 S5 B5 CE
  go_wp2_with fail
  refine Calls.mono C6.out ?_
  rintro e w7 ⟨p7, c7, M, rfl, cpv⟩
  have EQ : Hid (aL M = aL L) := cpv.full
  have V7 : Hid (VR w7 (.slice p7 L.length c7) M) := cpv.vr
  have B7 : Hid (Below w.heap.size w w7) := B6.out.trans (cpv.bl.mono B6.out.size)
  clear cpv C6 B6
  have Q7 : Hid _ := L1.out w7 _ _ V7.out EQ.out
  go_wp2_with fail
  refine Calls.mono Q7.out ?_
  rintro e w8 ⟨p8, c8, rfl, ho8, hb8⟩
  have B8 : Hid (Below w.heap.size w w8) := B7.out.trans (hb8.mono B7.out.size)
  have B78 : Hid (Below w7.heap.size w7 w8) := hb8
  have O8 : Hid (OwnG KA w8 w7.heap.size (.slice p8 ll.length c8) ll) := ho8
  have Q8 : Hid _ := L2.out w8 B8.out
  clear ho8 hb8 Q7 L1 L2
  go_wp2_with fail
  refine Calls.mono Q8.out ?_
  rintro e w9 ⟨p9, c9, rfl, ho9, hb9⟩
  have B79 : Hid (Below w7.heap.size w7 w9) := B78.out.trans (hb9.mono B78.out.size)
  have S9 : Hid _ := SV.out w9 _ _ _ _ _ (O8.out.below hb9) ho9 LL.out
  have O9 : Hid (OwnG KA w9 w7.heap.size (.slice p8 ll.length c8) ll) := O8.out.below hb9
  clear ho9 hb9 Q8 O8 B8 B78
  go_wp2_with fail
  refine Calls.mono S9.out ?_
  rintro e w10 ⟨rfl, hb10⟩
  have B710 : Hid (Below w7.heap.size w7 w10) := B79.out.trans (hb10.mono B79.out.size)
  have S10 : Hid _ := SO.out w10 _ _ _ (O9.out.below hb10)
  clear hb10 S9 O9 B79 SO
  go_wp2_with fail
  refine Calls.mono S10.out ?_
  rintro e w11 ⟨rfl, hb11, _, _⟩
  have B711 : Hid (Below w7.heap.size w7 w11) := B710.out.trans hb11
  have V11 : Hid (VR w11 (.slice p7 L.length c7) M) := V7.out.below B711.out
  have B11 : Hid (Below w.heap.size w w11) := B7.out.trans (B711.out.mono B7.out.size)
  clear hb11 S10 B710 B711 V7 B7 SV LI LT LL
  go_wp2_with fail
  go_loopw [12] (fun v12 wr => ∃ (k : Nat) (wk : World), v12 = .int .i64 k ∧ wk = wr ∧ k ≤ L.length ∧ Hid (VR wk (.slice p7 L.length c7) M) ∧ Hid (Below w.heap.size w wk)) (fun v12 _ => L.length - (intOf v12).toNat)
  case atStart => exact ⟨0, _, rfl, rfl, Nat.zero_le _, V11, B11⟩
  case round =>
    obtain ⟨k, wr, rfl, rfl, hk, HV, HB⟩ := hrel
    clear V11 B11
    by_cases hlt : k < L.length
    · have hlt' : k < M.length := by rw [EL.out M EQ.out]; exact hlt
      obtain ⟨X, o, e1, x0⟩ := HV.out.gs.atV hlt'
      obtain rfl : p7 = some ⟨X, o, none⟩ := e1
      obtain ⟨Y, u, e2, y0⟩ := (HS.out wr HB.out).gs.atV hlt
      obtain rfl : p = some ⟨Y, u, none⟩ := e2
      rw [aL_get EQ.out hlt hlt'] at x0
      have k1 : Hid (∀ w1, Below wr.heap.size wr w1 → _) := fun w1 b => K1.out w1 _ M k hlt' hlt (HV.out.below b) EQ.out
      have k2 : Hid (∀ w1, Below wr.heap.size wr w1 → _) := fun w1 b => K2.out w1 k hlt (HB.out.trans (b.mono HB.out.size))
      have m1 : Hid (∀ w1, Below wr.heap.size wr w1 → _) := fun w1 b => M1.out w1 _ M k hlt' hlt (HV.out.below b) EQ.out
      have m2 : Hid (∀ w1, Below wr.heap.size wr w1 → _) := fun w1 b => M2.out w1 k hlt (HB.out.trans (b.mono HB.out.size))
      have XS : Hid (∀ w1, Below wr.heap.size wr w1 → w1.cell? ⟨X, o + k, none⟩ = some (.slice M[k].q L[k].a.length M[k].c) ∧ w1.cell? ⟨Y, u + k, none⟩ = some (.slice L[k].q L[k].a.length L[k].c)) := fun w1 c => ⟨(c.cell (p := ⟨X, o + k, none⟩) (block_lt_of_cell x0)).trans x0, (c.cell (p := ⟨Y, u + k, none⟩) (block_lt_of_cell y0)).trans y0⟩
      have VX : Hid (∀ w1, Below wr.heap.size wr w1 → VR w1 (.slice (some ⟨X, o, none⟩) L.length c7) M ∧ Below w.heap.size w w1) := fun w1 b => ⟨HV.out.below b, HB.out.trans (b.mono HB.out.size)⟩
      obtain ⟨c, hc⟩ : ∃ c, c = L[k] := ⟨_, rfl⟩
      obtain ⟨d, hd⟩ : ∃ d, d = M[k] := ⟨_, rfl⟩
      rw [← hc] at x0 y0 XS k1 k2 m1 m2
      rw [← hd] at x0 XS k1 m1
      have BR : Hid (Below wr.heap.size wr wr) := Below.refl _ _
      have BD : Hid (Below wr.heap.size wr wr.drew) := (Below.refl _ _).drew
      have MLEN : Hid ((memL c.a).length ≤ 140737488355328) := by
        show _ ≤ _
        unfold memL
        split
        · rename_i he
          by_cases hz : chkV c.a = 0
          · obtain ⟨t, e3, hr⟩ := RT.of hz
            rw [e3, (memT_flat hr.wf).1, List.length_map]
            have h1 := memT_len (t := t)
            have h2 := hr.sz
            have h3 := szV_ps t
            omega
          · unfold memE at he; rw [if_neg hz] at he; exact absurd he hz
        · simp
      generalize chkV c.a = ce at *
      generalize memE c.a = me at *
      generalize memL c.a = ml at *
      clear hc hd K1 K2 M1 M2 HS HV HB
      have mlh := MLEN.out
      have zc : (ce == ce) = true := by simp
      go_wp2_with fail
      go_region_held3 (fun w' => w'.cell? ⟨X, o + k, none⟩ = some (.slice d.q c.a.length d.c) ∧ w'.cell? ⟨Y, u + k, none⟩ = some (.slice c.q c.a.length c.c)) (go_keep) (first | (go_at_call 14; refine Calls.mono (k1.out _ ?_) ?_; (first | exact BR.out | exact BD.out); rintro e w3 ⟨rfl, b3⟩; have B3 : Hid (Below wr.heap.size wr w3) := (by first | exact b3 | exact BD.out.trans (b3.mono BD.out.size)); have x0' := (XS.out _ B3.out).1; have y0' := (XS.out _ B3.out).2; clear b3) | (go_at_call 15; refine Calls.mono (k2.out _ ?_) ?_; (first | exact B3.out | exact B3.out.drew); rintro e w4 ⟨rfl, b4⟩; have B4 : Hid (Below wr.heap.size wr w4) := (by first | exact B3.out.trans (b4.mono B3.out.size) | exact B3.out.drew.trans (b4.mono B3.out.size)); have x0'' := (XS.out _ B4.out).1; have y0'' := (XS.out _ B4.out).2; clear b4))
      clear x0 y0 x0' y0' B3 k1 k2 BR BD zc
      have Q4 : Hid _ := m1.out w4 B4.out
      go_wp2_with fail
      refine Calls.mono Q4.out ?_
      rintro e w5 ⟨q5, c5, P, rfl, ho5, hav5, haP, hvt5, hsp5, hb5⟩
      have SQ5 : Hid (SQ w4 w5 (.slice q5 ml.length c5) P) := ⟨ho5, hsp5, hb5⟩
      have V5 : Hid (VR w5 (.slice q5 ml.length c5) P ∧ aL P = ml) := ⟨⟨ho5.gs KV_ok.len, hav5⟩, haP⟩
      have B5 : Hid (Below wr.heap.size wr w5) := B4.out.trans (hb5.mono B4.out.size)
      have y05 := (XS.out _ B5.out).2
      have Q5 : Hid _ := m2.out w5 B5.out
      have LP : Hid (P.length = ml.length) := by rw [← haP, aL_len]; rfl
      clear ho5 hav5 haP hvt5 hsp5 hb5 Q4 m1 m2 x0'' y0''
      go_wp2_with fail
      refine Calls.mono Q5.out ?_
      rintro e w6 ⟨q6, c6, P2, rfl, ho6, hav6, haP6, hvt6, hsp6, hb6⟩
      have SQ6 : Hid (SQ w4 w6 (.slice q5 ml.length c5) P) := SQ5.out.below hb6
      have Q6 : Hid _ := VS.out w6 _ _ P P2 (V5.out.1.below hb6) ⟨ho6.gs KV_ok.len, hav6⟩ (V5.out.2.trans haP6.symm) hvt6
      clear ho6 hav6 haP6 hvt6 hsp6 hb6 Q5 SQ5 V5 B5 y05 XS
      go_wp2_with fail
      refine Calls.mono Q6.out ?_
      rintro e w7' ⟨rfl, hb7⟩
      have SQ7 : Hid (SQ w4 w7' (.slice q5 ml.length c5) P) := SQ6.out.below hb7
      clear hb7 Q6 SQ6
      go_wp2_with fail
      go_loopw [17] (fun v17 wx => ∃ (j : Nat) (wk : World), v17 = .int .i64 j ∧ wk = wx ∧ j ≤ ml.length ∧ Hid (SQ w4 wk (.slice q5 ml.length c5) P)) (fun v17 _ => ml.length - (intOf v17).toNat)
      case atStart => exact ⟨0, _, rfl, rfl, Nat.zero_le _, SQ7⟩
      case round =>
        obtain ⟨j, wx, rfl, rfl, hj, HQ⟩ := hrel
        clear SQ7
        by_cases hjl : j < ml.length
        · have hjP : j < P.length := by rw [LP.out]; exact hjl
          obtain ⟨Z, z, e3, z0⟩ := (HQ.out.own.gs KV_ok.len).atV hjP
          obtain rfl : q5 = some ⟨Z, z, none⟩ := e3
          have Qx : Hid _ := SX.out wx _ _ (HQ.out.sp _ (List.getElem_mem hjP))
          have SPx : Hid (SPV wx w4.heap.size P[j].v) := HQ.out.sp _ (List.getElem_mem hjP)
          unfold Vx.v at Qx SPx
          obtain ⟨y, hy⟩ : ∃ y, y = P[j] := ⟨_, rfl⟩
          rw [← hy] at z0 Qx SPx
          clear hy SX VS
          go_wp2_with fail
          refine Calls.mono Qx.out ?_
          rintro e wy ⟨rfl, hby, hky, hsy⟩
          have NQ : Hid (SQ w4 wy (.slice (some ⟨Z, z, none⟩) ml.length c5) P) := HQ.out.next SPx.out hby hky hsy
          clear hby hky hsy Qx SPx HQ
          go_wp2_with fail
          go_roundw
          case rel => exact ⟨j + 1, _, by go_num, rfl, by omega, NQ⟩
          case measure => simp [intOf]; omega
        · have FV : Hid (VR wx (.slice (some ⟨X, o, none⟩) L.length c7) M ∧ Below w.heap.size w wx) := VX.out wx (B4.out.trans (HQ.out.bl.mono B4.out.size))
          clear HQ SX VS VX B4
          go_wp2_with fail
          go_roundw
          case rel => exact ⟨k + 1, _, by go_num, rfl, by omega, FV.out.1, FV.out.2⟩
          case measure => simp [intOf]; omega
    · have Q9 : Hid _ := VS.out wr _ _ _ _ HV.out (HS.out wr HB.out) EQ.out HT.out
      clear K1 K2 M1 M2 SX VS
      go_wp2_with fail
      refine Calls.mono Q9.out ?_
      rintro e w12 ⟨rfl, hb12⟩
      have B12 : Hid (Below w.heap.size w w12) := HB.out.trans (hb12.mono HB.out.size)
      clear hb12 Q9
      go_wp2_with fail
      go_ret
      exact ⟨rfl, B12.out⟩
end Go.Proofs.Ytpiikidpgjmmbaa
