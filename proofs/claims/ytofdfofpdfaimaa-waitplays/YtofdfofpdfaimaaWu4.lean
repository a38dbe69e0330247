/- Waiting: the law WaitEach. -/
import Derived.Test.YtofdfofpdfaimaaWu3
namespace Go.Proofs.Ytofdfofpdfaimaa
open Go.RowKit Go.Shelf Go.Maps
attribute [local go_sem] Oper.semAt_some

theorem eqIt (n : Nat) (b : Array Value) (w : World) : Sem.run Try.prog (binOp .eql 43 (.func (.func n) #[] b) .nilFunc) w = .ok (.bool false) w := by kernel_rfl
/-- Where the range stands behind k rounds: all stays but the counter, and rows of waiters that are not the document's. -/
structure ESw (w V : World) (nb : Nat) (v : Value) (k : Nat) (W : World) : Prop where
  bl : Below w.heap.size w W
  kp : KpW nb V W
  ow : ∀ g, v.ownBlock = some g → W.heap[g]? = V.heap[g]?
  ct : W.heap[nb]? = some (.cells #[.int .i64 (k : Nat)] 3)
theorem ESw.below {w V A B : World} {nb k : Nat} {v : Value} (h : ESw w V nb v k A) (hn : nb < V.heap.size) (hw : w.heap.size ≤ V.heap.size) (hv : ∀ g, v.ownBlock = some g → w.heap.size ≤ g ∧ g < V.heap.size) (b : Below A.heap.size A B) : ESw w V nb v k B :=
  ⟨h.bl.trans (b.mono (Nat.le_trans hw h.kp.sz)), h.kp.trans (KpW.below b), fun g hg => (b.block g (Nat.lt_of_lt_of_le (hv g hg).2 h.kp.sz)).trans (h.ow g hg), (b.block nb (Nat.lt_of_lt_of_le hn h.kp.sz)).trans h.ct⟩
theorem ESw.put {w V A : World} {nb k l : Nat} {v : Value} {r r' : Loop} (h : ESw w V nb v k A) (hn : nb < V.heap.size) (hw : w.heap.size ≤ V.heap.size) (hv : ∀ g, v.ownBlock = some g → w.heap.size ≤ g ∧ g < V.heap.size) (hl : V.heap.size ≤ l) (hr : A.heap[l]? = some (.loop r)) : ESw w V nb v k (A.putObj l (.loop r')) :=
  ⟨⟨h.bl.os, h.bl.tape, h.bl.output, by simpa using h.bl.size, fun g hg => (World.putObj_heap_other (by omega)).trans (h.bl.block g hg)⟩, h.kp.trans (KpW.put hr), fun g hg => (World.putObj_heap_other (by have := (hv g hg).2; omega)).trans (h.ow g hg), (World.putObj_heap_other (by omega)).trans h.ct⟩
set_option maxRecDepth 100000 in
set_option maxHeartbeats 32000000 in
theorem waitEach_any (v1 : Value) (l : List Ac) (v2 : Value) (ms : List Ac) (w : World) (h1 : GS KA w v1 l) (ok1 : ∀ a ∈ l, acOk a) (hl1 : l.length ≤ 1000000000000000) (h2 : GS KA w v2 ms) (ok2 : ∀ a ∈ ms, acOk a) (hl2 : ms.length ≤ 1000000000000000) : Calls Try.prog 4 #[v1, v2] w fun e w' => e = .returned (.bool true) ∧ Below w.heap.size w w' := by
  obtain ⟨p1, c1, rfl⟩ := h1.form
  obtain ⟨p2, c2, rfl⟩ := h2.form
  have A1 := hid (fun W' (hb : Below w.heap.size w W') j (hj : j < l.length) => GS.atA (h1.below hb) hj)
  have A2 := hid (fun W' (hb : Below w.heap.size w W') j (hj : j < ms.length) => GS.atA (h2.below hb) hj)
  have OK1 := hid ok1
  have OK2 := hid ok2
  obtain ⟨n1, hn1⟩ : ∃ n1, n1 = l.length := ⟨_, rfl⟩
  obtain ⟨n2, hn2⟩ : ∃ n2, n2 = ms.length := ⟨_, rfl⟩
  have M1 := hid hn1
  have M2 := hid hn2
  rw [← hn1] at hl1 ⊢
  rw [← hn2] at hl2 ⊢
  clear h1 h2 ok1 ok2 hn1 hn2
  have NW := hid (new_any (w.alloc (.cells #[.bool false] 4)))
  have B0 : Hid (Below w.heap.size w (w.alloc (.cells #[.bool false] 4))) := bal _ _
  have K4 : Hid ((w.alloc (.cells #[.bool false] 4)).heap[w.heap.size]? = some (.cells #[.bool false] 4)) := heap_alloc_new _ _
  refine callsIn_wide (n := 9) |>.1 ?_
  refine callsIn_of_wp_marks Try.func4 rfl trivial ?_ rfl
  refine (wpIn_wide (n := 9)).2 ?_
  simp only [Try.ntmps4, List.size_toArray, List.length_cons, List.length_nil, Nat.reduceAdd, Nat.reduceSub, Array.replicate_succ, Array.replicate_zero, List.push_toArray, List.append_toArray, List.nil_append, List.cons_append]
  go_upto_region 4 with (go_at_call 7; refine NW.out.mono ?_; rintro e w1 ⟨rfl, hx1, hb1⟩; have X1 := hid hx1; have B1 := hid (bl3 B0.out hb1); have Y1 := hid hb1; clear hx1 hb1 NW)
  have E0 : Hid (WE w (w1.alloc (.cells #[.slice none 0 0] 27)) (w.heap.size + 1) (w.heap.size + 1 + 1) (w.heap.size + 1) w1.heap.size [] 0 none 0 0 []) := by
    have s1 := Y1.out.size
    have z1 : (w.alloc (.cells #[.bool false] 4)).heap.size = w.heap.size + 1 := by simp
    have x1 := X1.out
    rw [z1] at x1 s1
    have bb := bal w1 (.cells #[.slice none 0 0] 27)
    have k4 := (Y1.out.block _ (lt_of_heap K4.out)).trans K4.out
    exact ⟨⟨_, x1.below bb⟩, bl3 B1.out bb, heap_alloc_new _ _, OwnG.nil _ _ _, by omega, by omega, (bb.block _ (lt_of_heap k4)).trans k4⟩
  obtain ⟨b, hb⟩ : ∃ b, b = w.heap.size + 1 := ⟨_, rfl⟩
  obtain ⟨r, hr⟩ : ∃ r, r = w.heap.size + 1 + 1 := ⟨_, rfl⟩
  obtain ⟨yb, hyb⟩ : ∃ yb, yb = w1.heap.size := ⟨_, rfl⟩
  rw [← hr, ← hb, ← hyb] at E0
  go_upto_region 6 with fail
  rw [← hr, ← hyb]
  have YB := hid (⟨E0.out.gy, E0.out.gb⟩ : w.heap.size < yb ∧ w.heap.size ≤ b)
  clear hr hb hyb X1 B1 Y1 K4 B0
  go_wp2_with fail
  go_loopw [7] (fun v7 wr => ∃ (k : Nat) (wk : World) (L : List Wc) (c : Nat) (q : Option Addr) (nn cc : Nat), v7 = .int .i64 k ∧ wk = wr ∧ k ≤ n1 ∧ c ≤ k ∧ Hid (WE w wk b r b yb L c q nn cc (wL L))) (fun v7 _ => n1 - (intOf v7).toNat)
  case atStart => exact ⟨0, _, [], 0, none, 0, 0, rfl, rfl, Nat.zero_le _, Nat.le_refl _, E0⟩
  case round =>
    obtain ⟨k, wr, L, c, q, nn, cc, rfl, rfl, hk, hck, HE⟩ := hrel
    clear E0
    by_cases hlt : k < n1
    · have hki : (k : Int) < (n1 : Nat) := by omega
      have hkl : k < l.length := by have := M1.out; omega
      obtain ⟨X, o, e1, a0, a1, a2, a3, a4, _⟩ := A1.out wr HE.out.bl k hkl
      obtain rfl : p1 = some ⟨X, o, none⟩ := e1
      have CE : Hid (∀ w', Below w.heap.size w w' → w'.cell? ⟨X, o + k * 6 + 1, none⟩ = some (.int .i64 l[k].x.task) ∧ w'.cell? ⟨X, o + k * 6 + 2, none⟩ = some (.int .i64 l[k].x.kind) ∧ w'.cell? ⟨X, o + k * 6 + 3, none⟩ = some (.string l[k].x.key) ∧ w'.cell? ⟨X, o + k * 6 + 4, none⟩ = some (.string l[k].x.tok)) := fun w' hb => by
        obtain ⟨X2, o2, e2, _, x1, x2, x3, x4, _⟩ := A1.out w' hb k hkl
        injection e2 with e2
        injection e2 with e2 e3
        subst e2 e3
        exact ⟨x1, x2, x3, x4⟩
      have OKk : Hid (l[k].x.key.size ≤ maxLen ∧ l[k].x.tok.size ≤ maxLen) := OK1.out _ (List.getElem_mem hkl)
      have AM := hid (fun W' => among8_any l[k].k W')
      generalize l[k].k = kd0 at *
      generalize l[k].x = x at *
      by_cases hsmall : am8 kd0 < 2
      · go_upto_region 9 with (go_at_call 8; refine (AM.out _).mono ?_; rintro e w2 ⟨rfl, hw2⟩; rw [hw2]; clear hw2)
        clear a0 a1 a2 a3 a4 AM hsmall
        obtain ⟨f, hf⟩ := HE.out.rx
        have HI := hf.ri
        refine wj9 (w := w) (G := fun w' => WE w w' b r b yb (joinL L c x) (joinC L c x) q nn cc (wL L)) hki HE.out.bl (fun w' hb => CE.out w' hb) ((join_any x wr.drew b r b L c f (hf.below (drew_below _ 1)) OKk.out.1 OKk.out.2 (by omega)).mono fun e w' ⟨h1, h2⟩ => ⟨h1, (HE.out.below (drew_below _ 1)).turn ((hf.below (drew_below _ 1)).rq h2)⟩) (fun w' h => h.bl) ?_
        intro w3 _ _ _ _ _ _ _ _ _ _ _ _ _ _ _ _ _ _ _ _ _ _ _ _ _ _ h3
        have H3 := hid h3
        have lj := wL_joined L c x
        obtain ⟨f3, hf3⟩ := h3.rx
        have lt128 : rjE (wL L) x = 0 → (wL L).length < 128 := fun h0 => by
          have e := lj
          rw [if_pos h0] at e
          have h9 := wL_len hf3.ri
          rw [e, List.length_append] at h9
          simp at h9
          omega
        have JB := rjoin_both q nn cc (wL L) x w3.drew w.heap.size (h3.ow.below (drew_below _ 1)) (h3.bl.size) (wL_len HI) lt128 OKk.out.2
        have hc2 := joinC_le L c x
        go_upto_region 10 with fail
        refine wr10 (w := w) (v := .slice q nn cc) (E := rjE (wL L) x) (G := fun v w' => ∃ q2 n2 c2, v = .slice q2 n2 c2 ∧ OwnG KW w' w.heap.size (.slice q2 n2 c2) (wL (joinL L c x)) ∧ WE w w' b r b yb (joinL L c x) (joinC L c x) q nn cc (wL L)) hki h3.bl (Nat.le_of_lt YB.out.1) (cell_of_row _ _ _ _ _ _ h3.y) (fun w' hb => CE.out w' hb) (JB.mono fun e w' ⟨q2, n2, c2, h4, h5, h6⟩ => ?_) ?_
        · have h7 := H3.out.below (bl3 (drew_below w3 1) h6)
          refine ⟨q2, n2, c2, h4, ⟨q2, n2, c2, rfl, ?_, h7⟩, cell_of_row _ _ _ _ _ _ h7.y, by simp [World.frozen?, h7.y], h7.bl⟩
          rw [lj]
          exact h5
        · rintro q2 n2 c2 w4 _ _ _ _ _ _ _ _ _ _ ⟨q3, n3, c3, e3, o3, h8⟩
          injection e3 with e3 e4 e5
          subst e3 e4 e5
          have NX := hid (h8.set o3)
          clear H3 h3 JB HE CE hf hf3 o3 h8
          go_wp2_with fail
          go_roundw
          case rel => exact ⟨k + 1, _, _, _, _, _, _, by go_num, rfl, by omega, by omega, NX⟩
          case measure => simp [intOf]; omega
      · go_wp2_with (go_at_call 8; refine (AM.out _).mono ?_; rintro e w2 ⟨rfl, hw2⟩; rw [hw2]; clear hw2)
        go_roundw
        case rel => exact ⟨k + 1, _, L, c, q, nn, cc, by go_num, rfl, by omega, by omega, HE⟩
        case measure => simp [intOf]; omega
    · obtain rfl : k = n1 := by omega
      obtain ⟨f, hf⟩ := HE.out.rx
      have EA := hid (each2_any wr b r b L c f hf)
      have HI := hid hf.ri
      clear hf
      go_upto_region 14 with (go_at_call 15; refine EA.out.mono ?_; rintro e w2 ⟨B, r', m', f', rfl, hb2, hB, hx2, hk2⟩; have E2 := hid (HE.out.two hb2 hx2 hk2); have EF := eqIt 43; have BZ := hid hB; clear hb2 hx2 hk2 hB)
      clear EA HI HE EF
      go_wp2_with fail
      go_loopw [9] (fun v9 wq => ∃ (j : Nat) (wk : World) (L2 : List Wc) (c3 : Nat), v9 = .int .i64 j ∧ wk = wq ∧ j ≤ n2 ∧ c3 ≤ c + j ∧ Hid (W2E w wk b r b yb wr.heap.size w2.heap.size B r' m' f' L L2 c c3 q nn cc (wL L))) (fun v9 _ => n2 - (intOf v9).toNat)
      case atStart => exact ⟨0, _, L, c, rfl, rfl, Nat.zero_le _, Nat.le_refl _, E2⟩
      case round =>
        obtain ⟨j, wq, L2, c3, rfl, rfl, hj, hc3, HW⟩ := hrel
        clear E2
        by_cases hlt2 : j < n2
        · have hji : (j : Int) < (n2 : Nat) := by omega
          have hjl : j < ms.length := by have := M2.out; omega
          obtain ⟨X, o, e1, a0, a1, a2, a3, a4, _⟩ := A2.out wq HW.out.bl j hjl
          obtain rfl : p2 = some ⟨X, o, none⟩ := e1
          have CE : Hid (∀ w', Below w.heap.size w w' → w'.cell? ⟨X, o + j * 6 + 1, none⟩ = some (.int .i64 ms[j].x.task) ∧ w'.cell? ⟨X, o + j * 6 + 2, none⟩ = some (.int .i64 ms[j].x.kind) ∧ w'.cell? ⟨X, o + j * 6 + 3, none⟩ = some (.string ms[j].x.key) ∧ w'.cell? ⟨X, o + j * 6 + 4, none⟩ = some (.string ms[j].x.tok)) := fun w' hb => by
            obtain ⟨X2, o2, e2, _, x1, x2, x3, x4, _⟩ := A2.out w' hb j hjl
            injection e2 with e2
            injection e2 with e2 e3
            subst e2 e3
            exact ⟨x1, x2, x3, x4⟩
          have OKk : Hid (ms[j].x.key.size ≤ maxLen ∧ ms[j].x.tok.size ≤ maxLen) := OK2.out _ (List.getElem_mem hjl)
          generalize ms[j].x = x at *
          obtain ⟨f2, hf2, hz2⟩ := HW.out.rx
          have WK := hid (wake_any x.key wq b r b L2 c3 f2 hf2 OKk.out.1)
          have TN := hid (fun w' L3 c4 (h : RR wq b r b f2 L3 c4 w') => HW.out.turn hf2 hz2 h)
          clear hf2 hz2
          go_upto_region 18 with (go_at_call 10; refine WK.out.mono ?_; rintro e w3 ⟨p3, c5, rfl, _, h3⟩; have H3 := hid (TN.out _ _ _ h3); clear h3)
          clear a0 a1 a2 a3 a4 WK TN HW
          obtain ⟨f3, hf3, hz3⟩ := H3.out.rx
          refine wj18 (w := w) (G := fun w' => W2E w w' b r b yb wr.heap.size w2.heap.size B r' m' f' L (joinL (outL L2 (qK L2 x.key)) c3 x) c (joinC (outL L2 (qK L2 x.key)) c3 x) q nn cc (wL L)) hji H3.out.bl (fun w' hb => CE.out w' hb) ((join_any x w3.drew b r b _ c3 f3 (hf3.below (drew_below _ 1)) OKk.out.1 OKk.out.2 (by omega)).mono fun e w' ⟨h1, h2⟩ => ⟨h1, (H3.out.below (drew_below _ 1)).turn (hf3.below (drew_below _ 1)) hz3 h2⟩) (fun w' h => h.bl) ?_
          intro w4 _ _ _ _ _ _ _ _ _ _ _ _ _ _ _ _ _ _ _ _ _ _ _ _ _ _ h4
          have NX := hid h4
          have hc4 := joinC_le (outL L2 (qK L2 x.key)) c3 x
          clear h4 H3 hf3 hz3 CE OKk
          go_wp2_with fail
          go_roundw
          case rel => exact ⟨j + 1, _, _, _, by go_num, rfl, by omega, by omega, NX⟩
          case measure => simp [intOf]; omega
        · obtain rfl : j = n2 := by omega
          have y0 : wq.cell? ⟨yb, 0, none⟩ = some (.slice q nn cc) := cell_of_row _ _ _ _ _ _ HW.out.y
          have LL := hid (wL_len HW.out.nw.ri)
          have RK := hid (rkeys_any (.slice q nn cc) (wL L) wq (HW.out.ow.gs KW_ok.len) LL.out)
          go_upto_region 20 with (go_at_call 16; refine RK.out.mono ?_; rintro e w5 ⟨qk, ck, T, hT, rfl, oT, b5⟩; have ST := hid (keys_same hT); have TL := hid (hT.len); have OT := hid (oT.low (Nat.le_succ _)); have B5 := hid b5; clear hT oT b5)
          clear y0 RK
          go_wp2_with fail
          obtain ⟨kb, hkb⟩ : ∃ kb, kb = w5.heap.size := ⟨_, rfl⟩
          obtain ⟨nb, hnb⟩ : ∃ nb, nb = w5.heap.size + 1 := ⟨_, rfl⟩
          generalize hV : (w5.alloc (.cells #[.slice qk T.length ck] 45)).alloc (.cells #[.int .i64 0] 3) = V
          have bV : Below w5.heap.size w5 V := by rw [← hV]; exact bl3 (bal _ _) (bal _ _)
          have zV : V.heap.size = w5.heap.size + 2 := by rw [← hV, World.size_alloc, World.size_alloc]
          have kK : V.heap[kb]? = some (.cells #[.slice qk T.length ck] 45) := by rw [← hV, hkb]; exact ((bal _ _).block _ (by rw [World.size_alloc]; omega)).trans (heap_alloc_new _ _)
          have kN : V.heap[nb]? = some (.cells #[.int .i64 (0 : Nat)] 3) := by
            have := heap_alloc_new (w5.alloc (.cells #[.slice qk T.length ck] 45)) (.cells #[.int .i64 0] 3)
            rw [World.size_alloc] at this
            rw [← hV, hnb]
            exact this
          have HV := hid ((HW.out.below B5.out).below bV)
          have OV := hid (OT.out.below bV)
          have lz := HW.out.sz
          have l5 := B5.out.size
          have nums : nb < V.heap.size ∧ kb < nb ∧ w.heap.size < nb ∧ yb < nb ∧ w2.heap.size ≤ kb ∧ w.heap.size ≤ V.heap.size := by
            have h1 := lt_of_heap HW.out.y
            have h2 := lt_of_heap HW.out.rb
            omega
          rw [← hnb, ← hkb]
          clear hV hkb hnb bV zV OT lz l5 HW B5
          have hT := ST.out
          have rel := weach_rel 8 (by omega) HV.out.bx HV.out.nw (nb := nb) (fun e => by
            have h1 := HV.out.bx
            rw [← e, kN] at h1
            injection h1 with h1
            injection h1 with _ h1 _
            revert h1; decide) (fun e => by have := HV.out.fp _ e; omega) nums.1 hT
          have NBO := hid (fun g (hg : (Value.slice q nn cc).ownBlock = some g) (e : g = nb) => HV.out.ow.notat kN (by decide) (by rw [← e]; exact hg))
          have KLEN := hid (fun g (hg : (Value.slice q nn cc).ownBlock = some g) => HV.out.ow.lt hg)
          refine (wpIn_wide (n := 9)).1 ?_
          refine wpIn_range_rel2 rfl (by omega) (gf := 43) (lb := #[.pointer (some ⟨B, 0, none⟩)]) rfl trivial (enters_of Try.func43 (by kernel_rfl) rfl)
            rel (fun h k => h.trans k) (fun h => KpW.below h) (fun W l r r' _ hl => KpW.put hl) (KpW.refl _ _)
            (fun k x W hx => by obtain ⟨_, _, _, _, rfl, _⟩ := hx; rfl)
            (ESw w V nb (.slice q nn cc)) (fun _ _ _ => False)
            (fun k A B hA b => hA.below nums.1 nums.2.2.2.2.2 KLEN.out b)
            (fun k A l r r' hA hl hr => hA.put nums.1 nums.2.2.2.2.2 KLEN.out hl hr)
            (fun _ _ _ _ _ _ h _ _ => h)
            ⟨HV.out.bl, KpW.refl _ _, fun _ _ => rfl, kN⟩
            (fun i x a' W => ∃ (hi : i < T.length) (q' : Option Addr) (c' : Nat), x = #[.string T[i], .slice q' (qK L T[i]).length c'] ∧ OwnG KW W V.heap.size (.slice q' (qK L T[i]).length c') ((qK L T[i]).map fun x => x.w) ∧ a' = { tmps := #[.slice p1 k c1, .slice p2 j c2, undef, undef, .pointer (some ⟨w.heap.size, 0, none⟩), .pointer (some ⟨r, 0, none⟩), .pointer (some ⟨yb, 0, none⟩), .int .i64 (k : Nat), .func (.func 43) #[] #[.pointer (some ⟨B, 0, none⟩)], .int .i64 (j : Nat), .pointer (some ⟨kb, 0, none⟩), .pointer (some ⟨nb, 0, none⟩), x.getD 0 undef, x.getD 1 undef, .pointer (some ⟨r, 0, none⟩), .pointer (some ⟨r, 0, none⟩), .bool false, .agg #[.slice none 0 0], .int .i64 (k : Nat), .slice p1 k c1, .int .i64 (k : Nat), .bool false, u22, u23, u24, u25, u26, u27, u28, u29, u30, u31, u32, u33, u34, u35, u36, u37, u38, u39, u40, u41, u42, u43, u44, u45, u46, u47, u48, u49, u50, u51, u52, u53, u54, u55, u56, u57, u58, u59, u60, u61, u62, u63, u64, u65, u66, .pointer (some ⟨r, 0, none⟩), .func (.func 43) #[] #[.pointer (some ⟨B, 0, none⟩)], .func (.func 43) #[] #[.pointer (some ⟨B, 0, none⟩)], .bool false, .int .i64 (j : Nat), .slice p2 j c2, .int .i64 (j : Nat), .bool false, u75, u76, u77, u78, u79, u80, u81, u82, u83, u84, u85, u86, u87, u88, u89, u90, u91, u92, u93, u94, u95, u96, u97, u98, u99, u100, u101, u102, u103, u104, u105, u106, u107, u108, u109, u110, .agg #[.slice q nn cc], .slice qk T.length ck, .func (.func 43) #[] #[.pointer (some ⟨B, 0, none⟩)], x.getD 0 undef, x.getD 1 undef, undef, undef, undef, undef, undef, undef, undef, undef, undef, undef, undef, undef, undef, undef, undef, undef, undef, undef, undef, undef, undef, undef, undef, undef, undef, undef, undef, undef], defers := [] })
            (fun i x a' A l r r' h hl ho => by
              obtain ⟨hi, q', c', e1, e2, e3⟩ := h
              refine ⟨hi, q', c', e1, e2.far fun g hg => World.putObj_heap_other fun e => ?_, e3⟩
              obtain ⟨cur, hc⟩ := e2.ty hg
              rw [e, ho] at hc
              cases hc)
            ?assign ?body ?done ?stop
          case stop =>
            rintro D c i W1 _ h _
            exact h.elim
          case assign =>
            rintro l2 i x W1 K hI ⟨hi, q', c', b', rfl, ow, hb⟩ hK
            have KK := hid (fun a' (ha : a' = _) => hK a' W1 (Below.refl _ _) ⟨hi, q', c', rfl, ow.low hb, ha⟩)
            clear hK ow
            gi_wp2_with fail
            exact KK.out _ rfl
          case done =>
            intro D W1 hD hI hk
            obtain ⟨t1, t2, t3, t4, t5, t6⟩ := nums
            have c0 : W1.cell? ⟨kb, 0, none⟩ = some (.slice qk T.length ck) := cell_of_row _ _ _ _ _ _ (hI.kp.kp kb _ kK (fun e => by omega) (fun r e => by cases e) (fun arr fr e => by injection e with _ e2 _; revert e2; decide))
            have e1 := hI.kp.kp w.heap.size _ HV.out.rb (fun e => by omega) (fun r e => by cases e) (fun arr fr e => by injection e with _ e2 _; revert e2; decide)
            have c1 : W1.cell? ⟨w.heap.size, 0, none⟩ = some (.bool false) := cell_of_row _ _ _ _ _ _ e1
            have f1 : W1.frozen? ⟨w.heap.size, 0, none⟩ = false := by simp [World.frozen?, e1]
            have c3 : W1.cell? ⟨nb, 0, none⟩ = some (.int .i64 (T.length : Nat)) := cell_of_row _ _ _ _ _ _ hI.ct
            have BL := hid hI.bl
            have hD2 : w.heap.size < D := by omega
            clear hI kK kN HV OV e1 rel
            go_wp2_with fail
            have hD9 : (W1.setCell ⟨w.heap.size, 0, none⟩ (.bool true)).heap[D]? = some (.deferred (some [])) := (Below.heap_setCell _ _ _ _ (by show D ≠ w.heap.size; omega)).trans hk
            have r1 : (W1.setCell ⟨w.heap.size, 0, none⟩ (.bool true)).cell? ⟨w.heap.size, 0, none⟩ = some (.bool true) := by simp [go_sem, c1]
            refine ⟨by simp, .inl ⟨_, _, rfl, run_takeDeferred hD9, ?_⟩⟩
            have r2 : ((W1.setCell ⟨w.heap.size, 0, none⟩ (.bool true)).putObj D (.deferred none)).cell? ⟨w.heap.size, 0, none⟩ = some (.bool true) := (World.cell?_of_block (World.putObj_heap_other (by show w.heap.size ≠ D; omega))).trans r1
            refine ⟨.bool true, by simp [results, Try.results4, go_sem, r2], rfl, ?_⟩
            have b2 : Below w.heap.size w (W1.setCell ⟨w.heap.size, 0, none⟩ (.bool true)) := BL.out.setCell (p := ⟨w.heap.size, 0, none⟩) (Nat.le_refl _) _
            exact ⟨b2.os, b2.tape, b2.output, Nat.le_trans b2.size (by simp), fun x hx => (World.putObj_heap_other (by omega)).trans (b2.block x hx)⟩
          case body =>
            rintro l2 i x a' W2 hl2 hr hI ⟨hi, q', c', rfl, ow, rfl⟩ hk
            obtain ⟨t1, t2, t3, t4, t5, t6⟩ := nums
            have OS2 := hI.kp.own OV.out (by decide) (OV.out.notat kN (by decide))
            obtain ⟨X, o, e1, x0⟩ := GS.atS (OS2.gs KS_ok.len) hi
            obtain rfl : qk = some ⟨X, o, none⟩ := e1
            have cn : W2.cell? ⟨nb, 0, none⟩ = some (.int .i64 (i : Nat)) := cell_of_row _ _ _ _ _ _ hI.ct
            have ck2 : W2.cell? ⟨kb, 0, none⟩ = some (.slice (some ⟨X, o, none⟩) T.length ck) := cell_of_row _ _ _ _ _ _ (hI.kp.kp kb _ kK (fun e => by omega) (fun r e => by cases e) (fun arr fr e => by injection e with _ e2 _; revert e2; decide))
            have cy : W2.cell? ⟨yb, 0, none⟩ = some (.slice q nn cc) := cell_of_row _ _ _ _ _ _ (hI.kp.kp yb _ HV.out.y (fun e => by omega) (fun r e => by cases e) (fun arr fr e => by injection e with _ e2 _; revert e2; decide))
            have hii : (i : Int) < (T.length : Nat) := by omega
            have hi3 : ¬ (T.length : Int) ≤ (i : Nat) := by omega
            have hi4 : i ≤ 1000000 := by
              have h1 := TL.out
              rw [List.length_map] at h1
              have := LL.out
              omega
            have oD : OwnG KW W2 w.heap.size (.slice q nn cc) (wL L) := HV.out.ow.far hI.ow
            have RQ2 := hid (rqueue_any (.slice q nn cc) (wL L) T[i] W2 (oD.gs KW_ok.len) (by have := LL.out; omega))
            rw [← wL_queue] at RQ2
            unfold wL at RQ2
            simp only [List.length_map] at RQ2
            have hne : qK L T[i] ≠ [] := by
              have h1 := (hT.mem T[i]).1 (List.getElem_mem hi)
              intro e
              rw [e] at h1
              simp at h1
            obtain ⟨g, rfl⟩ : ∃ g, q' = some ⟨g, 0, none⟩ := by
              rcases ow.2 with ⟨_, e3⟩ | ⟨g, cap, cur, e3, _⟩
              · exact absurd (List.length_eq_zero_iff.1 (by simpa using e3)) hne
              · injection e3 with e3 e5 e6
                exact ⟨g, e3⟩
            have OW := hid ow
            have HI := hid hI
            have hl128 : (qK L T[i]).length ≤ 100000000 := by have := qK_len L T[i]; have := LL.out; unfold wL at this; rw [List.length_map] at this; omega
            clear ow hI OS2 oD kK HV OV rel kN
            gi_wp2_with fail
            refine ⟨trivial, (CallsIn.inRound l2 (callsIn_wide.2 RQ2.out)).mono ?_⟩
            rintro e w6 ⟨pq, cq, rfl, oq, b6⟩
            have WS := hid (waiters_same w6 (.slice (some ⟨g, 0, none⟩) (qK L T[i]).length c') (.slice pq (qK L T[i]).length cq) ((qK L T[i]).map fun x => x.w) ((OW.out.below b6).gs KW_ok.len) (oq.gs KW_ok.len) (by rw [List.length_map]; omega))
            have B6 := hid b6
            clear RQ2 oq b6 cn ck2 cy x0
            gi_wp2_with fail
            refine ⟨trivial, (CallsIn.inRound l2 (callsIn_wide.2 WS.out)).mono ?_⟩
            rintro e w7 ⟨rfl, nd, e7⟩
            have B7 : Hid (Below W2.heap.size W2 w7) := by rw [e7]; exact bl3 B6.out (drew_below w6 nd)
            have OW7 := hid (OW.out.below B7.out)
            have SP := hid (spoil_own g _ c' _ w7 V.heap.size OW7.out)
            clear e7 WS B6
            gi_wp2_with fail
            refine ⟨trivial, (CallsIn.inRound l2 (callsIn_wide.2 SP.out)).mono ?_⟩
            rintro e w8 ⟨rfl, b8⟩
            have hgV := (OW7.out.lt (g := g) rfl).1
            have ct7 := (B7.out.block nb (lt_of_heap HI.out.ct)).trans HI.out.ct
            have ct8 : w8.heap[nb]? = some (.cells #[.int .i64 (i : Nat)] 3) := (b8.block nb (lt_of_heap ct7) (by show ¬ nb = g; omega)).trans ct7
            have c8 : w8.cell? ⟨nb, 0, none⟩ = some (.int .i64 (i : Nat)) := cell_of_row _ _ _ _ _ _ ct8
            have f8 : w8.frozen? ⟨nb, 0, none⟩ = false := by simp [World.frozen?, ct8]
            have CT8 := hid ct8
            have S8 := hid b8
            clear b8 ct7 ct8 SP
            gi_wp2_with fail
            have FAR : ∀ u, ∀ y, y ≠ nb → y < W2.heap.size → y ≠ g → (w8.setCell ⟨nb, 0, none⟩ u).heap[y]? = W2.heap[y]? := fun u y h1 h2 h3 => (Below.heap_setCell _ _ _ _ h1).trans ((S8.out.block y (Nat.lt_of_lt_of_le h2 B7.out.size) h3).trans (B7.out.block y h2))
            have sz2 : ∀ u, W2.heap.size ≤ (w8.setCell ⟨nb, 0, none⟩ u).heap.size := fun u => by simp [World.setCell]; exact Nat.le_trans B7.out.size S8.out.size
            have gT : ∃ cur, W2.heap[g]? = some (.cells cur 30) := OW.out.ty rfl
            obtain ⟨cur, hcur⟩ := gT
            have hs2 := HI.out.kp.sz
            refine ⟨⟨sz2 _, fun y ob _ hy ho => ?_⟩, ⟨sz2 _, fun y ob hy n1 n2 n3 => ?_⟩, ⟨?_, HI.out.kp.trans ⟨sz2 _, fun y ob hy n1 n2 n3 => ?_⟩, fun y hy => ?_, ?_⟩⟩
            · refine (FAR _ y (fun e => ?_) (lt_of_heap hy) (fun e => ?_)).trans hy
              · rw [e, HI.out.ct] at hy
                injection hy with hy
                subst hy
                cases ho
              · rw [e, hcur] at hy
                injection hy with hy
                subst hy
                cases ho
            · exact (FAR _ y n1 (lt_of_heap hy) (fun e => by rw [e, hcur] at hy; injection hy with hy; exact n3 _ _ hy.symm)).trans hy
            · have b2 : Below w.heap.size w w8 := ⟨S8.out.os.trans (HI.out.bl.trans (B7.out.mono (by omega))).os, S8.out.tape.trans (HI.out.bl.trans (B7.out.mono (by omega))).tape, S8.out.output.trans (HI.out.bl.trans (B7.out.mono (by omega))).output, Nat.le_trans (HI.out.bl.trans (B7.out.mono (by omega))).size S8.out.size, fun x hx => (S8.out.block x (by have := B7.out.size; omega) (by show ¬ x = g; omega)).trans ((HI.out.bl.trans (B7.out.mono (by omega))).block x hx)⟩
              exact b2.setCell (p := ⟨nb, 0, none⟩) (by show w.heap.size ≤ nb; omega) _
            · exact (FAR _ y n1 (lt_of_heap hy) (fun e => by rw [e, hcur] at hy; injection hy with hy; exact n3 _ _ hy.symm)).trans hy
            · have h9 := (KLEN.out y hy).2
              refine (FAR _ y (fun e => ?_) (by omega) (by omega)).trans (HI.out.ow y hy)
              exact NBO.out y hy e
            · exact heap_setCell_same w8 nb 0 _ _ _ CT8.out
end Go.Proofs.Ytofdfofpdfaimaa
