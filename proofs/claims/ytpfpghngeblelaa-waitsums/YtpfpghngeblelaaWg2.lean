/- Waiting: the law WaitSums. -/
import Derived.Test.YtpfpghngeblelaaWg1
namespace Go.Proofs.Ytpfpghngeblelaa
open Go.RowKit Go.Maps

set_option maxHeartbeats 16000000 in
set_option maxRecDepth 100000 in
theorem waitSums_any (v : Value) (l : List Ac) (key : ByteArray) (w : World) (h : GS KA w v l) (hok : ∀ a ∈ l, acOk a) (hl : l.length ≤ 1000000000000000) (hk : key.size ≤ maxLen) : Calls Try.prog 6 #[v, .string key] w fun e w' => e = .returned (.bool true) ∧ Below w.heap.size w w' := by
  have WK := hid (works_any w)
  have FI := hid (fun w1 (hb : Below w.heap.size w w1) => filled_any v l w1 (h.below hb) hok hl)
  obtain ⟨p, cap, rfl⟩ := h.form
  obtain ⟨L, hL⟩ : ∃ L, L = (fillS l).1 := ⟨_, rfl⟩
  obtain ⟨c, hc⟩ : ∃ c, c = (fillS l).2 := ⟨_, rfl⟩
  rw [← hL, ← hc] at FI
  clear h hok hL hc
  have KX := hid hk
  go_enter Try.func6, Try.ntmps6
  go_wp2_with fail
  refine Calls.mono WK.out ?_
  rintro e w1 ⟨rfl, hb1⟩
  have B1 := hid hb1
  clear hb1 WK
  go_wp2_with fail
  refine Calls.mono (FI.out _ B1.out) ?_
  rintro e w2 ⟨p2, c2, rfl, hf2⟩
  have F2 := hid hf2
  have B2 := hid (bl3 B1.out hf2.bl)
  clear hf2 FI
  obtain ⟨r, hr⟩ : ∃ r, r = w1.heap.size + 1 := ⟨_, rfl⟩
  rw [← hr]
  rw [← hr] at F2
  clear hr
  obtain ⟨f, hf⟩ := F2.out.rx
  have X2 := hid hf
  have LL : Hid (L.length ≤ 128) := hf.ri.len
  have KY := hid (keys_any w2 w1.heap.size r w1.heap.size L c f hf)
  clear hf F2
  obtain ⟨n, hn⟩ : ∃ n, n = L.length := ⟨_, rfl⟩
  have HN := hid hn
  rw [← hn]
  rw [← hn] at LL
  have hn2 : n ≤ 128 := LL.out
  clear hn
  go_wp2_with fail
  refine Calls.mono KY.out ?_
  rintro e w3 ⟨p3, c3, T, rfl, ho3, hs3, hb3⟩
  have X3 := hid (X2.out.below hb3)
  have O3 := hid ho3
  have S3 := hid hs3
  have B3 := hid (bl3 B2.out hb3)
  have Z2 : Hid (w.heap.size ≤ w2.heap.size) := B2.out.size
  clear ho3 hs3 hb3 KY X2 B2
  have TL := srt_len X3.out.ri S3.out
  have hTK := hid (fun k (hk : k < T.length) => srt_key X3.out.ri S3.out hk)
  obtain ⟨t, ht⟩ : ∃ t, t = T.length := ⟨_, rfl⟩
  have HT := hid ht
  rw [← ht] at O3
  rw [← ht] at TL
  rw [← ht]
  clear ht
  have F0 : Hid (∃ bs, BF w3 (w3.alloc (.cells #[] 25)) L T 0 (.slice (some ⟨w3.heap.size, 0, none⟩) 0 0) bs) := ⟨[], bal _ _, OwnG.empty KL w3, rfl, fun j h1 => by simp at h1⟩
  have Z0 : Hid (cN L T 0 = 0) := cN_zero L T
  go_wp2_with fail
  go_loopw [7, 9, 10] (fun v7 v9 v10 wr => ∃ (k : Nat) (vb : Value) (wk : World), v7 = .int .i64 (cN L T k) ∧ v10 = .int .i64 k ∧ vb = v9 ∧ wk = wr ∧ k ≤ t ∧ Hid (∃ bs, BF w3 wk L T k vb bs)) (fun _ _ v10 _ => t - (intOf v10).toNat)
  case atStart => exact ⟨0, _, _, by rw [Z0.out]; rfl, rfl, rfl, rfl, Nat.zero_le _, F0⟩
  case round =>
    obtain ⟨k, vb, wr, rfl, rfl, rfl, rfl, hkt, HB⟩ := hrel
    clear F0 Z0
    by_cases hlt : k < t
    · have hkT : k < T.length := by rw [← HT.out]; exact hlt
      obtain ⟨bs, hbs⟩ := HB.out
      have HF := hid hbs
      clear HB hbs
      obtain ⟨X, o, e1, x0⟩ := ((O3.out.gs KS_ok.len).below HF.out.bl).atS hkT
      obtain rfl : p3 = some ⟨X, o, none⟩ := e1
      have zx : X < wr.heap.size := ((O3.out.gs KS_ok.len).below HF.out.bl).ltX hkT
      have KC2 : Hid (∀ wk, Below w3.heap.size w3 wk → wk.cell? ⟨X, o + k, none⟩ = some (.string T[k])) := fun wk hb => by
        obtain ⟨X', o', e1, x0⟩ := ((O3.out.gs KS_ok.len).below hb).atS hkT
        injection e1 with e1
        injection e1 with a1 a2 _
        subst a1 a2
        exact x0
      have QU := hid (queue_any T[k] wr w1.heap.size r w1.heap.size L c f (X3.out.below HF.out.bl) (hTK.out k hkT))
      have CNX := hid (cN_next L S3.out hkT)
      have CB1 : cN L T (k + 1) ≤ 128 := by have := cN_le L T (k + 1); have := HN.out; omega
      have CB0 : cN L T k ≤ 128 := by have := cN_le L T k; have := HN.out; omega
      have BL : Hid ((bs.length + 1) * KL.B ≤ 140737488355328) := by
        have := HF.out.ln
        show (bs.length + 1) * 24 ≤ _
        omega
      have PU : Hid (∀ {w4 w5 : World} {s : Sl} {g n c : Nat}, BF w3 w4 L T k vb bs → OwnG KW w4 w3.heap.size (.slice s.p s.n s.c) ((qK L T[k]).map fun x => x.w) → OwnG KL w5 w3.heap.size (.slice (some ⟨g, 0, none⟩) n c) (bs ++ [s]) → Below w3.heap.size w4 w5 → (∀ k, k < w4.heap.size → some k ≠ vb.ownBlock → w5.heap[k]? = w4.heap[k]?) → BF w3 w5 L T (k + 1) (.slice (some ⟨g, 0, none⟩) n c) (bs ++ [s])) := fun h1 h2 h3 h4 h5 => h1.push hkT h2 h3 h4 h5
      have FQ : Hid (∀ wk pq nn cq j, GS KW wk (.slice pq nn cq) ((qK L T[k]).map fun x => x.w) → j < (qK L T[k]).length → Below w3.heap.size w3 wk → ∃ X oo, ∃ y : Wt, pq = some ⟨X, oo, none⟩ ∧ X < wk.heap.size ∧ y.key = T[k] ∧ (wk.cell? ⟨X, oo + j * 4, none⟩ = some (.int .i64 y.task) ∧ wk.cell? ⟨X, oo + j * 4 + 1, none⟩ = some (.int .i64 y.kind) ∧ wk.cell? ⟨X, oo + j * 4 + 2, none⟩ = some (.string y.key) ∧ wk.cell? ⟨X, oo + j * 4 + 3, none⟩ = some (.string y.tok)) ∧
        Calls Try.prog 25 #[.pointer (some ⟨r, 0, none⟩), .int .i64 y.task] wk fun e w' => e = .returned (.tuple #[.agg #[.int .i64 y.task, .int .i64 y.kind, .string y.key, .string y.tok], .int .i64 j, .int .i64 0]) ∧ Below wk.heap.size wk w') := fun wk pq nn cq j o hj hb => find_row (X3.out.below hb) o hj
      generalize T[k] = ky at *
      obtain ⟨Q, hQ⟩ : ∃ Q, Q = qK L ky := ⟨_, rfl⟩
      rw [← hQ] at QU
      rw [← hQ] at CNX
      rw [← hQ] at PU
      rw [← hQ] at FQ
      have HQ := hid hQ
      clear hQ
      obtain ⟨nq, hnq⟩ : ∃ nq, nq = Q.length := ⟨_, rfl⟩
      have NQ := hid hnq
      rw [← hnq] at QU
      rw [← hnq] at CNX
      clear hnq
      have hnq2 : nq ≤ 128 := by have := CNX.out; omega
      have CN2 : Hid ((cN L T k : Int) + nq = cN L T (k + 1)) := by have := CNX.out; show _ = _; omega
      go_wp2_with fail
      refine Calls.mono QU.out ?_
      rintro e w4 ⟨p4, c4, rfl, ho4, hb4⟩
      have F4 := hid (HF.out.below hb4)
      have O4 := hid (ho4.low HF.out.bl.size)
      have Z4 : Hid (w3.heap.size ≤ w4.heap.size) := F4.out.bl.size
      clear ho4 hb4 QU
      go_wp2_with (at_builtin; refine append_g KL KL_ok rfl (.tmp 39) (.tmp 41) 61 rfl w3.heap.size Try.underlying61 _ _ _ vb bs ⟨p4, nq, c4⟩ _ rfl F4.out.ow _ rfl rfl rfl BL.out Z4.out ?_; intro g5 c5 w5 ho5 hb5 hk5 hg5)
      have F5 := hid (PU.out (s := ⟨p4, nq, c4⟩) F4.out O4.out ho5 hb5 hk5)
      have O5 : Hid (OwnG KW w5 w3.heap.size (.slice p4 nq c4) (Q.map fun x => x.w)) := O4.out.far (fun x hx => hk5 x (O4.out.lt hx).2 (fun e => F4.out.ow.apart O4.out (by decide) hx e.symm))
      have B5 := hid F5.out.bl
      rw [NQ.out.symm] at FQ
      clear ho5 hb5 hk5 hg5 F4 O4 PU x0
      go_wp2_with fail
      go_loopw [12] (fun v12 wr2 => ∃ (j : Nat) (wk : World), v12 = .int .i64 j ∧ wk = wr2 ∧ j ≤ nq ∧ Hid (Below w5.heap.size w5 wk)) (fun v12 _ => nq - (intOf v12).toNat)
      case atStart => exact ⟨0, _, rfl, rfl, Nat.zero_le _, Below.refl _ _⟩
      case round =>
        obtain ⟨j, wr2, rfl, rfl, hj, HW⟩ := hrel
        by_cases hlt2 : j < nq
        · obtain ⟨X2, o2, y, e1, zx2, hyk, ⟨y0, y1, y2, y3⟩, hfd⟩ := FQ.out wr2 _ _ _ j ((O5.out.gs KW_ok.len).below HW.out) hlt2 (B5.out.trans (HW.out.mono B5.out.size))
          obtain rfl := e1
          have FD := hid hfd
          have HYK := hid hyk
          clear hfd hyk
          go_upto_region 17 with (go_at_call 25; refine FD.out.mono ?_; rintro e w6 ⟨rfl, hb6⟩; have B6 := hid hb6; clear hb6)
          obtain ⟨ob, hob⟩ : ∃ ob, ob = Obj.cells #[.int .i64 y.task, .int .i64 y.kind, .string y.key, .string y.tok] 30 := ⟨_, rfl⟩
          rw [← hob]
          have B7 : Hid (Below wr2.heap.size wr2 (w6.alloc ob)) := bl3 B6.out (bal _ _)
          have H7 : Hid ((w6.alloc ob).heap[w6.heap.size]? = some (.cells #[.int .i64 y.task, .int .i64 y.kind, .string y.key, .string y.tok] 30)) := (heap_alloc_new w6 ob).trans (congrArg some hob)
          generalize w6.alloc ob = w7 at *
          generalize w6.heap.size = Y at *
          obtain ⟨t0, t1, t2, t3, _⟩ := cells4 H7.out
          have z0 : w7.cell? ⟨X2, o2 + j * 4, none⟩ = some (.int .i64 y.task) := (B7.out.cell (p := ⟨X2, _, none⟩) zx2).trans y0
          have z1 : w7.cell? ⟨X2, o2 + j * 4 + 1, none⟩ = some (.int .i64 y.kind) := (B7.out.cell (p := ⟨X2, _, none⟩) zx2).trans y1
          have z2 : w7.cell? ⟨X2, o2 + j * 4 + 2, none⟩ = some (.string y.key) := (B7.out.cell (p := ⟨X2, _, none⟩) zx2).trans y2
          have z3 : w7.cell? ⟨X2, o2 + j * 4 + 3, none⟩ = some (.string y.tok) := (B7.out.cell (p := ⟨X2, _, none⟩) zx2).trans y3
          have BK : Hid (Below w5.heap.size w5 w7) := bl3 HW.out B7.out
          have z4 : w7.cell? ⟨X, o + k, none⟩ = some (.string y.key) := by rw [HYK.out]; exact KC2.out _ (B5.out.trans (BK.out.mono B5.out.size))
          have hj0 : (0 : Int) ≤ (j : Int) := by omega
          have hj1 : (j : Int) < (nq : Int) := by omega
          have hk0 : (0 : Int) ≤ (k : Int) := by omega
          have hk9 : (k : Int) < (t : Int) := by omega
          clear hob y0 y1 y2 y3 FD B6 B7 HW
          go_quiet (fail)
          go_wp2_with fail
          go_roundw
          case rel => exact ⟨j + 1, _, by go_num, rfl, by omega, bl3 BK.out (drew_below _ _)⟩
          case measure => simp [intOf]; omega
        · obtain rfl : j = nq := by omega
          have F6 : Hid (∃ bs', BF w3 wr2 L T (k + 1) (.slice (some ⟨g5, 0, none⟩) (bs.length + 1) c5) bs') := ⟨_, F5.out.below HW.out⟩
          go_wp2_with fail
          go_roundw
          case rel => exact ⟨k + 1, _, _, by first | (rw [CN2.out]) | go_num, by go_num, rfl, rfl, by omega, F6⟩
          case measure => simp [intOf]; omega
    · obtain rfl : k = t := by omega
      obtain ⟨bs, hbs⟩ := HB.out
      have SU : Hid (cN L T k = n) := by
        have h1 := cN_all S3.out
        rw [← HT.out, ← HN.out] at h1
        exact h1
      have LE := hid (len_any wr w1.heap.size r w1.heap.size L c f (X3.out.below hbs.bl))
      rw [← HN.out] at LE
      have HF := hid hbs
      clear HB hbs
      obtain ⟨pb, cb, hvb, _⟩ := HF.out.ow.form
      rw [HF.out.ln] at hvb
      subst hvb
      rw [SU.out]
      go_wp2_with fail
      refine Calls.mono LE.out ?_
      rintro e w4 ⟨rfl, hb4⟩
      have F4 := hid (HF.out.below hb4)
      have WA := hid (wake_any key w4 w1.heap.size r w1.heap.size L c f (X3.out.below F4.out.bl) KX.out)
      clear hb4 LE HF
      go_wp2_with fail
      refine Calls.mono WA.out ?_
      rintro e w5 ⟨p5, c5, rfl, _, hr5⟩
      have S5 : Hid (SW w w3 w5 w1.heap.size r w1.heap.size L key c T (.slice p3 k c3) (.slice pb k cb) bs) := by
        have q := (X3.out.below F4.out.bl).rq hr5
        obtain ⟨h1, h2⟩ := F4.out.kp q.kp
        exact ⟨q.rx, (O3.out.below F4.out.bl).kp q.kp (by decide) (by decide) |>.low Z2.out, h1, h2, (B3.out.trans (F4.out.bl.mono B3.out.size)).trans (q.bl.mono B1.out.size)⟩
      clear hr5 WA
      have BLN := hid F4.out.ln
      clear F4
      go_wp2_with fail
      go_loopw [16] (fun v16 wr2 => ∃ (j : Nat) (wk : World), v16 = .int .i64 j ∧ wk = wr2 ∧ j ≤ k ∧ Hid (SW w w3 wk w1.heap.size r w1.heap.size L key c T (.slice p3 k c3) (.slice pb k cb) bs)) (fun v16 _ => k - (intOf v16).toNat)
      case atStart => exact ⟨0, _, rfl, rfl, Nat.zero_le _, S5⟩
      case round =>
        obtain ⟨j, wr2, rfl, rfl, hj, HS⟩ := hrel
        clear S5
        by_cases hlt2 : j < k
        · have hjT : j < T.length := by rw [← HT.out]; exact hlt2
          have hjB : j < bs.length := by rw [BLN.out]; exact hlt2
          obtain ⟨X, o, e1, x0⟩ := (HS.out.ot.gs KS_ok.len).atS hjT
          obtain rfl := e1
          obtain ⟨X2, o2, e2, x2⟩ := (HS.out.ow.gs KL_ok.len).atL hjB
          obtain rfl := e2
          have zx := (HS.out.ot.gs KS_ok.len).ltX hjT
          have zx2 := (HS.out.ow.gs KL_ok.len).ltX hjB
          have EQ := hid (eq_list T[j] key)
          have hj0 : (0 : Int) ≤ (j : Int) := by omega
          have hj1 : (j : Int) < (k : Int) := by omega
          by_cases he : T[j] = key
          · have e3 : (T[j].toList == key.toList) = true := by rw [EQ.out, decide_eq_true he]
            have e4 : (T[j].toList != key.toList) = false := by simp [bne, e3]
            generalize T[j] = ky at *
            clear he EQ
            go_wp2_with fail
            go_quiet (fail)
            go_wp2_with fail
            exact ⟨⟨j + 1, _, by go_num, rfl, by omega, HS.out.below (drew_below _ _)⟩, by simp [intOf]; omega⟩
          · have e3 : (T[j].toList == key.toList) = false := by rw [EQ.out, decide_eq_false he]
            have e4 : (T[j].toList != key.toList) = true := by simp [bne, e3]
            have SQ := hid (fun wk (h : SW w w3 wk w1.heap.size r w1.heap.size L key c T (.slice (some ⟨X, o, none⟩) k c3) (.slice (some ⟨X2, o2, none⟩) k cb) bs) => h.same X3.out.ri hjB hjT he (hTK.out j hjT))
            have SD : Hid (SW w w3 wr2.drew w1.heap.size r w1.heap.size L key c T (.slice (some ⟨X, o, none⟩) k c3) (.slice (some ⟨X2, o2, none⟩) k cb) bs) := HS.out.below (drew_below wr2 1)
            have C1 : Hid (∀ wk, SW w w3 wk w1.heap.size r w1.heap.size L key c T (.slice (some ⟨X, o, none⟩) k c3) (.slice (some ⟨X2, o2, none⟩) k cb) bs → wk.cell? ⟨X, o + j, none⟩ = some (.string T[j]) ∧ wk.cell? ⟨X2, o2 + j, none⟩ = some (.slice bs[j].p bs[j].n bs[j].c)) := fun wk h => by
              obtain ⟨X', o', e1, y0⟩ := (h.ot.gs KS_ok.len).atS hjT
              injection e1 with e1
              injection e1 with a1 a2 _
              subst a1 a2
              obtain ⟨X2', o2', e2, y2⟩ := (h.ow.gs KL_ok.len).atL hjB
              injection e2 with e2
              injection e2 with b1 b2 _
              subst b1 b2
              exact ⟨y0, y2⟩
            generalize T[j] = ky at *
            generalize bs[j] = sj at *
            obtain ⟨sp, sn, sc⟩ := sj
            simp only at *
            clear he EQ hjB hjT
            go_wp2_with fail
            go_region_held3 (fun w' => w'.cell? ⟨X, o + j, none⟩ = some (.string ky) ∧ w'.cell? ⟨X2, o2 + j, none⟩ = some (.slice sp sn sc)) (go_keep)
              (first | (go_at_call 22; refine (SQ.out _ SD.out).mono ?_; rintro e wa ⟨pa, na, ca, rfl, hsa, hca⟩; have SA := hid hsa; have CA1 := hid hca; obtain ⟨u0, u1⟩ := C1.out _ hsa; clear hsa hca SQ) | (go_at_call 17; refine CA1.out.mono ?_; rintro e wb ⟨rfl, hsb⟩; have SB := hid hsb; obtain ⟨v0, v1⟩ := C1.out _ hsb; clear hsb CA1))
            go_wp2_with fail
            first
            | exact ⟨⟨j + 1, _, by go_num, rfl, by omega, SB.out⟩, by simp [intOf]; omega⟩
            | (go_roundw
               case rel => exact ⟨j + 1, _, by go_num, rfl, by omega, SB⟩
               case measure => simp [intOf]; omega)
        · obtain rfl : j = k := by omega
          go_wp2_with fail
          go_ret
          exact ⟨rfl, HS.out.bl⟩
end Go.Proofs.Ytpfpghngeblelaa
