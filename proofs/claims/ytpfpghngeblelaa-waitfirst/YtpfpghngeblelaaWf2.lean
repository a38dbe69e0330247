/- Waiting: the law WaitFirst. -/
import Derived.Test.YtpfpghngeblelaaWf1
namespace Go.Proofs.Ytpfpghngeblelaa
open Go.RowKit Go.Maps

theorem pc_first {w wk : World} {b2 r2 m2 b3 : Nat} {L : List Wc} {c : Nat} {vw : Value} {W : List Wt} {key : ByteArray} (hk : key.size ≤ maxLen) (h : PY w wk b2 r2 m2 b3 L c vw W) {x : Wc} {rest : List Wc} (hq : qK L key = x :: rest) :
    Calls Try.prog 24 #[.pointer (some ⟨r2, 0, none⟩), .string key, .int .i64 1] wk fun e wa => ∃ g ca, e = .returned (.tuple #[.slice (some ⟨g, 0, none⟩) 1 ca, .int .i64 0]) ∧ (wa.cell? ⟨g, 0, none⟩ = some (.int .i64 x.w.task) ∧ wa.cell? ⟨g, 1, none⟩ = some (.int .i64 x.w.kind) ∧ wa.cell? ⟨g, 2, none⟩ = some (.string x.w.key) ∧ wa.cell? ⟨g, 3, none⟩ = some (.string x.w.tok)) ∧ ∃ L', PY w wa b2 r2 m2 b3 L' c vw W ∧ qK L' key = rest ∧ (∀ y ∈ L', y.w.task ≠ x.w.task) ∧ (0 ≤ x.w.task ∧ x.w.task < 128) := by
  obtain ⟨f, hf⟩ := h.y
  refine (first_ok key 1 (by decide) wk b2 r2 m2 L c f hf hk).mono ?_
  rintro e wa ⟨p, cc, rfl, oa, ra⟩
  have q1 := hf.rq ra
  have ht : (qK L key).take (1 : Int).toNat = [x] := by rw [hq]; rfl
  have hd := out_take hf.ri key 1
  rw [ht] at oa q1 hd
  rw [ht]
  rw [hq] at hd
  have hx : x ∈ L := (qK_mem.1 (by rw [hq]; simp : x ∈ qK L key)).1
  obtain ⟨X, o, e1, x0, x1, x2, x3⟩ := (oa.gs KW_ok.len).atW (k := 0) (by simp)
  rcases oa.2 with ⟨e3, _⟩ | ⟨g, cap, cur, e3, _⟩
  · injection e3 with e3 _ _
    rw [e1] at e3; cases e3
  · injection e3 with e3 _ _
    subst e3
    injection e1 with e1
    injection e1 with a1 a2 _
    subst a1 a2
    exact ⟨g, cc, rfl, ⟨x0, x1, x2, x3⟩, _, ⟨q1.rx, h.ow.kp q1.kp (by decide) (by decide), h.bl.trans (q1.bl.mono h.g2), h.g2⟩, hd, out_gone L [x] (by simp), (hf.ri.ok x hx).1⟩
theorem pc_last {w wk : World} {b2 r2 m2 b3 : Nat} {L : List Wc} {c : Nat} {vw : Value} {W : List Wt} {key : ByteArray} (hk : key.size ≤ maxLen) (h : PY w wk b2 r2 m2 b3 L c vw W) (hq : qK L key = []) :
    Calls Try.prog 24 #[.pointer (some ⟨r2, 0, none⟩), .string key, .int .i64 1] wk fun e wa => ∃ p ca, e = .returned (.tuple #[.slice p 0 ca, .int .i64 0]) ∧ Below w.heap.size w wa := by
  obtain ⟨f, hf⟩ := h.y
  refine (first_ok key 1 (by decide) wk b2 r2 m2 L c f hf hk).mono ?_
  rintro e wa ⟨p, cc, rfl, oa, ra⟩
  have q1 := hf.rq ra
  refine ⟨p, cc, ?_, h.bl.trans (q1.bl.mono h.g2)⟩
  rw [hq]; rfl
theorem pc_find {w wk : World} {b2 r2 m2 b3 : Nat} {L : List Wc} {c : Nat} {vw : Value} {W : List Wt} (h : PY w wk b2 r2 m2 b3 L c vw W) {t : Int} (ht : 0 ≤ t ∧ t < 128) (hn : ∀ y ∈ L, y.w.task ≠ t) :
    Calls Try.prog 25 #[.pointer (some ⟨r2, 0, none⟩), .int .i64 t] wk fun e wa => ∃ x : Wt, ∃ p, e = .returned (.tuple #[.agg #[.int .i64 x.task, .int .i64 x.kind, .string x.key, .string x.tok], .int .i64 p, .int .i64 4]) ∧ PY w wa b2 r2 m2 b3 L c vw W := by
  obtain ⟨f, hf⟩ := h.y
  refine (find_any t wk b2 r2 m2 L c f hf).mono ?_
  rintro e wa ⟨rfl, ba⟩
  have e3 := (fd_no hn).2.2
  rw [if_neg (by simp [taskB]; omega)] at e3
  exact ⟨_, _, by rw [e3], h.below ba⟩
theorem gs_map (L : List Wc) (key : ByteArray) : (qK L key).map (fun x => x.w) = (L.map fun x => x.w).filter fun x => decide (x.key = key) := by
  unfold qK
  induction L with
  | nil => rfl
  | cons x l ih =>
    rw [List.filter_cons, List.map_cons, List.filter_cons]
    split
    · rw [List.map_cons, ih]
    · exact ih
set_option maxHeartbeats 16000000 in
set_option maxRecDepth 100000 in
theorem waitFirst_any (v : Value) (l : List Ac) (key : ByteArray) (w : World) (h : GS KA w v l) (hok : ∀ a ∈ l, acOk a) (hl : l.length ≤ 1000000000000000) (hk : key.size ≤ maxLen) : Calls Try.prog 5 #[v, .string key] w fun e w' => e = .returned (.bool true) ∧ Below w.heap.size w w' := by
  have WK := hid (works_any w)
  have FI := hid (fun w1 (hb : Below w.heap.size w w1) => filled_any v l w1 (h.below hb) hok hl)
  obtain ⟨p, cap, rfl⟩ := h.form
  obtain ⟨L, hL⟩ : ∃ L, L = (fillS l).1 := ⟨_, rfl⟩
  obtain ⟨c, hc⟩ : ∃ c, c = (fillS l).2 := ⟨_, rfl⟩
  rw [← hL, ← hc] at FI
  clear h hok hL hc
  have KX := hid hk
  go_enter Try.func5, Try.ntmps5
  go_wp2_with fail
  refine Calls.mono WK.out ?_
  rintro e w1 ⟨rfl, hb1⟩
  have B1 := hid hb1
  clear hb1 WK
  go_wp2_with fail
  refine Calls.mono (FI.out _ B1.out) ?_
  rintro e w2 ⟨p2, c2, rfl, hf2⟩
  have F2 := hid hf2
  have B2 := hid (bl3 B1.out hf2.bl)
  clear hf2
  go_wp2_with fail
  refine Calls.mono (FI.out _ B2.out) ?_
  rintro e w3 ⟨p3, c3, rfl, hf3⟩
  have F3 := hid hf3
  have B3 := hid (bl3 B2.out hf3.bl)
  have IN := hid (F2.out.ow.below hf3.bl)
  clear hf3 FI
  obtain ⟨r1, hr1⟩ : ∃ r1, r1 = w1.heap.size + 1 := ⟨_, rfl⟩
  obtain ⟨r2, hr2⟩ : ∃ r2, r2 = w2.heap.size + 1 := ⟨_, rfl⟩
  rw [← hr1, ← hr2]
  rw [← hr1] at F2
  rw [← hr2] at F3
  clear hr1 hr2
  obtain ⟨M, hM⟩ : ∃ M, M = L.map fun x => x.w := ⟨_, rfl⟩
  have HM := hid hM
  have ML : Hid (M.length = L.length) := by show _ = _; rw [hM]; simp
  have LL : Hid (L.length ≤ 128) := by
    obtain ⟨f, hf⟩ := F2.out.rx
    exact hf.ri.len
  rw [← hM] at IN
  clear hM
  have X0 : Hid (∃ f1, PX w w3 w1.heap.size r1 w1.heap.size w2.heap.size r2 w2.heap.size w3.heap.size L L c c f1 (.slice none 0 0) []) := by
    obtain ⟨f, hf⟩ := F2.out.rx
    refine ⟨f, hf.below F3.out.bl, F3.out.rx, OwnG.nil _ _ _, fun b hb => (hf.lt hb).2, B3.out, B1.out.size⟩
  clear F2 F3 B1 B2
  obtain ⟨n, hn⟩ : ∃ n, n = L.length := ⟨_, rfl⟩
  have HN := hid hn
  rw [← hn]
  rw [← hn] at IN ML LL
  have hn2 : n ≤ 128 := LL.out
  clear hn
  have W0 : Hid (Below w3.heap.size w3 (w3.alloc (.cells #[] 30)) ∧ OwnG KW (w3.alloc (.cells #[] 30)) w3.heap.size (.slice (some ⟨w3.heap.size, 0, none⟩) 0 0) ((M.take 0).filter fun x => decide (x.key = key))) := ⟨bal _ _, OwnG.empty KW w3⟩
  have FN : Hid (∀ k (h : k < M.length), (M.take (k + 1)).filter (fun x => decide (x.key = key)) = (M.take k).filter (fun x => decide (x.key = key)) ++ (if M[k].key = key then [M[k]] else [])) := fun k h => by
    rw [List.take_succ_eq_append_getElem h, List.filter_append]
    congr 1
    by_cases e : M[k].key = key <;> simp [e]
  have FLn : Hid (∀ k, ((M.take k).filter fun x => decide (x.key = key)).length ≤ 128) := fun k => by
    have h1 := List.length_filter_le (fun x : Wt => decide (x.key = key)) (M.take k)
    have h2 : (M.take k).length ≤ M.length := by simp; omega
    have h3 := ML.out
    omega
  have FE : Hid ((M.take n).filter (fun x => decide (x.key = key)) = (qK L key).map fun x => x.w) := by
    show _ = _
    rw [List.take_of_length_le (by have := ML.out; omega), gs_map, ← HM.out]
  generalize hFF : (fun k => (M.take k).filter fun x => decide (x.key = key)) = FF at *
  have F0 : ∀ k, (M.take k).filter (fun x => decide (x.key = key)) = FF k := fun k => by rw [← hFF]
  rw [F0] at W0
  rw [F0] at FE
  simp only [F0] at FN FLn
  clear F0 hFF HM
  go_wp2_with fail
  go_loopw [9, 10] (fun v9 v10 wr => ∃ (k : Nat) (vg : Value) (wk : World), v10 = .int .i64 k ∧ vg = v9 ∧ wk = wr ∧ k ≤ n ∧ Hid (Below w3.heap.size w3 wk ∧ OwnG KW wk w3.heap.size vg (FF k))) (fun _ v10 _ => n - (intOf v10).toNat)
  case atStart => exact ⟨0, _, _, rfl, rfl, rfl, Nat.zero_le _, W0⟩
  case round =>
    obtain ⟨k, vg, wr, rfl, rfl, rfl, hk1, HW⟩ := hrel
    clear W0
    by_cases hlt : k < n
    · have hkl : k < M.length := by rw [ML.out]; exact hlt
      have GI := (IN.out.gs KW_ok.len).below HW.out.1
      obtain ⟨X, o, e1, x0, x1, x2, x3⟩ := GI.atW hkl
      obtain rfl : p2 = some ⟨X, o, none⟩ := e1
      have zx : X < wr.heap.size := GI.ltX hkl
      have FK := hid (FN.out k hkl)
      have FL1 : Hid (((FF k).length + 1) * KW.B ≤ 140737488355328) := by
        have := FLn.out k
        show ((FF k).length + 1) * 48 ≤ _
        omega
      have EQ := hid (eq_list M[k].key key)
      have ZW : Hid (w3.heap.size ≤ wr.heap.size) := HW.out.1.size
      clear GI
      generalize M[k] = a at *
      by_cases he : a.key = key
      · rw [if_pos he] at FK
        have e2 : (a.key.toList == key.toList) = true := by rw [EQ.out, decide_eq_true he]
        clear he EQ
        go_wp2_with (at_builtin; refine append_g KW KW_ok rfl (.tmp 42) (.tmp 47) 25 rfl w3.heap.size Try.underlying25 _ _ _ vg (FF k) a _ rfl HW.out.2 _ rfl rfl rfl FL1.out ZW.out ?_; intro g4 c4 w4 ho4 hb4 hk4 hg4)
        have N4 : Hid (Below w3.heap.size w3 w4 ∧ OwnG KW w4 w3.heap.size (.slice (some ⟨g4, 0, none⟩) ((FF k).length + 1) c4) (FF (k + 1))) := ⟨HW.out.1.trans hb4, by rw [FK.out]; exact ho4⟩
        clear ho4 hb4 hk4 hg4
        go_roundw
        case rel => exact ⟨k + 1, _, _, by go_num, rfl, rfl, by omega, N4⟩
        case measure => simp [intOf]; omega
      · rw [if_neg he, List.append_nil] at FK
        have e2 : (a.key.toList == key.toList) = false := by rw [EQ.out, decide_eq_false he]
        have N4 : Hid (Below w3.heap.size w3 wr ∧ OwnG KW wr w3.heap.size vg (FF (k + 1))) := ⟨HW.out.1, by rw [FK.out]; exact HW.out.2⟩
        clear he EQ
        go_wp2_with fail
        go_roundw
        case rel => exact ⟨k + 1, _, _, by go_num, rfl, rfl, by omega, N4⟩
        case measure => simp [intOf]; omega
    · obtain rfl : k = n := by omega
      rw [FE.out] at HW
      obtain ⟨pw, cw, hvg, _⟩ := HW.out.2.form
      rw [List.length_map] at hvg
      subst hvg
      have PX1 : Hid (∃ f1, PX w wr w1.heap.size r1 w1.heap.size w2.heap.size r2 w2.heap.size w3.heap.size L L c c f1 (.slice pw (qK L key).length cw) ((qK L key).map fun x => x.w)) := by
        obtain ⟨f1, h1⟩ := X0.out
        have h2 := h1.below HW.out.1
        exact ⟨f1, h2.x, h2.y, HW.out.2, h2.lt, h2.bl, h2.g1⟩
      obtain ⟨f1, hpx⟩ := PX1.out
      have PB := hid (pb_chain KX.out hpx)
      have QLe : (qK L key).length ≤ k := by rw [HN.out]; exact qK_len L key
      have HN2 : Hid ((L.length : Int) = k) := by rw [← HN.out]; rfl
      rw [HN2.out] at PB
      have LQ : Hid ((qK L key).length = ((qK L key).map fun x => x.w).length) := by show _ = _; simp
      clear hpx PX1 HW X0 FE FN FLn
      obtain ⟨Q, hQ⟩ : ∃ Q, Q = qK L key := ⟨_, rfl⟩
      have HQ := hid hQ
      rw [← hQ] at PB
      rw [← hQ] at LQ
      rw [← hQ] at QLe
      rw [← hQ]
      obtain ⟨nq, hnq⟩ : ∃ nq, nq = Q.length := ⟨_, rfl⟩
      have NQ := hid hnq
      rw [← hnq] at PB
      rw [← hnq] at LQ
      rw [← hnq] at QLe
      rw [← hnq]
      clear hQ hnq
      go_wp2_with fail
      refine Calls.mono PB.out ?_
      rintro e wa ⟨pa, ca, rfl, PC⟩
      replace PC := hid PC
      clear PB
      go_wp2_with fail
      refine Calls.mono PC.out ?_
      rintro e wb ⟨rfl, PD⟩
      replace PD := hid PD
      clear PC
      go_wp2_with fail
      refine Calls.mono PD.out ?_
      rintro e wc ⟨pc, cc, rfl, PE⟩
      replace PE := hid PE
      clear PD
      go_wp2_with fail
      refine Calls.mono PE.out ?_
      rintro e wd ⟨rfl, PF⟩
      replace PF := hid PF
      clear PE
      go_wp2_with fail
      refine Calls.mono PF.out ?_
      rintro e we ⟨pe, ce, rfl, PG⟩
      replace PG := hid PG
      clear PF
      go_wp2_with fail
      refine Calls.mono PG.out ?_
      rintro e wf ⟨rfl, hpy⟩
      have Y0 : Hid (∃ Li, PY w wf w2.heap.size r2 w2.heap.size w3.heap.size Li c (.slice pw nq cw) (Q.map fun x => x.w) ∧ qK Li key = Q.drop 0) := ⟨L, hpy, HQ.out.symm⟩
      clear hpy PG
      go_wp2_with fail
      go_loopw [11] (fun v11 wr2 => ∃ (i : Nat) (wk : World), v11 = .int .i64 i ∧ wk = wr2 ∧ i ≤ nq ∧ Hid (∃ Li, PY w wk w2.heap.size r2 w2.heap.size w3.heap.size Li c (.slice pw nq cw) (Q.map fun x => x.w) ∧ qK Li key = Q.drop i)) (fun v11 _ => nq - (intOf v11).toNat)
      case atStart => exact ⟨0, _, rfl, rfl, Nat.zero_le _, Y0⟩
      case round =>
        obtain ⟨i, wr2, rfl, rfl, hi, HY⟩ := hrel
        clear Y0
        by_cases hlt2 : i < nq
        · have hiq : i < Q.length := by rw [← NQ.out]; exact hlt2
          obtain ⟨Li, hy, hqi⟩ := HY.out
          have CF := hid (pc_first KX.out hy (x := Q[i]) (rest := Q.drop (i + 1)) (by rw [hqi]; exact List.drop_eq_getElem_cons hiq))
          have WC : Hid (∀ wk Li', PY w wk w2.heap.size r2 w2.heap.size w3.heap.size Li' c (.slice pw nq cw) (Q.map fun x => x.w) → ∃ X o, pw = some ⟨X, o, none⟩ ∧ wk.cell? ⟨X, o + i * 4, none⟩ = some (.int .i64 Q[i].w.task) ∧ wk.cell? ⟨X, o + i * 4 + 1, none⟩ = some (.int .i64 Q[i].w.kind) ∧ wk.cell? ⟨X, o + i * 4 + 2, none⟩ = some (.string Q[i].w.key) ∧ wk.cell? ⟨X, o + i * 4 + 3, none⟩ = some (.string Q[i].w.tok)) := fun wk Li' hw => by
            obtain ⟨X, o, e1, x0, x1, x2, x3⟩ := (hw.ow.gs KW_ok.len).atW (k := i) (by simpa using hiq)
            simp only [List.getElem_map] at x0 x1 x2 x3
            exact ⟨X, o, e1, x0, x1, x2, x3⟩
          clear HY hy hqi
          generalize Q[i] = x at *
          go_wp2_with fail
          refine Calls.mono CF.out ?_
          rintro e wg ⟨g, cg, rfl, ⟨y0, y1, y2, y3⟩, L', hy', hq', hn', ht'⟩
          obtain ⟨X, o, e1, z0, z1, z2, z3⟩ := WC.out _ _ hy'
          obtain rfl := e1
          have FD := hid (fun nn => pc_find (hy'.below (drew_below wg nn)) ht' hn')
          have NX : Hid (∀ wk, PY w wk w2.heap.size r2 w2.heap.size w3.heap.size L' c (.slice (some ⟨X, o, none⟩) nq cw) (Q.map fun x => x.w) → ∃ Li, PY w wk w2.heap.size r2 w2.heap.size w3.heap.size Li c (.slice (some ⟨X, o, none⟩) nq cw) (Q.map fun x => x.w) ∧ qK Li key = Q.drop (i + 1)) := fun wk hw => ⟨L', hw, hq'⟩
          clear CF WC hy' hq' hn' ht' hiq
          go_wp2_with fail
          have hi0 : (0 : Int) ≤ (i : Int) := by omega
          have hi1 : (i : Int) < (nq : Int) := by omega
          go_quiet (fail)
          go_wp2_with fail
          refine Calls.mono (FD.out _) ?_
          rintro e wh ⟨xh, ph, rfl, hyh⟩
          have N5 := hid (NX.out _ hyh)
          clear hyh FD NX
          go_wp2_with fail
          go_roundw
          case rel => exact ⟨i + 1, _, by go_num, rfl, by omega, N5⟩
          case measure => simp [intOf]; omega
        · obtain rfl : i = nq := by omega
          obtain ⟨Li, hy, hqi⟩ := HY.out
          have CF := hid (pc_last KX.out hy (by rw [hqi, List.drop_eq_nil_of_le (by rw [NQ.out]; exact Nat.le_refl _)]))
          clear HY hy hqi
          go_wp2_with fail
          refine Calls.mono CF.out ?_
          rintro e wg ⟨pg, cg, rfl, hbg⟩
          have BG := hid hbg
          clear hbg CF
          go_wp2_with fail
          go_ret
          exact ⟨rfl, BG.out⟩
end Go.Proofs.Ytpfpghngeblelaa
