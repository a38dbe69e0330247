/- Waiting: the walk of take. -/
import Derived.Test.YtofdfofpdfaimaaWd2
namespace Go.Proofs.Ytofdfofpdfaimaa
open Go.RowKit Go.Maps

theorem gnL_len (p : Nat → Wc → Bool) (k : Nat) (l : List Wc) : (gnL p k l).length ≤ l.length := (gnL_sub p k l).length_le
theorem stL_len (p : Nat → Wc → Bool) (k : Nat) (l : List Wc) : (stL p k l).length ≤ l.length := (stL_sub p k l).length_le
set_option maxHeartbeats 8000000 in
set_option maxRecDepth 100000 in
theorem take_any (fn : Nat) (cp : Array Value) (p : Nat → Wc → Bool) (key : ByteArray) (w : World) (base r m : Nat) (L : List Wc) (c : Nat) (f : ByteArray → Option Value) (h : RX w base r m L c f) (hk : key.size ≤ maxLen) (hen : ∀ args w, Sem.run Try.prog (callFunc fn args) w = .ok (.enter fn args) w)
    (CL : ∀ W (k : Nat) (x : Wc), Below w.heap.size w W → Calls Try.prog fn (#[.int .i64 k, .agg #[.int .i64 x.w.task, .int .i64 x.w.kind, .string x.w.key, .string x.w.tok, .int .i64 x.came]] ++ cp) W fun e W' => e = .returned (.bool (p k x)) ∧ Below W.heap.size W W') :
    Calls Try.prog 29 #[.pointer (some ⟨r, 0, none⟩), .string key, .func (.func fn) #[] cp] w fun e w' => ∃ q cc, e = .returned (.slice q (gnL p 0 (qK L key)).length cc) ∧ OwnG KC w' w.heap.size (.slice q (gnL p 0 (qK L key)).length cc) (gnL p 0 (qK L key)) ∧ RR w base r m f (outL L (gnL p 0 (qK L key))) c w' := by
  have c0 := h.cells.1
  have k0 := h.look hk
  have OQ := hid (h.at key)
  have QL : Hid ((qK L key).length ≤ 128) := by have := qK_len L key; have := h.ri.len; show _ ≤ _; omega
  have HX := hid h
  have KX := hid hk
  have HC := hid CL
  have ml := h.mq.lt
  have rl := lt_of_heap h.hp
  obtain ⟨q, hq⟩ : ∃ q, q = qK L key := ⟨_, rfl⟩
  obtain ⟨v0, hv0⟩ : ∃ v0, v0 = (f key).getD (.slice none 0 0) := ⟨_, rfl⟩
  rw [← hv0] at k0
  rw [← hv0, ← hq] at OQ
  rw [← hq] at QL
  rw [← hq]
  have Q0 := hid hq
  obtain ⟨pp, cc, hvv, _⟩ := OQ.out.form
  subst hvv
  have T0 : Hid (TK w (.slice none 0 0) (.slice none 0 0) (gnL p 0 (q.take 0)) (stL p 0 (q.take 0)) w) := ⟨OwnG.nil _ _ _, OwnG.nil _ _ _, (fun x hx => by cases hx), Below.refl _ _⟩
  clear h hk CL hq hv0
  go_enter Try.func29, Try.ntmps29
  go_wp2
  clear k0 c0
  go_loopw [7, 8, 18] (fun v7 v8 v18 wr => ∃ (k : Nat) (vg vs : Value) (wk : World), v18 = .int .i64 k ∧ vg = v7 ∧ vs = v8 ∧ wk = wr ∧ k ≤ q.length ∧ Hid (TK w vg vs (gnL p 0 (q.take k)) (stL p 0 (q.take k)) wk)) (fun _ _ v18 _ => q.length - (intOf v18).toNat)
  case atStart => exact ⟨0, _, _, _, rfl, rfl, rfl, rfl, Nat.zero_le _, T0⟩
  case round =>
    obtain ⟨k, vg, vs, wr, rfl, rfl, rfl, rfl, hk, HT⟩ := hrel
    clear T0
    by_cases hlt : k < q.length
    · obtain ⟨X, o, e1, x0, x1, x2, x3, x4⟩ := ((OQ.out.gs KC_ok.len).below HT.out.bl).atC hlt
      obtain rfl : pp = some ⟨X, o, none⟩ := e1
      have zx : X < wr.heap.size := ((OQ.out.gs KC_ok.len).below HT.out.bl).ltX hlt
      have hl9 := QL.out
      have GN : Hid (gnL p 0 (q.take (k + 1)) = gnL p 0 (q.take k) ++ (if p k q[k] = true then [q[k]] else [])) := by
        show _ = _
        rw [List.take_succ_eq_append_getElem hlt, gnL_app]
        simp [Nat.min_eq_left hk]
      have SN : Hid (stL p 0 (q.take (k + 1)) = stL p 0 (q.take k) ++ (if p k q[k] = true then [] else [q[k]])) := by
        show _ = _
        rw [List.take_succ_eq_append_getElem hlt, stL_app]
        simp [Nat.min_eq_left hk]
      have GL : Hid (((gnL p 0 (q.take k)).length + 1) * KC.B ≤ 140737488355328) := by
        have := gnL_len p 0 (q.take k)
        have : (q.take k).length ≤ q.length := by simp; omega
        show ((gnL p 0 (q.take k)).length + 1) * 56 ≤ _
        omega
      have SL : Hid (((stL p 0 (q.take k)).length + 1) * KC.B ≤ 140737488355328) := by
        have := stL_len p 0 (q.take k)
        have : (q.take k).length ≤ q.length := by simp; omega
        show ((stL p 0 (q.take k)).length + 1) * 56 ≤ _
        omega
      generalize gnL p 0 (q.take k) = G1 at *
      generalize stL p 0 (q.take k) = S1 at *
      generalize q[k] = y at *
      generalize hql : q.length = n at *
      go_upto_region 5 with fail
      obtain ⟨ob, hob⟩ : ∃ ob, ob = Obj.cells #[.int .i64 y.w.task, .int .i64 y.w.kind, .string y.w.key, .string y.w.tok, .int .i64 y.came] 69 := ⟨_, rfl⟩
      rw [← hob]
      have T2 := hid (HT.out.below (bal wr ob))
      have H2 : Hid ((wr.alloc ob).heap[wr.heap.size]? = some (.cells #[.int .i64 y.w.task, .int .i64 y.w.kind, .string y.w.key, .string y.w.tok, .int .i64 y.came] 69)) := (heap_alloc_new wr ob).trans (congrArg some hob)
      generalize wr.alloc ob = w2 at *
      generalize wr.heap.size = Y at *
      have bx : ∀ W : World, W.heap[Y]? = some (.cells #[.int .i64 y.w.task, .int .i64 y.w.kind, .string y.w.key, .string y.w.tok, .int .i64 y.came] 69) → W.cell? ⟨Y, 0, none⟩ = some (.int .i64 y.w.task) ∧ W.cell? ⟨Y, 1, none⟩ = some (.int .i64 y.w.kind) ∧ W.cell? ⟨Y, 2, none⟩ = some (.string y.w.key) ∧ W.cell? ⟨Y, 3, none⟩ = some (.string y.w.tok) ∧ W.cell? ⟨Y, 4, none⟩ = some (.int .i64 y.came) := fun W h => ⟨cell_of_row _ _ _ _ _ _ h, cell_of_row _ _ _ _ _ _ h, cell_of_row _ _ _ _ _ _ h, cell_of_row _ _ _ _ _ _ h, cell_of_row _ _ _ _ _ _ h⟩
      have BX := hid bx
      obtain ⟨t0, t1, t2, t3, t4⟩ := bx _ H2.out
      have C2 := hid (HC.out w2 k y T2.out.bl)
      clear hob HT bx
      cases hp : p k y with
      | true =>
        rw [hp] at C2 GN SN
        rw [if_pos rfl] at GN SN
        rw [List.append_nil] at SN
        clear hp
        go_wp2_with fail
        refine Calls.mono C2.out ?_
        rintro e w3 ⟨rfl, hb3⟩
        have T3 := hid (T2.out.below hb3)
        obtain ⟨s0, s1, s2, s3, s4⟩ := BX.out _ ((hb3.block _ (lt_of_heap H2.out)).trans H2.out)
        have Z3 : Hid (w.heap.size ≤ w3.heap.size) := T3.out.bl.size
        clear hb3 C2 t0 t1 t2 t3 t4 T2
        go_wp2_with (at_builtin; refine append_g KC KC_ok rfl (.tmp 27) (.tmp 29) 66 rfl w.heap.size Try.underlying66 _ _ _ vg G1 y _ rfl T3.out.g _ rfl rfl rfl GL.out Z3.out ?_; intro g4 c4 w4 ho4 hb4 hk4 hg4)
        have T4 := hid (T3.out.pushG ho4 hb4 hk4 hg4)
        rw [← GN.out] at T4
        rw [← SN.out] at T4
        clear ho4 hb4 hk4 hg4
        go_roundw
        case rel => exact ⟨k + 1, _, _, _, by go_num, rfl, rfl, rfl, by omega, T4⟩
        case measure => simp [intOf]; omega
      | false =>
        rw [hp] at C2 GN SN
        rw [if_neg (by decide)] at GN SN
        rw [List.append_nil] at GN
        clear hp
        go_wp2_with fail
        refine Calls.mono C2.out ?_
        rintro e w3 ⟨rfl, hb3⟩
        have T3 := hid (T2.out.below hb3)
        obtain ⟨s0, s1, s2, s3, s4⟩ := BX.out _ ((hb3.block _ (lt_of_heap H2.out)).trans H2.out)
        have Z3 : Hid (w.heap.size ≤ w3.heap.size) := T3.out.bl.size
        clear hb3 C2 t0 t1 t2 t3 t4 T2
        go_wp2_with (at_builtin; refine append_g KC KC_ok rfl (.tmp 31) (.tmp 33) 66 rfl w.heap.size Try.underlying66 _ _ _ vs S1 y _ rfl T3.out.s _ rfl rfl rfl SL.out Z3.out ?_; intro g4 c4 w4 ho4 hb4 hk4 hg4)
        have T4 := hid (T3.out.pushS ho4 hb4 hk4 hg4)
        rw [← GN.out] at T4
        rw [← SN.out] at T4
        clear ho4 hb4 hk4 hg4
        go_roundw
        case rel => exact ⟨k + 1, _, _, _, by go_num, rfl, rfl, rfl, by omega, T4⟩
        case measure => simp [intOf]; omega
    · obtain rfl : k = q.length := by omega
      rw [List.take_length] at HT
      obtain ⟨qg, cg, hvg, _⟩ := HT.out.g.form
      obtain ⟨qs, cs, hvs, _⟩ := HT.out.s.form
      subst hvg hvs
      have X4 := HX.out.below HT.out.bl
      have hr := X4.cells.1
      cases hst : stL p 0 q with
      | nil =>
        obtain ⟨w6, hr6, hm6, hb6, _⟩ := X4.mq.drop Try.underlying62 KX.out 0
        have R6 : Hid (RR w base r m f (outL L (gnL p 0 q)) c w6) := by
          have hq := Q0.out
          subst hq
          exact rx_take HX.out HT.out.bl p key _ HT.out.s (Or.inl ⟨rfl, hst⟩) hm6 hb6
        have G6 := hid (HT.out.keep ml hb6)
        rw [hst] at HT
        clear hm6 hb6 X4 hst
        go_wp2_with fail
        go_ret
        exact ⟨_, _, rfl, G6.out, R6.out⟩
      | cons y0 ys =>
        obtain ⟨sl, hsl⟩ : ∃ sl, sl = (y0 :: ys).length := ⟨_, rfl⟩
        rw [← hsl]
        obtain ⟨w6, hr6, hm6, hb6, _⟩ := X4.mq.put Try.underlying62 _ X4.keys (by have := X4.ri.len; simp; unfold maxLen; omega) KX.out (.slice qs sl cs)
        have R6 : Hid (RR w base r m f (outL L (gnL p 0 q)) c w6) := by
          have hq := Q0.out
          subst hq
          exact rx_take HX.out HT.out.bl p key _ (by rw [hsl, ← hst]; exact HT.out.s) (Or.inr ⟨rfl, by rw [hst]; simp⟩) hm6 hb6
        have G6 := hid (HT.out.keep ml hb6)
        have hz3 : 0 < sl := by rw [hsl]; simp
        have hz4 : sl ≤ 128 := by have := stL_len p 0 q; have := QL.out; rw [hsl, ← hst]; omega
        have hz : (sl == 0) = false := by simp; omega
        have hz2 : ((sl : Int) == 0) = false := by simp; omega
        clear hm6 hb6 X4 hst hsl
        go_wp2_with fail
        go_ret
        exact ⟨_, _, rfl, G6.out, R6.out⟩
end Go.Proofs.Ytofdfofpdfaimaa
