/- Waiting, the document's side: Queue. -/
import Derived.Test.YtofdfofpdfaimaaWr2
namespace Go.Proofs.Ytofdfofpdfaimaa
open Go.RowKit Go.Maps

/-- A room in its box behind a call's own work. -/
structure QB (w : World) (vx : Value) (wk : World) : Prop where
  b0 : wk.heap[w.heap.size]? = some (.cells #[vx] 27)
  bl : Below w.heap.size w wk
theorem QB.new (w : World) (vx : Value) : QB w vx (w.alloc (.cells #[vx] 27)) := ⟨heap_alloc_new w _, bal w _⟩
theorem QB.below {w w1 w2 : World} {v : Value} (h : QB w v w1) (k : Below w1.heap.size w1 w2) : QB w v w2 := ⟨(k.block _ (lt_of_heap h.b0)).trans h.b0, bl3 h.bl k⟩
theorem QB.grow {w w1 w2 : World} {v : Value} (h : QB w v w1) (k : Below (w.heap.size + 1) w1 w2) : QB w v w2 := ⟨(k.block _ (by omega)).trans h.b0, h.bl.trans (k.mono (by omega))⟩
theorem QB.lt {w w1 : World} {v : Value} (h : QB w v w1) : w.heap.size + 1 ≤ w1.heap.size := lt_of_heap h.b0
set_option maxHeartbeats 4000000 in
theorem rqueue_any (v : Value) (M : List Wt) (key : ByteArray) (w : World) (h : GS KW w v M) (hl : M.length ≤ 1000000) : Calls Try.prog 18 #[.agg #[v], .string key] w fun e w' => ∃ p c, e = .returned (.slice p (M.filter fun x => decide (x.key = key)).length c) ∧ OwnG KW w' (w.heap.size + 1) (.slice p (M.filter fun x => decide (x.key = key)).length c) (M.filter fun x => decide (x.key = key)) ∧ Below w.heap.size w w' := by
  obtain ⟨p, cap, rfl⟩ := h.form
  have HS := hid h
  have EQ := hid eq_list
  obtain ⟨n, hn⟩ : ∃ n, n = M.length := ⟨_, rfl⟩
  have HN := hid hn
  have FN : Hid (∀ k (h : k < M.length), (M.take (k + 1)).filter (fun x => decide (x.key = key)) = (M.take k).filter (fun x => decide (x.key = key)) ++ (if M[k].key = key then [M[k]] else [])) := fun k hk => by
    rw [List.take_succ_eq_append_getElem hk, List.filter_append]
    congr 1
    by_cases e : M[k].key = key <;> simp [e]
  have FL : Hid (∀ k, ((M.take k).filter fun x => decide (x.key = key)).length ≤ 1000000) := fun k => by
    have h1 := List.length_filter_le (fun x : Wt => decide (x.key = key)) (M.take k)
    have h2 := List.length_take_le' k M
    omega
  have FE : Hid ((M.take n).filter (fun x => decide (x.key = key)) = M.filter fun x => decide (x.key = key)) := by
    show _ = _
    rw [hn, List.take_length]
  have F0 : Hid ((M.take 0).filter (fun x => decide (x.key = key)) = []) := rfl
  generalize (M.filter fun x => decide (x.key = key)) = R at *
  obtain ⟨FF, hFF⟩ : ∃ FF : Nat → List Wt, FF = fun k => (M.take k).filter fun x => decide (x.key = key) := ⟨_, rfl⟩
  have hF : ∀ k, (M.take k).filter (fun x => decide (x.key = key)) = FF k := fun k => by rw [hFF]
  simp only [hF] at FN FL FE F0
  rw [← hn] at HS
  rw [← hn]
  have hl2 : n ≤ 1000000 := by omega
  have Q0 := hid ((QB.new w (.slice p n cap)).below (bal _ (.cells #[] 30)))
  have O0 : Hid (OwnG KW ((w.alloc (.cells #[.slice p n cap] 27)).alloc (.cells #[] 30)) (w.heap.size + 1) (.slice (some ⟨w.heap.size + 1, 0, none⟩) 0 0) (FF 0)) := by
    show OwnG _ _ _ _ _
    rw [F0.out]
    have := OwnG.empty KW (w.alloc (.cells #[.slice p n cap] 27))
    rw [show (w.alloc (.cells #[.slice p n cap] 27)).heap.size = w.heap.size + 1 by simp] at this
    exact this
  clear h hn hF hFF F0 hl
  go_enter Try.func18, Try.ntmps18
  go_wp2_with fail
  go_loopw [5, 6] (fun v5 v6 wr => ∃ (k : Nat) (vl : Value) (wk : World), v6 = .int .i64 k ∧ vl = v5 ∧ wk = wr ∧ k ≤ n ∧ Hid (QB w (.slice p n cap) wk) ∧ Hid (OwnG KW wk (w.heap.size + 1) vl (FF k))) (fun _ v6 _ => n - (intOf v6).toNat)
  case atStart => exact ⟨0, _, _, rfl, rfl, rfl, Nat.zero_le _, Q0, O0⟩
  case round =>
    obtain ⟨k, vl, wr, rfl, rfl, rfl, hk, HQ, HO⟩ := hrel
    clear Q0 O0
    have c0 := box1 HQ.out.b0
    by_cases hlt : k < n
    · have hkl : k < M.length := by rw [← HN.out]; exact hlt
      obtain ⟨X, o, e1, x0, x1, x2, x3⟩ := (HS.out.below HQ.out.bl).atW hkl
      obtain rfl : p = some ⟨X, o, none⟩ := e1
      have NF := hid (FN.out k hkl)
      have LS : Hid (((FF k).length + 1) * KW.B ≤ 140737488355328) := by
        have := FL.out k
        show ((FF k).length + 1) * 48 ≤ _
        omega
      have ZW : Hid (w.heap.size + 1 ≤ wr.heap.size) := HQ.out.lt
      generalize M[k] = y at *
      by_cases he : y.key = key
      · rw [if_pos he] at NF
        have e2 : (y.key.toList == key.toList) = true := by rw [EQ.out, decide_eq_true he]
        clear he EQ FN FL FE
        generalize hfk : FF k = fk at *
        clear hfk
        go_wp2_with (at_builtin; refine append_g KW KW_ok rfl (.tmp 23) (.tmp 29) 25 rfl (w.heap.size + 1) Try.underlying25 _ _ _ vl fk y _ rfl HO.out _ rfl rfl rfl LS.out ZW.out ?_; intro g4 c4 w4 ho4 hb4 hk4 hg4)
        have HQ2 := hid (HQ.out.grow hb4)
        have HO2 : Hid (OwnG KW w4 (w.heap.size + 1) (.slice (some ⟨g4, 0, none⟩) (fk.length + 1) c4) (FF (k + 1))) := by show OwnG _ _ _ _ _; rw [NF.out]; exact ho4
        clear ho4 hb4 hk4 hg4 NF
        go_roundw
        case rel => exact ⟨k + 1, _, _, by go_num, rfl, rfl, by omega, HQ2, HO2⟩
        case measure => simp [intOf]; omega
      · rw [if_neg he, List.append_nil] at NF
        have e2 : (y.key.toList == key.toList) = false := by rw [EQ.out, decide_eq_false he]
        have HO2 : Hid (OwnG KW wr (w.heap.size + 1) vl (FF (k + 1))) := by show OwnG _ _ _ _ _; rw [NF.out]; exact HO.out
        clear he EQ FN FL FE NF LS
        go_wp2_with fail
        go_roundw
        case rel => exact ⟨k + 1, _, _, by go_num, rfl, rfl, by omega, HQ, HO2⟩
        case measure => simp [intOf]; omega
    · obtain rfl : k = n := by omega
      rw [FE.out] at HO
      obtain ⟨pv, cv, hvl, _⟩ := HO.out.form
      subst hvl
      clear EQ FN FL FE
      go_wp2_with fail
      go_ret
      exact ⟨pv, cv, rfl, HO.out, HQ.out.bl⟩
end Go.Proofs.Ytofdfofpdfaimaa
