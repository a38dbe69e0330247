/- Waiting, the document's side: Cancel. -/
import Derived.Test.YtofdfofpdfaimaaWr8
namespace Go.Proofs.Ytofdfofpdfaimaa
open Go.RowKit Go.Maps

theorem QC.grow {w w1 w2 : World} {v : Value} (h : QC w v w1) (k : Below (w.heap.size + 2) w1 w2) : QC w v w2 := ⟨(k.block _ (by omega)).trans h.b0, (k.block _ (by omega)).trans h.b1, h.bl.trans (k.mono (by omega))⟩
set_option maxHeartbeats 8000000 in
set_option maxRecDepth 100000 in
theorem rcancel_ok (v : Value) (M : List Wt) (tok : ByteArray) (w : World) (h : GS KW w v M) (hl : M.length ≤ 128) (hd : M.Pairwise (fun x y => x.task ≠ y.task)) (ht : 0 < tok.size) : Calls Try.prog 37 #[.agg #[v], .string tok] w fun e w' => WkR w v M (M.filter fun x => decide (x.tok = tok)) #[] e w' := by
  obtain ⟨z1, z2⟩ := bytes_ne ht
  have z3 : (tok.toList == []) = false := by simpa using z1
  clear z1 z2
  obtain ⟨p, cap, rfl⟩ := h.form
  have HS := hid h
  have EQ := hid eq_list
  obtain ⟨n, hn⟩ : ∃ n, n = M.length := ⟨_, rfl⟩
  have HN := hid hn
  have FN : Hid (∀ k (h : k < M.length), (M.take (k + 1)).filter (fun x => decide (x.tok = tok)) = (M.take k).filter (fun x => decide (x.tok = tok)) ++ (if M[k].tok = tok then [M[k]] else [])) := fun k hk => by
    rw [List.take_succ_eq_append_getElem hk, List.filter_append]
    congr 1
    by_cases e : M[k].tok = tok <;> simp [e]
  have FL : Hid (∀ k, ((M.take k).filter fun x => decide (x.tok = tok)).length ≤ 1000000) := fun k => by
    have h1 := List.length_filter_le (fun x : Wt => decide (x.tok = tok)) (M.take k)
    have h2 := List.length_take_le' k M
    omega
  have FE : Hid ((M.take n).filter (fun x => decide (x.tok = tok)) = M.filter fun x => decide (x.tok = tok)) := by
    show _ = _
    rw [hn, List.take_length]
  have F0 : Hid ((M.take 0).filter (fun x => decide (x.tok = tok)) = []) := rfl
  have hf : ∀ y ∈ M.filter (fun x => decide (x.tok = tok)), ∃ x ∈ M, x.task = y.task := fun y hy => ⟨y, (List.mem_filter.1 hy).1, rfl⟩
  have hfl : (M.filter fun x => decide (x.tok = tok)).length ≤ 1000000 := by have := List.length_filter_le (fun x : Wt => decide (x.tok = tok)) M; omega
  have hfp := filter_pw hd (fun x => decide (x.tok = tok))
  have hl' : M.length ≤ 128 := hl
  generalize (M.filter fun x => decide (x.tok = tok)) = R at *
  have GO := hid (fun w' vl (hb : Below w.heap.size w w') (hg : GS KW w' vl R) => rgone_any (.slice p M.length cap) vl M R w' (h.below hb) hg hl' hfl hd hfp hf)
  have RX : Hid (∀ e w', WkR w (.slice p M.length cap) M R #[] e w' = ∃ v' p' c, e = .returned (.tuple (#[.agg #[v'], .slice p' R.length c] ++ #[])) ∧ GS KW w' v' (gneL M R) ∧ ((v' = .slice p M.length cap ∧ gneL M R = M) ∨ OwnG KW w' w.heap.size v' (gneL M R)) ∧ GS KW w' (.slice p' R.length c) R ∧ Below w.heap.size w w') := fun _ _ => rfl
  generalize WkR w (.slice p M.length cap) M R #[] = RR at *
  clear hl'
  obtain ⟨FF, hFF⟩ : ∃ FF : Nat → List Wt, FF = fun k => (M.take k).filter fun x => decide (x.tok = tok) := ⟨_, rfl⟩
  have hF : ∀ k, (M.take k).filter (fun x => decide (x.tok = tok)) = FF k := fun k => by rw [hFF]
  simp only [hF] at FN FL FE F0
  rw [← hn] at HS GO RX
  rw [← hn]
  have hl2 : n ≤ 1000000 := by omega
  have Q0 := hid ((QC.new w (.slice p n cap)).below (bal _ (.cells #[] 30)))
  have O0 : Hid (OwnG KW (((w.alloc (.cells #[.slice p n cap] 27)).alloc (.cells #[.slice none 0 0] 27)).alloc (.cells #[] 30)) (w.heap.size + 2) (.slice (some ⟨w.heap.size + 1 + 1, 0, none⟩) 0 0) (FF 0)) := by
    show OwnG _ _ _ _ _
    rw [F0.out]
    have := OwnG.empty KW ((w.alloc (.cells #[.slice p n cap] 27)).alloc (.cells #[.slice none 0 0] 27))
    rw [show ((w.alloc (.cells #[.slice p n cap] 27)).alloc (.cells #[.slice none 0 0] 27)).heap.size = w.heap.size + 1 + 1 by simp] at this
    exact this
  clear h hn hF hFF F0 hl hd hf hfl hfp ht
  go_enter Try.func37, Try.ntmps37
  go_wp2_with fail
  go_loopw [6, 7] (fun v5 v6 wr => ∃ (k : Nat) (vl : Value) (wk : World), v6 = .int .i64 k ∧ vl = v5 ∧ wk = wr ∧ k ≤ n ∧ Hid (QC w (.slice p n cap) wk) ∧ Hid (OwnG KW wk (w.heap.size + 2) vl (FF k))) (fun _ v6 _ => n - (intOf v6).toNat)
  case atStart => exact ⟨0, _, _, rfl, rfl, rfl, Nat.zero_le _, Q0, O0⟩
  case round =>
    obtain ⟨k, vl, wr, rfl, rfl, rfl, hk, HQ, HO⟩ := hrel
    clear Q0 O0
    have c0 := box1 HQ.out.b0
    by_cases hlt : k < n
    · have hkl : k < M.length := by rw [← HN.out]; exact hlt
      obtain ⟨X, o, e1, x0, x1, x2, x3⟩ := (HS.out.below HQ.out.bl).atW hkl
      obtain rfl : p = some ⟨X, o, none⟩ := e1
      have NF := hid (FN.out k hkl)
      have LS : Hid (((FF k).length + 1) * KW.B ≤ 140737488355328) := by
        have := FL.out k
        show ((FF k).length + 1) * 48 ≤ _
        omega
      have ZW : Hid (w.heap.size + 2 ≤ wr.heap.size) := HQ.out.lt
      generalize M[k] = y at *
      by_cases he : y.tok = tok
      · rw [if_pos he] at NF
        have e2 : (y.tok.toList == tok.toList) = true := by rw [EQ.out, decide_eq_true he]
        clear he EQ FN FL FE
        generalize hfk : FF k = fk at *
        clear hfk
        go_wp2_with (at_builtin; refine append_g KW KW_ok rfl (.tmp 28) (.tmp 34) 25 rfl (w.heap.size + 2) Try.underlying25 _ _ _ vl fk y _ rfl HO.out _ rfl rfl rfl LS.out ZW.out ?_; intro g4 c4 w4 ho4 hb4 hk4 hg4)
        have HQ2 := hid (HQ.out.grow hb4)
        have HO2 : Hid (OwnG KW w4 (w.heap.size + 2) (.slice (some ⟨g4, 0, none⟩) (fk.length + 1) c4) (FF (k + 1))) := by show OwnG _ _ _ _ _; rw [NF.out]; exact ho4
        clear ho4 hb4 hk4 hg4 NF
        go_roundw
        case rel => exact ⟨k + 1, _, _, by go_num, rfl, rfl, by omega, HQ2, HO2⟩
        case measure => simp [intOf]; omega
      · rw [if_neg he, List.append_nil] at NF
        have e2 : (y.tok.toList == tok.toList) = false := by rw [EQ.out, decide_eq_false he]
        have HO2 : Hid (OwnG KW wr (w.heap.size + 2) vl (FF (k + 1))) := by show OwnG _ _ _ _ _; rw [NF.out]; exact HO.out
        clear he EQ FN FL FE NF LS
        go_wp2_with fail
        go_roundw
        case rel => exact ⟨k + 1, _, _, by go_num, rfl, rfl, by omega, HQ, HO2⟩
        case measure => simp [intOf]; omega
    · obtain rfl : k = n := by omega
      rw [FE.out] at HO
      obtain ⟨pv, cv, hvl, _⟩ := HO.out.form
      subst hvl
      clear EQ FN FL FE
      have c1 := box1 HQ.out.b1
      have fr : ∀ z, wr.frozen? ⟨w.heap.size + 1, z, none⟩ = false := frz1 HQ.out.b1
      have ZQ : Hid (w.heap.size + 2 ≤ wr.heap.size) := HQ.out.lt
      go_wp2_with (go_at_call 54; refine (GO.out _ _ HQ.out.bl (HO.out.gs KW_ok.len)).mono ?_; rintro e w6 ⟨v6, rfl, hg6, ho6, hb6⟩; obtain ⟨p6, c6, hv6⟩ := hg6.form; subst hv6; have O6 := hid ho6; have Q6 := hid (HQ.out.below hb6); have P6 := hid (HO.out.below hb6); have e0 := box1 Q6.out.b0; have e1 := box1 Q6.out.b1; have fs : ∀ z, w6.frozen? ⟨w.heap.size + 1, z, none⟩ = false := frz1 Q6.out.b1; clear hg6 ho6 hb6)
      have hz := heap_setCell_same w6 (w.heap.size + 1) 0 _ _ (.slice p6 (gneL M R).length c6) Q6.out.b1
      have hc9 := box1 hz
      have F := hid (wk_end HS.out Q6.out O6.out ZQ.out P6.out)
      refine bodyPost_ret (v := .tuple #[.agg #[.slice p6 (gneL M R).length c6], .slice pv R.length cv]) (by simp [results, Try.results37, go_sem, hc9]) rfl ?_
      rw [RX.out]
      exact ⟨_, _, _, rfl, F.out⟩
end Go.Proofs.Ytofdfofpdfaimaa
