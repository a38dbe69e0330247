/- Waiting, the document's side: Keys. -/
import Derived.Test.YtofdfofpdfaimaaWs4
namespace Go.Proofs.Ytofdfofpdfaimaa
open Go.RowKit Go.Maps

set_option maxHeartbeats 4000000 in
theorem rkeys_any (v : Value) (M : List Wt) (w : World) (h : GS KW w v M) (hl : M.length ≤ 128) : Calls Try.prog 16 #[.agg #[v]] w fun e w' => ∃ q c T, Srt T (inB (M.map fun x => x.key)) ∧ e = .returned (.slice q T.length c) ∧ OwnG KS w' (w.heap.size + 1) (.slice q T.length c) T ∧ Below w.heap.size w w' := by
  obtain ⟨p, cap, rfl⟩ := h.form
  have HS := hid h
  obtain ⟨n, hn⟩ : ∃ n, n = M.length := ⟨_, rfl⟩
  have HN := hid hn
  have FN : Hid (∀ k (h : k < M.length), (M.take (k + 1)).map (fun x => x.key) = (M.take k).map (fun x => x.key) ++ [M[k].key]) := fun k hk => by
    rw [List.take_succ_eq_append_getElem hk, List.map_append]; rfl
  have FL : Hid (∀ k, ((M.take k).map fun x => x.key).length ≤ 128) := fun k => by
    rw [List.length_map]
    have h2 := List.length_take_le' k M
    omega
  have FE : Hid ((M.take n).map (fun x => x.key) = M.map fun x => x.key) := by
    show _ = _
    rw [hn, List.take_length]
  have F0 : Hid ((M.take 0).map (fun x => x.key) = []) := rfl
  generalize (M.map fun x => x.key) = R at *
  obtain ⟨FF, hFF⟩ : ∃ FF : Nat → List ByteArray, FF = fun k => (M.take k).map fun x => x.key := ⟨_, rfl⟩
  have hF : ∀ k, (M.take k).map (fun x => x.key) = FF k := fun k => by rw [hFF]
  simp only [hF] at FN FL FE F0
  rw [← hn] at HS
  rw [← hn]
  have hl2 : n ≤ 1000000 := by omega
  have SO := hid (fun w' vl (hg : GS KS w' vl R) (hr : R.length ≤ 100000) => sortedB_any vl R w' hg hr)
  have Q0 := hid ((QB.new w (.slice p n cap)).below (bal _ (.cells #[] 9)))
  have O0 : Hid (OwnG KS ((w.alloc (.cells #[.slice p n cap] 27)).alloc (.cells #[] 9)) (w.heap.size + 1) (.slice (some ⟨w.heap.size + 1, 0, none⟩) 0 0) (FF 0)) := by
    show OwnG _ _ _ _ _
    rw [F0.out]
    have := OwnG.empty KS (w.alloc (.cells #[.slice p n cap] 27))
    rw [show (w.alloc (.cells #[.slice p n cap] 27)).heap.size = w.heap.size + 1 by simp] at this
    exact this
  clear h hn hF hFF F0 hl
  go_enter Try.func16, Try.ntmps16
  go_wp2_with fail
  go_loopw [3, 4] (fun v5 v6 wr => ∃ (k : Nat) (vl : Value) (wk : World), v6 = .int .i64 k ∧ vl = v5 ∧ wk = wr ∧ k ≤ n ∧ Hid (QB w (.slice p n cap) wk) ∧ Hid (OwnG KS wk (w.heap.size + 1) vl (FF k))) (fun _ v6 _ => n - (intOf v6).toNat)
  case atStart => exact ⟨0, _, _, rfl, rfl, rfl, Nat.zero_le _, Q0, O0⟩
  case round =>
    obtain ⟨k, vl, wr, rfl, rfl, rfl, hk, HQ, HO⟩ := hrel
    clear Q0 O0
    have c0 := box1 HQ.out.b0
    by_cases hlt : k < n
    · have hkl : k < M.length := by rw [← HN.out]; exact hlt
      obtain ⟨X, o, e1, x0, x1, x2, x3⟩ := (HS.out.below HQ.out.bl).atW hkl
      obtain rfl : p = some ⟨X, o, none⟩ := e1
      have NF := hid (FN.out k hkl)
      have LS : Hid (((FF k).length + 1) * KS.B ≤ 140737488355328) := by
        have := FL.out k
        show ((FF k).length + 1) * 16 ≤ _
        omega
      have ZW : Hid (w.heap.size + 1 ≤ wr.heap.size) := HQ.out.lt
      generalize M[k] = y at *
      clear FN FL FE SO
      generalize hfk : FF k = fk at *
      clear hfk
      go_wp2_with (at_builtin; refine append_g KS KS_ok rfl (.tmp 13) (.tmp 20) 45 rfl (w.heap.size + 1) Try.underlying45 _ _ _ vl fk y.key _ rfl HO.out _ rfl rfl rfl LS.out ZW.out ?_; intro g4 c4 w4 ho4 hb4 hk4 hg4)
      have HQ2 := hid (HQ.out.grow hb4)
      have HO2 : Hid (OwnG KS w4 (w.heap.size + 1) (.slice (some ⟨g4, 0, none⟩) (fk.length + 1) c4) (FF (k + 1))) := by show OwnG _ _ _ _ _; rw [NF.out]; exact ho4
      clear ho4 hb4 hk4 hg4 NF
      go_roundw
      case rel => exact ⟨k + 1, _, _, by go_num, rfl, rfl, by omega, HQ2, HO2⟩
      case measure => simp [intOf]; omega
    · obtain rfl : k = n := by omega
      have LR : Hid (R.length ≤ 100000) := by have := FL.out k; rw [FE.out] at this; exact Nat.le_trans this (by decide)
      rw [FE.out] at HO
      clear FN FL FE
      go_wp2_with (go_at_call 44; refine (SO.out _ _ (HO.out.gs KS_ok.len) LR.out).mono ?_; rintro e w6 ⟨q6, c6, T, hT, rfl, ho6, hb6⟩; have O6 := hid (ho6.low (show w.heap.size + 1 ≤ _ from HQ.out.lt)); have B6 := hid (bl3 HQ.out.bl hb6); have T6 := hid hT; clear hT ho6 hb6)
      go_ret
      exact ⟨q6, c6, T, T6.out, rfl, O6.out, B6.out⟩
end Go.Proofs.Ytofdfofpdfaimaa
