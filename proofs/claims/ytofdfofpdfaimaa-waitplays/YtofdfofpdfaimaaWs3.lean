/- Waiting, the document's side: Cancel of the empty token; spoil. -/
import Derived.Test.YtofdfofpdfaimaaWs2
namespace Go.Proofs.Ytofdfofpdfaimaa
open Go.RowKit Go.Maps

set_option maxHeartbeats 8000000 in
set_option maxRecDepth 100000 in
theorem rcancel_e (v : Value) (M : List Wt) (w : World) (h : GS KW w v M) (hl : M.length ≤ 128) (hd : M.Pairwise (fun x y => x.task ≠ y.task)) : Calls Try.prog 37 #[.agg #[v], .string ByteArray.empty] w fun e w' => WkR w v M [] #[] e w' := by
  obtain ⟨p, cap, rfl⟩ := h.form
  have HS := hid h
  have GO := hid (fun w' vl (hb : Below w.heap.size w w') (hg : GS KW w' vl []) => rgone_any (.slice p M.length cap) vl M [] w' (h.below hb) hg hl (by simp) hd List.Pairwise.nil (fun y hy => by cases hy))
  have RX : Hid (∀ e w', WkR w (.slice p M.length cap) M [] #[] e w' = ∃ v' p' c, e = .returned (.tuple (#[.agg #[v'], .slice p' ([] : List Wt).length c] ++ #[])) ∧ GS KW w' v' (gneL M []) ∧ ((v' = .slice p M.length cap ∧ gneL M [] = M) ∨ OwnG KW w' w.heap.size v' (gneL M [])) ∧ GS KW w' (.slice p' ([] : List Wt).length c) [] ∧ Below w.heap.size w w') := fun _ _ => rfl
  generalize WkR w (.slice p M.length cap) M [] #[] = RR at *
  obtain ⟨n, hn⟩ : ∃ n, n = M.length := ⟨_, rfl⟩
  rw [← hn] at HS GO RX hl
  rw [← hn]
  have Q0 := hid ((QC.new w (.slice p n cap)).below (bal _ (.cells #[] 30)))
  have O0 : Hid (OwnG KW (((w.alloc (.cells #[.slice p n cap] 27)).alloc (.cells #[.slice none 0 0] 27)).alloc (.cells #[] 30)) (w.heap.size + 2) (.slice (some ⟨w.heap.size + 1 + 1, 0, none⟩) 0 0) []) := by
    have := OwnG.empty KW ((w.alloc (.cells #[.slice p n cap] 27)).alloc (.cells #[.slice none 0 0] 27))
    rw [show ((w.alloc (.cells #[.slice p n cap] 27)).alloc (.cells #[.slice none 0 0] 27)).heap.size = w.heap.size + 1 + 1 by simp] at this
    exact this
  clear h hn hd
  go_enter Try.func37, Try.ntmps37
  go_wp2_with fail
  go_loopw [6, 7] (fun v5 v6 wr => ∃ (wk : World), v6 = .int .i64 0 ∧ v5 = .slice (some ⟨w.heap.size + 1 + 1, 0, none⟩) 0 0 ∧ wk = wr ∧ Hid (QC w (.slice p n cap) wk) ∧ Hid (OwnG KW wk (w.heap.size + 2) (.slice (some ⟨w.heap.size + 1 + 1, 0, none⟩) 0 0) [])) (fun _ _ _ => 0)
  case atStart => exact ⟨_, rfl, rfl, rfl, Q0, O0⟩
  case round =>
    obtain ⟨wr, rfl, rfl, rfl, HQ, HO⟩ := hrel
    clear Q0 O0
    have c0 := box1 HQ.out.b0
    have c1 := box1 HQ.out.b1
    have fr : ∀ z, wr.frozen? ⟨w.heap.size + 1, z, none⟩ = false := frz1 HQ.out.b1
    have ZQ : Hid (w.heap.size + 2 ≤ wr.heap.size) := HQ.out.lt
    by_cases hn : 0 < n
    · have hn2 : (0 : Int) < (n : Int) := by omega
      go_wp2_with (go_at_call 54; refine (GO.out _ _ HQ.out.bl (HO.out.gs KW_ok.len)).mono ?_; rintro e w6 ⟨v6, rfl, hg6, ho6, hb6⟩; obtain ⟨p6, c6, hv6⟩ := hg6.form; subst hv6; have O6 := hid ho6; have Q6 := hid (HQ.out.below hb6); have P6 := hid (HO.out.below hb6); have e0 := box1 Q6.out.b0; have e1 := box1 Q6.out.b1; have fs : ∀ z, w6.frozen? ⟨w.heap.size + 1, z, none⟩ = false := frz1 Q6.out.b1; clear hg6 ho6 hb6)
      have hz := heap_setCell_same w6 (w.heap.size + 1) 0 _ _ (.slice p6 (gneL M []).length c6) Q6.out.b1
      have hc9 := box1 hz
      have F := hid (wk_end HS.out Q6.out O6.out ZQ.out P6.out)
      refine bodyPost_ret (v := .tuple #[.agg #[.slice p6 (gneL M []).length c6], .slice (some ⟨w.heap.size + 1 + 1, 0, none⟩) 0 0]) (by simp [results, Try.results37, go_sem, hc9]) rfl ?_
      rw [RX.out]
      exact ⟨_, _, _, rfl, F.out⟩
    · have hn2 : ¬ (0 : Int) < (n : Int) := by omega
      go_wp2_with (go_at_call 54; refine (GO.out _ _ HQ.out.bl (HO.out.gs KW_ok.len)).mono ?_; rintro e w6 ⟨v6, rfl, hg6, ho6, hb6⟩; obtain ⟨p6, c6, hv6⟩ := hg6.form; subst hv6; have O6 := hid ho6; have Q6 := hid (HQ.out.below hb6); have P6 := hid (HO.out.below hb6); have e0 := box1 Q6.out.b0; have e1 := box1 Q6.out.b1; have fs : ∀ z, w6.frozen? ⟨w.heap.size + 1, z, none⟩ = false := frz1 Q6.out.b1; clear hg6 ho6 hb6)
      have hz := heap_setCell_same w6 (w.heap.size + 1) 0 _ _ (.slice p6 (gneL M []).length c6) Q6.out.b1
      have hc9 := box1 hz
      have F := hid (wk_end HS.out Q6.out O6.out ZQ.out P6.out)
      refine bodyPost_ret (v := .tuple #[.agg #[.slice p6 (gneL M []).length c6], .slice (some ⟨w.heap.size + 1 + 1, 0, none⟩) 0 0]) (by simp [results, Try.results37, go_sem, hc9]) rfl ?_
      rw [RX.out]
      exact ⟨_, _, _, rfl, F.out⟩
/-- A block of rows of waiters, all else as it was. -/
structure SP (w : World) (g c : Nat) (wk : World) : Prop where
  b : ∃ cur : Array Value, wk.heap[g]? = some (.cells cur 30 (0, 0)) ∧ cur.size = c * 4
  k : But (fun x => x = g) w wk
theorem SP.four {w wk : World} {g c i : Nat} (h : SP w g c wk) (hi : i < c) (x0 x1 x2 x3 : Value) : (∃ u0 u1 u2 u3, wk.cell? ⟨g, i * 4, none⟩ = some u0 ∧ wk.cell? ⟨g, i * 4 + 1, none⟩ = some u1 ∧ wk.cell? ⟨g, i * 4 + 2, none⟩ = some u2 ∧ wk.cell? ⟨g, i * 4 + 3, none⟩ = some u3) ∧ (∀ o, wk.frozen? ⟨g, o, none⟩ = false) ∧ SP w g c ((((wk.setCell ⟨g, i * 4, none⟩ x0).setCell ⟨g, i * 4 + 1, none⟩ x1).setCell ⟨g, i * 4 + 2, none⟩ x2).setCell ⟨g, i * 4 + 3, none⟩ x3) := by
  obtain ⟨⟨cur, hb, hz⟩, hk⟩ := h
  have e : ∀ j, j < c * 4 → ∃ u, wk.cell? ⟨g, j, none⟩ = some u := fun j hj => ⟨cur[j]'(by omega), by rw [cell_of_row _ _ _ _ _ _ hb, Array.getElem?_eq_getElem]⟩
  obtain ⟨u0, e0⟩ := e (i * 4) (by omega)
  obtain ⟨u1, e1⟩ := e (i * 4 + 1) (by omega)
  obtain ⟨u2, e2⟩ := e (i * 4 + 2) (by omega)
  obtain ⟨u3, e3⟩ := e (i * 4 + 3) (by omega)
  refine ⟨⟨u0, u1, u2, u3, e0, e1, e2, e3⟩, frz1 hb, ⟨⟨_, heap_setCell_same _ g _ _ _ x3 (heap_setCell_same _ g _ _ _ x2 (heap_setCell_same _ g _ _ _ x1 (heap_setCell_same _ g _ _ _ x0 hb))), by simp [hz]⟩, ?_⟩⟩
  have f : ∀ (W : World) (o : Nat) (v : Value) y, y ≠ g → (W.setCell ⟨g, o, none⟩ v).heap[y]? = W.heap[y]? := fun W o v y hy => Below.heap_setCell _ _ _ _ hy
  refine ⟨hk.os, hk.tape, hk.output, by have := hk.size; simp; omega, fun y hy hn => ?_⟩
  rw [f _ _ _ _ hn, f _ _ _ _ hn, f _ _ _ _ hn, f _ _ _ _ hn]
  exact hk.block y hy hn
set_option maxHeartbeats 8000000 in
theorem spoil_own (g n c : Nat) (M : List Wt) (w : World) (base : Nat) (h : OwnG KW w base (.slice (some ⟨g, 0, none⟩) n c) M) : Calls Try.prog 19 #[.slice (some ⟨g, 0, none⟩) n c] w fun e w' => e = .returned (.tuple #[]) ∧ But (fun x => x = g) w w' := by
  have H0 : n ≤ c ∧ c ≤ maxLen ∧ SP w g c w := by
    rcases h.2 with ⟨e, _⟩ | ⟨g', cap, cur, e, _, hb, h1, h2, h3, _⟩
    · cases e
    · injection e with e1 e2 e3
      injection e1 with e1
      injection e1 with e1
      subst e1 e2 e3
      exact ⟨h1, h2, ⟨cur, hb, h3⟩, But.refl _ _⟩
  obtain ⟨h1, h2, S0⟩ := H0
  have HS := hid S0
  unfold maxLen at h2
  clear h S0
  go_enter Try.func19, Try.ntmps19
  go_wp2_with fail
  go_loopw [2] (fun v2 wr => ∃ (k : Nat) (wk : World), v2 = .int .i64 k ∧ wk = wr ∧ k ≤ c ∧ Hid (SP w g c wk)) (fun v2 _ => c - (intOf v2).toNat)
  case atStart => exact ⟨0, _, rfl, rfl, Nat.zero_le _, HS⟩
  case round =>
    obtain ⟨k, wr, rfl, rfl, hk, HK⟩ := hrel
    clear HS
    by_cases hlt : k < c
    · obtain ⟨⟨u0, u1, u2, u3, e0, e1, e2, e3⟩, fz, hs⟩ := HK.out.four hlt (.int .i64 (-7)) (.int .i64 0) (.string ByteArray.empty) (.string ByteArray.empty)
      have HS2 := hid hs
      clear hs
      go_wp2_with fail
      go_roundw
      case rel => exact ⟨k + 1, _, by go_num, rfl, by omega, HS2⟩
      case measure => simp [intOf]; omega
    · obtain rfl : k = c := by omega
      have F := hid HK.out.k
      go_wp2_with fail
      go_end0
      exact ⟨rfl, F.out⟩
end Go.Proofs.Ytofdfofpdfaimaa
