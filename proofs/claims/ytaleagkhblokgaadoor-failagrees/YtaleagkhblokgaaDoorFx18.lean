/- Failures: Deep, both sides, whatever the failure; the law FailChecks. -/
import Derived.Test.YtaleagkhblokgaaDoorFx16
import Derived.BigRegion
namespace Go.Proofs.YtaleagkhblokgaaDoor
open Go.RowKit

set_option maxHeartbeats 4000000 in
set_option maxRecDepth 100000 in
theorem deep_ok (v : Value) (l : List Cr) (w : World) (h : CS w v l) (ht : ∀ c ∈ l, c.text.size ≤ maxLen) (hv : FV w) (hc : chk l = 0) :
    Calls Tryd.prog 35 #[v] w fun e w' => e = .returned (.tuple #[.int .i64 (deepV l), .int .i64 0]) ∧ Below w.heap.size w w' := by
  obtain ⟨hl, hw⟩ := chk_ok hc
  have CK := check_any v l w h ht hv (by omega)
  rw [hc] at CK
  obtain ⟨hl0, HD0⟩ := deepV_dK hc
  have HD : Hid _ := HD0
  obtain ⟨p, cap, rfl⟩ := h.form
  have HW : ∀ w', Below w.heap.size w w' → _ := fun w' B => wholes_any (.slice p l.length cap) l w' (h.below B) hc
  have HWH : Hid _ := HW
  clear HW HD0 h ht hv hc hw
  generalize deepV l = dv at *
  go_enter Tryd.func35, Tryd.ntmps35
  go_wp2_with (first | (go_at_call 31; refine CK.mono ?_; rintro e w1 ⟨rfl, hb1⟩; have HB1 : Hid (Below w.heap.size w w1) := hb1; clear hb1) | (at_make; refine make_int _ rfl _ _ 25 rfl Tryd.underlying25 info_int l.length rfl rfl (by omega) ?_; intro w2 cur hc2 hn2 hb2; have HB2 : Hid (Below w.heap.size w w2) := HB1.out.trans (hb2.mono HB1.out.size)) | (go_at_call 36; refine (HWH.out _ HB2.out).mono ?_; rintro e w3 ⟨rfl, hb3, hwb, hwc⟩))
  have GL : Hid (w1.heap.size < w2.heap.size) := (Array.getElem?_eq_some_iff.1 hc2).1
  have D0 : Hid (DD w3 w3 w1.heap.size l.length (dK (whA l) 0)) := ⟨rfl, rfl, rfl, Nat.le_refl _, Nat.lt_of_lt_of_le GL.out hb3.size, fun _ _ _ => rfl, ⟨cur, (hb3.block _ GL.out).trans hc2, hn2⟩, fun j hj => by simp [dK, dW] at hj⟩
  have HWC : Hid (∀ (j : Nat), j < l.length → WC w3 w2.heap.size j (Value.slice none 0 0) ((whA l).getD j (0, []))) := hwc
  have HB3 : Hid (Below w.heap.size w w3) := HB2.out.trans (hb3.mono HB2.out.size)
  have HWL : Hid (w2.heap.size < w3.heap.size) := hwb.lt
  have HLA : Hid ((whA l).length = l.length) := whA_len l
  have HPB : Hid (PB (whA l)) := whA_PB l
  have HG0 : Hid (w.heap.size ≤ w1.heap.size) := HB1.out.size
  obtain ⟨A, hA⟩ : ∃ A, A = whA l := ⟨_, rfl⟩
  rw [← hA] at D0 HWC HLA HPB HD
  clear hwc hwb hb3 hc2 hn2 hb2 CK HWH HB2 HB1 hA cur
  obtain ⟨g, hg⟩ : ∃ g, g = w1.heap.size := ⟨_, rfl⟩
  obtain ⟨gW, hgW⟩ : ∃ gW, gW = w2.heap.size := ⟨_, rfl⟩
  rw [← hg] at D0 HG0 GL ⊢
  rw [← hgW] at HWC HWL GL ⊢
  clear hg hgW w1 w2
  go_loopw [21] (fun v21 wr => ∃ (k : Nat) (wk : World), v21 = .int .i64 k ∧ wk = wr ∧ k ≤ l.length ∧ Hid (DD w3 wk g l.length (dK A k))) (fun v21 _ => l.length - (intOf v21).toNat)
  case atStart => exact ⟨0, _, rfl, rfl, Nat.zero_le _, D0⟩
  case round =>
    obtain ⟨k, wr, rfl, rfl, hk, HI⟩ := hrel
    clear D0
    by_cases hlt : k < l.length
    · obtain ⟨vp, c0, c1, hIS, hx⟩ := HWC.out k hlt
      have hz := HI.out.size
      have hgl := HI.out.lt
      have hgw := GL.out
      have hwl := HWL.out
      have kb : wr.heap[gW]? = w3.heap[gW]? := HI.out.block gW hwl (by omega)
      have d0 := (World.cell?_of_block (w := w3) (w' := wr) (a := ⟨gW, k * 2, none⟩) kb).trans c0
      have d1 := (World.cell?_of_block (w := w3) (w' := wr) (a := ⟨gW, k * 2 + 1, none⟩) kb).trans c1
      obtain ⟨pp, cp, rfl⟩ := hIS.form
      obtain ⟨z0, hz0⟩ := HI.out.got hlt
      obtain ⟨f, hf⟩ : ∃ f, f = (A.getD k (0, [])).1 := ⟨_, rfl⟩
      obtain ⟨P, hP⟩ : ∃ P, P = (A.getD k (0, [])).2 := ⟨_, rfl⟩
      rw [← hf] at d0
      rw [← hP] at d1 hIS hx
      have HP : Hid (P = (A.getD k (0, [])).2) := hP
      have az : ∀ ob, (wr.alloc ob).cell? ⟨g, k, none⟩ = some z0 := fun ob => (((Below.refl _ wr).alloc (Nat.le_refl _) ob).cell (p := ⟨g, k, none⟩) (show g < wr.heap.size by omega)).trans hz0
      have af : ∀ ob, (wr.alloc ob).frozen? ⟨g, k, none⟩ = false := fun ob => (HI.out.alloc ob).frozen k
      have gne : Hid (g ≠ wr.heap.size) := by show g ≠ wr.heap.size; omega
      have ab : ∀ ob v, ((wr.alloc ob).setCell ⟨g, k, none⟩ v).cell? ⟨wr.heap.size, 1, none⟩ = (wr.alloc ob).cell? ⟨wr.heap.size, 1, none⟩ := fun ob v => World.cell?_setCell_other _ _ _ _ (by intro e; injection e with e1 _ _; exact gne.out e1)
      have hPl : P.length ≤ 1024 := by have := (HPB.out k (by rw [HLA.out]; exact hlt)).1; rw [← hP] at this; omega
      have HIS : Hid (IS w3 (.slice pp P.length cp) P) := hIS
      have HX : Hid (∀ x, (Value.slice pp P.length cp).ownBlock = some x → gW < x) := fun x h => (hx x h).1
      clear hf hP c0 c1 hIS hx hz0 kb
      go_wp2
      have J0 : Hid (∀ ob, DD w3 ((wr.alloc ob).setCell ⟨g, k, none⟩ (.int .i64 1)) g l.length (dK A k ++ [dJ A k 0])) := fun ob => by
        rw [dJ_zero]; exact (HI.out.alloc ob).set hlt (dK_len (by rw [HLA.out]; omega)) 1
      clear az af ab d0 d1
      go_loopw [32] (fun v32 wr => ∃ (j : Nat) (wj : World), v32 = .int .i64 j ∧ wj = wr ∧ j ≤ P.length ∧ Hid (DD w3 wj g l.length (dK A k ++ [dJ A k j]))) (fun v32 _ => P.length - (intOf v32).toNat)
      case atStart => exact ⟨0, _, rfl, rfl, Nat.zero_le _, J0.out _⟩
      case round =>
        obtain ⟨j, wj, rfl, rfl, hj, HJ⟩ := hrel
        clear J0
        by_cases hjl : j < P.length
        · obtain ⟨q, y, hq, hqk, hy, hy1, hy2, hd, hd1, hd2⟩ := dJ_succ HPB.out (k := k) (j := j) (by rw [HLA.out]; exact hlt) (by rw [← HP.out]; exact hjl)
          rw [← HP.out] at hq
          obtain ⟨X, o, rfl, hcj⟩ := HIS.out.at hjl
          rw [hq] at hcj
          have hXl := block_lt_of_cell hcj
          have hXg := HX.out X rfl
          have cj : wj.cell? ⟨X, o + j, none⟩ = some (.int .i64 q) := (World.cell?_of_block (w := w3) (w' := wj) (a := ⟨X, o + j, none⟩) (HJ.out.block X hXl (by omega))).trans hcj
          have hDl : (dK A k).length = k := dK_len (by rw [HLA.out]; omega)
          have ck : wj.cell? ⟨g, k, none⟩ = some (.int .i64 (dJ A k j)) := HJ.out.last hDl
          have cq : wj.cell? ⟨g, q, none⟩ = some (.int .i64 y) := by rw [HJ.out.less.cell q (by rw [hDl]; exact hqk), hy]
          have fz := HJ.out.frozen k
          have HN : Hid (dJ A k (j + 1) = max (dJ A k j) (1 + y)) := hd
          have SET : Hid (∀ x, x = dJ A k (j + 1) → DD w3 ((wj.setCell ⟨g, k, none⟩ (.int .i64 x)).drew) g l.length (dK A k ++ [dJ A k (j + 1)])) := fun x hx => hx ▸ (HJ.out.less.set hlt hDl _).drew1
          generalize dJ A k j = x at *
          clear hd hy hcj hq
          go_wp2
          have hql : q < l.length := by omega
          clear HI HIS HX HWC HD HB3 HPB HLA HG0 GL HWL HP gne hqk hXl hXg hgw hwl hgl hz hDl
          go_region
          go_wp2
          go_roundw
          case rel => exact ⟨j + 1, _, by go_num, rfl, by omega, SET.out _ (by rw [HN.out]; split <;> omega)⟩
          case measure => simp [intOf]; omega
        · have hje : j = P.length := by omega
          have NXT : Hid (DD w3 wj g l.length (dK A (k + 1))) := by
            show DD _ _ _ _ _
            have h1 := HJ.out
            rw [hje, HP.out, dJ_all (by rw [HLA.out]; exact hlt)] at h1
            exact h1
          clear HJ hje
          go_wp2
          go_roundw
          case rel => exact ⟨k + 1, _, by go_num, rfl, by omega, NXT⟩
          case measure => simp [intOf]; omega
    · have hke : k = l.length := by omega
      obtain ⟨n, hn⟩ : ∃ n, l.length = n + 1 := ⟨l.length - 1, by omega⟩
      have hni : ((n + 1 : Nat) : Int) - 1 = (n : Int) := by omega
      have cl : wr.cell? ⟨g, n, none⟩ = some (.int .i64 dv) := by
        have h1 := HI.out.cell n (by rw [dK_len (by rw [HLA.out]; exact hk)]; omega)
        have h2 := HD.out
        rw [hn] at h2
        rw [h1, hke, hn]
        exact congrArg (fun z => some (Value.int .i64 z)) h2
      have FIN : Hid (Below w.heap.size w wr) := HB3.out.trans (HI.out.below HG0.out)
      clear HI HD HWC HPB HLA hl0 hk
      subst hke
      rw [hn] at hlt hl ⊢
      go_wp2
      go_ret2
      exact ⟨rfl, FIN.out⟩
end Go.Proofs.YtaleagkhblokgaaDoor
namespace Go.Proofs.YtaleagkhblokgaaDoor
open Go.RowKit

def deepA (l : List Cr) : Int := if chk l = 0 then deepV l else 0
set_option maxRecDepth 100000 in
theorem deep_any (v : Value) (l : List Cr) (w : World) (h : CS w v l) (ht : ∀ c ∈ l, c.text.size ≤ maxLen) (hv : FV w) (hlm : l.length ≤ 1000000000000000) :
    Calls Tryd.prog 35 #[v] w fun e w' => e = .returned (.tuple #[.int .i64 (deepA l), .int .i64 (chk l)]) ∧ Below w.heap.size w w' := by
  by_cases hc : chk l = 0
  · unfold deepA; rw [if_pos hc, hc]; exact deep_ok v l w h ht hv hc
  · have CK := check_any v l w h ht hv hlm
    unfold deepA; rw [if_neg hc]
    generalize chk l = c at *
    have h1 : (c == 0) = false := by simpa using hc
    have h2 : (c != 0) = true := by simpa using hc
    clear h ht hv
    go_enter Tryd.func35, Tryd.ntmps35
    go_wp2_with (go_at_call 31; refine CK.mono ?_; rintro e w1 ⟨rfl, hb1⟩)
    go_ret2
    exact ⟨rfl, hb1⟩
end Go.Proofs.YtaleagkhblokgaaDoor
