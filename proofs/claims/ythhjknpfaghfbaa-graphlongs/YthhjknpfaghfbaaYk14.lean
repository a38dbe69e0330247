/- Graph: the document's Longest, whole; the law GraphLongs. -/
import Derived.Test.YthhjknpfaghfbaaYk13
import Derived.Test.YthhjknpfaghfbaaYh6
namespace Go.Proofs.Ythhjknpfaghfbaa
open Go.RowKit

theorem nw_first {l : List Int} (h : l.any nwB = true) : ∃ k, ∃ hk : k < l.length, nwB l[k] = true ∧ ∀ j (hj : j < l.length), j < k → nwB l[j] = false := by
  cases hf : l.findIdx? nwB with
  | none =>
    rw [List.findIdx?_eq_none_iff] at hf
    obtain ⟨x, hx, e⟩ := List.any_eq_true.1 h
    rw [hf x hx] at e
    cases e
  | some k =>
    obtain ⟨h1, h2, h3⟩ := List.findIdx?_eq_some_iff_getElem.1 hf
    exact ⟨k, h1, h2, fun j hj q => by have := h3 j q; simpa using this⟩
theorem nw_no {y : Int} (h : nwB y = false) : 0 ≤ y ∧ y ≤ 1099511627776 := by
  unfold nwB at h
  rw [Bool.or_eq_false_iff, decide_eq_false_iff_not, decide_eq_false_iff_not] at h
  omega
theorem nw_yes {y : Int} (h : nwB y = true) : y < 0 ∨ (¬ y < 0 ∧ 1099511627776 < y) := by
  unfold nwB at h
  rw [Bool.or_eq_true, decide_eq_true_iff, decide_eq_true_iff] at h
  omega
set_option maxRecDepth 100000 in
set_option maxHeartbeats 32000000 in
theorem rLongest_any (w : World) (n : Int) (v : Value) (l : List (Int × Int)) (hv : GS KE w v l) (u : Value) (ws : List Int) (hu : GS KI w u ws) : Calls Try.prog 12 #[.agg #[.int .i64 n, v], u] w fun e w' => AnsW w (lgS n l ws) (lgA n l ws) (lgE n l ws) e w' := by
  obtain ⟨p, c, rfl⟩ := hv.form
  obtain ⟨pu, cu, rfl⟩ := hu.form
  by_cases hr0 : chkG n l = 0 ∧ wtB n ws = true ∧ rnL n.toNat (eN l) = []
  · obtain ⟨h0, hw, hr⟩ := hr0
    obtain ⟨N, E, rfl, rfl, hg⟩ := chkG_ok h0
    rw [eN_eI, Int.toNat_natCast] at hr
    obtain ⟨e1, e2, e3⟩ := lg_yes hg hw hr
    rw [e1, e2, e3, eI_len]
    rw [eI_len] at hv
    exact rLongest_main w N E hg p c hv pu cu ws hu hw hr
  generalize hW : w.alloc (.cells #[.int .i64 n, .slice p l.length c] 24) = W
  obtain ⟨bw, c0⟩ := graph_box w n p l.length c hW
  have BW := hid bw
  have C0 := hid c0
  have CK := hid (rcheck_any W n _ l (hv.below bw))
  obtain ⟨d0, d1⟩ := c0 W (Below.refl _ _)
  have GU := hid (fun W' (hb : Below W.heap.size W W') k (hk : k < ws.length) => (hu.below (bl3 bw hb)).atI hk)
  clear c0 hu
  by_cases h0 : chkG n l = 0
  · obtain ⟨N, E, rfl, rfl, hg⟩ := chkG_ok h0
    rw [h0] at CK
    have NB : N ≤ 4096 := hg.n
    by_cases hl : (ws.length : Int) = N
    · have hl2 : ws.length = N := by omega
      cases hw : ws.any nwB with
      | true =>
        have e1 : lgE N (eI E) ws = 1 := lg_wt h0 (by rw [wt_any hl, hw]; rfl)
        obtain ⟨e2, e3⟩ := lg_no (n := (N : Int)) (e := eI E) (ws := ws) (by rw [e1]; decide)
        rw [e1, e2, e3]
        obtain ⟨m, hm, m1, m2⟩ := nw_first hw
        have M1 := hid m1
        have M2 := hid m2
        have WL : Hid (ws.length = N) := hl2
        rw [eI_len] at C0 CK d1 hW ⊢
        generalize E.length = el at *
        rw [hl2] at hm ⊢
        clear h0 hg hw hv hl hl2 hr0 e1 e2 e3 m1 m2 bw
        go_enter Try.func12, Try.ntmps12
        go_upto_region 6 with (go_at_call 37; refine CK.out.mono ?_; rintro e w6 ⟨rfl, hb6⟩; have B6 := hid hb6; obtain ⟨g0, g1⟩ := C0.out _ hb6; clear hb6)
        clear CK d0 d1
        go_wp2_with fail
        go_loopw [8] (fun v8 wr => ∃ (k : Nat), v8 = .int .i64 k ∧ w6 = wr ∧ k ≤ m) (fun v8 _ => N - (intOf v8).toNat)
        case atStart => exact ⟨0, rfl, rfl, Nat.zero_le _⟩
        case round =>
          obtain ⟨k, rfl, rfl, hk⟩ := hrel
          have k1 : k < ws.length := by have := WL.out; omega
          obtain ⟨Z, o, e1, c1⟩ := GU.out w6 B6.out k k1
          subst e1
          have hki : (k : Int) < (N : Nat) := by omega
          have hkn : k < N := by omega
          by_cases hlt : k < m
          · obtain ⟨y1, y2⟩ := nw_no (M2.out k k1 hlt)
            generalize ws[k] = y at *
            have h1 : ¬ y < 0 := by omega
            have h2 : ¬ 1099511627776 < y := by omega
            go_wp2_with fail
            go_roundw
            case rel => exact ⟨k + 1, by go_num, by first | rfl | trivial, by omega⟩
            case measure => simp [intOf]; omega
          · obtain rfl : k = m := by omega
            rcases nw_yes M1.out with y1 | ⟨y1, y2⟩
            · generalize ws[k] = y at *
              clear M1 M2
              go_wp2_with fail
              go_ret3
              exact AnsW.none (bl3 BW.out B6.out)
            · generalize ws[k] = y at *
              clear M1 M2
              go_wp2_with fail
              go_ret3
              exact AnsW.none (bl3 BW.out B6.out)
      | false =>
        have hwt : wtB N ws = true := by rw [wt_any hl, hw]; rfl
        have hr : rnL N E ≠ [] := fun q => hr0 ⟨h0, hwt, by rw [eN_eI, Int.toNat_natCast]; exact q⟩
        have e1 : lgE N (eI E) ws = 150 := lg_not hg hwt hr
        obtain ⟨e2, e3⟩ := lg_no (n := (N : Int)) (e := eI E) (ws := ws) (by rw [e1]; decide)
        rw [e1, e2, e3]
        have OR := hid (fun W' (hb : Below W.heap.size W W') => rOrder_any W' N _ (eI E) ((hv.below BW.out).below hb))
        rw [(orE_not hg hr).1, (orE_not hg hr).2] at OR
        unfold AnsI at OR
        have M2 := hid (fun k (hk : k < ws.length) => nw_no (by
          have := List.any_eq_false.1 hw _ (List.getElem_mem hk)
          simpa using this))
        have WL : Hid (ws.length = N) := hl2
        rw [eI_len] at C0 CK d1 hW OR ⊢
        generalize E.length = el at *
        rw [hl2]
        clear h0 hg hw hv hl hl2 hr0 e1 e2 e3 hr hwt bw
        go_enter Try.func12, Try.ntmps12
        go_upto_region 6 with (go_at_call 37; refine CK.out.mono ?_; rintro e w6 ⟨rfl, hb6⟩; have B6 := hid hb6; obtain ⟨g0, g1⟩ := C0.out _ hb6; clear hb6)
        clear CK d0 d1
        go_wp2_with fail
        go_loopw [8] (fun v8 wr => ∃ (k : Nat), v8 = .int .i64 k ∧ w6 = wr ∧ k ≤ N) (fun v8 _ => N - (intOf v8).toNat)
        case atStart => exact ⟨0, rfl, rfl, Nat.zero_le _⟩
        case round =>
          obtain ⟨k, rfl, rfl, hk⟩ := hrel
          by_cases hlt : k < N
          · have k1 : k < ws.length := by have := WL.out; omega
            obtain ⟨Z, o, e1, c1⟩ := GU.out w6 B6.out k k1
            subst e1
            obtain ⟨y1, y2⟩ := M2.out k k1
            generalize ws[k] = y at *
            have h1 : ¬ y < 0 := by omega
            have h2 : ¬ 1099511627776 < y := by omega
            have hki : (k : Int) < (N : Nat) := by omega
            go_wp2_with fail
            go_roundw
            case rel => exact ⟨k + 1, by go_num, by first | rfl | trivial, by omega⟩
            case measure => simp [intOf]; omega
          · obtain rfl : k = N := by omega
            clear M2
            go_wp2_with (go_at_call 38; refine (OR.out _ B6.out).mono ?_; rintro e w8 ⟨q8, c8, rfl, _, hb8⟩; have B8 := hid (bl3 B6.out hb8); clear hb8)
            go_ret3
            exact AnsW.none (bl3 BW.out B8.out)
    · have e1 : lgE N (eI E) ws = 1 := lg_wt h0 (wt_len hl)
      obtain ⟨e2, e3⟩ := lg_no (n := (N : Int)) (e := eI E) (ws := ws) (by rw [e1]; decide)
      rw [e1, e2, e3]
      rw [eI_len] at C0 CK d1 hW ⊢
      generalize E.length = m at *
      clear GU
      generalize ws.length = k at *
      have b1 : ((k : Int) != (N : Int)) = true := by simp; omega
      clear h0 hg hv hr0 e1 e2 e3
      go_enter Try.func12, Try.ntmps12
      go_wp2_with (go_at_call 37; refine CK.out.mono ?_; rintro e w6 ⟨rfl, hb6⟩; have B6 := hid hb6; obtain ⟨g0, g1⟩ := C0.out _ hb6; clear hb6)
      go_ret3
      exact AnsW.none (bl3 BW.out B6.out)
  · have e1 : lgE n l ws = chkG n l := lg_bad h0
    obtain ⟨e2, e3⟩ := lg_no (n := n) (e := l) (ws := ws) (by rw [e1]; exact h0)
    rw [e1, e2, e3]
    generalize chkG n l = r at *
    have b1 : (r != 0) = true := by simp [h0]
    clear e1 e2 e3 hr0 GU
    go_enter Try.func12, Try.ntmps12
    go_wp2_with (go_at_call 37; refine CK.out.mono ?_; rintro e w6 ⟨rfl, hb6⟩; have B6 := hid hb6; clear hb6)
    go_ret3
    exact AnsW.none (bl3 BW.out B6.out)
end Go.Proofs.Ythhjknpfaghfbaa
