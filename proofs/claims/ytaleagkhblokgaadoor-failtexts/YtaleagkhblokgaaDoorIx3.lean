/- Failures: Is, both sides. -/
import Derived.Test.YtaleagkhblokgaaDoorIx2
import Derived.Test.YtaleagkhblokgaaDoorGx3
namespace Go.Proofs.YtaleagkhblokgaaDoor
open Go.RowKit

/-- The sub-failure that ends at a place. -/
def subL (l : List Cr) (j : Nat) : List Cr := (l.drop (frA (whA l) j).toNat).take (j + 1 - (frA (whA l) j).toNat)
def isV (l m : List Cr) : Bool := (List.range l.length).any fun j => eqC (subL l j) m
def isE (l m : List Cr) : Int := if chk l = 0 then chk m else chk l
def isB (l m : List Cr) : Bool := decide (isE l m = 0) && isV l m
theorem isV_hit {l m : List Cr} {j : Nat} (hj : j < l.length) (h : eqC (subL l j) m = true) : isV l m = true := by
  unfold isV; rw [List.any_eq_true]; exact ⟨j, List.mem_range.2 hj, h⟩
theorem isV_miss {l m : List Cr} (h : ∀ j, j < l.length → eqC (subL l j) m = false) : isV l m = false := by
  unfold isV; rw [List.any_eq_false]; intro j hj; rw [h j (List.mem_range.1 hj)]; simp
def AnsB (w w' : World) (e : Ending) (b : Bool) (x : Int) : Prop := e = .returned (.tuple #[.bool b, .int .i64 x]) ∧ Below w.heap.size w w'
set_option maxHeartbeats 4000000 in
set_option maxRecDepth 100000 in
theorem is_any (v u : Value) (l m : List Cr) (w : World) (h : CS w v l) (h' : CS w u m) (ht : ∀ c ∈ l, c.text.size ≤ maxLen) (ht' : ∀ c ∈ m, c.text.size ≤ maxLen) (hlm : l.length ≤ 1000000000000000) (hmm : m.length ≤ 1000000000000000) (hv : FV w) :
    Calls Tryd.prog 20 #[v, u] w fun e w' => AnsB w w' e (isB l m) (isE l m) := by
  have CK := check_any v l w h ht hv hlm
  have CM : Hid (∀ w', Below w.heap.size w w' → _) := fun w' b => check_any u m w' (h'.below b) ht' (hv.below b) hmm
  obtain ⟨p, cap, rfl⟩ := h.form
  obtain ⟨p', cap', rfl⟩ := h'.form
  by_cases hc : chk l = 0
  · by_cases hd : chk m = 0
    · have e1 : isE l m = 0 := by unfold isE; rw [if_pos hc, hd]
      have e2 : isB l m = isV l m := by unfold isB; rw [e1]; simp
      rw [e1, e2]
      rw [hc] at CK
      rw [hd] at CM
      have WH : Hid (∀ w', Below w.heap.size w w' → _) := fun w' b => wholes_any (.slice p l.length cap) l w' (h.below b) hc
      have hl := (chk_ok hc).1
      have HS : Hid (CS w (.slice p l.length cap) l) := h
      have HT : Hid (CS w (.slice p' m.length cap') m) := h'
      have FB : Hid (∀ j, j < l.length → 0 ≤ frA (whA l) j ∧ frA (whA l) j ≤ j) := fun j hj => whA_fb hj
      have HH : Hid (∀ j, j < l.length → eqC (subL l j) m = true → isV l m = true) := fun j => isV_hit
      have HM : Hid ((∀ j, j < l.length → eqC (subL l j) m = false) → isV l m = false) := isV_miss
      generalize isV l m = r at *
      clear h h' ht ht' hv e1 e2 hc hd
      go_enter Tryd.func20, Tryd.ntmps20
      go_wp2_with fail
      refine CK.mono ?_
      rintro e w1 ⟨rfl, hb1⟩
      have B1 : Hid (Below w.heap.size w w1) := hb1
      clear hb1 CK
      go_wp2_with fail
      refine (CM.out _ B1.out).mono ?_
      rintro e w2 ⟨rfl, hb2⟩
      have B2 : Hid (Below w.heap.size w w2) := B1.out.trans (hb2.mono B1.out.size)
      clear hb2 B1
      go_wp2_with fail
      refine (WH.out _ B2.out).mono ?_
      rintro e w3 ⟨rfl, hb3, hwb, hwc⟩
      have B3 : Hid (Below w.heap.size w w3) := B2.out.trans (hb3.mono B2.out.size)
      have HWC : Hid (∀ (j : Nat), j < l.length → w3.cell? ⟨w2.heap.size, j * 2, none⟩ = some (.int .i64 (frA (whA l) j)) ∧ ∃ pp np cp, w3.cell? ⟨w2.heap.size, j * 2 + 1, none⟩ = some (.slice pp np cp)) := fun j hj => by
        obtain ⟨vp, c0, c1, hi, _⟩ := hwc j hj
        obtain ⟨pp, cp, rfl⟩ := hi.form
        exact ⟨c0, pp, _, cp, c1⟩
      have HG : Hid (w2.heap.size < w3.heap.size) := hwb.lt
      clear hb3 hwb hwc B2
      obtain ⟨g, hg⟩ : ∃ g, g = w2.heap.size := ⟨_, rfl⟩
      rw [← hg] at HWC HG ⊢
      clear hg CM WH
      go_wp2
      go_loopw [23] (fun b wl => ∃ (k : Nat) (wk : World), k ≤ l.length ∧ b = .int .i64 k ∧ wk = wl ∧ Hid (Below w3.heap.size w3 wk) ∧ Hid (∀ j, j < k → eqC (subL l j) m = false)) (fun b _ => l.length - (intOf b).toNat)
      case atStart => exact ⟨0, _, Nat.zero_le _, rfl, rfl, Below.refl _ _, fun j hj => by omega⟩
      case round =>
        obtain ⟨k, wr, hk, rfl, rfl, HB, HN⟩ := hrel
        by_cases hlt : k < l.length
        · obtain ⟨c0, pp, np, cp, c1⟩ := HWC.out k hlt
          have d0 := (HB.out.cell (p := ⟨g, k * 2, none⟩) HG.out).trans c0
          have d1 := (HB.out.cell (p := ⟨g, k * 2 + 1, none⟩) HG.out).trans c1
          have hfb := FB.out k hlt
          obtain ⟨q, hq⟩ : ∃ q : Nat, frA (whA l) k = q := ⟨(frA (whA l) k).toNat, by omega⟩
          have hsub : subL l k = (l.drop q).take (k + 1 - q) := by unfold subL; rw [hq]; rfl
          rw [hq] at d0 hfb
          obtain ⟨X, o, rfl, _⟩ := HS.out.at hlt
          clear c0 c1 hq
          have HSub : Hid (subL l k = (l.drop q).take (k + 1 - q)) := hsub
          clear hsub
          have hqk : q < k + 1 := by omega
          obtain ⟨hcs, hcp, _⟩ := (HS.out.below (B3.out.trans (HB.out.mono B3.out.size))).cut hqk (by omega)
          have hcq : ¬ cap = q := by omega
          have HC : Hid (CS wr (Value.slice (some ⟨X, o + q * 3, none⟩) (k + 1 - q) (cap - q)) ((l.drop q).take (k + 1 - q))) := hcs
          clear hcs
          have EA : Hid (∀ ob, Calls Tryd.prog 39 #[Value.slice (some ⟨X, o + q * 3, none⟩) (k + 1 - q) (cap - q), Value.slice p' m.length cap'] (wr.alloc ob) fun e w' => e = .returned (.bool (eqC (subL l k) m)) ∧ ∃ n, w' = (wr.alloc ob).drewN n) := fun ob => by
            rw [HSub.out]
            exact equal_any _ _ _ _ m (HC.out.below ((Below.refl _ _).alloc (Nat.le_refl _) ob)) (HT.out.below ((B3.out.trans (HB.out.mono B3.out.size)).alloc (B3.out.trans (HB.out.mono B3.out.size)).size ob)) (by simp; omega)
          have BN : Hid (∀ ob n, Below w3.heap.size w3 ((wr.alloc ob).drewN n)) := fun ob n => below_drewN' (HB.out.alloc HB.out.size ob) n
          cases hr : eqC (subL l k) m with
          | true =>
            have hr2 : r = true := HH.out k hlt hr
            rw [hr] at EA
            subst hr2
            clear hr HN HC HSub
            go_wp2_with fail
            refine (EA.out _).mono ?_
            rintro e w4 ⟨rfl, n4, rfl⟩
            go_wp2_with fail
            go_ret2
            exact ⟨rfl, B3.out.trans ((BN.out _ _).mono B3.out.size)⟩
          | false =>
            have HN2 : Hid (∀ j, j < k + 1 → eqC (subL l j) m = false) := fun j hj => by
              by_cases e : j = k
              · subst e; exact hr
              · exact HN.out j (by omega)
            rw [hr] at EA
            clear hr HN HC HSub
            go_wp2_with fail
            refine (EA.out _).mono ?_
            rintro e w4 ⟨rfl, n4, hw4⟩
            have B4 : Hid (Below w3.heap.size w3 w4) := hw4 ▸ BN.out _ _
            clear hw4
            go_wp2_with fail
            go_roundw
            case rel => exact ⟨k + 1, _, by omega, by go_num, rfl, B4, HN2⟩
            case measure => simp [intOf]; omega
        · have hr : r = false := HM.out (fun j hj => HN.out j (by omega))
          have BF : Hid (Below w.heap.size w wr) := B3.out.trans (HB.out.mono B3.out.size)
          subst hr
          clear HN HB
          go_wp2
          go_ret2
          exact ⟨rfl, BF.out⟩
    · have e1 : isE l m = chk m := by unfold isE; rw [if_pos hc]
      have e2 : isB l m = false := by unfold isB; rw [e1]; simp [hd]
      rw [e1, e2]
      rw [hc] at CK
      clear h h' ht ht' hv e1 e2
      generalize chk m = c at *
      have h1 : (c == 0) = false := by simpa using hd
      have h2 : (c != 0) = true := by simpa using hd
      go_enter Tryd.func20, Tryd.ntmps20
      go_wp2_with fail
      refine CK.mono ?_
      rintro e w1 ⟨rfl, hb1⟩
      have B1 : Hid (Below w.heap.size w w1) := hb1
      clear hb1 CK
      go_wp2_with fail
      refine (CM.out _ B1.out).mono ?_
      rintro e w2 ⟨rfl, hb2⟩
      have B2 : Hid (Below w.heap.size w w2) := B1.out.trans (hb2.mono B1.out.size)
      clear hb2 B1
      go_wp2_with fail
      go_ret2
      exact ⟨rfl, B2.out⟩
  · have e1 : isE l m = chk l := by unfold isE; rw [if_neg hc]
    have e2 : isB l m = false := by unfold isB; rw [e1]; simp [hc]
    rw [e1, e2]
    clear h h' ht ht' hv e1 e2 CM
    generalize chk l = c at *
    have h1 : (c == 0) = false := by simpa using hc
    have h2 : (c != 0) = true := by simpa using hc
    go_enter Tryd.func20, Tryd.ntmps20
    go_wp2_with fail
    refine CK.mono ?_
    rintro e w1 ⟨rfl, hb1⟩
    have B1 : Hid (Below w.heap.size w w1) := hb1
    clear hb1 CK
    go_wp2_with fail
    go_ret2
    exact ⟨rfl, B1.out⟩
/-- The reference's begins, of a right failure. -/
theorem rbegins_ok (v : Value) (l : List Cr) (w : World) (h : CS w v l) (ht : ∀ c ∈ l, c.text.size ≤ maxLen) (hc : chk l = 0) :
    Calls Tryd.prog 40 #[v] w fun e w' => ∃ p cap, e = .returned (.tuple #[.slice p l.length cap, .bool true]) ∧ OwnI w' w.heap.size (.slice p l.length cap) ((whA l).map (·.1)) ∧ Below w.heap.size w w' := by
  obtain ⟨hl, hw⟩ := chk_ok hc
  have BG := begins_any v l w h ht hl
  have hbg := chk_beg l hl
  rw [hc] at hbg
  obtain ⟨F, hF⟩ : ∃ F, F = (whA l).map (·.1) := ⟨_, rfl⟩
  have hFl : F.length = l.length := by rw [hF, List.length_map, whA_len]
  rw [← hF]
  refine Calls.mono BG ?_
  rintro e w' ⟨hb1, ⟨hno, _⟩ | ⟨q2, p1, c1, hq2, rfl, ho1⟩⟩
  · rw [hno] at hbg; simp at hbg
  · rw [hq2] at hbg
    have e1 := beg_whA hq2
    rw [← hF] at e1
    have e2 : q2.2.length = 1 := by
      simp only at hbg
      split at hbg
      · rename_i hh; exact hh
      · omega
    rw [e1, hFl] at ho1
    rw [e1, hFl, e2]
    exact ⟨p1, c1, rfl, ho1, hb1⟩
theorem frow_at {l : List Cr} {j : Nat} (hj : j < l.length) : ((whA l).map (·.1)).getD j 0 = frA (whA l) j := by
  unfold frA
  have : j < (whA l).length := by rw [whA_len]; exact hj
  simp [List.getD, List.getElem?_eq_getElem this]
set_option maxHeartbeats 4000000 in
set_option maxRecDepth 100000 in
theorem ris_any (v u : Value) (l m : List Cr) (w : World) (h : CS w v l) (h' : CS w u m) (ht : ∀ c ∈ l, c.text.size ≤ maxLen) (ht' : ∀ c ∈ m, c.text.size ≤ maxLen) (hlm : l.length ≤ 1000000000000000) (hmm : m.length ≤ 1000000000000000) :
    Calls Tryd.prog 21 #[v, u] w fun e w' => AnsB w w' e (isB l m) (isE l m) := by
  have CK := rcheck_any v l w h ht hlm
  have CM : Hid (∀ w', Below w.heap.size w w' → _) := fun w' b => rcheck_any u m w' (h'.below b) ht' hmm
  obtain ⟨p, cap, rfl⟩ := h.form
  obtain ⟨p', cap', rfl⟩ := h'.form
  by_cases hc : chk l = 0
  · by_cases hd : chk m = 0
    · have e1 : isE l m = 0 := by unfold isE; rw [if_pos hc, hd]
      have e2 : isB l m = isV l m := by unfold isB; rw [e1]; simp
      rw [e1, e2]
      rw [hc] at CK
      rw [hd] at CM
      have WH : Hid (∀ w', Below w.heap.size w w' → _) := fun w' b => rbegins_ok (.slice p l.length cap) l w' (h.below b) ht hc
      have hl := (chk_ok hc).1
      have HS : Hid (CS w (.slice p l.length cap) l) := h
      have HT : Hid (CS w (.slice p' m.length cap') m) := h'
      have FB : Hid (∀ j, j < l.length → 0 ≤ frA (whA l) j ∧ frA (whA l) j ≤ j) := fun j hj => whA_fb hj
      have HH : Hid (∀ j, j < l.length → eqC (subL l j) m = true → isV l m = true) := fun j => isV_hit
      have HM : Hid ((∀ j, j < l.length → eqC (subL l j) m = false) → isV l m = false) := isV_miss
      generalize isV l m = r at *
      clear h h' ht ht' e1 e2 hc hd
      go_enter Tryd.func21, Tryd.ntmps21
      go_wp2_with fail
      refine CK.mono ?_
      rintro e w1 ⟨rfl, hb1⟩
      have B1 : Hid (Below w.heap.size w w1) := hb1
      clear hb1 CK
      go_wp2_with fail
      refine (CM.out _ B1.out).mono ?_
      rintro e w2 ⟨rfl, hb2⟩
      have B2 : Hid (Below w.heap.size w w2) := B1.out.trans (hb2.mono B1.out.size)
      clear hb2 B1
      go_wp2_with fail
      refine (WH.out _ B2.out).mono ?_
      rintro e w3 ⟨pf, cf, rfl, ho3, hb3⟩
      have B3 : Hid (Below w.heap.size w w3) := B2.out.trans (hb3.mono B2.out.size)
      have HF : Hid (IS w3 (.slice pf l.length cf) ((whA l).map (·.1))) := ho3.is
      clear hb3 ho3 B2 CM WH
      go_wp2
      go_loopw [9] (fun b wl => ∃ (k : Nat) (wk : World), k ≤ l.length ∧ b = .int .i64 k ∧ wk = wl ∧ Hid (Below w3.heap.size w3 wk) ∧ Hid (∀ j, j < k → eqC (subL l j) m = false)) (fun b _ => l.length - (intOf b).toNat)
      case atStart => exact ⟨0, _, Nat.zero_le _, rfl, rfl, Below.refl _ _, fun j hj => by omega⟩
      case round =>
        obtain ⟨k, wr, hk, rfl, rfl, HB, HN⟩ := hrel
        by_cases hlt : k < l.length
        · obtain ⟨Xf, of, rfl, c0⟩ := (HF.out.below HB.out).at (k := k) (by simp [whA_len]; exact hlt)
          rw [frow_at hlt] at c0
          have hfb := FB.out k hlt
          obtain ⟨q, hq⟩ : ∃ q : Nat, frA (whA l) k = q := ⟨(frA (whA l) k).toNat, by omega⟩
          have hsub : subL l k = (l.drop q).take (k + 1 - q) := by unfold subL; rw [hq]; rfl
          rw [hq] at c0 hfb
          obtain ⟨X, o, rfl, _⟩ := HS.out.at hlt
          clear hq
          have HSub : Hid (subL l k = (l.drop q).take (k + 1 - q)) := hsub
          clear hsub
          have hqk : q < k + 1 := by omega
          obtain ⟨hcs, hcp, _⟩ := (HS.out.below (B3.out.trans (HB.out.mono B3.out.size))).cut hqk (by omega)
          have hcq : ¬ cap = q := by omega
          have HC : Hid (CS wr (Value.slice (some ⟨X, o + q * 3, none⟩) (k + 1 - q) (cap - q)) ((l.drop q).take (k + 1 - q))) := hcs
          clear hcs
          have EA : Hid (Calls Tryd.prog 15 #[Value.slice (some ⟨X, o + q * 3, none⟩) (k + 1 - q) (cap - q), Value.slice p' m.length cap'] wr fun e w' => e = .returned (.bool (eqC (subL l k) m)) ∧ ∃ n, w' = wr.drewN n) := by
            rw [HSub.out]
            exact sameFail_any _ _ _ _ m HC.out (HT.out.below (B3.out.trans (HB.out.mono B3.out.size))) (by simp; omega)
          have BN : Hid (∀ n, Below w3.heap.size w3 (wr.drewN n)) := fun n => below_drewN' HB.out n
          cases hr : eqC (subL l k) m with
          | true =>
            have hr2 : r = true := HH.out k hlt hr
            rw [hr] at EA
            subst hr2
            clear hr HN HC HSub
            go_wp2_with fail
            refine EA.out.mono ?_
            rintro e w4 ⟨rfl, n4, rfl⟩
            go_wp2_with fail
            go_ret2
            exact ⟨rfl, B3.out.trans ((BN.out _).mono B3.out.size)⟩
          | false =>
            have HN2 : Hid (∀ j, j < k + 1 → eqC (subL l j) m = false) := fun j hj => by
              by_cases e : j = k
              · subst e; exact hr
              · exact HN.out j (by omega)
            rw [hr] at EA
            clear hr HN HC HSub
            go_wp2_with fail
            refine EA.out.mono ?_
            rintro e w4 ⟨rfl, n4, hw4⟩
            have B4 : Hid (Below w3.heap.size w3 w4) := hw4 ▸ BN.out _
            clear hw4
            go_wp2_with fail
            go_roundw
            case rel => exact ⟨k + 1, _, by omega, by go_num, rfl, B4, HN2⟩
            case measure => simp [intOf]; omega
        · have hr : r = false := HM.out (fun j hj => HN.out j (by omega))
          have BF : Hid (Below w.heap.size w wr) := B3.out.trans (HB.out.mono B3.out.size)
          subst hr
          clear HN HB
          go_wp2
          go_ret2
          exact ⟨rfl, BF.out⟩
    · have e1 : isE l m = chk m := by unfold isE; rw [if_pos hc]
      have e2 : isB l m = false := by unfold isB; rw [e1]; simp [hd]
      rw [e1, e2]
      rw [hc] at CK
      clear h h' ht ht' e1 e2
      generalize chk m = c at *
      have h1 : (c == 0) = false := by simpa using hd
      have h2 : (c != 0) = true := by simpa using hd
      go_enter Tryd.func21, Tryd.ntmps21
      go_wp2_with fail
      refine CK.mono ?_
      rintro e w1 ⟨rfl, hb1⟩
      have B1 : Hid (Below w.heap.size w w1) := hb1
      clear hb1 CK
      go_wp2_with fail
      refine (CM.out _ B1.out).mono ?_
      rintro e w2 ⟨rfl, hb2⟩
      have B2 : Hid (Below w.heap.size w w2) := B1.out.trans (hb2.mono B1.out.size)
      clear hb2 B1
      go_wp2_with fail
      go_ret2
      exact ⟨rfl, B2.out⟩
  · have e1 : isE l m = chk l := by unfold isE; rw [if_neg hc]
    have e2 : isB l m = false := by unfold isB; rw [e1]; simp [hc]
    rw [e1, e2]
    clear h h' ht ht' e1 e2 CM
    generalize chk l = c at *
    have h1 : (c == 0) = false := by simpa using hc
    have h2 : (c != 0) = true := by simpa using hc
    go_enter Tryd.func21, Tryd.ntmps21
    go_wp2_with fail
    refine CK.mono ?_
    rintro e w1 ⟨rfl, hb1⟩
    have B1 : Hid (Below w.heap.size w w1) := hb1
    clear hb1 CK
    go_wp2_with fail
    go_ret2
    exact ⟨rfl, B1.out⟩
end Go.Proofs.YtaleagkhblokgaaDoor
