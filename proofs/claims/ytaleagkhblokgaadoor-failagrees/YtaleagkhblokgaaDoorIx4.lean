/- Failures: Has, both sides. -/
import Derived.Test.YtaleagkhblokgaaDoorIx3
namespace Go.Proofs.YtaleagkhblokgaaDoor
open Go.RowKit

def hasE (l : List Cr) (k : Int) : Int := if chk l = 0 then (if isK k = true then 0 else 1) else chk l
def hasK (l : List Cr) (k : Int) : Bool := l.any fun c => c.kind == k
def hasB (l : List Cr) (k : Int) : Bool := decide (hasE l k = 0) && hasK l k
theorem hasK_hit {l : List Cr} {k : Int} {j : Nat} (hj : j < l.length) (h : (l[j].kind == k) = true) : hasK l k = true := by
  unfold hasK; rw [List.any_eq_true]; exact ⟨_, List.getElem_mem hj, h⟩
theorem hasK_miss {l : List Cr} {k : Int} (h : ∀ j (hj : j < l.length), (l[j].kind == k) = false) : hasK l k = false := by
  unfold hasK; rw [List.any_eq_false]; intro c hc
  obtain ⟨j, hj, rfl⟩ := List.getElem_of_mem hc
  rw [h j hj]; simp
set_option maxHeartbeats 2000000 in
theorem hasC_any (c : Cr) (k : Int) (B : Nat) (w : World) (hB : w.cell? ⟨B, 0, none⟩ = some (.int .i64 k)) :
    Calls Tryd.prog 43 #[.agg #[.int .i64 c.kind, .int .i64 c.n, .string c.text], .pointer (some ⟨B, 0, none⟩)] w fun e w' => e = .returned (.bool (c.kind == k)) ∧ Below w.heap.size w w' := by
  have hBl := block_lt_of_cell hB
  have cB : ∀ ob, (w.alloc ob).cell? ⟨B, 0, none⟩ = some (.int .i64 k) := fun ob => (((Below.refl _ w).alloc (Nat.le_refl _) ob).cell (p := ⟨B, 0, none⟩) hBl).trans hB
  go_enter Tryd.func43, Tryd.ntmps43
  go_wp2
  go_ret
  exact ⟨rfl, (Below.refl _ _).alloc (Nat.le_refl _) _⟩
set_option maxHeartbeats 4000000 in
theorem indexC_any (v : Value) (l : List Cr) (k : Int) (B : Nat) (w : World) (h : CS w v l) (hl : l.length ≤ 1000000000000000) (hB : w.cell? ⟨B, 0, none⟩ = some (.int .i64 k)) :
    Calls Tryd.prog 59 #[v, .func (.func 43) #[] #[.pointer (some ⟨B, 0, none⟩)]] w fun e w' => ∃ z : Int, e = .returned (.int .i64 z) ∧ (if hasK l k = true then 0 ≤ z else z = -1) ∧ Below w.heap.size w w' := by
  obtain ⟨p, cap, rfl⟩ := h.form
  have HS : Hid (CS w (.slice p l.length cap) l) := h
  have hBl := block_lt_of_cell hB
  have HCc : Hid (∀ w', Below w.heap.size w w' → ∀ c : Cr, Calls Tryd.prog 43 #[.agg #[.int .i64 c.kind, .int .i64 c.n, .string c.text], .pointer (some ⟨B, 0, none⟩)] w' fun e w'' => e = .returned (.bool (c.kind == k)) ∧ Below w'.heap.size w' w'') := fun w' b c => hasC_any c k B w' ((b.cell (p := ⟨B, 0, none⟩) hBl).trans hB)
  have HH : Hid (∀ j (hj : j < l.length), (l[j].kind == k) = true → hasK l k = true) := fun j => hasK_hit
  have HM : Hid ((∀ j (hj : j < l.length), (l[j].kind == k) = false) → hasK l k = false) := hasK_miss
  generalize hasK l k = r at *
  clear h hB
  go_enter Tryd.func59, Tryd.ntmps59
  go_wp2
  go_loopw [8] (fun b wl => ∃ (j : Nat) (wk : World), j ≤ l.length ∧ b = .int .i64 j ∧ wk = wl ∧ Hid (Below w.heap.size w wk) ∧ Hid (∀ i (hi : i < l.length), i < j → (l[i].kind == k) = false)) (fun b _ => l.length - (intOf b).toNat)
  case atStart => exact ⟨0, _, Nat.zero_le _, rfl, rfl, Below.refl _ _, fun i hi hj => by omega⟩
  case round =>
    obtain ⟨j, wr, hj, rfl, rfl, HB, HN⟩ := hrel
    by_cases hlt : j < l.length
    · obtain ⟨X, o, rfl, x1, x2, x3⟩ := (HS.out.below HB.out).at hlt
      have HJ : Hid ((l[j].kind == k) = true → r = true) := HH.out j hlt
      have HNJ : Hid ((l[j].kind == k) = false → ∀ i (hi : i < l.length), i < j + 1 → (l[i].kind == k) = false) := fun h0 i hi hij => by
        by_cases e : i = j
        · subst e; exact h0
        · exact HN.out i hi (by omega)
      obtain ⟨f, hf⟩ : ∃ f, f = l[j] := ⟨_, rfl⟩
      rw [← hf] at x1 x2 x3 HJ HNJ
      have CC := HCc.out _ HB.out f
      clear hf HN
      cases hr : (f.kind == k) with
      | true =>
        have hr2 : r = true := HJ.out hr
        rw [hr] at CC
        subst hr2
        clear hr HJ HNJ
        go_wp2_with (go_at_call 43; refine CC.mono ?_; rintro e w4 ⟨rfl, hb4⟩; have B4 : Hid (Below w.heap.size w w4) := HB.out.trans (hb4.mono HB.out.size); clear hb4)
        go_ret
        exact ⟨_, rfl, by simp, B4.out⟩
      | false =>
        have HN2 := HNJ.out hr
        rw [hr] at CC
        have HN3 : Hid (∀ i (hi : i < l.length), i < j + 1 → (l[i].kind == k) = false) := HN2
        clear hr HJ HNJ HN2
        go_wp2_with (go_at_call 43; refine CC.mono ?_; rintro e w4 ⟨rfl, hb4⟩; have B4 : Hid (Below w.heap.size w w4) := HB.out.trans (hb4.mono HB.out.size); clear hb4)
        go_roundw
        case rel => exact ⟨j + 1, _, by omega, by go_num, rfl, B4, HN3⟩
        case measure => simp [intOf]; omega
    · have hr : r = false := HM.out (fun i hi => HN.out i hi (by omega))
      have BF : Hid (Below w.heap.size w wr) := HB
      subst hr
      clear HN HB
      go_wp2
      go_ret
      exact ⟨_, rfl, by simp, BF.out⟩
set_option maxHeartbeats 2000000 in
theorem containsC_any (v : Value) (l : List Cr) (k : Int) (B : Nat) (w : World) (h : CS w v l) (hl : l.length ≤ 1000000000000000) (hB : w.cell? ⟨B, 0, none⟩ = some (.int .i64 k)) :
    Calls Tryd.prog 42 #[v, .func (.func 43) #[] #[.pointer (some ⟨B, 0, none⟩)]] w fun e w' => e = .returned (.bool (hasK l k)) ∧ Below w.heap.size w w' := by
  have IX := indexC_any v l k B w h hl hB
  obtain ⟨p, cap, rfl⟩ := h.form
  generalize hasK l k = r at *
  clear h hB
  go_enter Tryd.func42, Tryd.ntmps42
  go_wp2_with fail
  refine IX.mono ?_
  rintro e w1 ⟨z, rfl, hz, hb1⟩
  have B1 : Hid (Below w.heap.size w w1) := hb1
  clear hb1 IX
  cases r with
  | true =>
    have hz0 : 0 ≤ z := by simpa using hz
    clear hz
    go_wp2_with fail
    go_ret
    exact ⟨by simp, B1.out⟩
  | false =>
    have hz0 : z = -1 := by simpa using hz
    subst hz0
    clear hz
    go_wp2_with fail
    go_ret
    exact ⟨rfl, B1.out⟩
set_option maxHeartbeats 2000000 in
theorem checkBoth_any (v : Value) (l : List Cr) (k : Int) (w : World) (h : CS w v l) (ht : ∀ c ∈ l, c.text.size ≤ maxLen) (hlm : l.length ≤ 1000000000000000) (hv : FV w) :
    Calls Tryd.prog 41 #[v, .int .i64 k] w fun e w' => e = .returned (.int .i64 (hasE l k)) ∧ Below w.heap.size w w' := by
  have CK := check_any v l w h ht hv hlm
  have IK := fun w' => isKind_any k w'
  obtain ⟨p, cap, rfl⟩ := h.form
  by_cases hc : chk l = 0
  · have e1 : hasE l k = if isK k = true then 0 else 1 := by unfold hasE; rw [if_pos hc]
    rw [e1]
    rw [hc] at CK
    clear h ht hv e1 hc
    cases hk : isK k with
    | true =>
      rw [hk] at IK
      go_enter Tryd.func41, Tryd.ntmps41
      go_wp2_with (first | (go_at_call 31; refine CK.mono ?_; rintro e w1 ⟨rfl, hb1⟩; have B1 : Hid (Below w.heap.size w w1) := hb1; clear hb1) | (go_at_call 58; refine (IK _).mono ?_; rintro e w' ⟨rfl, rfl⟩))
      go_ret
      exact ⟨rfl, B1.out⟩
    | false =>
      rw [hk] at IK
      go_enter Tryd.func41, Tryd.ntmps41
      go_wp2_with (first | (go_at_call 31; refine CK.mono ?_; rintro e w1 ⟨rfl, hb1⟩; have B1 : Hid (Below w.heap.size w w1) := hb1; clear hb1) | (go_at_call 58; refine (IK _).mono ?_; rintro e w' ⟨rfl, rfl⟩))
      go_ret
      exact ⟨rfl, B1.out⟩
  · have e1 : hasE l k = chk l := by unfold hasE; rw [if_neg hc]
    rw [e1]
    clear h ht hv e1
    generalize chk l = c at *
    have h1 : (c == 0) = false := by simpa using hc
    have h2 : (c != 0) = true := by simpa using hc
    go_enter Tryd.func41, Tryd.ntmps41
    go_wp2_with (go_at_call 31; refine CK.mono ?_; rintro e w1 ⟨rfl, hb1⟩; have B1 : Hid (Below w.heap.size w w1) := hb1; clear hb1)
    go_ret
    exact ⟨rfl, B1.out⟩
set_option maxHeartbeats 4000000 in
theorem has_any (v : Value) (l : List Cr) (k : Int) (w : World) (h : CS w v l) (ht : ∀ c ∈ l, c.text.size ≤ maxLen) (hlm : l.length ≤ 1000000000000000) (hv : FV w) :
    Calls Tryd.prog 22 #[v, .int .i64 k] w fun e w' => AnsB w w' e (hasB l k) (hasE l k) := by
  have B0 : Hid (Below w.heap.size w (w.alloc (.cells #[.int .i64 k] 3))) := (Below.refl _ _).alloc (Nat.le_refl _) _
  have CK : Hid _ := checkBoth_any v l k _ (h.below B0.out) ht hlm (hv.below B0.out)
  have c0 : (w.alloc (.cells #[.int .i64 k] 3)).cell? ⟨w.heap.size, 0, none⟩ = some (.int .i64 k) := by simp
  have zs : w.heap.size < (w.alloc (.cells #[.int .i64 k] 3)).heap.size := by simp
  have CF : Hid (∀ w', Below (w.alloc (.cells #[.int .i64 k] 3)).heap.size (w.alloc (.cells #[.int .i64 k] 3)) w' → _) := fun w' b => containsC_any v l k w.heap.size w' ((h.below B0.out).below b) hlm ((b.cell (p := ⟨w.heap.size, 0, none⟩) zs).trans c0)
  obtain ⟨p, cap, rfl⟩ := h.form
  have hmf : ∀ (fn : Fn) (first cap : Array Value) (w : World), (Instr.makeFunc fn first cap).run Tryd.prog w = .ok (.func fn first cap) w := fun _ _ _ _ => rfl
  clear c0 zs
  by_cases hc : hasE l k = 0
  · have e1 : hasB l k = hasK l k := by unfold hasB; rw [hc]; simp
    rw [e1, hc]
    rw [hc] at CK
    generalize hasK l k = r at *
    clear h ht hv hc e1
    go_enter Tryd.func22, Tryd.ntmps22
    go_wp2_with fail
    refine Calls.mono CK.out ?_
    rintro e w1 ⟨rfl, hb1⟩
    have B1 : Hid (Below (w.alloc (.cells #[.int .i64 k] 3)).heap.size (w.alloc (.cells #[.int .i64 k] 3)) w1) := hb1
    clear hb1 CK
    go_wp2_with fail
    refine (CF.out _ B1.out).mono ?_
    rintro e w2 ⟨rfl, hb2⟩
    have B2 : Hid (Below w.heap.size w w2) := B0.out.trans ((B1.out.trans (hb2.mono B1.out.size)).mono B0.out.size)
    clear hb2
    go_wp2_with fail
    go_ret2
    exact ⟨rfl, B2.out⟩
  · have e1 : hasB l k = false := by unfold hasB; simp [hc]
    rw [e1]
    clear h ht hv e1 CF
    generalize hasE l k = c at *
    have h1 : (c == 0) = false := by simpa using hc
    have h2 : (c != 0) = true := by simpa using hc
    go_enter Tryd.func22, Tryd.ntmps22
    go_wp2_with fail
    refine Calls.mono CK.out ?_
    rintro e w1 ⟨rfl, hb1⟩
    have B1 : Hid (Below w.heap.size w w1) := B0.out.trans (hb1.mono B0.out.size)
    clear hb1 CK
    go_wp2_with fail
    go_ret2
    exact ⟨rfl, B1.out⟩
set_option maxHeartbeats 4000000 in
theorem rhas_any (v : Value) (l : List Cr) (k : Int) (w : World) (h : CS w v l) (ht : ∀ c ∈ l, c.text.size ≤ maxLen) (hlm : l.length ≤ 1000000000000000) :
    Calls Tryd.prog 23 #[v, .int .i64 k] w fun e w' => AnsB w w' e (hasB l k) (hasE l k) := by
  have CK := rcheck_any v l w h ht hlm
  obtain ⟨p, cap, rfl⟩ := h.form
  by_cases hc : chk l = 0
  · by_cases hk : isK k = true
    · have e0 : hasE l k = 0 := by unfold hasE; rw [if_pos hc, if_pos hk]
      have e1 : hasB l k = hasK l k := by unfold hasB; rw [e0]; simp
      rw [e1, e0]
      rw [hc] at CK
      rw [isK_iff] at hk
      have HS : Hid (CS w (.slice p l.length cap) l) := h
      have HH : Hid (∀ j (hj : j < l.length), (l[j].kind == k) = true → hasK l k = true) := fun j => hasK_hit
      have HM : Hid ((∀ j (hj : j < l.length), (l[j].kind == k) = false) → hasK l k = false) := hasK_miss
      generalize hasK l k = r at *
      obtain ⟨hk1, hk2⟩ := hk
      clear h ht hc e0 e1
      go_enter Tryd.func23, Tryd.ntmps23
      go_wp2_with fail
      refine CK.mono ?_
      rintro e w1 ⟨rfl, hb1⟩
      have B1 : Hid (Below w.heap.size w w1) := hb1
      have HS1 : Hid (CS w1 (.slice p l.length cap) l) := HS.out.below hb1
      clear hb1 CK HS
      go_wp2
      go_loop [7] (fun b => ∃ (j : Nat), j ≤ l.length ∧ b = .int .i64 j ∧ Hid (∀ i (hi : i < l.length), i < j → (l[i].kind == k) = false)) (fun b => l.length - (intOf b).toNat)
      case atStart => exact ⟨0, Nat.zero_le _, rfl, fun i hi hj => by omega⟩
      case round =>
        obtain ⟨j, hj, rfl, HN⟩ := hrel
        by_cases hlt : j < l.length
        · obtain ⟨X, o, rfl, x1, x2, x3⟩ := HS1.out.at hlt
          have HJ : Hid ((l[j].kind == k) = true → r = true) := HH.out j hlt
          have HNJ : Hid ((l[j].kind == k) = false → ∀ i (hi : i < l.length), i < j + 1 → (l[i].kind == k) = false) := fun h0 i hi hij => by
            by_cases e : i = j
            · subst e; exact h0
            · exact HN.out i hi (by omega)
          obtain ⟨f, hf⟩ : ∃ f, f = l[j] := ⟨_, rfl⟩
          rw [← hf] at x1 x2 x3 HJ HNJ
          clear hf HN
          cases hr : (f.kind == k) with
          | true =>
            have hr2 : r = true := HJ.out hr
            subst hr2
            clear HJ HNJ
            go_wp2
            go_ret2
            exact ⟨rfl, B1.out⟩
          | false =>
            have HN2 := HNJ.out hr
            have HN3 : Hid (∀ i (hi : i < l.length), i < j + 1 → (l[i].kind == k) = false) := HN2
            clear HJ HNJ HN2
            go_wp2
            go_round
            case rel => exact ⟨j + 1, by omega, by go_num, HN3⟩
            case measure => simp [intOf]; omega
        · have hr : r = false := HM.out (fun i hi => HN.out i hi (by omega))
          subst hr
          clear HN
          go_wp2
          go_ret2
          exact ⟨rfl, B1.out⟩
    · have e0 : hasE l k = 1 := by unfold hasE; rw [if_pos hc, if_neg hk]
      have e1 : hasB l k = false := by unfold hasB; rw [e0]; rfl
      rw [e1, e0]
      rw [hc] at CK
      rw [isK_iff] at hk
      clear h ht hc e0 e1
      by_cases h1 : k < 1
      · go_enter Tryd.func23, Tryd.ntmps23
        go_wp2_with (go_at_call 37; refine CK.mono ?_; rintro e w1 ⟨rfl, hb1⟩; have B1 : Hid (Below w.heap.size w w1) := hb1; clear hb1)
        go_ret2
        exact ⟨rfl, B1.out⟩
      · have h2 : k > 11 := by omega
        have h3 : ¬ k < 1 := h1
        clear hk
        go_enter Tryd.func23, Tryd.ntmps23
        go_wp2_with (go_at_call 37; refine CK.mono ?_; rintro e w1 ⟨rfl, hb1⟩; have B1 : Hid (Below w.heap.size w w1) := hb1; clear hb1)
        go_ret2
        exact ⟨rfl, B1.out⟩
  · have e0 : hasE l k = chk l := by unfold hasE; rw [if_neg hc]
    have e1 : hasB l k = false := by unfold hasB; rw [e0]; simp [hc]
    rw [e1, e0]
    clear h ht e0 e1
    generalize chk l = c at *
    have h1 : (c == 0) = false := by simpa using hc
    have h2 : (c != 0) = true := by simpa using hc
    go_enter Tryd.func23, Tryd.ntmps23
    go_wp2_with (go_at_call 37; refine CK.mono ?_; rintro e w1 ⟨rfl, hb1⟩; have B1 : Hid (Below w.heap.size w w1) := hb1; clear hb1)
    go_ret2
    exact ⟨rfl, B1.out⟩
end Go.Proofs.YtaleagkhblokgaaDoor
