/- Names, the reference: Check. -/
import Derived.Test.YtmkgcgdfgagdlaaDoorPu3
namespace Go.Proofs.YtmkgcgdfgagdlaaDoor
open Go.RowKit

set_option maxHeartbeats 4000000 in
theorem rcheck_any (v : Value) (l : List Opn) (w : World) (h : OS w v l) (ht : ∀ c ∈ l, c.text.size ≤ maxLen) (_hlm : l.length ≤ 1000000000000000) :
    Calls Tryd.prog 12 #[v] w fun e w' => e = .returned (.int .i64 (chkO l)) ∧ Below w.heap.size w w' := by
  have hlm := _hlm
  have HC : Hid (chkO l = if 256 < l.length then 3 else if wholeB l = true ∧ boundB l = true then (if longB l = true ∨ 32 < deepO l then 3 else 0) else 5) := rfl
  by_cases hl : 256 < l.length
  · obtain ⟨p, cap, rfl⟩ := h.form
    rw [if_pos hl] at HC
    generalize chkO l = r at *
    have hl2 : (l.length : Int) > 256 := by omega
    clear h ht
    go_enter Tryd.func12, Tryd.ntmps12
    go_wp2
    go_ret
    exact ⟨ret_int HC.out.symm, Below.refl _ _⟩
  · rw [if_neg hl] at HC
    have hl2 : ¬ (l.length : Int) > 256 := by omega
    cases hwh : wholeB l with
    | false =>
      have BG : Hid _ := begins_bad v l w h ht (by omega) hwh
      rw [hwh] at HC
      obtain ⟨p, cap, rfl⟩ := h.form
      generalize chkO l = r at *
      clear h ht hwh
      go_enter Tryd.func12, Tryd.ntmps12
      go_wp2_with fail
      refine Calls.mono BG.out ?_
      rintro e w1 ⟨p1, n1, c1, rfl, hb1⟩
      have B1 : Hid (Below w.heap.size w w1) := hb1
      clear hb1
      go_wp2_with fail
      go_ret
      exact ⟨ret_int (by rw [HC.out]; rfl), B1.out⟩
    | true =>
      have BG : Hid _ := begins_ok v l w h ht (by omega) hwh
      rw [hwh] at HC
      have IB : Hid (∀ w1, Below w.heap.size w w1 → _) := fun w1 b => rbound_any v l w1 (h.below b) ht (by omega) hwh
      have ID : Hid (∀ w1, Below w.heap.size w w1 → _) := fun w1 b => rdeep_any v l w1 (h.below b) (by omega) (wholeB_ok hwh).2
      obtain ⟨p, cap, rfl⟩ := h.form
      have HS : Hid (OS w (.slice p l.length cap) l) := h
      have HH : Hid (∀ k (h : k < l.length), 4096 < l[k].text.size → longB l = true) := fun k h => longB_hit h
      have HM : Hid ((∀ k (h : k < l.length), l[k].text.size ≤ 4096) → longB l = false) := longB_iff.2
      generalize chkO l = r at *
      generalize boundB l = rb at *
      generalize longB l = rl at *
      generalize deepO l = rd at *
      clear h ht hwh
      cases rb with
      | false =>
        clear HH HM
        go_enter Tryd.func12, Tryd.ntmps12
        go_wp2_with fail
        refine Calls.mono BG.out ?_
        rintro e w1 ⟨p1, c1, rfl, _, hb1⟩
        have B1 : Hid (Below w.heap.size w w1) := hb1
        clear hb1
        go_wp2_with fail
        refine Calls.mono (IB.out _ B1.out) ?_
        rintro e w2 ⟨rfl, hb2⟩
        have B2 : Hid (Below w.heap.size w w2) := B1.out.trans (hb2.mono B1.out.size)
        clear hb2
        go_wp2_with fail
        go_ret
        exact ⟨ret_int (by rw [HC.out]; rfl), B2.out⟩
      | true =>
        rw [if_pos ⟨rfl, rfl⟩] at HC
        go_enter Tryd.func12, Tryd.ntmps12
        go_wp2_with fail
        refine Calls.mono BG.out ?_
        rintro e w1 ⟨p1, c1, rfl, _, hb1⟩
        have B1 : Hid (Below w.heap.size w w1) := hb1
        clear hb1
        go_wp2_with fail
        refine Calls.mono (IB.out _ B1.out) ?_
        rintro e w2 ⟨rfl, hb2⟩
        have B2 : Hid (Below w.heap.size w w2) := B1.out.trans (hb2.mono B1.out.size)
        have HS2 : Hid (OS w2 (.slice p l.length cap) l) := HS.out.below B2.out
        clear hb2 HS B1 BG IB
        go_wp2_with fail
        go_loop [5] (fun v5 => ∃ (k : Nat), v5 = .int .i64 k ∧ k ≤ l.length ∧ Hid (∀ i (h : i < l.length), i < k → l[i].text.size ≤ 4096)) (fun v5 => l.length - (intOf v5).toNat)
        case atStart => exact ⟨0, rfl, Nat.zero_le _, fun i _ h => by omega⟩
        case round =>
          obtain ⟨k, rfl, hk, HW⟩ := hrel
          by_cases hlt : k < l.length
          · obtain ⟨X, o, e1, x1, x2, x3, x4⟩ := HS2.out.atO hlt
            obtain rfl : p = some ⟨X, o, none⟩ := e1
            have HK : Hid (4096 < l[k].text.size → rl = true) := HH.out k hlt
            have HK2 : Hid (l[k].text.size ≤ 4096 → ∀ i (h : i < l.length), i < k + 1 → l[i].text.size ≤ 4096) := fun h0 i hi hik => by
              by_cases e : i = k
              · subst e; exact h0
              · exact HW.out i hi (by omega)
            obtain ⟨c, hc⟩ : ∃ c, c = l[k] := ⟨_, rfl⟩
            rw [← hc] at x1 x2 x3 x4 HK HK2
            clear hc
            by_cases hs : 4096 < c.text.size
            · have hs2 : (c.text.size : Int) > 4096 := by omega
              have hr := HK.out hs
              subst hr
              clear HK HK2 HH HM
              go_wp2_with fail
              go_ret
              exact ⟨ret_int (by rw [HC.out]; simp), B2.out⟩
            · have hs2 : ¬ (c.text.size : Int) > 4096 := by omega
              have H3 : Hid _ := HK2.out (by omega)
              go_wp2_with fail
              go_round
              case rel => exact ⟨k + 1, by go_num, by omega, H3⟩
              case measure => simp [intOf]; omega
          · have hr := HM.out (fun i hi => HW.out i hi (by omega))
            subst hr
            clear HH HM
            go_wp2_with fail
            refine Calls.mono (ID.out _ B2.out) ?_
            rintro e w3 ⟨rfl, hb3⟩
            have B3 : Hid (Below w.heap.size w w3) := B2.out.trans (hb3.mono B2.out.size)
            clear hb3
            by_cases hd : 32 < rd
            · have hd2 : rd > 32 := hd
              go_wp2_with fail
              go_ret
              exact ⟨ret_int (by rw [HC.out]; simp [hd]), B3.out⟩
            · have hd2 : ¬ rd > 32 := hd
              go_wp2_with fail
              go_ret
              exact ⟨ret_int (by rw [HC.out]; simp [hd]), B3.out⟩
end Go.Proofs.YtmkgcgdfgagdlaaDoor
