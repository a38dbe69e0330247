/- Names: isWhole, hasLongText. -/
import Derived.Test.YtmkgcgdfgagdlaaDoorPz1
namespace Go.Proofs.YtmkgcgdfgagdlaaDoor
open Go.RowKit

set_option maxHeartbeats 4000000 in
set_option maxRecDepth 100000 in
theorem isWhole_any (v : Value) (l : List Opn) (w : World) (h : OS w v l) (ht : ∀ c ∈ l, c.text.size ≤ maxLen) (hv : NV w) (hlm : l.length ≤ 256) :
    Calls Tryd.prog 43 #[v] w fun e w' => e = .returned (.bool (wholeB l)) ∧ Below w.heap.size w w' := by
  obtain ⟨p, cap, rfl⟩ := h.form
  have HS : Hid (OS w (.slice p l.length cap) l) := h
  have HV : Hid (NV w) := hv
  have HT : Hid (∀ c ∈ l, c.text.size ≤ maxLen) := ht
  have HC : Hid (wholeB l = decide (walkO 0 l = some 1)) := rfl
  generalize wholeB l = r at *
  clear h hv ht
  go_enter Tryd.func43, Tryd.ntmps43
  go_wp2
  go_loopw [3, 8] (fun v3 v8 wr => ∃ (k : Nat) (s : Int) (wk : World), v8 = .int .i64 k ∧ v3 = .int .i64 s ∧ wk = wr ∧ k ≤ l.length ∧ 0 ≤ s ∧ s ≤ k ∧ Hid (Below w.heap.size w wk ∧ walkO 0 l = walkO s (l.drop k))) (fun _ v8 _ => l.length - (intOf v8).toNat)
  case atStart => exact ⟨0, 0, _, rfl, rfl, rfl, Nat.zero_le _, Int.le_refl _, Int.le_refl _, ⟨Below.refl _ _, rfl⟩⟩
  case round =>
    obtain ⟨k, s, wr, rfl, rfl, rfl, hk, hs0, hsk, HW⟩ := hrel
    by_cases hlt : k < l.length
    · obtain ⟨X, o, e1, x1, x2, x3, x4⟩ := (HS.out.below HW.out.1).atO hlt
      obtain rfl : p = some ⟨X, o, none⟩ := e1
      have hmem := HT.out _ (List.getElem_mem hlt)
      have HD : Hid _ := drop_op hlt
      obtain ⟨c, hc⟩ : ∃ c, c = l[k] := ⟨_, rfl⟩
      rw [← hc] at x1 x2 x3 x4 hmem HD
      have IC := fun w' (hb : Below w.heap.size w w') => isOp_any c w' (HV.out.below hb) hmem
      have AL : Hid (∀ ob, Below w.heap.size w (wr.alloc ob)) := fun ob => HW.out.1.alloc HW.out.1.size ob
      clear hc
      cases hcb : opB c with
      | false =>
        rw [hcb] at IC
        have HN : Hid (walkO 0 l = none) := by show walkO 0 l = none; rw [HW.out.2, HD.out, walkO, hcb]; simp
        go_wp2_with (go_at_call 79; refine (IC _ (AL.out _)).mono ?_; rintro e w5 ⟨rfl, hb5⟩)
        go_ret
        exact ⟨ret_bool (by rw [HC.out, HN.out]; rfl), (AL.out _).trans (hb5.mono (AL.out _).size)⟩
      | true =>
        rw [hcb] at IC
        have hn0 := opB_n hcb
        by_cases hcs : c.n ≤ s
        · have hcs2 : ¬ c.n > s := by omega
          have HN : Hid (walkO 0 l = walkO (s + (1 - c.n)) (l.drop (k + 1))) := by show _ = _; rw [HW.out.2, HD.out, walkO, hcb]; simp [hcs]
          go_wp2_with (go_at_call 79; refine (IC _ (AL.out _)).mono ?_; rintro e w5 ⟨rfl, hb5⟩; have y1 : w5.cell? ⟨wr.heap.size, 1, none⟩ = some (.int .i64 c.n) := (hb5.cell (p := ⟨wr.heap.size, 1, none⟩) (by simp)).trans (cell_of_row _ _ _ _ _ _ (heap_alloc_new wr _)); have HB5 : Hid (Below w.heap.size w w5) := (AL.out _).trans (hb5.mono (AL.out _).size); clear hb5)
          go_roundw
          case rel => exact ⟨k + 1, s + (1 - c.n), _, by go_num, rfl, rfl, by omega, by omega, by omega, ⟨HB5.out, HN.out⟩⟩
          case measure => simp [intOf]; omega
        · have hcs2 : c.n > s := by omega
          have HN : Hid (walkO 0 l = none) := by show walkO 0 l = none; rw [HW.out.2, HD.out, walkO]; simp [hcs]
          go_wp2_with (go_at_call 79; refine (IC _ (AL.out _)).mono ?_; rintro e w5 ⟨rfl, hb5⟩; have y1 : w5.cell? ⟨wr.heap.size, 1, none⟩ = some (.int .i64 c.n) := (hb5.cell (p := ⟨wr.heap.size, 1, none⟩) (by simp)).trans (cell_of_row _ _ _ _ _ _ (heap_alloc_new wr _)); have HB5 : Hid (Below w.heap.size w w5) := (AL.out _).trans (hb5.mono (AL.out _).size); clear hb5)
          go_ret
          exact ⟨ret_bool (by rw [HC.out, HN.out]; rfl), HB5.out⟩
    · have HN : Hid (walkO 0 l = some s) := by show walkO 0 l = some s; rw [HW.out.2, List.drop_eq_nil_of_le (by omega)]; rfl
      go_wp2
      go_ret
      exact ⟨ret_bool (by rw [HC.out, HN.out]; by_cases e : s = 1 <;> simp [e]), HW.out.1⟩
set_option maxHeartbeats 4000000 in
theorem hasLong_any (v : Value) (l : List Opn) (w : World) (h : OS w v l) (hlm : l.length ≤ 256) :
    Calls Tryd.prog 45 #[v] w fun e w' => e = .returned (.bool (longB l)) ∧ Below w.heap.size w w' := by
  obtain ⟨p, cap, rfl⟩ := h.form
  have HS : Hid (OS w (.slice p l.length cap) l) := h
  have HH : Hid (∀ k (h : k < l.length), 4096 < l[k].text.size → longB l = true) := fun k h => longB_hit h
  have HM : Hid ((∀ k (h : k < l.length), l[k].text.size ≤ 4096) → longB l = false) := longB_iff.2
  generalize longB l = r at *
  clear h
  go_enter Tryd.func45, Tryd.ntmps45
  go_wp2
  go_loopw [7] (fun v7 wr => ∃ (k : Nat) (wk : World), v7 = .int .i64 k ∧ wk = wr ∧ k ≤ l.length ∧ Hid (Below w.heap.size w wk ∧ ∀ i (h : i < l.length), i < k → l[i].text.size ≤ 4096)) (fun v7 _ => l.length - (intOf v7).toNat)
  case atStart => exact ⟨0, _, rfl, rfl, Nat.zero_le _, ⟨Below.refl _ _, fun i _ h => by omega⟩⟩
  case round =>
    obtain ⟨k, wr, rfl, rfl, hk, HW⟩ := hrel
    by_cases hlt : k < l.length
    · obtain ⟨X, o, e1, x1, x2, x3, x4⟩ := (HS.out.below HW.out.1).atO hlt
      obtain rfl : p = some ⟨X, o, none⟩ := e1
      have AL : Hid (∀ ob, Below w.heap.size w (wr.alloc ob)) := fun ob => HW.out.1.alloc HW.out.1.size ob
      have HK : Hid (4096 < l[k].text.size → r = true) := HH.out k hlt
      have HK2 : Hid (l[k].text.size ≤ 4096 → ∀ i (h : i < l.length), i < k + 1 → l[i].text.size ≤ 4096) := fun h0 i hi hik => by
        by_cases e : i = k
        · subst e; exact h0
        · exact HW.out.2 i hi (by omega)
      obtain ⟨c, hc⟩ : ∃ c, c = l[k] := ⟨_, rfl⟩
      rw [← hc] at x1 x2 x3 x4 HK HK2
      clear hc
      by_cases hs : 4096 < c.text.size
      · have hs2 : (c.text.size : Int) > 4096 := by omega
        have hr := HK.out hs
        subst hr
        go_wp2
        go_ret
        exact ⟨rfl, AL.out _⟩
      · have hs2 : ¬ (c.text.size : Int) > 4096 := by omega
        have H3 : Hid _ := HK2.out (by omega)
        go_wp2
        go_roundw
        case rel => exact ⟨k + 1, _, by go_num, rfl, by omega, ⟨AL.out _, H3.out⟩⟩
        case measure => simp [intOf]; omega
    · have hr := HM.out (fun i hi => HW.out.2 i hi (by omega))
      subst hr
      go_wp2
      go_ret
      exact ⟨rfl, HW.out.1⟩
end Go.Proofs.YtmkgcgdfgagdlaaDoor
