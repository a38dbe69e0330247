/- The walk of the law NamesRenames. -/
import Derived.Test.YtmkgcgdfgagdlaaDoorPn2
namespace Go.Proofs.YtmkgcgdfgagdlaaDoor
open Go.RowKit

set_option maxHeartbeats 8000000 in
set_option maxRecDepth 100000 in
theorem namesRenames_any (v : Value) (l : List Opn) (f t : ByteArray) (w : World) (h : OS w v l) (ht : ∀ c ∈ l, c.text.size ≤ maxLen) (hl : l.length * 40 ≤ 140737488355328) (hf : f.size ≤ maxLen) (htt : t.size ≤ maxLen) (hv : NV w) :
    Calls Tryd.prog 8 #[v, .string f, .string t] w fun e w' => e = .returned (.bool true) ∧ Below w.heap.size w w' := by
  have hlm : l.length ≤ 1000000000000000 := by omega
  have WK : Hid _ := works_any w hv
  have AK : Hid (∀ w1, Below w.heap.size w w1 → _) := fun w1 b => asked_any v l w1 (h.below b) ht (hv.below b) hlm
  have SK : Hid (∀ w1, Below w.heap.size w w1 → _) := fun w1 b => sure_any v l w1 (h.below b) ht (hv.below b) hlm
  by_cases hc : chkO l = 0
  · have eA : askL l 3 = textsL l 3 := by unfold askL; rw [if_pos hc]
    have eS : sureL l = (textsL l 3).filter (sureP l) := by unfold sureL; rw [if_pos hc]
    have hAl : (textsL l 3).length ≤ 256 := by have := textsL_len l 3; have := (chkO_ok hc).1; omega
    have hSl : ((textsL l 3).filter (sureP l)).length ≤ 256 := Nat.le_trans (List.length_filter_le _ _) hAl
    rw [eA, hc] at AK
    rw [eS, hc] at SK
    have IN : Hid (∀ w1 u s, GS KS w1 u (textsL l 3) → _) := fun w1 u s h1 => inG_any u (textsL l 3) s w1 h1 (by omega)
    have HSA : Hid (∀ x ∈ (textsL l 3).filter (sureP l), inB (textsL l 3) x = true) := fun x hx => (inB_iff _ _).2 (List.mem_filter.1 hx).1
    have RN : Hid (∀ w1, Below w.heap.size w w1 → _) := fun w1 b => rename_any v l f t w1 (h.below b) ht hf htt (hv.below b) hlm
    have htX : ∀ c ∈ l.map (ren f t), c.text.size ≤ maxLen := fun c hcm => by
      obtain ⟨o, ho, rfl⟩ := List.mem_map.1 hcm
      unfold ren; split
      · exact htt
      · exact ht o ho
    have AX : Hid (renE l f t = 0 → inB (textsL l 3) t = false → ∀ w1 u, Below w.heap.size w w1 → OS w1 u (l.map (ren f t)) → Calls Tryd.prog 29 #[u] w1 fun e w' => ∃ p c, e = .returned (.tuple #[.slice p (textsL l 3).length c, .int .i64 0]) ∧ GS KS w' (.slice p (textsL l 3).length c) ((textsL l 3).map (sg f t)) ∧ Below w1.heap.size w1 w') := fun hr hi w1 u b hu => by
      have htn : nameB t = true := by
        unfold renE at hr; rw [if_pos hc] at hr; split at hr
        · rename_i hh; exact hh.2
        · omega
      have hni : t ∉ textsL l 3 := fun e => by rw [(inB_iff _ _).2 e] at hi; cases hi
      have hcx := chkO_ren (f := f) hc htn
      refine (asked_any u _ w1 hu htX (hv.below b) (by rw [List.length_map]; exact hlm)).mono ?_
      rintro e w' ⟨p, c, rfl, ho, hb⟩
      have e1 : askL (l.map (ren f t)) 3 = (textsL l 3).map (sg f t) := by unfold askL; rw [if_pos hcx, textsL_ren hni]
      rw [e1] at ho ⊢
      rw [hcx]
      have ho2 := ho.gs KS_ok.len
      rw [List.length_map] at ho2 ⊢
      exact ⟨p, c, rfl, ho2, hb⟩
    have RX : Hid (renE l f t = 0 → inB (textsL l 3) t = false → ∀ w1 u, Below w.heap.size w w1 → OS w1 u (l.map (ren f t)) → Calls Tryd.prog 27 #[u, .string t, .string f] w1 fun e w' => AnsO w1 w' e l 0) := fun hr hi w1 u b hu => by
      have htn : nameB f = true ∧ nameB t = true := by
        unfold renE at hr; rw [if_pos hc] at hr; split at hr
        · rename_i hh; exact hh
        · omega
      have hni : t ∉ textsL l 3 := fun e => by rw [(inB_iff _ _).2 e] at hi; cases hi
      have hcx := chkO_ren (f := f) hc htn.2
      have e0 : renE (l.map (ren f t)) t f = 0 := by unfold renE; rw [if_pos hcx, if_pos ⟨htn.2, htn.1⟩]
      have e1 : renL (l.map (ren f t)) t f = l := by unfold renL; rw [if_pos e0, ren_back hni]
      have := rename_any u _ t f w1 hu htX htt hf (hv.below b) (by rw [List.length_map]; exact hlm)
      rw [e0, e1] at this
      exact this
    have RL1 : Hid (renE l f t = 0 → renL l f t = l.map (ren f t)) := fun e => by unfold renL; rw [if_pos e]
    have RL0 : Hid (renE l f t ≠ 0 → renL l f t = []) := fun e => by unfold renL; rw [if_neg e]
    have SE : Hid (∀ w1 u, Below w.heap.size w w1 → OS w1 u l → _) := fun w1 u b h1 => sameExpr_same w1 u v l h1 (h.below b) (by omega)
    obtain ⟨p, cap, rfl⟩ := h.form
    generalize (textsL l 3).filter (sureP l) = S at *
    generalize textsL l 3 = A at *
    generalize renE l f t = RE at *
    generalize renL l f t = RL at *
    generalize l.map (ren f t) = X at *
    clear h ht hv hf htt hc eA eS htX
    go_enter Tryd.func8, Tryd.ntmps8
    go_wp2_with fail
    refine Calls.mono WK.out ?_
    rintro e w1 ⟨rfl, hb1⟩
    have B1 : Hid (Below w.heap.size w w1) := hb1
    clear hb1 WK
    go_wp2_with fail
    refine Calls.mono (AK.out _ B1.out) ?_
    rintro e w2 ⟨p2, c2, rfl, ho2, hb2⟩
    have B2 : Hid (Below w.heap.size w w2) := B1.out.trans (hb2.mono B1.out.size)
    have A2 : Hid (GS KS w2 (.slice p2 A.length c2) A) := ho2.gs KS_ok.len
    clear ho2 hb2 AK B1
    go_wp2_with fail
    refine Calls.mono (SK.out _ B2.out) ?_
    rintro e w3 ⟨p3, c3, rfl, ho3, hb3⟩
    have B3 : Hid (Below w.heap.size w w3) := B2.out.trans (hb3.mono B2.out.size)
    have A3 : Hid (GS KS w3 (.slice p2 A.length c2) A) := A2.out.below hb3
    have S3 : Hid (GS KS w3 (.slice p3 S.length c3) S) := ho3.gs KS_ok.len
    clear ho3 hb3 SK B2 A2
    go_wp2_with fail
    go_loopw [11] (fun i wr => ∃ k : Nat, k ≤ S.length ∧ i = .int .i64 k ∧ wr = w3) (fun i _ => S.length - (intOf i).toNat)
    case atStart => exact ⟨0, Nat.zero_le _, rfl, rfl⟩
    case round =>
      obtain ⟨k, hk, rfl, rfl⟩ := hrel
      by_cases hlt : k < S.length
      · obtain ⟨X1, o1, rfl, a1⟩ := S3.out.atS hlt
        have hin := HSA.out _ (List.getElem_mem hlt)
        generalize S[k] = y at *
        have I1 : Hid _ := IN.out _ _ y A3.out
        go_wp2_with fail
        refine Calls.mono I1.out ?_
        rintro e w4 ⟨rfl, rfl⟩
        rw [hin]
        go_wp2_with fail
        go_roundw
        case rel => exact ⟨k + 1, by omega, by go_num, by simp⟩
        case measure => simp [intOf]; omega
      · have I1 : Hid _ := IN.out _ _ t A3.out
        go_wp2_with fail
        refine Calls.mono I1.out ?_
        rintro e w4 ⟨rfl, rfl⟩
        have hsub : inB A t = true ∨ inB A t = false := by cases inB A t <;> simp
        rcases hsub with hq | hq
        · rw [hq]
          go_wp2_with fail
          go_ret
          exact ⟨rfl, B3.out⟩
        · rw [hq]
          go_wp2_with fail
          refine Calls.mono (RN.out _ B3.out) ?_
          rintro e w5 ⟨p5, c5, rfl, ho5, hb5⟩
          have B5 : Hid (Below w.heap.size w w5) := B3.out.trans (hb5.mono B3.out.size)
          have A5 : Hid (GS KS w5 (.slice p2 A.length c2) A) := A3.out.below hb5
          have X5 : Hid (OS w5 (.slice p5 RL.length c5) RL) := ho5.gs KO_ok.len
          clear ho5 hb5 RN B3 A3 S3 I1 IN HSA
          by_cases hr : RE = 0
          · have hRL := RL1.out hr
            rw [hRL] at X5 ⊢
            rw [hr]
            have AXX : Hid _ := AX.out hr hq
            have RXX : Hid _ := RX.out hr hq
            clear AX RX RL1 RL0 hRL hr hq
            go_wp2_with fail
            refine Calls.mono (AXX.out _ _ B5.out X5.out) ?_
            rintro e w6 ⟨p6, c6, rfl, ho6, hb6⟩
            have B6 : Hid (Below w.heap.size w w6) := B5.out.trans (hb6.mono B5.out.size)
            have A6 : Hid (GS KS w6 (.slice p2 A.length c2) A) := A5.out.below hb6
            have Y6 : Hid (GS KS w6 (.slice p6 A.length c6) (A.map (sg f t))) := ho6
            have X6 : Hid (OS w6 (.slice p5 X.length c5) X) := X5.out.below hb6
            clear ho6 hb6 AXX B5 A5 X5
            go_wp2_with fail
            go_loopw [14] (fun i wr => ∃ (k n : Nat) (wk : World), k ≤ A.length ∧ i = .int .i64 k ∧ wk = wr ∧ wk = w6.drewN n) (fun i _ => A.length - (intOf i).toNat)
            case atStart => exact ⟨0, 0, _, Nat.zero_le _, rfl, rfl, rfl⟩
            case round =>
              obtain ⟨k, n, wk, hk, rfl, rfl, rfl⟩ := hrel
              by_cases hlt : k < A.length
              · obtain ⟨X1, o1, rfl, a1⟩ := A6.out.atS hlt
                obtain ⟨X2, o2, rfl, a2⟩ := Y6.out.atS (k := k) (by rw [List.length_map]; exact hlt)
                rw [List.getElem_map] at a2
                generalize A[k] = y at *
                by_cases hy : y = f
                · have e1 : sg f t y = t := by unfold sg; rw [if_pos hy]
                  rw [e1] at a2
                  subst hy
                  clear A6 Y6 X6 B6 RXX SE
                  go_wp2_with fail
                  go_quiet (fail)
                  go_wp2_with fail
                  all_goals
                    go_roundw
                    case rel => exact ⟨k + 1, _, _, by omega, by go_num, rfl, rfl⟩
                    case measure => simp [intOf]; omega
                · have e1 : sg f t y = y := by unfold sg; rw [if_neg hy]
                  rw [e1] at a2
                  have e2 : (y.toList == f.toList) = false := by rw [bytes_beq]; exact decide_eq_false hy
                  have e3 : (y.toList != f.toList) = true := by simp [bne, e2]
                  clear A6 Y6 X6 B6 RXX SE
                  go_wp2_with fail
                  go_quiet (fail)
                  go_wp2_with fail
                  all_goals
                    go_roundw
                    case rel => exact ⟨k + 1, _, _, by omega, by go_num, rfl, rfl⟩
                    case measure => simp [intOf]; omega
              · have B7 : Hid (Below w.heap.size w (w6.drewN n)) := ⟨B6.out.os, B6.out.tape, B6.out.output, B6.out.size, B6.out.block⟩
                have X7 : Hid (OS (w6.drewN n) (.slice p5 X.length c5) X) := X6.out.blk (Nat.le_refl _) (fun _ _ _ => rfl)
                go_wp2_with fail
                refine Calls.mono (RXX.out _ _ B7.out X7.out) ?_
                rintro e w8 ⟨p8, c8, rfl, ho8, hb8⟩
                have B8 : Hid (Below w.heap.size w w8) := B7.out.trans (hb8.mono B7.out.size)
                have X8 : Hid (OS w8 (.slice p8 l.length c8) l) := ho8.gs KO_ok.len
                clear ho8 hb8 RXX B7 X7
                go_wp2_with fail
                refine Calls.mono (SE.out _ _ B8.out X8.out) ?_
                rintro e w9 ⟨rfl, hb9⟩
                go_wp2_with fail
                go_ret
                exact ⟨rfl, B8.out.trans (hb9.mono B8.out.size)⟩
          · have hRL := RL0.out hr
            rw [hRL]
            have h1 : (RE == 0) = false := by simpa using hr
            have h2 : (RE != 0) = true := by simpa using hr
            clear AX RX RL1 RL0 X5 hRL
            go_wp2_with fail
            go_ret
            exact ⟨rfl, B5.out⟩
  · have eA : askL l 3 = [] := by unfold askL; rw [if_neg hc]
    have eS : sureL l = [] := by unfold sureL; rw [if_neg hc]
    rw [eA] at AK
    rw [eS] at SK
    obtain ⟨p, cap, rfl⟩ := h.form
    generalize chkO l = c at *
    have h1 : (c == 0) = false := by simpa using hc
    have h2 : (c != 0) = true := by simpa using hc
    clear h ht hv hf htt eA eS
    go_enter Tryd.func8, Tryd.ntmps8
    go_wp2_with fail
    refine Calls.mono WK.out ?_
    rintro e w1 ⟨rfl, hb1⟩
    have B1 : Hid (Below w.heap.size w w1) := hb1
    clear hb1 WK
    go_wp2_with fail
    refine Calls.mono (AK.out _ B1.out) ?_
    rintro e w2 ⟨p2, c2, rfl, _, hb2⟩
    have B2 : Hid (Below w.heap.size w w2) := B1.out.trans (hb2.mono B1.out.size)
    clear hb2 AK B1
    go_wp2_with fail
    refine Calls.mono (SK.out _ B2.out) ?_
    rintro e w3 ⟨p3, c3, rfl, _, hb3⟩
    have B3 : Hid (Below w.heap.size w w3) := B2.out.trans (hb3.mono B2.out.size)
    clear hb3 SK B2
    go_wp2_with fail
    go_ret
    exact ⟨rfl, B3.out⟩
end Go.Proofs.YtmkgcgdfgagdlaaDoor
