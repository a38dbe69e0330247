/- Depend: the document's next. -/
import Derived.Test.YtkhcinpcoabphaaDr4
import Derived.Test.YtkhcinpcoabphaaDd4
namespace Go.Proofs.Ytkhcinpcoabphaa
open Go.RowKit

def nxE (o : Option Nat) : Ending := .returned (.tuple #[.int .i64 ((o.getD 0 : Nat) : Int), .bool o.isSome])
theorem GP.cells {w : World} {P : Nat → Prop} {q : Option Addr} {n c : Nat} {l : List Nat} (h : GP KI w P (.slice q n c) (nI l)) : n = l.length ∧ (0 < l.length → ∃ Y o, q = some ⟨Y, o, none⟩ ∧ ∀ k (hk : k < l.length), w.cell? ⟨Y, o + k, none⟩ = some (.int .i64 l[k])) := by
  refine ⟨by rw [← nI_len]; exact h.gs.len_eq, fun hl => ?_⟩
  obtain ⟨Y, o, e1, hY, hc⟩ := h.gs.slot (by rw [nI_len]; exact hl)
  refine ⟨Y, o, e1, fun k hk => ?_⟩
  rw [hc k (by rw [nI_len]; exact hk)]
  simp [nI]
set_option maxRecDepth 100000 in
set_option maxHeartbeats 16000000 in
theorem rnext_any {w : World} {P : Nat → Prop} {vr vw : Value} {X : Wb} (h : RV w P vr vw X) (hi : WI X) (x : Nat) : Calls Try.prog 45 #[.agg #[vr, vw], .int .i64 x] w fun e w' => e = nxE (nxt X x) ∧ Below w.heap.size w w' := by
  obtain ⟨⟨pr, nr, cr, rfl⟩, pw, nw, cw, rfl⟩ := h.forms
  have BA : Hid (Below w.heap.size w (w.alloc (.cells #[.slice pr nr cr, .slice pw nw cw] 29))) := bal _ _
  obtain ⟨b0, b1⟩ := box2 (w := w) (a := .slice pr nr cr) (b := .slice pw nw cw) (t := 29)
  have BX : Hid (∀ W, Below (w.heap.size + 1) (w.alloc (.cells #[.slice pr nr cr, .slice pw nw cw] 29)) W → W.cell? ⟨w.heap.size, 0, none⟩ = some (.slice pr nr cr) ∧ W.cell? ⟨w.heap.size, 1, none⟩ = some (.slice pw nw cw)) := fun W hb => ⟨(hb.cell (p := ⟨w.heap.size, 0, none⟩) (by show w.heap.size < w.heap.size + 1; omega)).trans b0, (hb.cell (p := ⟨w.heap.size, 1, none⟩) (by show w.heap.size < w.heap.size + 1; omega)).trans b1⟩
  have ZA : Hid ((w.alloc (.cells #[.slice pr nr cr, .slice pw nw cw] 29)).heap.size = w.heap.size + 1) := alloc_size _ _
  have HV := hid (h.below BA.out)
  have RN : Hid (∀ W, RV W P (.slice pr nr cr) (.slice pw nw cw) X → Calls Try.prog 27 #[.agg #[.slice pr nr cr, .slice pw nw cw], .int .i64 x] W fun e w' => e = .returned (.tuple #[.int .i64 (X.r x).to, .bool (X.r x).is]) ∧ Below W.heap.size W w') := fun W k => by
    obtain ⟨l, hl⟩ := k.rr
    exact rrunner_any hl hi ⟨_, _, _, rfl⟩ x
  have SK : Hid (∀ W t, RV W P (.slice pr nr cr) (.slice pw nw cw) X → Calls Try.prog 26 #[.agg #[.slice pr nr cr, .slice pw nw cw], .int .i64 (t : Nat)] W fun e w' => ∃ q n c, e = .returned (.slice q n c) ∧ GP KI w' P (.slice q n c) (nI (stk X t)) ∧ Below W.heap.size W w') := fun W t k => by
    obtain ⟨l, hl⟩ := k.rr
    refine (rstack_any hl (hl.len (stk_task hi)) ⟨_, _, _, rfl⟩ t).mono ?_
    rintro e w' ⟨q, n, c, rfl, hg, hb⟩
    exact ⟨q, n, c, rfl, hg.below hb, hb⟩
  have WT : Hid (∀ W t, RV W P (.slice pr nr cr) (.slice pw nw cw) X → Calls Try.prog 25 #[.agg #[.slice pr nr cr, .slice pw nw cw], .int .i64 (t : Nat)] W fun e w' => e = .returned (.tuple #[.int .i64 (X.w t).to, .bool (X.w t).is]) ∧ Below W.heap.size W w') := fun W t k => by
    obtain ⟨m, hm⟩ := k.ww
    exact rwaiting_any hm hi ⟨_, _, _, rfl⟩ t
  rw [← ZA.out] at BX
  cases hr : (X.r x).is with
  | false =>
    have E : Hid (nxE (nxt X x) = .returned (.tuple #[.int .i64 0, .bool false])) := by show _ = _; rw [nxt_not hr]; rfl
    rw [E.out]
    rw [hr] at RN
    generalize (X.r x).to = t at *
    clear h hi hr E SK WT
    go_enter Try.func45, Try.ntmps45
    go_wp2_with (go_at_call 27; refine (RN.out _ HV.out).mono ?_; rintro e w2 ⟨rfl, hb2⟩; have B2 := hid (bl3 BA.out hb2); clear hb2)
    go_ret2
    exact ⟨rfl, B2.out⟩
  | true =>
    rw [hr] at RN
    have hm : x ∈ stk X (X.r x).to := stk_mem.2 ⟨hr, rfl⟩
    have hix := List.idxOf_lt_length_iff.2 hm
    have HSL := stk_len hi (X.r x).to
    have CE : Hid (∀ k (hk : k < (stk X (X.r x).to).length), k ≠ (stk X (X.r x).to).idxOf x → (stk X (X.r x).to)[k] ≠ x) := fun k hk hne e => hne ((stk_nodup X (X.r x).to).idxOf_getElem k hk |>.symm.trans (by rw [e]))
    have CA : Hid ((stk X (X.r x).to)[(stk X (X.r x).to).idxOf x] = x) := List.getElem_idxOf hix
    have CU : Hid (∀ hk : (stk X (X.r x).to).idxOf x + 1 < (stk X (X.r x).to).length, nxE (nxt X x) = .returned (.tuple #[.int .i64 ((stk X (X.r x).to)[(stk X (X.r x).to).idxOf x + 1] : Nat), .bool true])) := fun hk => by rw [nxt_up hr hk]; rfl
    have CT : Hid (¬ (stk X (X.r x).to).idxOf x + 1 < (stk X (X.r x).to).length → nxE (nxt X x) = .returned (.tuple #[.int .i64 (X.w (X.r x).to).to, .bool (X.w (X.r x).to).is])) := fun hk => by
      rw [nxt_top hr hk]
      cases e : (X.w (X.r x).to).is with
      | true => rfl
      | false => rw [hi.wz _ e]; rfl
    have SK1 := hid (fun W k => SK.out W (X.r x).to k)
    have WT1 := hid (fun W k => WT.out W (X.r x).to k)
    generalize nxE (nxt X x) = rr at *
    generalize hS : stk X (X.r x).to = S at *
    generalize hI : S.idxOf x = ix at *
    generalize X.w (X.r x).to = wt at *
    generalize (X.r x).to = t at *
    clear hr hm h hS hI hi SK WT
    go_enter Try.func45, Try.ntmps45
    go_wp2_with (first | (go_at_call 27; refine (RN.out _ HV.out).mono ?_; rintro e w2 ⟨rfl, hb2⟩; obtain ⟨d0, d1⟩ := BX.out _ hb2; have B2 := hid hb2; clear hb2) | (go_at_call 26; refine (SK1.out _ (HV.out.below B2.out)).mono ?_; rintro e w3 ⟨q, n, c, rfl, hg3, hb3⟩; have G3 := hid hg3; have B3 := hid (bl3 B2.out hb3); obtain ⟨d2, d3⟩ := BX.out _ B3.out; clear hg3 hb3))
    obtain ⟨hn, hcell⟩ := G3.out.cells
    obtain ⟨Y, o, e1, hc⟩ := hcell (by omega)
    subst e1 hn
    have C3 := hid hc
    clear hc hcell G3
    go_loop [9] (fun v9 => ∃ k : Nat, k ≤ S.length ∧ v9 = .int .i64 k ∧ Hid (ix + 1 < S.length → k ≤ ix)) (fun v9 => S.length - (intOf v9).toNat)
    case atStart => exact ⟨0, Nat.zero_le _, rfl, fun _ => Nat.zero_le _⟩
    case round =>
      obtain ⟨k, hk, rfl, HK⟩ := hrel
      by_cases hlt : k + 1 < S.length
      · have ck := C3.out k (by omega)
        have hki : (k : Int) + 1 < S.length := by omega
        have hkj : (k : Int) < S.length := by omega
        by_cases he : k = ix
        · have hkx : S[k] = x := by subst he; exact CA.out
          rw [hkx] at ck
          have cu := C3.out (k + 1) hlt
          have E : Hid (rr = .returned (.tuple #[.int .i64 ((S[k + 1] : Nat)), .bool true])) := by subst he; exact CU.out hlt
          generalize S[k + 1] = y at *
          clear hkx he CA CE CU
          have cu2 := cu
          rw [← Nat.add_assoc] at cu2
          go_wp2
          go_ret2
          exact ⟨E.out.symm, bl3 BA.out B3.out⟩
        · have hkx : ¬ S[k] = x := CE.out k (by omega) he
          generalize S[k] = z at *
          have hz : ¬ (z : Int) = x := by omega
          clear hkx
          go_wp2
          go_round
          case rel => exact ⟨k + 1, by omega, by go_num, fun hq => by have := HK.out hq; omega⟩
          case measure => simp [intOf]; omega
      · have hu : ¬ ix + 1 < S.length := fun q => by have := HK.out q; omega
        have E := hid (CT.out hu)
        have hki : ¬ (k : Int) + 1 < S.length := by omega
        clear hu
        go_wp2_with (go_at_call 25; refine (WT1.out _ (HV.out.below B3.out)).mono ?_; rintro e w4 ⟨rfl, hb4⟩; have B4 := hid (bl3 B3.out hb4); clear hb4)
        go_ret2
        exact ⟨E.out.symm, bl3 BA.out B4.out⟩
end Go.Proofs.Ytkhcinpcoabphaa
