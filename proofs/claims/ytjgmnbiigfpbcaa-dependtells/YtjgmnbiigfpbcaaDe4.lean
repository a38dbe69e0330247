/- Depend: the law DependNever. -/
import Derived.Test.YtjgmnbiigfpbcaaDe3
namespace Go.Proofs.Ytjgmnbiigfpbcaa
open Go.RowKit

/-- From a task to the one that runs what it waits for. -/
def tn (X : Wb) (t : Nat) : Option Nat := if (X.w t).is then some (X.r (X.w t).to).to else none
theorem tn_of_cell {X : Wb} (h : WI X) : ∀ (n c : Nat), itn (nxt X) n c = none → (X.r c).is = true → Ends (tn X) (X.r c).to
  | 0, c, hn, _ => by cases hn
  | n + 1, c, hn, hr => by
    by_cases hk : (stk X (X.r c).to).idxOf c + 1 < (stk X (X.r c).to).length
    · have e := nxt_up hr hk
      obtain ⟨d, hd⟩ : ∃ d, d = (stk X (X.r c).to)[(stk X (X.r c).to).idxOf c + 1] := ⟨_, rfl⟩
      rw [← hd] at e
      simp only [itn, e, Option.bind_some] at hn
      have hm : d ∈ stk X (X.r c).to := by rw [hd]; exact List.getElem_mem _
      have hm2 := stk_mem.1 hm
      have := tn_of_cell h n d hn hm2.1
      rw [hm2.2] at this; exact this
    · have e := nxt_top hr hk
      cases hw : (X.w (X.r c).to).is with
      | false => exact ⟨1, by simp [itn, tn, hw]⟩
      | true =>
        rw [hw, if_pos rfl] at e
        simp only [itn, e, Option.bind_some] at hn
        have hm := (h.wm _ hw).2.2
        obtain ⟨k, hk⟩ := tn_of_cell h n _ hn hm
        exact ⟨k + 1, by simp only [itn]; unfold tn; rw [if_pos hw]; exact hk⟩
theorem tn_ends {X : Wb} (h : WI X) (t : Nat) : Ends (tn X) t := by
  cases hw : (X.w t).is with
  | false => exact ⟨1, by simp [itn, tn, hw]⟩
  | true =>
    have hm := (h.wm _ hw).2.2
    obtain ⟨n, hn⟩ := h.en (X.w t).to
    obtain ⟨k, hk⟩ := tn_of_cell h n _ hn hm
    exact ⟨k + 1, by simp only [itn]; rw [show tn X t = some (X.r (X.w t).to).to by unfold tn; rw [if_pos hw]]; exact hk⟩
theorem tn_ne {X : Wb} (h : WI X) {t : Nat} (hw : (X.w t).is = true) : (X.r (X.w t).to).to ≠ t := fun e => by
  have hc : Cyc (tn X) t := ⟨1, by omega, by rw [it_one]; unfold tn; rw [if_pos hw, e]⟩
  obtain ⟨k, hk⟩ := tn_ends h t
  exact cyc_never hc k hk
def ofL (X : Wb) : List Int := (List.range 128).map fun t => eO (tn X t)
theorem ofL_len (X : Wb) : (ofL X).length = 128 := by simp [ofL]
theorem ofL_at {X : Wb} {k : Nat} (hk : k < 128) : (ofL X)[k]'(by rw [ofL_len]; exact hk) = eO (tn X k) := by simp [ofL]
theorem ofL_rl {X : Wb} (h : WI X) : rlB (ofL X) = true := by
  refine rlB_all fun k hk => ?_
  have hk2 : k < 128 := by rw [ofL_len] at hk; exact hk
  rw [ofL_at hk2, ofL_len]
  unfold tn
  split
  · rename_i hw
    have := (h.rm _ (h.wm _ hw).2.2).2
    show -1 ≤ (((X.r (X.w k).to).to : Nat) : Int) ∧ (((X.r (X.w k).to).to : Nat) : Int) < 128
    omega
  · show (-1 : Int) ≤ -1 ∧ (-1 : Int) < 128; omega
theorem ofL_f {X : Wb} (h : WI X) : fL (ofL X) = tn X := by
  funext k
  by_cases hk : k < 128
  · rw [fL_at (by rw [ofL_len]; exact hk), ofL_at hk, oI_eO]
  · have e1 : fL (ofL X) k = none := by unfold fL; rw [List.getElem?_eq_none (by rw [ofL_len]; omega)]; rfl
    have e2 : tn X k = none := by
      unfold tn
      rw [if_neg]
      intro hw
      exact hk (wait_lt h hw)
    rw [e1, e2]
theorem ofL_no {X : Wb} (h : WI X) (i : Nat) : ¬ Cyc (fL (ofL X)) i := fun hc => by
  rw [ofL_f h] at hc
  obtain ⟨k, hk⟩ := tn_ends h i
  exact cyc_never hc k hk
theorem ofL_cir {X : Wb} (h : WI X) {R : List Nat} (hO : CirO (ofL X) R) : R = [] ∧ cirE (ofL X) = 0 := by
  have e : cirE (ofL X) = 0 := by unfold cirE; rw [if_neg (by rw [ofL_len]; omega), ofL_rl h]; rfl
  refine ⟨?_, e⟩
  rcases (hO.1 e).2.2 with ⟨h1, _⟩ | ⟨m, hm, _⟩
  · exact h1
  · exact absurd hm.cyc (ofL_no h m)
theorem ofL_end {X : Wb} (h : WI X) {i : Nat} (hi : i < 128) : itn (tn X) 129 i = none := by
  have := no_cyc_end (ofL_rl h) (fun i _ => ofL_no h i) (i := i) (by rw [ofL_len]; exact hi)
  rw [ofL_len, ofL_f h] at this
  exact this
theorem take_of {X : Wb} {k : Nat} (hk : k < 128) : (ofL X).take (k + 1) = (ofL X).take k ++ [eO (tn X k)] := by
  rw [List.take_succ_eq_append_getElem (by rw [ofL_len]; exact hk), ofL_at hk]
theorem wtgE_at {X : Wb} {k : Nat} (hk : k < 128) : wtgE X k = .returned (.tuple #[.int .i64 (X.w k).to, .bool (X.w k).is, .int .i64 0]) := by
  unfold wtgE
  rw [if_pos (by simp [tkB]; omega)]
  rfl
theorem runE_at {X : Wb} {k : Nat} (hk : k < 256) : runE X k = .returned (.tuple #[.int .i64 (X.r k).to, .bool (X.r k).is, .int .i64 0]) := by
  unfold runE
  rw [if_pos (by simp [clB]; omega)]
  rfl
set_option maxRecDepth 100000 in
set_option maxHeartbeats 16000000 in
theorem dependNever_any (v : Value) (L : List Ca) (w : World) (hl : GS KCa w v L) (hn : L.length ≤ 140737488355328) : Calls Try.prog 5 #[v] w fun e w' => e = .returned (.bool true) ∧ Below w.heap.size w w' := by
  obtain ⟨p, c, hv⟩ := hl.form
  subst hv
  have WK := hid (works_any w)
  have PL : Hid (∀ W, Below w.heap.size w W → Calls Try.prog 16 #[.slice p L.length c] W fun e w' => ∃ b X, e = .returned (.pointer (some ⟨b, 0, none⟩)) ∧ PW W w' b X L.length) := fun W hb => played_any _ L W (hl.below hb) hn
  generalize L.length = n at *
  clear hl
  go_enter Try.func5, Try.ntmps5
  go_wp2_with (first | (go_at_call 9; refine WK.out.mono ?_; rintro e w1 ⟨rfl, hb1⟩; have B1 := hid hb1; clear hb1) | (go_at_call 16; refine (PL.out _ B1.out).mono ?_; rintro e w2 ⟨b, X, rfl, h2⟩; have P2 := hid h2; clear h2))
  have WI2 := hid P2.out.wi
  have B2 : Hid (Below w.heap.size w w2) := bl3 B1.out P2.out.bl
  have W3 : Hid (PW w2 (w2.alloc (.cells #[] 3)) b X n → True) := fun _ => trivial
  clear W3 WK PL
  have hbl := P2.out.lt
  have X2 := hid P2.out.wx
  have O0 : Hid (OwnG KI (w2.alloc (.cells #[] 3)) w2.heap.size (.slice (some ⟨w2.heap.size, 0, none⟩) 0 0) []) := OwnG.empty KI w2
  have BA : Hid (Below w2.heap.size w2 (w2.alloc (.cells #[] 3))) := bal _ _
  clear P2
  go_loopw [4, 5] (fun v4 v5 wr => ∃ (k : Nat) (S : List Int) (q : Option Addr) (cc : Nat) (wk : World), k ≤ 128 ∧ v5 = .int .i64 k ∧ v4 = .slice q S.length cc ∧ wk = wr ∧ Hid (S = (ofL X).take k) ∧ Hid (OwnG KI wk w2.heap.size (.slice q S.length cc) S) ∧ Hid (Below w2.heap.size w2 wk)) (fun _ v5 _ => 128 - (intOf v5).toNat)
  case atStart => exact ⟨0, [], _, _, _, by omega, rfl, rfl, rfl, rfl, O0, BA⟩
  case round =>
    obtain ⟨k, S, q, cc, wr, hk, rfl, rfl, rfl, HS, HO, HB⟩ := hrel
    clear O0 BA
    have SL : S.length ≤ 128 := by rw [HS.out]; simp [ofL_len]; omega
    have LS : Hid ((S.length + 1) * KI.B ≤ 140737488355328) := by show (S.length + 1) * 8 ≤ _; omega
    by_cases hlt : k < 128
    · have HS2 := hid (take_of (X := X) hlt)
      have WT := waiting_any wr b X (X2.out.below HB.out) WI2.out k
      rw [wtgE_at hlt] at WT
      have W := hid WT
      clear WT
      cases hw : (X.w k).is with
      | false =>
        have HS3 : Hid (S ++ [(-1 : Int)] = (ofL X).take (k + 1)) := by show _ = _; rw [HS2.out, HS.out]; unfold tn; rw [hw]; rfl
        rw [hw] at W
        generalize (X.w k).to = x1 at *
        clear hw HS2
        go_wp2_with (first | (go_at_call 17; refine W.out.mono ?_; rintro e w4 ⟨rfl, hb4⟩; have B4 := hid hb4; clear hb4) | (at_builtin; refine append_g KI KI_ok rfl (.tmp 39) (.tmp 40) 35 rfl w2.heap.size Try.underlying35 w4 _ _ (.slice q S.length cc) S (-1 : Int) _ rfl (HO.out.below B4.out) w4.heap.size rfl rfl rfl LS.out (bl3 HB.out B4.out).size ?_; intro g5 cp5 w5 ho5 hb5 hk5 hg5; have O5 := hid ho5; have B5 : Hid (Below w2.heap.size w2 w5) := (bl3 HB.out B4.out).trans hb5; clear ho5 hb5 hk5 hg5))
        go_roundw
        case rel => exact ⟨k + 1, S ++ [(-1 : Int)], some ⟨g5, 0, none⟩, cp5, _, by omega, by go_num, by rw [List.length_append]; rfl, rfl, HS3, by rw [List.length_append]; exact O5.out, B5⟩
        case measure => simp [intOf]; omega
      | true =>
        have hne := tn_ne WI2.out hw
        have hcl := (WI2.out.wm _ hw).2.1
        have hrn := (WI2.out.wm _ hw).2.2
        have HS3 : Hid (S ++ [((X.r (X.w k).to).to : Int)] = (ofL X).take (k + 1)) := by show _ = _; rw [HS2.out, HS.out]; unfold tn; rw [hw]; rfl
        have RN : Hid (∀ W, Below w2.heap.size w2 W → Calls Try.prog 18 #[.pointer (some ⟨b, 0, none⟩), .int .i64 (X.w k).to] W fun e w' => e = .returned (.tuple #[.int .i64 (X.r (X.w k).to).to, .bool true, .int .i64 0]) ∧ Below W.heap.size W w') := fun W hb => by
          have := runner_any W b X (X2.out.below hb) WI2.out (X.w k).to
          rw [runE_at hcl, hrn] at this
          exact this
        rw [hw] at W
        generalize (X.r (X.w k).to).to = x2 at *
        generalize (X.w k).to = x1 at *
        have hni : ¬ (x2 : Int) = k := by omega
        clear hw HS2 hrn
        go_wp2_with (first | (go_at_call 17; refine W.out.mono ?_; rintro e w4 ⟨rfl, hb4⟩; have B4 := hid (bl3 HB.out hb4); have B4' := hid hb4; clear hb4) | (go_at_call 18; refine (RN.out _ B4.out).mono ?_; rintro e w6 ⟨rfl, hb6⟩; have B6 := hid (bl3 B4.out hb6); have B6' := hid (bl3 B4'.out hb6); clear hb6) | (at_builtin; refine append_g KI KI_ok rfl (.tmp 60) (.tmp 62) 35 rfl w2.heap.size Try.underlying35 w6 _ _ (.slice q S.length cc) S (x2 : Int) _ rfl (HO.out.below B6'.out) w6.heap.size rfl rfl rfl LS.out B6.out.size ?_; intro g5 cp5 w5 ho5 hb5 hk5 hg5; have O5 := hid ho5; have B5 : Hid (Below w2.heap.size w2 w5) := B6.out.trans hb5; clear ho5 hb5 hk5 hg5))
        go_roundw
        case rel => exact ⟨k + 1, S ++ [(x2 : Int)], some ⟨g5, 0, none⟩, cp5, _, by omega, by go_num, by rw [List.length_append]; rfl, rfl, HS3, by rw [List.length_append]; exact O5.out, B5⟩
        case measure => simp [intOf]; omega
    · have hSe : S = ofL X := by rw [HS.out]; exact List.take_of_length_le (by rw [ofL_len]; omega)
      have hSl : S.length = 128 := by rw [hSe, ofL_len]
      have CF : Hid (Calls Try.prog 13 #[.slice q 128 cc] wr fun e w' => ∃ q cc, e = .returned (.tuple #[.slice q 0 cc, .int .i64 0]) ∧ Below wr.heap.size wr w') := by
        have := circleF_any S q cc wr (HO.out.gs KI_ok.len) (by omega)
        rw [hSl] at this
        refine this.mono ?_
        rintro e w' ⟨R, q, cc, rfl, _, hO, hb⟩
        rw [hSe] at hO
        obtain ⟨rfl, e0⟩ := ofL_cir WI2.out hO
        rw [hSe, e0]
        exact ⟨q, cc, rfl, hb⟩
      have AT : Hid (∀ W, Below wr.heap.size wr W → ∃ g, q = some ⟨g, 0, none⟩ ∧ ∀ j, j < 128 → W.cell? ⟨g, j, none⟩ = some (.int .i64 (eO (tn X j)))) := fun W hb => by
        obtain ⟨g, hg⟩ : ∃ g, q = some ⟨g, 0, none⟩ := by
          obtain ⟨Y, o, e1, _⟩ := (HO.out.gs KI_ok.len).atI (k := 0) (by omega)
          have hne : (Value.slice q S.length cc).ownBlock ≠ none := by rw [e1]; simp [Value.ownBlock]
          obtain ⟨g, cp, e2, _⟩ := HO.out.place hne
          injection e2 with e2 _ _
          exact ⟨g, e2⟩
        refine ⟨g, hg, fun j hj => ?_⟩
        obtain ⟨Y, o, e1, hc⟩ := ((HO.out.below hb).gs KI_ok.len).atI (k := j) (by omega)
        rw [hg] at e1
        injection e1 with e1
        injection e1 with e1 e2 _
        subst e1 e2
        rw [Nat.zero_add] at hc
        rw [hc]
        subst hSe
        rw [ofL_at hj]
      have TB : Hid (∀ m i j, i < 128 → itn (tn X) m i = some j → j < 128) := fun m i j hi h => by
        have := (fL_bd (ofL_rl WI2.out)).steps m i j (by rw [ofL_len]; exact hi) (by rw [ofL_f WI2.out]; exact h)
        rw [ofL_len] at this; exact this
      have TE : Hid (∀ i, i < 128 → itn (tn X) 129 i = none) := fun i hi => ofL_end WI2.out hi
      rw [hSl]
      have hlt2 : ¬ (k : Int) < 128 := by omega
      clear hSe hSl HS HO LS SL
      go_wp2_with (go_at_call 13; refine CF.out.mono ?_; rintro e w7 ⟨q7, c7, rfl, hb7⟩; have B7 := hid (bl3 HB.out hb7); have A7 := hid (AT.out _ hb7); clear hb7)
      obtain ⟨g, hg, hA⟩ := A7.out
      subst hg
      have HA := hid hA
      clear hA A7 AT CF
      go_loop [71] (fun v71 => ∃ i : Nat, i ≤ 128 ∧ v71 = .int .i64 i) (fun v71 => 128 - (intOf v71).toNat)
      case atStart => exact ⟨0, by omega, rfl⟩
      case round =>
        obtain ⟨i, hi, rfl⟩ := hrel
        by_cases hil : i < 128
        · go_wp2
          go_loop [15, 16] (fun v15 v16 => ∃ m : Nat, m ≤ 129 ∧ v16 = .int .i64 m ∧ v15 = .int .i64 (eO (itn (tn X) m i))) (fun _ v16 => 129 - (intOf v16).toNat)
          case atStart => exact ⟨0, by omega, rfl, rfl⟩
          case round =>
            obtain ⟨m, hm, rfl, rfl⟩ := hrel
            by_cases hmn : m ≤ 128
            · cases hx : itn (tn X) m i with
              | none =>
                have h0 : eO (none : Option Nat) = -1 := rfl
                rw [h0]
                have hmi : (m : Int) ≤ 128 := by omega
                clear hx h0
                go_wp2
                go_round
                case rel => exact ⟨i + 1, by omega, by go_num⟩
                case measure => simp [intOf]; omega
              | some j =>
                have h0 : eO (some j) = (j : Int) := rfl
                rw [h0]
                have hj : j < 128 := TB.out m i j hil hx
                have hcx := HA.out j hj
                have E : Hid (eO (tn X j) = eO (itn (tn X) (m + 1) i)) := by
                  show _ = _
                  rw [it_last, hx]
                  rfl
                generalize eO (tn X j) = y at *
                have hji : (j : Int) < 128 := by omega
                have hmi : (m : Int) ≤ 128 := by omega
                clear hx h0
                go_wp2
                go_round
                case rel => exact ⟨m + 1, by omega, by go_num, by rw [E.out]⟩
                case measure => simp [intOf]; omega
            · have hm2 : m = 129 := by omega
              have hx : itn (tn X) m i = none := by rw [hm2]; exact TE.out i hil
              rw [hx]
              have h0 : eO (none : Option Nat) = -1 := rfl
              rw [h0]
              have hmi : ¬ (m : Int) ≤ 128 := by omega
              clear hx h0 hm2
              go_wp2
              go_round
              case rel => exact ⟨i + 1, by omega, by go_num⟩
              case measure => simp [intOf]; omega
        · have hil2 : ¬ (i : Int) < 128 := by omega
          go_wp2
          go_ret
          exact ⟨rfl, bl3 B2.out B7.out⟩
end Go.Proofs.Ytjgmnbiigfpbcaa
