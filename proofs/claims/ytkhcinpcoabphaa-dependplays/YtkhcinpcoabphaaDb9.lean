/- Depend: Ask, Begin, Wait, End. -/
import Derived.Test.YtkhcinpcoabphaaDb8
namespace Go.Proofs.Ytkhcinpcoabphaa
open Go.RowKit

theorem But.drewB {F : Nat → Prop} {a b : World} (h : But F a.drew b) : But F a b := ⟨h.os, h.tape, h.output, h.size, h.block⟩
theorem WX.drew {w : World} {b : Nat} {X : Wb} (h : WX w b X) : WX w.drew b X := h
/-- The way from a cell on. -/
def wayL (X : Wb) (c : Nat) : List Nat := wayF (nxt X) 256 c
theorem wayL_way {X : Wb} (hi : WI X) (c : Nat) : Way (nxt X) c (wayL X c) := by
  obtain ⟨l, h⟩ := (hi.en c).way
  have e : wayL X c = l := by
    refine h.wayF 256 ?_
    by_cases hc : c < 256
    · have := h.len (nxt_bd hi) hc; omega
    · have hn : nxt X c = none := by
        cases e : nxt X c with
        | none => rfl
        | some d => obtain ⟨t, ht, _⟩ := nxt_iff.1 e; exact absurd (stk_lt hi ht) hc
      rcases h.parts with ⟨_, h2⟩ | ⟨y, _, h1, _⟩
      · rw [h2]; simp
      · rw [hn] at h1; cases h1
  rw [e]; exact h
/-- The circle. -/
def cirW (X : Wb) (t c : Nat) : List Nat := cirL X t (wayL X c)
theorem cirW_eq {X : Wb} (hi : WI X) {t c : Nat} {l : List Nat} (h : Cir X t c l) : cirW X t c = l := by
  have e := (wayL_way hi c).uniq h.way
  unfold cirW cirL
  rw [e, if_pos h.top]
theorem cirW_none {X : Wb} (hi : WI X) {t c : Nat} (h : ¬ ∃ l, Cir X t c l) : cirW X t c = [] := by
  unfold cirW cirL
  rw [if_neg]
  exact fun e => h ⟨_, wayL_way hi c, e⟩
theorem cirW_some {X : Wb} (hi : WI X) {t c : Nat} (h : cirW X t c ≠ []) : Cir X t c (cirW X t c) := by
  refine Classical.byContradiction fun q => h (cirW_none hi fun ⟨l, hl⟩ => q ?_)
  rw [cirW_eq hi hl]; exact hl
theorem cirW_len {X : Wb} (hi : WI X) {t c : Nat} (hc : c < 256) : (cirW X t c).length ≤ 256 := by
  by_cases h : cirW X t c = []
  · rw [h]; simp
  · exact (cirW_some hi h).way.len (nxt_bd hi) hc
def askE (X : Wb) (t c : Int) : Int := if tkB t && clB c then (if (X.w t.toNat).is then 7 else 0) else 1
def askL (X : Wb) (t c : Int) : List Nat := if askE X t c = 0 then cirW X t.toNat c.toNat else []
theorem askE_ok {X : Wb} {t c : Int} (h : askE X t c = 0) : tkB t = true ∧ clB c = true ∧ (X.w t.toNat).is = false := by
  unfold askE at h
  cases h1 : tkB t <;> cases h2 : clB c <;> cases h3 : (X.w t.toNat).is <;> simp [h1, h2, h3] at h ⊢
set_option maxHeartbeats 8000000 in
theorem ask_any (w : World) (b : Nat) (X : Wb) (h : WX w b X) (hi : WI X) (t c : Int) : Calls Try.prog 10 #[.pointer (some ⟨b, 0, none⟩), .int .i64 t, .int .i64 c] w fun e w' => ∃ q cc, e = .returned (.tuple #[.slice q (askL X t c).length cc, .int .i64 (askE X t c)]) ∧ OwnG KI w' w.heap.size (.slice q (askL X t c).length cc) (nI (askL X t c)) ∧ Below w.heap.size w w' := by
  have IT := hid (fun w' => isTask_any t w')
  have IC := hid (fun w' => isCell_any c w')
  have B0 := hid (Below.refl w.heap.size w)
  have HE : Hid (askE X t c = if tkB t && clB c then (if (X.w t.toNat).is then 7 else 0) else 1) := rfl
  have HL : Hid (askL X t c = if askE X t c = 0 then cirW X t.toNat c.toNat else []) := rfl
  generalize askL X t c = R at *
  generalize askE X t c = r at *
  cases h1 : tkB t with
  | false =>
    rw [h1] at IT HE
    have hr : r = 1 := by rw [HE.out]; rfl
    subst hr
    have HR : Hid (R = []) := HL.out
    rw [HR.out]
    clear h hi HE HL HR
    go_enter Try.func10, Try.ntmps10
    go_wp2_with (go_at_call 29; refine (IT.out _).mono ?_; rintro e w' ⟨rfl, hw⟩; rw [hw]; clear hw)
    go_ret2
    exact ⟨none, 0, rfl, OwnG.nil _ _ _, B0.out⟩
  | true =>
    rw [h1] at IT HE
    cases h2 : clB c with
    | false =>
      rw [h2] at IC HE
      have hr : r = 1 := by rw [HE.out]; rfl
      subst hr
      have HR : Hid (R = []) := HL.out
      rw [HR.out]
      clear h hi HE HL HR
      go_enter Try.func10, Try.ntmps10
      go_wp2_with (first | (go_at_call 29; refine (IT.out _).mono ?_; rintro e w' ⟨rfl, hw⟩; rw [hw]; clear hw) | (go_at_call 30; refine (IC.out _).mono ?_; rintro e w' ⟨rfl, hw⟩; rw [hw]; clear hw))
      go_ret2
      exact ⟨none, 0, rfl, OwnG.nil _ _ _, B0.out⟩
    | true =>
      rw [h2] at IC HE
      obtain ⟨n, hn, hlt⟩ := tk_nat h1
      obtain ⟨m, hm, hlm⟩ := cl_nat h2
      subst hn hm
      have e0 : ((n : Int)).toNat = n := rfl
      have e1 : ((m : Int)).toNat = m := rfl
      rw [e0] at HE HL
      rw [e1] at HL
      obtain ⟨_, _, c3⟩ := h.wait hi hlt
      have hl := h.lt
      cases h3 : (X.w n).is with
      | true =>
        rw [h3] at HE c3
        have hr : r = 7 := by rw [HE.out]; rfl
        subst hr
        have HR : Hid (R = []) := HL.out
        rw [HR.out]
        clear h hi HE HL HR e0 e1 h1 h2 h3
        go_enter Try.func10, Try.ntmps10
        go_wp2_with (first | (go_at_call 29; refine (IT.out _).mono ?_; rintro e w' ⟨rfl, hw⟩; rw [hw]; clear hw) | (go_at_call 30; refine (IC.out _).mono ?_; rintro e w' ⟨rfl, hw⟩; rw [hw]; clear hw))
        go_ret2
        exact ⟨none, 0, rfl, OwnG.nil _ _ _, B0.out⟩
      | false =>
        rw [h3] at HE c3
        have hr : r = 0 := by rw [HE.out]; rfl
        subst hr
        have HR : Hid (R = cirL X n (wayL X m)) := HL.out
        have CI := hid (circle_any X hi b n m hlm w h (wayL X m) (wayL_way hi m))
        rw [← HR.out] at CI
        clear h hi HE HL HR e0 e1 h1 h2 h3
        go_enter Try.func10, Try.ntmps10
        go_wp2_with (first | (go_at_call 29; refine (IT.out _).mono ?_; rintro e w' ⟨rfl, hw⟩; rw [hw]; clear hw) | (go_at_call 30; refine (IC.out _).mono ?_; rintro e w' ⟨rfl, hw⟩; rw [hw]; clear hw) | (go_at_call 33; refine CI.out.mono ?_; rintro e w2 ⟨q, cc, rfl, ho2, hb2⟩; have O2 := hid ho2; have B2 := hid hb2; clear ho2 hb2))
        go_ret2
        exact ⟨_, _, rfl, O2.out, B2.out⟩
def begE (X : Wb) (t c : Int) : Int := if tkB t && clB c then (if (X.w t.toNat).is then 7 else if (X.r c.toNat).is then 6 else if 48 ≤ (stk X t.toNat).length then 141 else 0) else 1
def begX (X : Wb) (t c : Int) : Wb := if begE X t c = 0 then begW X t.toNat c.toNat else X
theorem begE_ok {X : Wb} {t c : Int} (h : begE X t c = 0) : tkB t = true ∧ clB c = true ∧ (X.w t.toNat).is = false ∧ (X.r c.toNat).is = false ∧ (stk X t.toNat).length < 48 := by
  unfold begE at h
  cases h1 : tkB t <;> cases h2 : clB c <;> cases h3 : (X.w t.toNat).is <;> cases h4 : (X.r c.toNat).is <;> simp [h1, h2, h3, h4] at h ⊢
  exact h
set_option maxRecDepth 100000 in
set_option maxHeartbeats 8000000 in
theorem begin_any (w : World) (b : Nat) (X : Wb) (h : WX w b X) (hi : WI X) (hmd : X.made ≤ 4611686018427387904) (t c : Int) : Calls Try.prog 8 #[.pointer (some ⟨b, 0, none⟩), .int .i64 t, .int .i64 c] w fun e w' => e = .returned (.int .i64 (begE X t c)) ∧ WX w' b (begX X t c) ∧ But (fun x => x = b) w w' := by
  have IT := hid (fun w' => isTask_any t w')
  have IC := hid (fun w' => isCell_any c w')
  have B0 := hid (But.refl (fun x => x = b) w)
  have H := hid h
  have HE : Hid (begE X t c = if tkB t && clB c then (if (X.w t.toNat).is then 7 else if (X.r c.toNat).is then 6 else if 48 ≤ (stk X t.toNat).length then 141 else 0) else 1) := rfl
  have HX : Hid (begX X t c = if begE X t c = 0 then begW X t.toNat c.toNat else X) := rfl
  generalize begX X t c = Y at *
  generalize begE X t c = r at *
  cases h1 : tkB t with
  | false =>
    rw [h1] at IT HE
    have hr : r = 1 := by rw [HE.out]; rfl
    subst hr
    have HR : Hid (Y = X) := HX.out
    rw [HR.out]
    clear h hi HE HX HR
    go_enter Try.func8, Try.ntmps8
    go_wp2_with (go_at_call 29; refine (IT.out _).mono ?_; rintro e w' ⟨rfl, hw⟩; rw [hw]; clear hw)
    go_ret
    exact ⟨rfl, H.out, B0.out⟩
  | true =>
    rw [h1] at IT HE
    cases h2 : clB c with
    | false =>
      rw [h2] at IC HE
      have hr : r = 1 := by rw [HE.out]; rfl
      subst hr
      have HR : Hid (Y = X) := HX.out
      rw [HR.out]
      clear h hi HE HX HR
      go_enter Try.func8, Try.ntmps8
      go_wp2_with (first | (go_at_call 29; refine (IT.out _).mono ?_; rintro e w' ⟨rfl, hw⟩; rw [hw]; clear hw) | (go_at_call 30; refine (IC.out _).mono ?_; rintro e w' ⟨rfl, hw⟩; rw [hw]; clear hw))
      go_ret
      exact ⟨rfl, H.out, B0.out⟩
    | true =>
      rw [h2] at IC HE
      obtain ⟨n, hn, hlt⟩ := tk_nat h1
      obtain ⟨m, hm, hlm⟩ := cl_nat h2
      subst hn hm
      have e0 : ((n : Int)).toNat = n := rfl
      have e1 : ((m : Int)).toNat = m := rfl
      rw [e0, e1] at HE HX
      obtain ⟨_, _, c3⟩ := h.wait hi hlt
      obtain ⟨_, _, c6⟩ := h.run hi hlm
      have hl := h.lt
      cases h3 : (X.w n).is with
      | true =>
        rw [h3] at HE c3
        have hr : r = 7 := by rw [HE.out]; rfl
        subst hr
        have HR : Hid (Y = X) := HX.out
        rw [HR.out]
        clear h hi HE HX HR e0 e1 h1 h2 h3
        go_enter Try.func8, Try.ntmps8
        go_wp2_with (first | (go_at_call 29; refine (IT.out _).mono ?_; rintro e w' ⟨rfl, hw⟩; rw [hw]; clear hw) | (go_at_call 30; refine (IC.out _).mono ?_; rintro e w' ⟨rfl, hw⟩; rw [hw]; clear hw))
        go_ret
        exact ⟨rfl, H.out, B0.out⟩
      | false =>
        rw [h3] at HE c3
        cases h4 : (X.r m).is with
        | true =>
          rw [h4] at HE c6
          have hr : r = 6 := by rw [HE.out]; rfl
          subst hr
          have HR : Hid (Y = X) := HX.out
          rw [HR.out]
          clear h hi HE HX HR e0 e1 h1 h2 h3 h4
          go_enter Try.func8, Try.ntmps8
          go_wp2_with (first | (go_at_call 29; refine (IT.out _).mono ?_; rintro e w' ⟨rfl, hw⟩; rw [hw]; clear hw) | (go_at_call 30; refine (IC.out _).mono ?_; rintro e w' ⟨rfl, hw⟩; rw [hw]; clear hw))
          go_ret
          exact ⟨rfl, H.out, B0.out⟩
        | false =>
          rw [h4] at HE c6
          have ST := hid (stack_any w b X h hi n)
          have SL := stk_len hi n
          by_cases h5 : 48 ≤ (stk X n).length
          · have hr : r = 141 := by rw [HE.out]; simp [h5]
            subst hr
            have HR : Hid (Y = X) := HX.out
            rw [HR.out]
            have h5' : (48 : Int) ≤ (stk X n).length := by omega
            generalize nI (stk X n) = SI at *
            generalize (stk X n).length = sl at *
            clear h hi HE HX HR e0 e1 h1 h2 h3 h4
            go_enter Try.func8, Try.ntmps8
            go_wp2_with (first | (go_at_call 29; refine (IT.out _).mono ?_; rintro e w' ⟨rfl, hw⟩; rw [hw]; clear hw) | (go_at_call 30; refine (IC.out _).mono ?_; rintro e w' ⟨rfl, hw⟩; rw [hw]; clear hw) | (go_at_call 31; refine ST.out.mono ?_; rintro e w2 ⟨q, cc, rfl, ho2, hb2⟩; have B2 := hid hb2; clear ho2 hb2))
            go_ret
            exact ⟨rfl, H.out.below B2.out, But.of_below B2.out⟩
          · have hr : r = 0 := by rw [HE.out]; simp [h5]
            subst hr
            have HR : Hid (Y = begW X n m) := HX.out
            rw [HR.out]
            have h5' : ¬ (48 : Int) ≤ (stk X n).length := by omega
            have NT := hid (fun W (k : WX W b X) => newTie_any W b X k hi hmd n)
            have SR : Hid (∀ W : World, WX W b ⟨X.runs, X.waits, X.made + 1⟩ → WX (((W.setCell ⟨b, m * 3, none⟩ (.int .i64 n)).setCell ⟨b, m * 3 + 1, none⟩ (.int .i64 ((X.made + 1 : Nat) : Int))).setCell ⟨b, m * 3 + 2, none⟩ (.bool true)) b (begW X n m) ∧ (∃ v, W.cell? ⟨b, m * 3, none⟩ = some v) ∧ (∃ v, W.cell? ⟨b, m * 3 + 1, none⟩ = some v) ∧ (∃ v, W.cell? ⟨b, m * 3 + 2, none⟩ = some v) ∧ ∀ o, W.frozen? ⟨b, o, none⟩ = false) := fun W k => by
              have hi2 : WI ⟨X.runs, X.waits, X.made + 1⟩ := ⟨hi.lr, hi.lw, hi.ri, hi.wi, fun c hc => ⟨Nat.le_succ_of_le (hi.rm c hc).1, (hi.rm c hc).2⟩, fun t ht => ⟨Nat.le_succ_of_le (hi.wm t ht).1, (hi.wm t ht).2⟩, hi.rz, hi.wz, hi.en⟩
              obtain ⟨a1, a2, a3⟩ := k.run hi2 hlm
              exact ⟨k.setr hi2 hlm ⟨n, X.made + 1, true⟩, ⟨_, a1⟩, ⟨_, a2⟩, ⟨_, a3⟩, k.fz⟩
            generalize ((X.made + 1 : Nat) : Int) = md at *
            generalize nI (stk X n) = SI at *
            generalize (stk X n).length = sl at *
            clear h hi HE HX HR e0 e1 h1 h2 h3 h4 hmd
            go_enter Try.func8, Try.ntmps8
            go_wp2_with (first | (go_at_call 29; refine (IT.out _).mono ?_; rintro e w' ⟨rfl, hw⟩; rw [hw]; clear hw) | (go_at_call 30; refine (IC.out _).mono ?_; rintro e w' ⟨rfl, hw⟩; rw [hw]; clear hw) | (go_at_call 31; refine ST.out.mono ?_; rintro e w2 ⟨q, cc, rfl, ho2, hb2⟩; have B2 := hid hb2; have X2 := hid (H.out.below hb2); clear ho2 hb2))
            go_region_with (go_at_call 32; refine (NT.out _ (WX.drew X2.out)).mono ?_; rintro e w3 ⟨rfl, hx3, hb3⟩; obtain ⟨hs3, ⟨_, g1⟩, ⟨_, g2⟩, ⟨_, g3⟩, g4⟩ := SR.out _ hx3; have S3 := hid hs3; have B3 := hid hb3; clear hs3 hb3 hx3)
            all_goals
              go_wp2
              go_ret
              exact ⟨rfl, S3.out, ((But.of_below (F := fun x => x = b) B2.out).trans (But.drewB B3.out) (fun _ hx => Or.inl hx)).trans (but3 b _ _ _ _ _ _) (fun _ hx => Or.inl hx)⟩
end Go.Proofs.Ytkhcinpcoabphaa
