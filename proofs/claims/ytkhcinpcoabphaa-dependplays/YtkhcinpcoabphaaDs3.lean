/- Depend: the law's tells. -/
import Derived.Test.YtkhcinpcoabphaaDs2
namespace Go.Proofs.Ytkhcinpcoabphaa
open Go.RowKit

/-- A row that is the caller's to spoil. -/
structure SR (w : World) (q : Option Addr) (n c : Nat) (W : World) : Prop where
  r : ∃ l : List Int, l.length = n ∧ OwnG KI W w.heap.size (.slice q n c) l
  bl : Below w.heap.size w W
theorem SR.put {w : World} {q : Option Addr} {n c : Nat} {W : World} (h : SR w q n c W) {k : Nat} (hk : k < n) : ∃ g s0, q = some ⟨g, 0, none⟩ ∧ w.heap.size ≤ g ∧ g < W.heap.size ∧ W.cell? ⟨g, k, none⟩ = some (.int .i64 s0) ∧ (∀ o, W.frozen? ⟨g, o, none⟩ = false) ∧ SR w q n c (W.setCell ⟨g, k, none⟩ (.int .i64 (-7))) := by
  obtain ⟨l, rfl, ho⟩ := h.r
  obtain ⟨Y, o, e1, hc⟩ := (ho.gs KI_ok.len).atI hk
  have hne : (Value.slice q l.length c).ownBlock ≠ none := by rw [e1]; simp [Value.ownBlock]
  obtain ⟨g, cp, e2, _⟩ := ho.place hne
  injection e2 with e2 _ e3
  subst e2
  injection e1 with e1
  injection e1 with e1 e4 _
  subst e1 e4
  rw [Nat.zero_add] at hc
  have hlt := ho.lt (g := g) rfl
  exact ⟨g, _, rfl, hlt.1, hlt.2, hc, own_frozen ho, ⟨⟨l.set k (-7), by rw [List.length_set], ho.set1 (k := k) rfl KI_ok.len (-7 : Int) _ rfl⟩, h.bl.setCell hlt.1 _⟩⟩
theorem SR.of {w W1 W : World} {q : Option Addr} {c : Nat} {S : List Nat} (hb : Below w.heap.size w W1) (ho : OwnG KI W W1.heap.size (.slice q S.length c) (nI S)) (hW : Below W1.heap.size W1 W) : SR w q S.length c W := ⟨⟨nI S, nI_len S, ho.low hb.size⟩, bl3 hb hW⟩
theorem SR.below {w : World} {q : Option Addr} {n c : Nat} {W W' : World} (h : SR w q n c W) (hb : Below W.heap.size W W') : SR w q n c W' := by
  obtain ⟨l, e, ho⟩ := h.r
  exact ⟨⟨l, e, ho.below hb⟩, bl3 h.bl hb⟩
/-- The second row lies behind the first. -/
structure SR2 (w : World) (q1 : Option Addr) (n1 c1 : Nat) (q2 : Option Addr) (n2 c2 : Nat) (W : World) : Prop where
  a : SR w q1 n1 c1 W
  b : ∃ B, (∀ g, q1 = some ⟨g, 0, none⟩ → g < B) ∧ w.heap.size ≤ B ∧ ∃ l : List Int, l.length = n2 ∧ OwnG KI W B (.slice q2 n2 c2) l
theorem SR2.put {w : World} {q1 : Option Addr} {n1 c1 : Nat} {q2 : Option Addr} {n2 c2 : Nat} {W : World} (h : SR2 w q1 n1 c1 q2 n2 c2 W) {k : Nat} (hk : k < n1) : ∃ g s0, q1 = some ⟨g, 0, none⟩ ∧ W.cell? ⟨g, k, none⟩ = some (.int .i64 s0) ∧ (∀ o, W.frozen? ⟨g, o, none⟩ = false) ∧ SR2 w q1 n1 c1 q2 n2 c2 (W.setCell ⟨g, k, none⟩ (.int .i64 (-7))) := by
  obtain ⟨g, s0, e, h1, h2, h3, h4, h5⟩ := h.a.put hk
  obtain ⟨B, hB, hw, l, hl, ho⟩ := h.b
  have hgB := hB g e
  exact ⟨g, s0, e, h3, h4, h5, B, hB, hw, l, hl, ho.far fun z hz => by have := (ho.lt hz).1; rw [set_far (by omega)]⟩
theorem SR2.snd {w : World} {q1 : Option Addr} {n1 c1 : Nat} {q2 : Option Addr} {n2 c2 : Nat} {W : World} (h : SR2 w q1 n1 c1 q2 n2 c2 W) : SR w q2 n2 c2 W := by
  obtain ⟨B, hB, hw, l, hl, ho⟩ := h.b
  exact ⟨⟨l, hl, ho.low hw⟩, h.a.bl⟩
set_option maxRecDepth 100000 in
set_option maxHeartbeats 64000000 in
theorem tells_any {w : World} {b : Nat} {X : Wb} (hx : WX w b X) (hi : WI X) {P : Nat → Prop} {vr vw : Value} (hv : RV w P vr vw X) (t c : Int) : Calls Try.prog 7 #[.pointer (some ⟨b, 0, none⟩), .agg #[vr, vw], .int .i64 t, .int .i64 c] w fun e w' => e = .returned (.bool true) ∧ Below w.heap.size w w' := by
  obtain ⟨⟨pr, nr, cr, rfl⟩, pw, nw, cw, rfl⟩ := hv.forms
  obtain ⟨b0, b1⟩ := box2 (w := w) (a := .slice pr nr cr) (b := .slice pw nw cw) (t := 29)
  have SK : Hid (∀ W, Below w.heap.size w W → Calls Try.prog 21 #[.pointer (some ⟨b, 0, none⟩), .int .i64 t] W fun e w' => ∃ q cc, e = .returned (.tuple #[.slice q (stkO X t).length cc, .int .i64 (if tkB t then 0 else 1)]) ∧ OwnG KI w' W.heap.size (.slice q (stkO X t).length cc) (nI (stkO X t)) ∧ Below W.heap.size W w') := fun W hb => stackF_any W b X (hx.below hb) hi t
  have WT : Hid (∀ W, Below w.heap.size w W → Calls Try.prog 22 #[.pointer (some ⟨b, 0, none⟩), .int .i64 t] W fun e w' => e = wtgE X t ∧ Below W.heap.size W w') := fun W hb => waiting_any W b X (hx.below hb) hi t
  have RN : Hid (∀ W, Below w.heap.size w W → Calls Try.prog 23 #[.pointer (some ⟨b, 0, none⟩), .int .i64 c] W fun e w' => e = runE X c ∧ Below W.heap.size W w') := fun W hb => runner_any W b X (hx.below hb) hi c
  have WA : Hid (∀ W, Below w.heap.size w W → Calls Try.prog 24 #[.pointer (some ⟨b, 0, none⟩), .int .i64 c] W fun e w' => ∃ q cc, e = .returned (.tuple #[.slice q (waiO X c).length cc, .int .i64 (if clB c then 0 else 1)]) ∧ OwnG KI w' W.heap.size (.slice q (waiO X c).length cc) (nI (waiO X c)) ∧ Below W.heap.size W w') := fun W hb => waitersF_any W b X (hx.below hb) hi c
  have IN : Hid (∀ (W : World) (v u : Value) (l : List Nat), l.length ≤ 256 → GS KI W v (nI l) → GS KI W u (nI l) → Calls Try.prog 11 #[v, u] W fun e w' => e = .returned (.bool true) ∧ Below W.heap.size W w') := fun W v u l hl h1 h2 => by
    have := ints_any W v u (nI l) (nI l) h1 h2 (by rw [nI_len]; omega)
    rw [decide_eq_true rfl] at this
    exact this
  have RT : Hid (∀ W, Below w.heap.size w W → ∀ n : Nat, Calls Try.prog 25 #[.agg #[.slice pr nr cr, .slice pw nw cw], .int .i64 n] W fun e w' => e = .returned (.tuple #[.int .i64 (X.w n).to, .bool (X.w n).is]) ∧ Below W.heap.size W w') := fun W hb n => rwaiting_rv (hv.below hb) hi n
  have RK : Hid (∀ W, Below w.heap.size w W → ∀ n : Nat, Calls Try.prog 26 #[.agg #[.slice pr nr cr, .slice pw nw cw], .int .i64 n] W fun e w' => ∃ q n' cc, e = .returned (.slice q n' cc) ∧ GS KI w' (.slice q n' cc) (nI (stk X n)) ∧ Below W.heap.size W w') := fun W hb n => (rstack_rv (hv.below hb) hi n).mono fun _ _ ⟨q, n', cc, h0, hg, hb⟩ => ⟨q, n', cc, h0, hg.gs, hb⟩
  have RU : Hid (∀ W, Below w.heap.size w W → ∀ m : Nat, Calls Try.prog 27 #[.agg #[.slice pr nr cr, .slice pw nw cw], .int .i64 m] W fun e w' => e = .returned (.tuple #[.int .i64 (X.r m).to, .bool (X.r m).is]) ∧ Below W.heap.size W w') := fun W hb m => rrunner_rv (hv.below hb) hi m
  have RA : Hid (∀ W, Below w.heap.size w W → ∀ m : Nat, Calls Try.prog 28 #[.agg #[.slice pr nr cr, .slice pw nw cw], .int .i64 m] W fun e w' => ∃ q cc, e = .returned (.slice q (wai X m).length cc) ∧ GS KI w' (.slice q (wai X m).length cc) (nI (wai X m)) ∧ Below W.heap.size W w') := fun W hb m => (rwaiters_rv (hv.below hb) hi m).mono fun _ _ ⟨q, cc, h0, hg, hb⟩ => ⟨q, cc, h0, hg.gs KI_ok.len, hb⟩
  have LS : Hid (∀ n, (stk X n).length ≤ 256) := fun n => stk_len hi n
  have LW : Hid (∀ n, (wai X n).length ≤ 256) := fun n => by have := wai_len hi n; omega
  have T0 := hid (bal w (.cells #[.slice pr nr cr, .slice pw nw cw] 29))
  have CE : Hid (∀ W, Below (w.heap.size + 1) (w.alloc (.cells #[.slice pr nr cr, .slice pw nw cw] 29)) W → W.cell? ⟨w.heap.size, 0, none⟩ = some (.slice pr nr cr) ∧ W.cell? ⟨w.heap.size, 1, none⟩ = some (.slice pw nw cw)) := fun W hb => ⟨(hb.cell (p := ⟨w.heap.size, 0, none⟩) (by show w.heap.size < w.heap.size + 1; omega)).trans b0, (hb.cell (p := ⟨w.heap.size, 1, none⟩) (by show w.heap.size < w.heap.size + 1; omega)).trans b1⟩
  rw [← alloc_size w (.cells #[.slice pr nr cr, .slice pw nw cw] 29)] at CE
  have AL : Hid (∀ W, Below (w.alloc (.cells #[.slice pr nr cr, .slice pw nw cw] 29)).heap.size (w.alloc (.cells #[.slice pr nr cr, .slice pw nw cw] 29)) W → Below w.heap.size w W) := fun W hb => bl3 T0.out hb
  obtain ⟨w2, hw2⟩ : ∃ w2, w2 = w.alloc (.cells #[.slice pr nr cr, .slice pw nw cw] 29) := ⟨_, rfl⟩
  rw [← hw2] at CE AL T0
  have EQ := hid hw2
  clear hw2 b0 b1
  cases h1 : tkB t with
  | true =>
    cases h2 : clB c with
    | true =>
      obtain ⟨n, hn, hlt⟩ := tk_nat h1
      subst hn
      have E1 : Hid (stkO X n = stk X n) := by show _ = _; unfold stkO; rw [if_pos h1]; rfl
      have E2 : Hid (wtgE X n = .returned (.tuple #[.int .i64 (X.w n).to, .bool (X.w n).is, .int .i64 0])) := wtgE_at hlt
      rw [E1.out, h1] at SK
      rw [E2.out] at WT
      have hn1 : ¬ (n : Int) < 0 := by omega
      have hn2 : ¬ (128 : Int) ≤ n := by omega
      obtain ⟨m, hm, hlm⟩ := cl_nat h2
      subst hm
      have E3 : Hid (waiO X m = wai X m) := by show _ = _; unfold waiO; rw [if_pos h2]; rfl
      have E4 : Hid (runE X m = .returned (.tuple #[.int .i64 (X.r m).to, .bool (X.r m).is, .int .i64 0])) := runE_at hlm
      rw [E3.out, h2] at WA
      rw [E4.out] at RN
      have hm1 : ¬ (m : Int) < 0 := by omega
      have hm2 : ¬ (256 : Int) ≤ m := by omega
      clear hx hi hv h1 h2 E1 E2 E3 E4
      go_enter Try.func7, Try.ntmps7
      go_upto_region 1 with fail
      rw [← EQ.out]
      obtain ⟨d0, d1⟩ := CE.out _ (Below.refl _ _)
      go_wp2_with (first | (go_at_call 11; refine (IN.out _ _ _ _ (LW.out _) ((own_gs O6.out).below K611.out) G11.out).mono ?_; rintro e w12 ⟨rfl, hb12⟩; have K612 := hid (bl3 K611.out hb12); have B12 := hid (bl3 B11.out hb12); have K312 := hid (bl3 K311.out hb12); clear hb12) | (go_at_call 21; refine (SK.out _ (AL.out _ (Below.refl _ _))).mono ?_; rintro e w3 ⟨q3, cc3, rfl, ho3, hb3⟩; have O3 := hid ho3; have B3 := hid hb3; have G3 := hid (own_gs ho3); clear ho3 hb3) | (go_at_call 22; refine (WT.out _ (AL.out _ B3.out)).mono ?_; rintro e w4 ⟨rfl, hb4⟩; have B4 := hid (bl3 B3.out hb4); have K34 := hid hb4; clear hb4) | (go_at_call 23; refine (RN.out _ (AL.out _ B4.out)).mono ?_; rintro e w5 ⟨rfl, hb5⟩; have B5 := hid (bl3 B4.out hb5); have K35 := hid (bl3 K34.out hb5); clear hb5) | (go_at_call 24; refine (WA.out _ (AL.out _ B5.out)).mono ?_; rintro e w6 ⟨q6, cc6, rfl, ho6, hb6⟩; have O6 := hid ho6; have B6 := hid (bl3 B5.out hb6); have K36 := hid (bl3 K35.out hb6); obtain ⟨c60, c61⟩ := CE.out _ B6.out; clear ho6 hb6) | (go_at_call 25; refine (RT.out _ (AL.out _ B6.out) _).mono ?_; rintro e w7 ⟨rfl, hb7⟩; have K67 := hid hb7; have B7 := hid (bl3 B6.out hb7); have K37 := hid (bl3 K36.out hb7); obtain ⟨c70, c71⟩ := CE.out _ B7.out; clear hb7) | (go_at_call 26; refine (RK.out _ (AL.out _ B7.out) _).mono ?_; rintro e w8 ⟨q8, n8, cc8, rfl, hg8, hb8⟩; have K68 := hid (bl3 K67.out hb8); have B8 := hid (bl3 B7.out hb8); have K38 := hid (bl3 K37.out hb8); have G8 := hid hg8; clear hg8 hb8) | (go_at_call 11; refine (IN.out _ _ _ _ (LS.out _) (G3.out.below K38.out) G8.out).mono ?_; rintro e w9 ⟨rfl, hb9⟩; have K69 := hid (bl3 K68.out hb9); have B9 := hid (bl3 B8.out hb9); have K39 := hid (bl3 K38.out hb9); obtain ⟨c90, c91⟩ := CE.out _ B9.out; clear hb9) | (go_at_call 27; refine (RU.out _ (AL.out _ B9.out) _).mono ?_; rintro e w10 ⟨rfl, hb10⟩; have K610 := hid (bl3 K69.out hb10); have B10 := hid (bl3 B9.out hb10); have K310 := hid (bl3 K39.out hb10); obtain ⟨c100, c101⟩ := CE.out _ B10.out; clear hb10) | (go_at_call 28; refine (RA.out _ (AL.out _ B10.out) _).mono ?_; rintro e w11 ⟨q11, cc11, rfl, hg11, hb11⟩; have K611 := hid (bl3 K610.out hb11); have B11 := hid (bl3 B10.out hb11); have K311 := hid (bl3 K310.out hb11); have G11 := hid hg11; clear hg11 hb11))
      have SS : Hid (SR2 w q3 (stk X n).length cc3 q6 (wai X m).length cc6 w12) := by
        refine ⟨⟨⟨_, nI_len _, (O3.out.below K312.out).low T0.out.size⟩, AL.out _ B12.out⟩, w5.heap.size, fun g hg => ?_, Nat.le_trans T0.out.size B5.out.size, _, nI_len _, O6.out.below K612.out⟩
        exact Nat.lt_of_lt_of_le (O3.out.lt (by rw [hg]; simp [Value.ownBlock])).2 K35.out.size
      have la1 := LS.out n
      generalize (stk X n).length = a1 at *
      have la2 := LW.out m
      generalize (wai X m).length = a2 at *
      clear SK WT RN WA IN RT RK RU RA LS LW O3 O6 G3 G11 G8
      go_loopw [162] (fun v wr => ∃ (k : Nat) (wk : World), k ≤ a1 ∧ v = .int .i64 k ∧ wk = wr ∧ Hid (SR2 w q3 a1 cc3 q6 a2 cc6 wk)) (fun v _ => a1 - (intOf v).toNat)
      case atStart => exact ⟨0, _, Nat.zero_le _, rfl, rfl, SS⟩
      case round =>
        obtain ⟨k, wr, hk, rfl, rfl, HS⟩ := hrel
        clear SS
        by_cases hlt2 : k < a1
        · obtain ⟨g, s0, e, d3, d4, d5⟩ := HS.out.put hlt2
          subst e
          have D5 := hid d5
          have hki : (k : Int) < (a1 : Nat) := by omega
          clear d5
          go_wp2
          go_roundw
          case rel => exact ⟨k + 1, _, by omega, by go_num, rfl, D5⟩
          case measure => simp [intOf]; omega
        · have hki : ¬ (k : Int) < (a1 : Nat) := by omega
          have S2 := hid HS.out.snd
          clear HS
          go_wp2
          go_loopw [171] (fun v wr2 => ∃ (j : Nat) (wk : World), j ≤ a2 ∧ v = .int .i64 j ∧ wk = wr2 ∧ Hid (SR w q6 a2 cc6 wk)) (fun v _ => a2 - (intOf v).toNat)
          case atStart => exact ⟨0, _, Nat.zero_le _, rfl, rfl, S2⟩
          case round =>
            obtain ⟨j, wr2, hj, rfl, rfl, HS2⟩ := hrel
            clear S2
            by_cases hlt3 : j < a2
            · obtain ⟨g, s0, e, _, _, d3, d4, d5⟩ := HS2.out.put hlt3
              subst e
              have D5 := hid d5
              have hji : (j : Int) < (a2 : Nat) := by omega
              clear d5
              go_wp2
              go_roundw
              case rel => exact ⟨j + 1, _, by omega, by go_num, rfl, D5⟩
              case measure => simp [intOf]; omega
            · have hji : ¬ (j : Int) < (a2 : Nat) := by omega
              go_wp2
              go_ret
              exact ⟨rfl, HS2.out.bl⟩
    | false =>
      obtain ⟨n, hn, hlt⟩ := tk_nat h1
      subst hn
      have E1 : Hid (stkO X n = stk X n) := by show _ = _; unfold stkO; rw [if_pos h1]; rfl
      have E2 : Hid (wtgE X n = .returned (.tuple #[.int .i64 (X.w n).to, .bool (X.w n).is, .int .i64 0])) := wtgE_at hlt
      rw [E1.out, h1] at SK
      rw [E2.out] at WT
      have hn1 : ¬ (n : Int) < 0 := by omega
      have hn2 : ¬ (128 : Int) ≤ n := by omega
      have E3 : Hid (waiO X c = []) := by show _ = _; unfold waiO; rw [h2]; rfl
      have E4 : Hid (runE X c = .returned (.tuple #[.int .i64 0, .bool false, .int .i64 1])) := by show _ = _; unfold runE; rw [h2]; rfl
      rw [E3.out, h2] at WA
      rw [E4.out] at RN
      have hc : c < 0 ∨ 256 ≤ c := by simp [clB] at h2; omega
      clear hx hi hv h1 h2 E1 E2 E3 E4
      rcases hc with hc | hc
      · have hc0 := hc
        go_enter Try.func7, Try.ntmps7
        go_upto_region 1 with fail
        rw [← EQ.out]
        obtain ⟨d0, d1⟩ := CE.out _ (Below.refl _ _)
        go_wp2_with (first | (go_at_call 21; refine (SK.out _ (AL.out _ (Below.refl _ _))).mono ?_; rintro e w3 ⟨q3, cc3, rfl, ho3, hb3⟩; have O3 := hid ho3; have B3 := hid hb3; have G3 := hid (own_gs ho3); clear ho3 hb3) | (go_at_call 22; refine (WT.out _ (AL.out _ B3.out)).mono ?_; rintro e w4 ⟨rfl, hb4⟩; have B4 := hid (bl3 B3.out hb4); have K34 := hid hb4; clear hb4) | (go_at_call 23; refine (RN.out _ (AL.out _ B4.out)).mono ?_; rintro e w5 ⟨rfl, hb5⟩; have B5 := hid (bl3 B4.out hb5); have K35 := hid (bl3 K34.out hb5); clear hb5) | (go_at_call 24; refine (WA.out _ (AL.out _ B5.out)).mono ?_; rintro e w6 ⟨q6, cc6, rfl, ho6, hb6⟩; have O6 := hid ho6; have B6 := hid (bl3 B5.out hb6); have K36 := hid (bl3 K35.out hb6); obtain ⟨c60, c61⟩ := CE.out _ B6.out; clear ho6 hb6) | (go_at_call 25; refine (RT.out _ (AL.out _ B6.out) _).mono ?_; rintro e w7 ⟨rfl, hb7⟩; have K67 := hid hb7; have B7 := hid (bl3 B6.out hb7); have K37 := hid (bl3 K36.out hb7); obtain ⟨c70, c71⟩ := CE.out _ B7.out; clear hb7) | (go_at_call 26; refine (RK.out _ (AL.out _ B7.out) _).mono ?_; rintro e w8 ⟨q8, n8, cc8, rfl, hg8, hb8⟩; have K68 := hid (bl3 K67.out hb8); have B8 := hid (bl3 B7.out hb8); have K38 := hid (bl3 K37.out hb8); have G8 := hid hg8; clear hg8 hb8) | (go_at_call 11; refine (IN.out _ _ _ _ (LS.out _) (G3.out.below K38.out) G8.out).mono ?_; rintro e w9 ⟨rfl, hb9⟩; have K69 := hid (bl3 K68.out hb9); have B9 := hid (bl3 B8.out hb9); have K39 := hid (bl3 K38.out hb9); obtain ⟨c90, c91⟩ := CE.out _ B9.out; clear hb9))
        go_ret
        exact ⟨rfl, AL.out _ B9.out⟩
      · have hc0 : ¬ c < 0 := by omega
        go_enter Try.func7, Try.ntmps7
        go_upto_region 1 with fail
        rw [← EQ.out]
        obtain ⟨d0, d1⟩ := CE.out _ (Below.refl _ _)
        go_wp2_with (first | (go_at_call 21; refine (SK.out _ (AL.out _ (Below.refl _ _))).mono ?_; rintro e w3 ⟨q3, cc3, rfl, ho3, hb3⟩; have O3 := hid ho3; have B3 := hid hb3; have G3 := hid (own_gs ho3); clear ho3 hb3) | (go_at_call 22; refine (WT.out _ (AL.out _ B3.out)).mono ?_; rintro e w4 ⟨rfl, hb4⟩; have B4 := hid (bl3 B3.out hb4); have K34 := hid hb4; clear hb4) | (go_at_call 23; refine (RN.out _ (AL.out _ B4.out)).mono ?_; rintro e w5 ⟨rfl, hb5⟩; have B5 := hid (bl3 B4.out hb5); have K35 := hid (bl3 K34.out hb5); clear hb5) | (go_at_call 24; refine (WA.out _ (AL.out _ B5.out)).mono ?_; rintro e w6 ⟨q6, cc6, rfl, ho6, hb6⟩; have O6 := hid ho6; have B6 := hid (bl3 B5.out hb6); have K36 := hid (bl3 K35.out hb6); obtain ⟨c60, c61⟩ := CE.out _ B6.out; clear ho6 hb6) | (go_at_call 25; refine (RT.out _ (AL.out _ B6.out) _).mono ?_; rintro e w7 ⟨rfl, hb7⟩; have K67 := hid hb7; have B7 := hid (bl3 B6.out hb7); have K37 := hid (bl3 K36.out hb7); obtain ⟨c70, c71⟩ := CE.out _ B7.out; clear hb7) | (go_at_call 26; refine (RK.out _ (AL.out _ B7.out) _).mono ?_; rintro e w8 ⟨q8, n8, cc8, rfl, hg8, hb8⟩; have K68 := hid (bl3 K67.out hb8); have B8 := hid (bl3 B7.out hb8); have K38 := hid (bl3 K37.out hb8); have G8 := hid hg8; clear hg8 hb8) | (go_at_call 11; refine (IN.out _ _ _ _ (LS.out _) (G3.out.below K38.out) G8.out).mono ?_; rintro e w9 ⟨rfl, hb9⟩; have K69 := hid (bl3 K68.out hb9); have B9 := hid (bl3 B8.out hb9); have K39 := hid (bl3 K38.out hb9); obtain ⟨c90, c91⟩ := CE.out _ B9.out; clear hb9))
        go_ret
        exact ⟨rfl, AL.out _ B9.out⟩
  | false =>
    cases h2 : clB c with
    | true =>
      have E1 : Hid (stkO X t = []) := by show _ = _; unfold stkO; rw [h1]; rfl
      have E2 : Hid (wtgE X t = .returned (.tuple #[.int .i64 0, .bool false, .int .i64 1])) := by show _ = _; unfold wtgE; rw [h1]; rfl
      rw [E1.out, h1] at SK
      rw [E2.out] at WT
      have ht : t < 0 ∨ 128 ≤ t := by simp [tkB] at h1; omega
      obtain ⟨m, hm, hlm⟩ := cl_nat h2
      subst hm
      have E3 : Hid (waiO X m = wai X m) := by show _ = _; unfold waiO; rw [if_pos h2]; rfl
      have E4 : Hid (runE X m = .returned (.tuple #[.int .i64 (X.r m).to, .bool (X.r m).is, .int .i64 0])) := runE_at hlm
      rw [E3.out, h2] at WA
      rw [E4.out] at RN
      have hm1 : ¬ (m : Int) < 0 := by omega
      have hm2 : ¬ (256 : Int) ≤ m := by omega
      clear hx hi hv h1 h2 E1 E2 E3 E4
      rcases ht with ht | ht
      · have ht0 := ht
        go_enter Try.func7, Try.ntmps7
        go_upto_region 1 with fail
        rw [← EQ.out]
        obtain ⟨d0, d1⟩ := CE.out _ (Below.refl _ _)
        go_wp2_with (first | (go_at_call 21; refine (SK.out _ (AL.out _ (Below.refl _ _))).mono ?_; rintro e w3 ⟨q3, cc3, rfl, ho3, hb3⟩; have O3 := hid ho3; have B3 := hid hb3; have G3 := hid (own_gs ho3); clear ho3 hb3) | (go_at_call 22; refine (WT.out _ (AL.out _ B3.out)).mono ?_; rintro e w4 ⟨rfl, hb4⟩; have B4 := hid (bl3 B3.out hb4); have K34 := hid hb4; clear hb4) | (go_at_call 23; refine (RN.out _ (AL.out _ B4.out)).mono ?_; rintro e w5 ⟨rfl, hb5⟩; have B5 := hid (bl3 B4.out hb5); have K35 := hid (bl3 K34.out hb5); clear hb5) | (go_at_call 24; refine (WA.out _ (AL.out _ B5.out)).mono ?_; rintro e w6 ⟨q6, cc6, rfl, ho6, hb6⟩; have O6 := hid ho6; have B6 := hid (bl3 B5.out hb6); have K36 := hid (bl3 K35.out hb6); obtain ⟨c60, c61⟩ := CE.out _ B6.out; clear ho6 hb6) | (go_at_call 27; refine (RU.out _ (AL.out _ B6.out) _).mono ?_; rintro e w10 ⟨rfl, hb10⟩; have K610 := hid (hb10); have B10 := hid (bl3 B6.out hb10); have K310 := hid (bl3 K36.out hb10); obtain ⟨c100, c101⟩ := CE.out _ B10.out; clear hb10) | (go_at_call 28; refine (RA.out _ (AL.out _ B10.out) _).mono ?_; rintro e w11 ⟨q11, cc11, rfl, hg11, hb11⟩; have K611 := hid (bl3 K610.out hb11); have B11 := hid (bl3 B10.out hb11); have K311 := hid (bl3 K310.out hb11); have G11 := hid hg11; clear hg11 hb11) | (go_at_call 11; refine (IN.out _ _ _ _ (LW.out _) ((own_gs O6.out).below K611.out) G11.out).mono ?_; rintro e w12 ⟨rfl, hb12⟩; have K612 := hid (bl3 K611.out hb12); have B12 := hid (bl3 B11.out hb12); have K312 := hid (bl3 K311.out hb12); clear hb12))
        have SS : Hid (SR2 w q3 0 cc3 q6 (wai X m).length cc6 w12) := by
          refine ⟨⟨⟨_, nI_len _, (O3.out.below K312.out).low T0.out.size⟩, AL.out _ B12.out⟩, w5.heap.size, fun g hg => ?_, Nat.le_trans T0.out.size B5.out.size, _, nI_len _, O6.out.below K612.out⟩
          exact Nat.lt_of_lt_of_le (O3.out.lt (by rw [hg]; simp [Value.ownBlock])).2 K35.out.size
        have la2 := LW.out m
        generalize (wai X m).length = a2 at *
        clear SK WT RN WA IN RT RK RU RA LS LW O3 O6 G3 G11 
        go_loopw [162] (fun v wr => ∃ (k : Nat) (wk : World), k ≤ 0 ∧ v = .int .i64 k ∧ wk = wr ∧ Hid (SR2 w q3 0 cc3 q6 a2 cc6 wk)) (fun v _ => 0 - (intOf v).toNat)
        case atStart => exact ⟨0, _, Nat.zero_le _, rfl, rfl, SS⟩
        case round =>
          obtain ⟨k, wr, hk, rfl, rfl, HS⟩ := hrel
          clear SS
          by_cases hlt2 : k < 0
          · exact absurd hlt2 (Nat.not_lt_zero _)
          · have hki : ¬ (k : Int) < (0 : Nat) := by omega
            have S2 := hid HS.out.snd
            clear HS
            go_wp2
            go_loopw [171] (fun v wr2 => ∃ (j : Nat) (wk : World), j ≤ a2 ∧ v = .int .i64 j ∧ wk = wr2 ∧ Hid (SR w q6 a2 cc6 wk)) (fun v _ => a2 - (intOf v).toNat)
            case atStart => exact ⟨0, _, Nat.zero_le _, rfl, rfl, S2⟩
            case round =>
              obtain ⟨j, wr2, hj, rfl, rfl, HS2⟩ := hrel
              clear S2
              by_cases hlt3 : j < a2
              · obtain ⟨g, s0, e, _, _, d3, d4, d5⟩ := HS2.out.put hlt3
                subst e
                have D5 := hid d5
                have hji : (j : Int) < (a2 : Nat) := by omega
                clear d5
                go_wp2
                go_roundw
                case rel => exact ⟨j + 1, _, by omega, by go_num, rfl, D5⟩
                case measure => simp [intOf]; omega
              · have hji : ¬ (j : Int) < (a2 : Nat) := by omega
                go_wp2
                go_ret
                exact ⟨rfl, HS2.out.bl⟩
      · have ht0 : ¬ t < 0 := by omega
        go_enter Try.func7, Try.ntmps7
        go_upto_region 1 with fail
        rw [← EQ.out]
        obtain ⟨d0, d1⟩ := CE.out _ (Below.refl _ _)
        go_wp2_with (first | (go_at_call 21; refine (SK.out _ (AL.out _ (Below.refl _ _))).mono ?_; rintro e w3 ⟨q3, cc3, rfl, ho3, hb3⟩; have O3 := hid ho3; have B3 := hid hb3; have G3 := hid (own_gs ho3); clear ho3 hb3) | (go_at_call 22; refine (WT.out _ (AL.out _ B3.out)).mono ?_; rintro e w4 ⟨rfl, hb4⟩; have B4 := hid (bl3 B3.out hb4); have K34 := hid hb4; clear hb4) | (go_at_call 23; refine (RN.out _ (AL.out _ B4.out)).mono ?_; rintro e w5 ⟨rfl, hb5⟩; have B5 := hid (bl3 B4.out hb5); have K35 := hid (bl3 K34.out hb5); clear hb5) | (go_at_call 24; refine (WA.out _ (AL.out _ B5.out)).mono ?_; rintro e w6 ⟨q6, cc6, rfl, ho6, hb6⟩; have O6 := hid ho6; have B6 := hid (bl3 B5.out hb6); have K36 := hid (bl3 K35.out hb6); obtain ⟨c60, c61⟩ := CE.out _ B6.out; clear ho6 hb6) | (go_at_call 27; refine (RU.out _ (AL.out _ B6.out) _).mono ?_; rintro e w10 ⟨rfl, hb10⟩; have K610 := hid (hb10); have B10 := hid (bl3 B6.out hb10); have K310 := hid (bl3 K36.out hb10); obtain ⟨c100, c101⟩ := CE.out _ B10.out; clear hb10) | (go_at_call 28; refine (RA.out _ (AL.out _ B10.out) _).mono ?_; rintro e w11 ⟨q11, cc11, rfl, hg11, hb11⟩; have K611 := hid (bl3 K610.out hb11); have B11 := hid (bl3 B10.out hb11); have K311 := hid (bl3 K310.out hb11); have G11 := hid hg11; clear hg11 hb11) | (go_at_call 11; refine (IN.out _ _ _ _ (LW.out _) ((own_gs O6.out).below K611.out) G11.out).mono ?_; rintro e w12 ⟨rfl, hb12⟩; have K612 := hid (bl3 K611.out hb12); have B12 := hid (bl3 B11.out hb12); have K312 := hid (bl3 K311.out hb12); clear hb12))
        have SS : Hid (SR2 w q3 0 cc3 q6 (wai X m).length cc6 w12) := by
          refine ⟨⟨⟨_, nI_len _, (O3.out.below K312.out).low T0.out.size⟩, AL.out _ B12.out⟩, w5.heap.size, fun g hg => ?_, Nat.le_trans T0.out.size B5.out.size, _, nI_len _, O6.out.below K612.out⟩
          exact Nat.lt_of_lt_of_le (O3.out.lt (by rw [hg]; simp [Value.ownBlock])).2 K35.out.size
        have la2 := LW.out m
        generalize (wai X m).length = a2 at *
        clear SK WT RN WA IN RT RK RU RA LS LW O3 O6 G3 G11 
        go_loopw [162] (fun v wr => ∃ (k : Nat) (wk : World), k ≤ 0 ∧ v = .int .i64 k ∧ wk = wr ∧ Hid (SR2 w q3 0 cc3 q6 a2 cc6 wk)) (fun v _ => 0 - (intOf v).toNat)
        case atStart => exact ⟨0, _, Nat.zero_le _, rfl, rfl, SS⟩
        case round =>
          obtain ⟨k, wr, hk, rfl, rfl, HS⟩ := hrel
          clear SS
          by_cases hlt2 : k < 0
          · exact absurd hlt2 (Nat.not_lt_zero _)
          · have hki : ¬ (k : Int) < (0 : Nat) := by omega
            have S2 := hid HS.out.snd
            clear HS
            go_wp2
            go_loopw [171] (fun v wr2 => ∃ (j : Nat) (wk : World), j ≤ a2 ∧ v = .int .i64 j ∧ wk = wr2 ∧ Hid (SR w q6 a2 cc6 wk)) (fun v _ => a2 - (intOf v).toNat)
            case atStart => exact ⟨0, _, Nat.zero_le _, rfl, rfl, S2⟩
            case round =>
              obtain ⟨j, wr2, hj, rfl, rfl, HS2⟩ := hrel
              clear S2
              by_cases hlt3 : j < a2
              · obtain ⟨g, s0, e, _, _, d3, d4, d5⟩ := HS2.out.put hlt3
                subst e
                have D5 := hid d5
                have hji : (j : Int) < (a2 : Nat) := by omega
                clear d5
                go_wp2
                go_roundw
                case rel => exact ⟨j + 1, _, by omega, by go_num, rfl, D5⟩
                case measure => simp [intOf]; omega
              · have hji : ¬ (j : Int) < (a2 : Nat) := by omega
                go_wp2
                go_ret
                exact ⟨rfl, HS2.out.bl⟩
    | false =>
      have E1 : Hid (stkO X t = []) := by show _ = _; unfold stkO; rw [h1]; rfl
      have E2 : Hid (wtgE X t = .returned (.tuple #[.int .i64 0, .bool false, .int .i64 1])) := by show _ = _; unfold wtgE; rw [h1]; rfl
      rw [E1.out, h1] at SK
      rw [E2.out] at WT
      have ht : t < 0 ∨ 128 ≤ t := by simp [tkB] at h1; omega
      have E3 : Hid (waiO X c = []) := by show _ = _; unfold waiO; rw [h2]; rfl
      have E4 : Hid (runE X c = .returned (.tuple #[.int .i64 0, .bool false, .int .i64 1])) := by show _ = _; unfold runE; rw [h2]; rfl
      rw [E3.out, h2] at WA
      rw [E4.out] at RN
      have hc : c < 0 ∨ 256 ≤ c := by simp [clB] at h2; omega
      clear hx hi hv h1 h2 E1 E2 E3 E4
      rcases ht with ht | ht
      · have ht0 := ht
        rcases hc with hc | hc
        · have hc0 := hc
          go_enter Try.func7, Try.ntmps7
          go_upto_region 1 with fail
          rw [← EQ.out]
          obtain ⟨d0, d1⟩ := CE.out _ (Below.refl _ _)
          go_wp2_with (first | (go_at_call 21; refine (SK.out _ (AL.out _ (Below.refl _ _))).mono ?_; rintro e w3 ⟨q3, cc3, rfl, ho3, hb3⟩; have O3 := hid ho3; have B3 := hid hb3; have G3 := hid (own_gs ho3); clear ho3 hb3) | (go_at_call 22; refine (WT.out _ (AL.out _ B3.out)).mono ?_; rintro e w4 ⟨rfl, hb4⟩; have B4 := hid (bl3 B3.out hb4); have K34 := hid hb4; clear hb4) | (go_at_call 23; refine (RN.out _ (AL.out _ B4.out)).mono ?_; rintro e w5 ⟨rfl, hb5⟩; have B5 := hid (bl3 B4.out hb5); have K35 := hid (bl3 K34.out hb5); clear hb5) | (go_at_call 24; refine (WA.out _ (AL.out _ B5.out)).mono ?_; rintro e w6 ⟨q6, cc6, rfl, ho6, hb6⟩; have O6 := hid ho6; have B6 := hid (bl3 B5.out hb6); have K36 := hid (bl3 K35.out hb6); obtain ⟨c60, c61⟩ := CE.out _ B6.out; clear ho6 hb6))
          go_ret
          exact ⟨rfl, AL.out _ B6.out⟩
        · have hc0 : ¬ c < 0 := by omega
          go_enter Try.func7, Try.ntmps7
          go_upto_region 1 with fail
          rw [← EQ.out]
          obtain ⟨d0, d1⟩ := CE.out _ (Below.refl _ _)
          go_wp2_with (first | (go_at_call 21; refine (SK.out _ (AL.out _ (Below.refl _ _))).mono ?_; rintro e w3 ⟨q3, cc3, rfl, ho3, hb3⟩; have O3 := hid ho3; have B3 := hid hb3; have G3 := hid (own_gs ho3); clear ho3 hb3) | (go_at_call 22; refine (WT.out _ (AL.out _ B3.out)).mono ?_; rintro e w4 ⟨rfl, hb4⟩; have B4 := hid (bl3 B3.out hb4); have K34 := hid hb4; clear hb4) | (go_at_call 23; refine (RN.out _ (AL.out _ B4.out)).mono ?_; rintro e w5 ⟨rfl, hb5⟩; have B5 := hid (bl3 B4.out hb5); have K35 := hid (bl3 K34.out hb5); clear hb5) | (go_at_call 24; refine (WA.out _ (AL.out _ B5.out)).mono ?_; rintro e w6 ⟨q6, cc6, rfl, ho6, hb6⟩; have O6 := hid ho6; have B6 := hid (bl3 B5.out hb6); have K36 := hid (bl3 K35.out hb6); obtain ⟨c60, c61⟩ := CE.out _ B6.out; clear ho6 hb6))
          go_ret
          exact ⟨rfl, AL.out _ B6.out⟩
      · have ht0 : ¬ t < 0 := by omega
        rcases hc with hc | hc
        · have hc0 := hc
          go_enter Try.func7, Try.ntmps7
          go_upto_region 1 with fail
          rw [← EQ.out]
          obtain ⟨d0, d1⟩ := CE.out _ (Below.refl _ _)
          go_wp2_with (first | (go_at_call 21; refine (SK.out _ (AL.out _ (Below.refl _ _))).mono ?_; rintro e w3 ⟨q3, cc3, rfl, ho3, hb3⟩; have O3 := hid ho3; have B3 := hid hb3; have G3 := hid (own_gs ho3); clear ho3 hb3) | (go_at_call 22; refine (WT.out _ (AL.out _ B3.out)).mono ?_; rintro e w4 ⟨rfl, hb4⟩; have B4 := hid (bl3 B3.out hb4); have K34 := hid hb4; clear hb4) | (go_at_call 23; refine (RN.out _ (AL.out _ B4.out)).mono ?_; rintro e w5 ⟨rfl, hb5⟩; have B5 := hid (bl3 B4.out hb5); have K35 := hid (bl3 K34.out hb5); clear hb5) | (go_at_call 24; refine (WA.out _ (AL.out _ B5.out)).mono ?_; rintro e w6 ⟨q6, cc6, rfl, ho6, hb6⟩; have O6 := hid ho6; have B6 := hid (bl3 B5.out hb6); have K36 := hid (bl3 K35.out hb6); obtain ⟨c60, c61⟩ := CE.out _ B6.out; clear ho6 hb6))
          go_ret
          exact ⟨rfl, AL.out _ B6.out⟩
        · have hc0 : ¬ c < 0 := by omega
          go_enter Try.func7, Try.ntmps7
          go_upto_region 1 with fail
          rw [← EQ.out]
          obtain ⟨d0, d1⟩ := CE.out _ (Below.refl _ _)
          go_wp2_with (first | (go_at_call 21; refine (SK.out _ (AL.out _ (Below.refl _ _))).mono ?_; rintro e w3 ⟨q3, cc3, rfl, ho3, hb3⟩; have O3 := hid ho3; have B3 := hid hb3; have G3 := hid (own_gs ho3); clear ho3 hb3) | (go_at_call 22; refine (WT.out _ (AL.out _ B3.out)).mono ?_; rintro e w4 ⟨rfl, hb4⟩; have B4 := hid (bl3 B3.out hb4); have K34 := hid hb4; clear hb4) | (go_at_call 23; refine (RN.out _ (AL.out _ B4.out)).mono ?_; rintro e w5 ⟨rfl, hb5⟩; have B5 := hid (bl3 B4.out hb5); have K35 := hid (bl3 K34.out hb5); clear hb5) | (go_at_call 24; refine (WA.out _ (AL.out _ B5.out)).mono ?_; rintro e w6 ⟨q6, cc6, rfl, ho6, hb6⟩; have O6 := hid ho6; have B6 := hid (bl3 B5.out hb6); have K36 := hid (bl3 K35.out hb6); obtain ⟨c60, c61⟩ := CE.out _ B6.out; clear ho6 hb6))
          go_ret
          exact ⟨rfl, AL.out _ B6.out⟩
end Go.Proofs.Ytkhcinpcoabphaa
