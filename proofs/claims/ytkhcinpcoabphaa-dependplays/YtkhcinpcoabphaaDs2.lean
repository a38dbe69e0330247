/- Depend: the document's End, granted. -/
import Derived.Test.YtkhcinpcoabphaaDs1
namespace Go.Proofs.Ytkhcinpcoabphaa
open Go.RowKit

set_option maxRecDepth 100000 in
set_option maxHeartbeats 64000000 in
theorem rend_ok {w : World} {P : Nat → Prop} {vr vw : Value} {X : Wb} (h : RV w P vr vw X) (hi : WI X) (t : Int) (h0 : endE X t = 0) : Calls Try.prog 15 #[.agg #[vr, vw], .int .i64 t] w fun e w' => ReE w P (endX X t) (endC X t) (endL X t) (endE X t) e w' := by
  obtain ⟨⟨pr, nr, cr, rfl⟩, pw, nw, cw, rfl⟩ := h.forms
  have T := hid (TB.mk_ w (.slice pr nr cr) (.slice pw nw cw))
  have HV := hid (T.out.here h)
  have FR := hid (rfree_any HV.out hi t 0)
  obtain ⟨h1, h2, h3⟩ := endE_ok h0
  have EC : Hid (endL X t = wai X (endC X t)) := by show _ = _; unfold endL; rw [if_pos h0]
  have EX : Hid (endX X t = endW (wakL X (wai X (endC X t))) (endC X t)) := by show _ = _; unfold endX; rw [if_pos h0]
  rw [EC.out, EX.out, h0]
  have ha : askE X t 0 = 0 := by unfold askE; rw [h1, h2]; rfl
  rw [ha] at FR
  obtain ⟨n, hn, hlt⟩ := tk_nat h1
  subst hn
  rw [show ((n : Int)).toNat = n from rfl] at h2 h3
  generalize endC X n = c at *
  have hcm := List.mem_of_getLast? h3
  have hc := stk_lt hi hcm
  obtain ⟨sl, hsl⟩ : ∃ sl, sl = (stk X n).length := ⟨_, rfl⟩
  have hpos : 0 < sl := by rw [hsl]; exact List.length_pos_of_mem hcm
  have hle : sl ≤ 256 := by rw [hsl]; exact stk_len hi n
  obtain ⟨lm, hlm⟩ : ∃ lm, sl = lm + 1 := ⟨sl - 1, by omega⟩
  have SK : Hid (∀ (W : World) (Q : Nat → Prop), RV W Q (.slice pr nr cr) (.slice pw nw cw) X → Calls Try.prog 26 #[.agg #[.slice pr nr cr, .slice pw nw cw], .int .i64 n] W fun e w' => ∃ Y o cc, e = .returned (.slice (some ⟨Y, o, none⟩) sl cc) ∧ sl ≤ cc ∧ w'.cell? ⟨Y, o + lm, none⟩ = some (.int .i64 c) ∧ GP KI w' Q (.slice (some ⟨Y, o, none⟩) lm cc) (nI (stk X n).dropLast) ∧ Y < w'.heap.size ∧ Below W.heap.size W w') := fun W Q k => (rstack_rv k hi n).mono fun _ _ ⟨q, n', cc, h0, hg, hb⟩ => by
    obtain ⟨e1, e2⟩ := hg.cells
    obtain ⟨Y, o, e3, e4⟩ := e2 (by omega)
    subst e1 e3
    have hcap := hg.gs.cap
    have hlast : (stk X n)[lm]'(by omega) = c := by
      rw [List.getLast?_eq_getElem?] at h3
      have : (stk X n).length - 1 = lm := by omega
      rw [this] at h3
      exact (List.getElem?_eq_some_iff.1 h3).2
    have e5 := e4 lm (by omega)
    rw [hlast] at e5
    refine ⟨Y, o, cc, by rw [h0, hsl], by rw [hsl, ← nI_len]; exact hcap, e5, ?_, ?_, hb⟩
    · have g1 := hg.gs.take (m := lm) (by rw [nI_len]; omega)
      have e6 : (nI (stk X n)).take lm = nI (stk X n).dropLast := by
        unfold nI
        rw [← List.map_take, List.dropLast_eq_take]
        congr 2
        omega
      rw [e6] at g1
      exact ⟨g1, fun _ x hx => hg.pr (by rw [nI_len]; omega) x (by simpa [Value.ownBlock] using hx)⟩
    · exact hg.gs.lt (by rw [nI_len]; omega) (by simp [Value.ownBlock])
  have WA : Hid (∀ (W : World) (Q : Nat → Prop), RV W Q (.slice pr nr cr) (.slice pw nw cw) X → Calls Try.prog 28 #[.agg #[.slice pr nr cr, .slice pw nw cw], .int .i64 c] W fun e w' => ∃ q cc, e = .returned (.slice q (wai X c).length cc) ∧ OwnG KI w' W.heap.size (.slice q (wai X c).length cc) (nI (wai X c)) ∧ Below W.heap.size W w') := fun W Q k => rwaiters_rv k hi c
  have WI9 : Hid (∀ (W : World) (Q : Nat → Prop) (p : Option Addr) (cc : Nat), RV W Q (.slice pr nr cr) (.slice pw nw cw) X → GP KI W Q (.slice p lm cc) (nI (stk X n).dropLast) → Calls Try.prog 35 #[.agg #[.slice pr nr cr, .slice pw nw cw], .int .i64 n, .slice p lm cc] W fun e w' => ∃ p1 n1 c1, e = .returned (.agg #[.slice p1 n1 c1, .slice pw nw cw]) ∧ RV w' (fun x => Q x ∨ W.heap.size ≤ x) (.slice p1 n1 c1) (.slice pw nw cw) (endW X c) ∧ Below W.heap.size W w') := fun W Q p cc k hg =>
    rwith_rv k hi n hg (by rw [List.length_dropLast]; have := stk_len hi n; omega) (fun t' => endW_stk2 hi h3 t') rfl
  have WL : Hid (∀ x ∈ wai X c, x < 128) := fun x hx => wai_lt hi hx
  have WN := wai_len hi c
  have HI := hid hi
  generalize (stk X n).dropLast = D at *
  generalize wai X c = L at *
  have hsi : (sl : Int) - 1 = (lm : Int) := by omega
  have hwr : IntKind.i64.wrap (lm : Int) = (lm : Int) := by rw [IntKind.wrap_i64]; omega
  have hli : (lm : Int) < (sl : Int) := by omega
  have hl0 : (0 : Int) ≤ (lm : Int) := by omega
  have hs0 : ((sl : Int) == 0) = false := by simp; omega
  clear h hi EC EX h1 h2 h3 h0 ha hcm hsl hlm hpos hle hlt
  go_enter Try.func15, Try.ntmps15
  go_upto_region 1 with fail
  obtain ⟨w2, hw2⟩ : ∃ w2, w2 = ((w.alloc (.cells #[.slice pr nr cr, .slice pw nw cw] 29)).alloc (.cells #[.slice none 0 0, .slice none 0 0] 29)) := ⟨_, rfl⟩
  rw [← hw2] at T HV FR ⊢
  obtain ⟨sz, hsz⟩ : ∃ sz, sz = w.heap.size := ⟨_, rfl⟩
  rw [← hsz] at T ⊢
  obtain ⟨d0, d1, d2, d3, f1, f2⟩ := T.out.at (Below.refl _ _)
  clear hw2 hsz
  go_upto_region 9 with (first | (go_at_call 34; refine FR.out.mono ?_; rintro e w3 ⟨rfl, hb3⟩; obtain ⟨c0, c1, c2, c3, c4, c5⟩ := T.out.at hb3; have B3 := hid hb3; clear hb3) | (go_at_call 26; refine (SK.out _ _ (HV.out.below B3.out)).mono ?_; rintro e w5 ⟨Y, o, cc5, rfl, hcap5, hcl5, hg5, hY5, hb5⟩; obtain ⟨z0, z1, z2, z3, z4, z5⟩ := T.out.at (bl3 B3.out hb5); have B5 := hid (bl3 B3.out hb5); have G5 := hid hg5; have H5 := hid hcap5; have Y5 := hid hY5; clear hb5 hg5 hcap5 hY5) | (go_at_call 28; refine (WA.out _ _ (HV.out.below B5.out)).mono ?_; rintro e w8 ⟨q8, c8, rfl, ho8, hb8⟩; obtain ⟨u0, u1, u2, u3, u4, u5⟩ := T.out.at (bl3 B5.out hb8); have B8 := hid (bl3 B5.out hb8); have O8 := hid (ho8.low B5.out.size); have G8 := hid (G5.out.below hb8); clear ho8 hb8))
  have hcc : (lm : Int) ≤ (cc5 : Int) := by have := H5.out; omega
  have CW : Hid (∀ W, Below w8.heap.size w8 W → Calls Try.prog 35 #[.agg #[.slice pr nr cr, .slice pw nw cw], .int .i64 n, .slice (some ⟨Y, o, none⟩) lm cc5] W fun e w' => ∃ p1 n1 c1, e = .returned (.agg #[.slice p1 n1 c1, .slice pw nw cw]) ∧ Below w2.heap.size w2 w' ∧ ES w sz P X c L q8 c8 p1 n1 c1 0 pw nw cw ((w'.setCell ⟨sz, 0, none⟩ (.slice p1 n1 c1)).setCell ⟨sz, 1, none⟩ (.slice pw nw cw))) := fun W hb => by
    refine (WI9.out W _ _ _ (HV.out.below (bl3 B8.out hb)) (G8.out.below hb)).mono ?_
    rintro e w' ⟨p1, n1, c1, rfl, hv, hb2⟩
    have hB := bl3 (bl3 B8.out hb) hb2
    refine ⟨p1, n1, c1, rfl, hB, ES.start T.out hB (hv.imp fun x _ hx => ?_) (O8.out.below (bl3 hb hb2))⟩
    rcases hx with hx | hx
    · exact hx
    · exact Or.inr (Nat.le_trans (bl3 B8.out hb).size hx)
  have D8 : Hid (Below w8.heap.size w8 w8.drew) := drew_below _ 1
  obtain ⟨s0, s1, s2, s3, s4, s5⟩ := T.out.at (bl3 B8.out D8.out)
  clear FR SK WA WI9 B3 B5 G5 G8 H5 Y5 c0 c1 c2 c3 c4 c5 d0 d1 d2 d3 f1 f2 z0 z1 z2 z3 z4 z5 hcl5
  go_region_with (go_at_call 35; refine (CW.out _ (by first | exact D8.out | exact Below.refl _ _)).mono ?_; rintro e w10 ⟨p1, n1, c1, rfl, hb10, hs10⟩; obtain ⟨v0, v1, v2, v3, v4, v5⟩ := T.out.at hb10; have ES0 := hid hs10; clear hb10 hs10)
  go_wp2_with fail
  go_loopw [12] (fun v12 wr => ∃ (k : Nat) (p2 : Option Addr) (n2 c2 : Nat) (wk : World), k ≤ L.length ∧ v12 = .int .i64 k ∧ wk = wr ∧ Hid (ES w sz P X c L q8 c8 p1 n1 c1 k p2 n2 c2 wk)) (fun v12 _ => L.length - (intOf v12).toNat)
  case atStart => exact ⟨0, _, _, _, _, Nat.zero_le _, rfl, rfl, ES0⟩
  case round =>
    obtain ⟨k, p2, n2, c2, wr, hk, rfl, rfl, HS⟩ := hrel
    clear ES0
    have DR : Hid (Below wr.heap.size wr wr.drew) := drew_below _ 1
    obtain ⟨y0, y1, x2, x3, y4, y5⟩ := HS.out.at (Below.refl _ _)
    by_cases hlt2 : k < L.length
    · obtain ⟨g, hg, hcx⟩ := own_at HS.out.ow hlt2
      subst hg
      obtain ⟨a0, a1, a2, a3, a4, a5⟩ := HS.out.at DR.out
      have WK := hid (fun W (hb : Below wr.heap.size wr W) => HS.out.wk HI.out WL.out hlt2 hb)
      obtain ⟨x, hxe⟩ : ∃ x, x = L[k] := ⟨_, rfl⟩
      rw [← hxe] at hcx WK
      have hcd : wr.drew.cell? ⟨g, k, none⟩ = some (.int .i64 x) := hcx
      have hki : (k : Int) < L.length := by omega
      clear hxe
      go_upto_region 13 with fail
      go_region_with (go_at_call 38; refine (WK.out _ (by first | exact DR.out | exact Below.refl _ _)).mono ?_; rintro e w11 ⟨p4, n4, c4, rfl, hb11, hs11⟩; obtain ⟨b0, b1, b2, b3, b4, b5⟩ := HS.out.at hb11; have ES1 := hid hs11; clear hb11 hs11)
      go_wp2_with fail
      all_goals
        go_roundw
        case rel => exact ⟨k + 1, p4, n4, c4, _, by omega, by go_num, rfl, ES1⟩
        case measure => simp [intOf]; omega
    · have FN := hid (HS.out.fin hlt2)
      have hki : ¬ (k : Int) < L.length := by omega
      go_wp2_with fail
      refine bodyPost_ret (v := .tuple #[.agg #[.slice p1 n1 c1, .slice p2 n2 c2], .int .i64 c, .slice q8 L.length c8, .int .i64 0]) (by simp [results, Try.results15, go_sem, x2, x3]) rfl ?_
      exact ⟨_, _, _, _, _, _, _, _, rfl, (FN.out _ _).1, (FN.out _ _).2.1, (FN.out _ _).2.2⟩
end Go.Proofs.Ytkhcinpcoabphaa
