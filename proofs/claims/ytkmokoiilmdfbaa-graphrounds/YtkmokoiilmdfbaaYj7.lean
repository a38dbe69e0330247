/- Graph: the law GraphRounds. -/
import Derived.Test.YtkmokoiilmdfbaaYh6
import Derived.Test.YtkmokoiilmdfbaaYj6
import Derived.Test.YtkmokoiilmdfbaaYe6
import Derived.Test.YtkmokoiilmdfbaaYf7
import Derived.Deep.RegionHeld3
namespace Go.Proofs.Ytkmokoiilmdfbaa
open Go.RowKit

theorem rnA_len (n : Int) (e : List (Int × Int)) : (rnA n e).length ≤ 4096 := by
  by_cases h1 : chkG n e = 0
  · obtain ⟨N, E, rfl, rfl, hg⟩ := chkG_ok h1
    rw [rnA_ok hg, nI_len]
    exact Nat.le_trans (ris_len _ _) hg.n
  · unfold rnA; rw [if_neg h1]; simp
theorem clL_len (F : Nat → Int) (A : Nat → List Nat) (n : Nat) : ∀ f a, (clL F A n f a).length ≤ f := by
  intro f
  induction f with
  | zero => intro a; exact Nat.le_refl _
  | succ f ih =>
    intro a
    unfold clL
    split
    · simp
    · rw [List.length_cons]; have := ih (nrL F (A a)).toNat; omega
theorem ciA_len (n : Int) (e : List (Int × Int)) (x : Int) : (ciA n e x).length ≤ 5000 := by
  by_cases h : ciE n e x = 0
  · have h1 : nxE n e x = 0 := Classical.byContradiction fun q => by rw [(ciE_bad q).1] at h; exact q h
    obtain ⟨N, E, i, rfl, rfl, hg, rfl, hi⟩ := nxE_ok h1
    unfold ciA
    rw [if_pos h, nI_len]
    unfold ciR
    rw [List.length_cons]
    have := clL_len (ciF (N : Int).toNat (eN (eI E)) (i : Int).toNat) (nx (N : Int).toNat (eN (eI E))) (i : Int).toNat ((N : Int).toNat + 1) (nrL (ciF (N : Int).toNat (eN (eI E)) (i : Int).toNat) (nx (N : Int).toNat (eN (eI E)) (i : Int).toNat)).toNat
    have := hg.n
    omega
  · unfold ciA; rw [if_neg h]; simp
theorem cmA_lens (n : Int) (e : List (Int × Int)) : (cmA n e).length ≤ 4096 ∧ ∀ j, ((cmA n e).getD j []).length ≤ 4096 := by
  by_cases h1 : chkG n e = 0
  · obtain ⟨N, E, rfl, rfl, hg⟩ := chkG_ok h1
    rw [cmA_ok hg]
    have a5 : N ≤ 4096 := hg.n
    refine ⟨by unfold cmL; rw [List.length_map]; have := ris_len N (lst E); omega, fun j => ?_⟩
    by_cases hj : j < (cmL N E).length
    · rw [(cmL_getD hj).1]; have := ris_len N (scB E ((ris N (lst E)).getD j 0)); unfold prt; omega
    · have : (cmL N E).getD j [] = [] := by simp [List.getD, List.getElem?_eq_none (show (cmL N E).length ≤ j by omega)]
      rw [this]; simp
  · rw [cmA_no h1]; simp
/-- One of its lists. -/
theorem ansP_at {W' : World} {q : Option Addr} {c : Nat} {vs : List Sl} {Q : List (List Nat)} (h1 : vs.length = Q.length) (h2 : GS KS W' (.slice q Q.length c) vs) (h3 : ∀ i, i < Q.length → GS KI W' (slV (vs.getD i sl0)) (nI (Q.getD i []))) {i : Nat} (hi : i < Q.length) : ∃ X o p c', q = some ⟨X, o, none⟩ ∧ W'.cell? ⟨X, o + i, none⟩ = some (.slice p (Q.getD i []).length c') ∧ GS KI W' (.slice p (Q.getD i []).length c') (nI (Q.getD i [])) := by
  have i2 : i < vs.length := by omega
  obtain ⟨X, o, e1, e2⟩ := h2.atS i2
  have h := h3 i hi
  have eg : vs.getD i sl0 = vs[i] := by simp [List.getD, i2]
  rw [eg] at h
  obtain ⟨pr, cr, er⟩ := h.form
  rw [nI_len] at er
  rw [er] at h e2
  exact ⟨X, o, pr, cr, e1, e2, h⟩
theorem cell_ltX {w : World} {X o : Nat} {v : Value} (h : w.cell? ⟨X, o, none⟩ = some v) : X < w.heap.size := by
  by_cases hx : X < w.heap.size
  · exact hx
  · have e : w.heap[X]? = none := Array.getElem?_eq_none (by omega)
    simp [World.cell?, e] at h
set_option maxRecDepth 100000 in
set_option maxHeartbeats 32000000 in
theorem graphRounds_any (w : World) (n : Int) (v : Value) (l : List (Int × Int)) (hv : GS KE w v l) (hl : l.length * 16 ≤ 140737488355328) (x : Int) : Calls Try.prog 4 #[.agg #[.int .i64 n, v], .int .i64 x] w fun e w' => e = .returned (.bool true) ∧ Below w.heap.size w w' := by
  obtain ⟨p, c, rfl⟩ := hv.form
  generalize hW : w.alloc (.cells #[.int .i64 n, .slice p l.length c] 24) = W
  obtain ⟨bw, c0⟩ := graph_box w n p l.length c hW
  have BW := hid bw
  have H0 := hid c0
  obtain ⟨d0, d1⟩ := c0 W (Below.refl _ _)
  have CP := hid (copied_any W n _ l (hv.below bw) hl)
  have GV := hid (fun W' (hb : Below w.heap.size w W') => hv.below hb)
  obtain ⟨m, hm⟩ : ∃ m, m = l.length := ⟨_, rfl⟩
  rw [← hm] at H0 d1 CP GV hW ⊢
  have L1 : Hid (l.length ≤ 140737488355328) := by show _ ≤ _; omega
  have LA := rnA_len n l
  have LB := ciA_len n l x
  have LQ := cmA_lens n l
  clear hm hv hl bw c0
  go_enter Try.func4, Try.ntmps4
  go_upto_region 2 with (go_at_call 9; refine CP.out.mono ?_; rintro e w1 ⟨p1, c1, rfl, o1, b1⟩; have O1 := hid o1; have B1 := hid b1; clear o1 b1)
  generalize hW3 : w1.alloc (.cells #[.int .i64 n, .slice p1 m c1] 24) = W3 at *
  have BB : Hid (Below w.heap.size w W3) := by rw [← hW3]; exact bl3 BW.out (bl3 B1.out (bal _ _))
  have CB : Hid (∀ W', Below W3.heap.size W3 W' → GX w w.heap.size w1.heap.size n p p1 m c c1 l W3 W') := fun W' hb => by
    have e1 : W'.heap[w1.heap.size]? = some (.cells #[.int .i64 n, .slice p1 m c1] 24) := (hb.block _ (by rw [← hW3, asz]; omega)).trans (by rw [← hW3]; exact heap_alloc_new _ _)
    exact ⟨H0.out W' (by rw [← hW3] at hb; exact bl3 (bl3 B1.out (bal _ _)) hb), ⟨cell_of_row _ _ _ _ _ _ e1, cell_of_row _ _ _ _ _ _ e1⟩, GV.out W' (bl3 BB.out hb), ((O1.out.gs KE_ok.len).below (bal _ _)).below (by rw [hW3]; exact hb)⟩
  obtain ⟨sz, hsz⟩ : ∃ sz, sz = w.heap.size := ⟨_, rfl⟩
  obtain ⟨q7, hq7⟩ : ∃ q7, q7 = w1.heap.size := ⟨_, rfl⟩
  rw [← hsz, ← hq7] at CB
  rw [← hsz, ← hq7]
  clear hsz hq7 hW3 hW O1 B1 CP GV H0 d0 d1 BW
  have X0 := hid (CB.out W3 (Below.refl _ _))
  obtain ⟨x0, x1⟩ := X0.out.b0
  obtain ⟨x2, x3⟩ := X0.out.b1
  have P1 := hid (fun W' (hb : Below W3.heap.size W3 W') => Components_any W' n _ l (CB.out W' hb).g1)
  have P2 := hid (fun W' (hb : Below W3.heap.size W3 W') => rComponents_any W' n _ l (CB.out W' hb).g0)
  have N1 := hid (fun W' (hb : Below W3.heap.size W3 W') => Round_any W' n _ l (CB.out W' hb).g1)
  have N2 := hid (fun W' (hb : Below W3.heap.size W3 W') => rRound_any W' n _ l (CB.out W' hb).g0)
  have R1 := hid (fun W' (hb : Below W3.heap.size W3 W') => Circle_any W' n _ l (CB.out W' hb).g1 x)
  have R2 := hid (fun W' (hb : Below W3.heap.size W3 W') => rCircle_any W' n _ l (CB.out W' hb).g0 x)
  have SO := hid (fun W' (hb : Below W3.heap.size W3 W') => same_same W' n _ _ l (CB.out W' hb).g1 (CB.out W' hb).g0 L1.out)
  have SI := hid (fun W' a b L h1 h2 h3 => sameI_yes W' a b L h1 h2 h3)
  have CC := hid (fun W' (hb : Below W3.heap.size W3 W') => And.intro (CB.out W' hb).b0 (CB.out W' hb).b1)
  obtain ⟨A, hA⟩ : ∃ A, A = rnA n l := ⟨_, rfl⟩
  obtain ⟨B, hB⟩ : ∃ B, B = ciA n l x := ⟨_, rfl⟩
  obtain ⟨Q, hQ⟩ : ∃ Q, Q = cmA n l := ⟨_, rfl⟩
  rw [← hA] at N1 N2 LA
  rw [← hB] at R1 R2 LB
  rw [← hQ] at P1 P2 LQ
  clear hA hB hQ X0
  generalize chkG n l = ra at *
  generalize ciE n l x = rb at *
  obtain ⟨LQ1, lq2⟩ := LQ
  have LQ2 := hid lq2
  clear lq2
  go_upto_region 4 with (first
    | (go_at_call 22; refine (P1.out _ (Below.refl _ _)).mono ?_; rintro e w4 ⟨q4, c4, vs4, rfl, l4, g4, r4, b4⟩; have G4 := hid (And.intro l4 (And.intro g4 r4)); have B4 := hid b4; obtain ⟨⟨y0, y1⟩, y2, y3⟩ := CC.out _ B4.out; clear l4 g4 r4 b4)
    | (go_at_call 23; refine (P2.out _ B4.out).mono ?_; rintro e w5 ⟨q5, c5, vs5, rfl, l5, g5, r5, b5⟩; have G5 := hid (And.intro l5 (And.intro g5 r5)); have B5 := hid b5; clear l5 g5 r5 b5))
  have X5 := hid (bl3 B4.out B5.out)
  have R4 := hid (fun W' (hb : Below w5.heap.size w5 W') i (hi : i < Q.length) => ansP_at G4.out.1 (G4.out.2.1.below (bl3 B5.out hb)) (fun i hi => (G4.out.2.2 i hi).below (bl3 B5.out hb)) hi)
  have R5 := hid (fun W' (hb : Below w5.heap.size w5 W') i (hi : i < Q.length) => ansP_at G5.out.1 (G5.out.2.1.below hb) (fun i hi => (G5.out.2.2 i hi).below hb) hi)
  clear G4 G5 B4 B5 x0 x1 x2 x3 y0 y1 y2 y3 P1 P2
  obtain ⟨ql, hql⟩ : ∃ ql, ql = Q.length := ⟨_, rfl⟩
  have MQ : Hid (Q.length = ql) := hql.symm
  rw [← hql] at LQ1 ⊢
  clear hql
  have I0 := hid (Below.refl w5.heap.size w5)
  go_wp2_with fail
  go_loopw [10] (fun v10 wr => ∃ (i : Nat) (wk : World), v10 = .int .i64 i ∧ wk = wr ∧ i ≤ ql ∧ Hid (Below w5.heap.size w5 wk)) (fun v10 _ => ql - (intOf v10).toNat)
  case atStart => exact ⟨0, _, rfl, rfl, Nat.zero_le _, I0⟩
  case round =>
    obtain ⟨i, wr, rfl, rfl, hi, HB⟩ := hrel
    clear I0
    by_cases hlt : i < ql
    · have hii : (i : Int) < (ql : Nat) := by omega
      have i1 : i < Q.length := by rw [MQ.out]; exact hlt
      obtain ⟨X, o, p8, c8, e1, f1, h1⟩ := R4.out wr HB.out i i1
      obtain ⟨Y, o2, p9, c9, e2, f2, h2⟩ := R5.out wr HB.out i i1
      have QL := LQ2.out i
      have HX : Hid (∀ W', Below wr.heap.size wr W' → GS KI W' (.slice p8 (Q.getD i []).length c8) (nI (Q.getD i [])) ∧ GS KI W' (.slice p9 (Q.getD i []).length c9) (nI (Q.getD i []))) := fun W' hb => ⟨h1.below hb, h2.below hb⟩
      have SS := hid (fun W' (hb : Below wr.heap.size wr W') => sameI_yes W' _ _ (nI (Q.getD i [])) (HX.out W' hb).1 (HX.out W' hb).2 (by rw [nI_len]; omega))
      have DD : Hid (∀ nq, Below wr.heap.size wr (wr.drewN nq)) := fun nq => drew_below wr nq
      have D1 : Hid (Below wr.heap.size wr wr.drew) := drew_below wr 1
      generalize (Q.getD i []).length = ln at *
      subst e1 e2
      clear h1 h2 HX i1
      have KC : Hid (∀ W', Below wr.heap.size wr W' → W'.cell? ⟨X, o + i, none⟩ = some (.slice p8 ln c8) ∧ W'.cell? ⟨Y, o2 + i, none⟩ = some (.slice p9 ln c9)) := fun W' hb => ⟨(hb.cell (p := ⟨X, o + i, none⟩) (cell_ltX f1)).trans f1, (hb.cell (p := ⟨Y, o2 + i, none⟩) (cell_ltX f2)).trans f2⟩
      go_wp2_with fail
      go_region_held3 (fun w' => w'.cell? ⟨X, o + i, none⟩ = some (.slice p8 ln c8) ∧ w'.cell? ⟨Y, o2 + i, none⟩ = some (.slice p9 ln c9)) (first | exact KC.out _ D1.out | exact KC.out _ B8.out | go_keep) (first | (go_at_call 15; refine (SS.out _ D1.out).mono ?_; rintro e w8 ⟨rfl, b8⟩; have B8 : Hid (Below wr.heap.size wr w8) := bl3 D1.out b8; clear b8) | fail)
      all_goals
        go_wp2_with fail
        go_roundw
        case rel => exact ⟨i + 1, _, by go_num, rfl, by omega, bl3 HB.out B8.out⟩
        case measure => simp [intOf]; omega
    · have hii : ¬ (i : Int) < (ql : Nat) := by omega
      have X6 := hid (bl3 X5.out HB.out)
      obtain ⟨⟨y0, y1⟩, y2, y3⟩ := CC.out _ X6.out
      clear R4 R5 LQ2 HB
      go_upto_region 15 with (first
        | (go_at_call 24; refine (N1.out _ X6.out).mono ?_; rintro e w6 ⟨q6, c6, rfl, g6, b6⟩; have G6 := hid g6; have B6 := hid (bl3 X6.out b6); obtain ⟨⟨y0, y1⟩, y2, y3⟩ := CC.out _ B6.out; clear g6 b6)
        | (go_at_call 25; refine (N2.out _ B6.out).mono ?_; rintro e w7 ⟨r7, c7, rfl, g7, b7⟩; have S7 := hid (SI.out w7 _ _ A (G6.out.below b7) g7 (by omega)); have B7 := hid (bl3 B6.out b7); clear g7 b7)
        | (go_at_call 15; refine S7.out.mono ?_; rintro e w8 ⟨rfl, b8⟩; have B8 := hid (bl3 B7.out b8); obtain ⟨⟨z0, z1⟩, z2, z3⟩ := CC.out _ B8.out; clear b8))
      clear y0 y1 y2 y3 G6 S7 N1 N2
      go_wp2_with (first
        | (go_at_call 26; refine (R1.out _ B8.out).mono ?_; rintro e w9 ⟨q9, c9, rfl, g9, b9⟩; have G9 := hid g9; have B9 := hid (bl3 B8.out b9); obtain ⟨⟨y0, y1⟩, y2, y3⟩ := CC.out _ B9.out; clear g9 b9)
        | (go_at_call 27; refine (R2.out _ B9.out).mono ?_; rintro e w10 ⟨r10, c10, rfl, g10, b10⟩; have S10 := hid (SI.out w10 _ _ B (G9.out.below b10) g10 (by omega)); have B10 := hid (bl3 B9.out b10); clear g10 b10)
        | (go_at_call 15; refine S10.out.mono ?_; rintro e w11 ⟨rfl, b11⟩; have B11 := hid (bl3 B10.out b11); obtain ⟨⟨x0, x1⟩, x2, x3⟩ := CC.out _ B11.out; clear b11)
        | (go_at_call 20; refine (SO.out _ B11.out).mono ?_; rintro e w12 ⟨rfl, b12⟩; have B12 := hid (bl3 B11.out b12); clear b12))
      go_ret
      exact ⟨rfl, bl3 BB.out B12.out⟩
end Go.Proofs.Ytkmokoiilmdfbaa
