/- The walk of the law FailHolds. -/
import Derived.Test.YtaleagkhblokgaaDoorMx2
import Derived.Test.YtaleagkhblokgaaDoorLx3
namespace Go.Proofs.YtaleagkhblokgaaDoor
open Go.RowKit

structure LH (w wk : World) (f g : Value) (l m : List Cr) : Prop where
  bl : Below w.heap.size w wk
  fv : FV wk
  f : CS wk f l
  g : CS wk g m
theorem LH.below {w wk w' : World} {f g : Value} {l m : List Cr} (h : LH w wk f g l m) (b : Below wk.heap.size wk w') : LH w w' f g l m :=
  ⟨h.bl.trans (b.mono h.bl.size), h.fv.below b, h.f.below b, h.g.below b⟩
theorem two_fs {w : World} {u v : Value} {l m : List Cr} (hu : CS w u l) (hv : CS w v m) : FS (w.alloc (.cells #[u, v] 23)) (.slice (some ⟨w.heap.size, 0, none⟩) 2 2) [l, m] := by
  have B : Below w.heap.size w (w.alloc (.cells #[u, v] 23)) := (Below.refl _ _).alloc (Nat.le_refl _) _
  have hc : ∀ o, (w.alloc (.cells #[u, v] 23)).cell? ⟨w.heap.size, o, none⟩ = (#[u, v] : Array Value)[o]? := fun o => cell_of_row _ _ _ _ _ _ (heap_alloc_new _ _)
  refine ⟨_, 2, rfl, Nat.le_refl _, fun k hk => ?_⟩
  have hk2 : k < 2 := hk
  match k, hk2 with
  | 0, _ => exact ⟨w.heap.size, 0, u, rfl, by simp, hc 0, hu.below B⟩
  | 1, _ => exact ⟨w.heap.size, 0, v, rfl, by simp, hc 1, hv.below B⟩
theorem one_cs (w : World) (c : Cr) : CS (w.alloc (.cells #[.int .i64 c.kind, .int .i64 c.n, .string c.text] 55)) (.slice (some ⟨w.heap.size, 0, none⟩) 1 1) [c] := by
  have hc : ∀ o, (w.alloc (.cells #[.int .i64 c.kind, .int .i64 c.n, .string c.text] 55)).cell? ⟨w.heap.size, o, none⟩ = (#[.int .i64 c.kind, .int .i64 c.n, .string c.text] : Array Value)[o]? := fun o => cell_of_row _ _ _ _ _ _ (heap_alloc_new _ _)
  refine Or.inr ⟨w.heap.size, 0, 1, rfl, by simp, Nat.le_refl _, fun k hk => ?_⟩
  have hk2 : k < 1 := hk
  match k, hk2 with
  | 0, _ => exact ⟨hc 0, hc 1, hc 2⟩
set_option maxHeartbeats 16000000 in
set_option maxRecDepth 100000 in
theorem failHolds_any (v u : Value) (l m : List Cr) (n : ByteArray) (w : World) (h : CS w v l) (h' : CS w u m) (ht : ∀ c ∈ l, c.text.size ≤ maxLen) (ht' : ∀ c ∈ m, c.text.size ≤ maxLen) (hl : l.length ≤ 1000000000000000) (hm : m.length ≤ 1000000000000000) (hn : n.size ≤ maxLen) (hv : FV w) :
    Calls Tryd.prog 7 #[v, u, .string n] w fun e w' => e = .returned (.bool true) ∧ Below w.heap.size w w' := by
  have WK := works_any w hv
  have CF : Hid (∀ w', LH w w' v u l m → Calls Tryd.prog 31 #[v] w' fun e w'' => e = .returned (.int .i64 (chk l)) ∧ Below w'.heap.size w' w'') := fun w' L => check_any v l w' L.f ht L.fv hl
  have CG : Hid (∀ w', LH w w' v u l m → Calls Tryd.prog 31 #[u] w' fun e w'' => e = .returned (.int .i64 (chk m)) ∧ Below w'.heap.size w' w'') := fun w' L => check_any u m w' L.g ht' L.fv hm
  have WR : Hid (∀ w', LH w w' v u l m → Calls Tryd.prog 33 #[.string n, v] w' fun e w'' => Ans w' w'' e (wrapL n l) (wrapE n l)) := fun w' L => wrap_any n v l w' hn L.f ht hl L.fv
  have L0 : Hid (LH w w v u l m) := ⟨Below.refl _ _, hv, h, h'⟩
  obtain ⟨pf, cf, rfl⟩ := h.form
  obtain ⟨pg, cg, rfl⟩ := h'.form
  have hlx : Hid (l.length ≤ 100000000000000000) := by show _ ≤ _; omega
  unfold maxLen at hn
  clear h h' hv
  by_cases hc : chk l = 0
  rotate_left
  · have z1 : (chk l == 0) = false := by simpa using hc
    have z2 : (chk l != 0) = true := by simpa using hc
    generalize chk l = x at *
    clear WR CG ht ht'
    go_enter Tryd.func7, Tryd.ntmps7
    go_wp2_with fail
    refine WK.mono ?_
    rintro e w1 ⟨rfl, hb1⟩
    have L1 : Hid (LH w w1 (.slice pf l.length cf) (.slice pg m.length cg) l m) := L0.out.below hb1
    clear hb1 WK
    go_wp2_with fail
    refine (CF.out _ L1.out).mono ?_
    rintro e w2 ⟨rfl, hb2⟩
    have B2 : Hid (Below w.heap.size w w2) := L1.out.bl.trans (hb2.mono L1.out.bl.size)
    clear hb2
    go_wp2_with fail
    go_ret
    exact ⟨rfl, B2.out⟩
  by_cases hd : chk m = 0
  rotate_left
  · have z1 : (chk m == 0) = false := by simpa using hd
    have z2 : (chk m != 0) = true := by simpa using hd
    rw [hc] at CF
    generalize chk m = x at *
    clear WR ht ht' hc
    go_enter Tryd.func7, Tryd.ntmps7
    go_wp2_with fail
    refine WK.mono ?_
    rintro e w1 ⟨rfl, hb1⟩
    have L1 : Hid (LH w w1 (.slice pf l.length cf) (.slice pg m.length cg) l m) := L0.out.below hb1
    clear hb1 WK
    go_wp2_with fail
    refine (CF.out _ L1.out).mono ?_
    rintro e w2 ⟨rfl, hb2⟩
    have L2 : Hid (LH w w2 (.slice pf l.length cf) (.slice pg m.length cg) l m) := L1.out.below hb2
    clear hb2
    go_wp2_with fail
    refine (CG.out _ L2.out).mono ?_
    rintro e w3 ⟨rfl, hb3⟩
    have B3 : Hid (Below w.heap.size w w3) := L2.out.bl.trans (hb3.mono L2.out.bl.size)
    clear hb3
    go_wp2_with fail
    go_ret
    exact ⟨rfl, B3.out⟩
  have hl1 := (chk_ok hc).1
  have hm1 := (chk_ok hd).1
  have tl := chk_text hc
  have tm := chk_text hd
  -- the law's own 'is', where both are right
  have ISX : Hid (∀ w' a b x y, FV w' → CS w' a x → CS w' b y → chk x = 0 → chk y = 0 → Calls Tryd.prog 32 #[a, b] w' fun e w'' => e = .returned (.bool (isB x y)) ∧ Below w'.heap.size w' w'') := fun w' a b x y fv ca cb hx hy => lawIs_any a b x y w' ca cb (chk_text hx) (chk_text hy) (by have := (chk_ok hx).1; omega) (by have := (chk_ok hy).1; omega) fv
  have IFF : Hid (∀ w', LH w w' (.slice pf l.length cf) (.slice pg m.length cg) l m → Calls Tryd.prog 32 #[.slice pf l.length cf, .slice pf l.length cf] w' fun e w'' => e = .returned (.bool true) ∧ Below w'.heap.size w' w'') := fun w' L => by
    have := ISX.out w' _ _ l l L.fv L.f L.f hc hc
    rw [isB_self hc] at this; exact this
  have IFG : Hid (∀ w', LH w w' (.slice pf l.length cf) (.slice pg m.length cg) l m → Calls Tryd.prog 32 #[.slice pf l.length cf, .slice pg m.length cg] w' fun e w'' => e = .returned (.bool (isB l m)) ∧ Below w'.heap.size w' w'') := fun w' L => ISX.out w' _ _ l m L.fv L.f L.g hc hd
  have JN : Hid (∀ w', LH w w' (.slice pf l.length cf) (.slice pg m.length cg) l m → Calls Tryd.prog 34 #[.slice (some ⟨w'.heap.size, 0, none⟩) 2 2] (w'.alloc (.cells #[.slice pf l.length cf, .slice pg m.length cg] 23)) fun e w'' => ∃ p cap, e = .returned (.tuple #[.slice p (joinL [l, m]).length cap, .int .i64 0]) ∧ CS w'' (.slice p (joinL [l, m]).length cap) (joinL [l, m]) ∧ LH w w'' (.slice pf l.length cf) (.slice pg m.length cg) l m) := fun w' L => by
    have B : Below w'.heap.size w' (w'.alloc (.cells #[.slice pf l.length cf, .slice pg m.length cg] 23)) := (Below.refl _ _).alloc (Nat.le_refl _) _
    have := join_any _ [l, m] _ (two_fs L.f L.g) (fun x hx => by simp at hx; rcases hx with rfl | rfl; exact tl; exact tm) (fun x hx => by simp at hx; rcases hx with rfl | rfl <;> omega) (by simp) (L.fv.below B)
    rw [join_E hc hd] at this
    refine Calls.mono this fun e w'' ⟨p, cap, h1, h2, h3⟩ => ⟨p, cap, h1, h2.cs, (L.below B).below h3⟩
  have FI : Hid (∀ w', LH w w' (.slice pf l.length cf) (.slice pg m.length cg) l m → Calls Tryd.prog 24 #[.slice pf l.length cf, .int .i64 9] w' fun e w'' => Ans w' w'' e (firL l 9) (firE l 9)) := fun w' L => first_any _ l 9 w' L.f tl hl L.fv
  have FF : Hid (firE l 9 = 0 → isV l (firL l 9) = true ∧ chk (firL l 9) = 0 ∧ (firL l 9).length ≤ l.length) := first_facts hc
  have JLG : Hid (1024 ≤ l.length + m.length → joinL [l, m] = [⟨11, 0, ByteArray.empty⟩]) := join_long hc hd
  have JFX : Hid (l.length + m.length < 1024 → chk (joinL [l, m]) = 0 ∧ isB (joinL [l, m]) l = true ∧ isB (joinL [l, m]) m = true ∧ isB l (joinL [l, m]) = false ∧ (∀ x, chk x = 0 → isV l x = true → isB (joinL [l, m]) x = true) ∧ (joinL [l, m]).length ≤ 1024) := join_facts hc hd
  have IOK : Hid (∀ y, chk y = 0 → isB l y = isV l y) := fun y hy => isB_ok hc hy
  have WF : Hid (nameB n = true → l.length < 1024 → wrapE n l = 0 ∧ chk (wrapL n l) = 0 ∧ isB (wrapL n l) l = true ∧ isB (wrapL n l) m = (isB l m || eqC (wrapL n l) m) ∧ (wrapL n l).length ≤ 1024) := wrap_facts hc hd
  have WN : Hid (nameB n = false → wrapE n l = 2) := fun h0 => by unfold wrapE; rw [h0]; rfl
  have WY : Hid (nameB n = true → wrapE n l = 0) := fun h0 => by unfold wrapE; rw [if_pos h0, hc]
  rw [hc] at CF
  rw [hd] at CG
  have HCL : Hid (chk l = 0) := hc
  have HCM : Hid (chk m = 0) := hd
  clear hc hd ht ht' tl tm
  cases hnm : nameB n with
  | false =>
    have hw := WN.out hnm
    rw [hw] at WR
    clear hw WN WY WF IFG hnm
    go_enter Tryd.func7, Tryd.ntmps7
    go_wp2_with fail
    refine WK.mono ?_
    rintro e w1 ⟨rfl, hb1⟩
    have L1 : Hid (LH w w1 (.slice pf l.length cf) (.slice pg m.length cg) l m) := L0.out.below hb1
    clear hb1 WK
    go_wp2_with fail
    refine (CF.out _ L1.out).mono ?_
    rintro e w2 ⟨rfl, hb2⟩
    have L2 : Hid (LH w w2 (.slice pf l.length cf) (.slice pg m.length cg) l m) := L1.out.below hb2
    clear hb2
    go_wp2_with fail
    refine (CG.out _ L2.out).mono ?_
    rintro e w3 ⟨rfl, hb3⟩
    have L3 : Hid (LH w w3 (.slice pf l.length cf) (.slice pg m.length cg) l m) := L2.out.below hb3
    clear hb3
    go_wp2_with fail
    refine (IFF.out _ L3.out).mono ?_
    rintro e w4 ⟨rfl, hb4⟩
    have L4 : Hid (LH w w4 (.slice pf l.length cf) (.slice pg m.length cg) l m) := L3.out.below hb4
    clear hb4 L1 L2 L3 L0
    go_wp2_with fail
    refine Calls.mono (WR.out _ L4.out) ?_
    rintro e w5 ⟨p5, c5, rfl, ho5, hb5⟩
    have L5 : Hid (LH w w5 (.slice pf l.length cf) (.slice pg m.length cg) l m) := L4.out.below hb5
    have O5 : Hid (CS w5 (.slice p5 (wrapL n l).length c5) (wrapL n l)) := ho5.cs
    clear ho5 hb5 L4 IFF CF CG
    obtain ⟨w9, hw9⟩ : ∃ w9, w9 = w5 := ⟨_, rfl⟩
    rw [← hw9] at L5 ⊢
    have L9 : Hid (LH w w9 (.slice pf l.length cf) (.slice pg m.length cg) l m) := L5
    clear hw9 L5 O5 WR
    go_wp2_with fail
    refine (JN.out _ L9.out).mono ?_
    rintro e wa ⟨pa, ca, rfl, hja, hla⟩
    have JA : Hid (CS wa (.slice pa (joinL [l, m]).length ca) (joinL [l, m])) := hja
    have LA : Hid (LH w wa (.slice pf l.length cf) (.slice pg m.length cg) l m) := hla
    clear hja hla L9
    by_cases hlong : 1024 ≤ l.length + m.length
    · have hJ := JLG.out hlong
      rw [hJ] at JA ⊢
      have hli : ((l.length : Int) + (m.length : Int)) ≥ 1024 := by omega
      clear hJ JLG JFX
      go_wp2_with fail
      refine (sameFail_same _ _ _ [⟨11, 0, ByteArray.empty⟩] (JA.out.below ((Below.refl _ _).alloc (Nat.le_refl _) _)) (one_cs wa ⟨11, 0, ByteArray.empty⟩) (by simp)).mono ?_
      rintro e wb ⟨rfl, nb, hwb⟩
      have BB : Hid (Below w.heap.size w wb) := LA.out.bl.trans ((hwb ▸ below_drewN' ((Below.refl _ _).alloc (Nat.le_refl _) _) nb : Below wa.heap.size wa wb).mono LA.out.bl.size)
      clear hwb
      go_wp2_with fail
      go_ret
      exact ⟨rfl, BB.out⟩
    · obtain ⟨j1, j2, j3, j4, j5, j6⟩ := JFX.out (by omega)
      have hli : ¬ ((l.length : Int) + (m.length : Int)) ≥ 1024 := by omega
      have HJ1 : Hid (chk (joinL [l, m]) = 0) := j1
      have HJ5 : Hid (∀ x, chk x = 0 → isV l x = true → isB (joinL [l, m]) x = true) := j5
      have IJF : Hid (∀ w', LH w w' (.slice pf l.length cf) (.slice pg m.length cg) l m → CS w' (.slice pa (joinL [l, m]).length ca) (joinL [l, m]) → Calls Tryd.prog 32 #[.slice pa (joinL [l, m]).length ca, .slice pf l.length cf] w' fun e w'' => e = .returned (.bool true) ∧ Below w'.heap.size w' w'') := fun w' L J => by
        have := ISX.out w' _ _ _ l L.fv J L.f HJ1.out HCL.out
        rw [j2] at this; exact this
      have IJG : Hid (∀ w', LH w w' (.slice pf l.length cf) (.slice pg m.length cg) l m → CS w' (.slice pa (joinL [l, m]).length ca) (joinL [l, m]) → Calls Tryd.prog 32 #[.slice pa (joinL [l, m]).length ca, .slice pg m.length cg] w' fun e w'' => e = .returned (.bool true) ∧ Below w'.heap.size w' w'') := fun w' L J => by
        have := ISX.out w' _ _ _ m L.fv J L.g HJ1.out HCM.out
        rw [j3] at this; exact this
      have IFJ : Hid (∀ w', LH w w' (.slice pf l.length cf) (.slice pg m.length cg) l m → CS w' (.slice pa (joinL [l, m]).length ca) (joinL [l, m]) → Calls Tryd.prog 32 #[.slice pf l.length cf, .slice pa (joinL [l, m]).length ca] w' fun e w'' => e = .returned (.bool false) ∧ Below w'.heap.size w' w'') := fun w' L J => by
        have := ISX.out w' _ _ l _ L.fv L.f J HCL.out HJ1.out
        rw [j4] at this; exact this
      clear j1 j2 j3 j4 j5 j6 JFX JLG
      go_wp2_with fail
      refine (IJF.out _ LA.out JA.out).mono ?_
      rintro e wb ⟨rfl, hbb⟩
      have LB' : Hid (LH w wb (.slice pf l.length cf) (.slice pg m.length cg) l m) := LA.out.below hbb
      have JB : Hid (CS wb (.slice pa (joinL [l, m]).length ca) (joinL [l, m])) := JA.out.below hbb
      clear hbb LA JA
      go_wp2_with fail
      refine (IJG.out _ LB'.out JB.out).mono ?_
      rintro e wc ⟨rfl, hbc⟩
      have LC : Hid (LH w wc (.slice pf l.length cf) (.slice pg m.length cg) l m) := LB'.out.below hbc
      have JC : Hid (CS wc (.slice pa (joinL [l, m]).length ca) (joinL [l, m])) := JB.out.below hbc
      clear hbc LB' JB
      go_wp2_with fail
      refine (IFJ.out _ LC.out JC.out).mono ?_
      rintro e wd ⟨rfl, hbd⟩
      have LD : Hid (LH w wd (.slice pf l.length cf) (.slice pg m.length cg) l m) := LC.out.below hbd
      have JD : Hid (CS wd (.slice pa (joinL [l, m]).length ca) (joinL [l, m])) := JC.out.below hbd
      clear hbd LC JC IJF IJG IFJ
      go_wp2_with fail
      refine Calls.mono (FI.out _ LD.out) ?_
      rintro e we ⟨pe, cpe, rfl, hoe, hbe⟩
      have LE : Hid (LH w we (.slice pf l.length cf) (.slice pg m.length cg) l m) := LD.out.below hbe
      have JE : Hid (CS we (.slice pa (joinL [l, m]).length ca) (joinL [l, m])) := JD.out.below hbe
      have XE : Hid (CS we (.slice pe (firL l 9).length cpe) (firL l 9)) := hoe.cs
      clear hbe hoe LD JD
      by_cases hfe : firE l 9 = 0
      · obtain ⟨x1, x2, x3⟩ := FF.out hfe
        have IFX : Hid (∀ w', LH w w' (.slice pf l.length cf) (.slice pg m.length cg) l m → CS w' (.slice pe (firL l 9).length cpe) (firL l 9) → Calls Tryd.prog 32 #[.slice pf l.length cf, .slice pe (firL l 9).length cpe] w' fun e w'' => e = .returned (.bool true) ∧ Below w'.heap.size w' w'') := fun w' L X => by
          have := ISX.out w' _ _ l _ L.fv L.f X HCL.out x2
          rw [IOK.out _ x2, x1] at this; exact this
        have IJX : Hid (∀ w', LH w w' (.slice pf l.length cf) (.slice pg m.length cg) l m → CS w' (.slice pa (joinL [l, m]).length ca) (joinL [l, m]) → CS w' (.slice pe (firL l 9).length cpe) (firL l 9) → Calls Tryd.prog 32 #[.slice pa (joinL [l, m]).length ca, .slice pe (firL l 9).length cpe] w' fun e w'' => e = .returned (.bool true) ∧ Below w'.heap.size w' w'') := fun w' L J X => by
          have := ISX.out w' _ _ _ _ L.fv J X HJ1.out x2
          rw [HJ5.out _ x2 x1] at this; exact this
        rw [hfe]
        clear x1 x2 x3 FF hfe
        go_wp2_with fail
        refine (IFX.out _ LE.out XE.out).mono ?_
        rintro e wf ⟨rfl, hbf⟩
        have LF : Hid (LH w wf (.slice pf l.length cf) (.slice pg m.length cg) l m) := LE.out.below hbf
        have JF : Hid (CS wf (.slice pa (joinL [l, m]).length ca) (joinL [l, m])) := JE.out.below hbf
        have XF : Hid (CS wf (.slice pe (firL l 9).length cpe) (firL l 9)) := XE.out.below hbf
        clear hbf LE JE XE
        go_wp2_with fail
        refine (IJX.out _ LF.out JF.out XF.out).mono ?_
        rintro e wg ⟨rfl, hbg⟩
        have BG : Hid (Below w.heap.size w wg) := LF.out.bl.trans (hbg.mono LF.out.bl.size)
        clear hbg
        go_wp2_with fail
        go_ret
        exact ⟨rfl, BG.out⟩
      · have z1 : (firE l 9 == 0) = false := by simpa using hfe
        have z2 : (firE l 9 != 0) = true := by simpa using hfe
        generalize firE l 9 = fx at *
        clear FF
        go_wp2_with fail
        go_ret
        exact ⟨rfl, LE.out.bl⟩
  | true =>
    have hw := WY.out hnm
    rw [hw] at WR
    by_cases hlf : l.length < 1024
    · obtain ⟨_, f1, f2, f3, f4⟩ := WF.out hnm hlf
      have HW1 : Hid (chk (wrapL n l) = 0) := f1
      have HW3 : Hid (isB (wrapL n l) m = (isB l m || eqC (wrapL n l) m)) := f3
      have HW4 : Hid ((wrapL n l).length ≤ 100000000000000000) := by show _ ≤ _; omega
      have hlfi : (l.length : Int) < 1024 := by omega
      have IWF : Hid (∀ w' p5 c5, LH w w' (.slice pf l.length cf) (.slice pg m.length cg) l m → CS w' (.slice p5 (wrapL n l).length c5) (wrapL n l) → Calls Tryd.prog 32 #[.slice p5 (wrapL n l).length c5, .slice pf l.length cf] w' fun e w'' => e = .returned (.bool true) ∧ Below w'.heap.size w' w'') := fun w' p5 c5 L J => by
        have := ISX.out w' _ _ _ l L.fv J L.f HW1.out HCL.out
        rw [f2] at this; exact this
      have IWG : Hid (∀ w' p5 c5, LH w w' (.slice pf l.length cf) (.slice pg m.length cg) l m → CS w' (.slice p5 (wrapL n l).length c5) (wrapL n l) → Calls Tryd.prog 32 #[.slice p5 (wrapL n l).length c5, .slice pg m.length cg] w' fun e w'' => e = .returned (.bool (isB l m || eqC (wrapL n l) m)) ∧ Below w'.heap.size w' w'') := fun w' p5 c5 L J => by
        have := ISX.out w' _ _ _ m L.fv J L.g HW1.out HCM.out
        rw [HW3.out] at this; exact this
      clear hw WN WY WF hnm f1 f2 f3 f4
      go_enter Tryd.func7, Tryd.ntmps7
      go_wp2_with fail
      refine WK.mono ?_
      rintro e w1 ⟨rfl, hb1⟩
      have L1 : Hid (LH w w1 (.slice pf l.length cf) (.slice pg m.length cg) l m) := L0.out.below hb1
      clear hb1 WK
      go_wp2_with fail
      refine (CF.out _ L1.out).mono ?_
      rintro e w2 ⟨rfl, hb2⟩
      have L2 : Hid (LH w w2 (.slice pf l.length cf) (.slice pg m.length cg) l m) := L1.out.below hb2
      clear hb2
      go_wp2_with fail
      refine (CG.out _ L2.out).mono ?_
      rintro e w3 ⟨rfl, hb3⟩
      have L3 : Hid (LH w w3 (.slice pf l.length cf) (.slice pg m.length cg) l m) := L2.out.below hb3
      clear hb3
      go_wp2_with fail
      refine (IFF.out _ L3.out).mono ?_
      rintro e w4 ⟨rfl, hb4⟩
      have L4 : Hid (LH w w4 (.slice pf l.length cf) (.slice pg m.length cg) l m) := L3.out.below hb4
      clear hb4 L1 L2 L3 L0
      go_wp2_with fail
      refine Calls.mono (WR.out _ L4.out) ?_
      rintro e w5 ⟨p5, c5, rfl, ho5, hb5⟩
      have L5 : Hid (LH w w5 (.slice pf l.length cf) (.slice pg m.length cg) l m) := L4.out.below hb5
      have O5 : Hid (CS w5 (.slice p5 (wrapL n l).length c5) (wrapL n l)) := ho5.cs
      clear ho5 hb5 L4 IFF CF CG
      go_wp2_with fail
      refine (IWF.out _ _ _ L5.out O5.out).mono ?_
      rintro e w6 ⟨rfl, hb6⟩
      have L6 : Hid (LH w w6 (.slice pf l.length cf) (.slice pg m.length cg) l m) := L5.out.below hb6
      have O6 : Hid (CS w6 (.slice p5 (wrapL n l).length c5) (wrapL n l)) := O5.out.below hb6
      clear hb6 L5 O5 WR IWF
      go_wp2_with fail
      refine (IWG.out _ _ _ L6.out O6.out).mono ?_
      rintro e w7 ⟨rfl, hb7⟩
      have L7 : Hid (LH w w7 (.slice pf l.length cf) (.slice pg m.length cg) l m) := L6.out.below hb7
      have O7 : Hid (CS w7 (.slice p5 (wrapL n l).length c5) (wrapL n l)) := O6.out.below hb7
      clear hb7 L6 O6 IWG
      go_wp2_with fail
      cases hfg : isB l m with
      | true =>
        rw [hfg] at IFG
        simp only [Bool.true_or]
        refine (IFG.out _ L7.out).mono ?_
        rintro e w9 ⟨rfl, hb9⟩
        have L9 : Hid (LH w w9 (.slice pf l.length cf) (.slice pg m.length cg) l m) := L7.out.below hb9
        clear hb9 L7 O7 IFG hfg
        go_wp2_with fail
        refine (JN.out _ L9.out).mono ?_
        rintro e wa ⟨pa, ca, rfl, hja, hla⟩
        have JA : Hid (CS wa (.slice pa (joinL [l, m]).length ca) (joinL [l, m])) := hja
        have LA : Hid (LH w wa (.slice pf l.length cf) (.slice pg m.length cg) l m) := hla
        clear hja hla L9
        by_cases hlong : 1024 ≤ l.length + m.length
        · have hJ := JLG.out hlong
          rw [hJ] at JA ⊢
          have hli : ((l.length : Int) + (m.length : Int)) ≥ 1024 := by omega
          clear hJ JLG JFX
          go_wp2_with fail
          refine (sameFail_same _ _ _ [⟨11, 0, ByteArray.empty⟩] (JA.out.below ((Below.refl _ _).alloc (Nat.le_refl _) _)) (one_cs wa ⟨11, 0, ByteArray.empty⟩) (by simp)).mono ?_
          rintro e wb ⟨rfl, nb, hwb⟩
          have BB : Hid (Below w.heap.size w wb) := LA.out.bl.trans ((hwb ▸ below_drewN' ((Below.refl _ _).alloc (Nat.le_refl _) _) nb : Below wa.heap.size wa wb).mono LA.out.bl.size)
          clear hwb
          go_wp2_with fail
          go_ret
          exact ⟨rfl, BB.out⟩
        · obtain ⟨j1, j2, j3, j4, j5, j6⟩ := JFX.out (by omega)
          have hli : ¬ ((l.length : Int) + (m.length : Int)) ≥ 1024 := by omega
          have HJ1 : Hid (chk (joinL [l, m]) = 0) := j1
          have HJ5 : Hid (∀ x, chk x = 0 → isV l x = true → isB (joinL [l, m]) x = true) := j5
          have IJF : Hid (∀ w', LH w w' (.slice pf l.length cf) (.slice pg m.length cg) l m → CS w' (.slice pa (joinL [l, m]).length ca) (joinL [l, m]) → Calls Tryd.prog 32 #[.slice pa (joinL [l, m]).length ca, .slice pf l.length cf] w' fun e w'' => e = .returned (.bool true) ∧ Below w'.heap.size w' w'') := fun w' L J => by
            have := ISX.out w' _ _ _ l L.fv J L.f HJ1.out HCL.out
            rw [j2] at this; exact this
          have IJG : Hid (∀ w', LH w w' (.slice pf l.length cf) (.slice pg m.length cg) l m → CS w' (.slice pa (joinL [l, m]).length ca) (joinL [l, m]) → Calls Tryd.prog 32 #[.slice pa (joinL [l, m]).length ca, .slice pg m.length cg] w' fun e w'' => e = .returned (.bool true) ∧ Below w'.heap.size w' w'') := fun w' L J => by
            have := ISX.out w' _ _ _ m L.fv J L.g HJ1.out HCM.out
            rw [j3] at this; exact this
          have IFJ : Hid (∀ w', LH w w' (.slice pf l.length cf) (.slice pg m.length cg) l m → CS w' (.slice pa (joinL [l, m]).length ca) (joinL [l, m]) → Calls Tryd.prog 32 #[.slice pf l.length cf, .slice pa (joinL [l, m]).length ca] w' fun e w'' => e = .returned (.bool false) ∧ Below w'.heap.size w' w'') := fun w' L J => by
            have := ISX.out w' _ _ l _ L.fv L.f J HCL.out HJ1.out
            rw [j4] at this; exact this
          clear j1 j2 j3 j4 j5 j6 JFX JLG
          go_wp2_with fail
          refine (IJF.out _ LA.out JA.out).mono ?_
          rintro e wb ⟨rfl, hbb⟩
          have LB' : Hid (LH w wb (.slice pf l.length cf) (.slice pg m.length cg) l m) := LA.out.below hbb
          have JB : Hid (CS wb (.slice pa (joinL [l, m]).length ca) (joinL [l, m])) := JA.out.below hbb
          clear hbb LA JA
          go_wp2_with fail
          refine (IJG.out _ LB'.out JB.out).mono ?_
          rintro e wc ⟨rfl, hbc⟩
          have LC : Hid (LH w wc (.slice pf l.length cf) (.slice pg m.length cg) l m) := LB'.out.below hbc
          have JC : Hid (CS wc (.slice pa (joinL [l, m]).length ca) (joinL [l, m])) := JB.out.below hbc
          clear hbc LB' JB
          go_wp2_with fail
          refine (IFJ.out _ LC.out JC.out).mono ?_
          rintro e wd ⟨rfl, hbd⟩
          have LD : Hid (LH w wd (.slice pf l.length cf) (.slice pg m.length cg) l m) := LC.out.below hbd
          have JD : Hid (CS wd (.slice pa (joinL [l, m]).length ca) (joinL [l, m])) := JC.out.below hbd
          clear hbd LC JC IJF IJG IFJ
          go_wp2_with fail
          refine Calls.mono (FI.out _ LD.out) ?_
          rintro e we ⟨pe, cpe, rfl, hoe, hbe⟩
          have LE : Hid (LH w we (.slice pf l.length cf) (.slice pg m.length cg) l m) := LD.out.below hbe
          have JE : Hid (CS we (.slice pa (joinL [l, m]).length ca) (joinL [l, m])) := JD.out.below hbe
          have XE : Hid (CS we (.slice pe (firL l 9).length cpe) (firL l 9)) := hoe.cs
          clear hbe hoe LD JD
          by_cases hfe : firE l 9 = 0
          · obtain ⟨x1, x2, x3⟩ := FF.out hfe
            have IFX : Hid (∀ w', LH w w' (.slice pf l.length cf) (.slice pg m.length cg) l m → CS w' (.slice pe (firL l 9).length cpe) (firL l 9) → Calls Tryd.prog 32 #[.slice pf l.length cf, .slice pe (firL l 9).length cpe] w' fun e w'' => e = .returned (.bool true) ∧ Below w'.heap.size w' w'') := fun w' L X => by
              have := ISX.out w' _ _ l _ L.fv L.f X HCL.out x2
              rw [IOK.out _ x2, x1] at this; exact this
            have IJX : Hid (∀ w', LH w w' (.slice pf l.length cf) (.slice pg m.length cg) l m → CS w' (.slice pa (joinL [l, m]).length ca) (joinL [l, m]) → CS w' (.slice pe (firL l 9).length cpe) (firL l 9) → Calls Tryd.prog 32 #[.slice pa (joinL [l, m]).length ca, .slice pe (firL l 9).length cpe] w' fun e w'' => e = .returned (.bool true) ∧ Below w'.heap.size w' w'') := fun w' L J X => by
              have := ISX.out w' _ _ _ _ L.fv J X HJ1.out x2
              rw [HJ5.out _ x2 x1] at this; exact this
            rw [hfe]
            clear x1 x2 x3 FF hfe
            go_wp2_with fail
            refine (IFX.out _ LE.out XE.out).mono ?_
            rintro e wf ⟨rfl, hbf⟩
            have LF : Hid (LH w wf (.slice pf l.length cf) (.slice pg m.length cg) l m) := LE.out.below hbf
            have JF : Hid (CS wf (.slice pa (joinL [l, m]).length ca) (joinL [l, m])) := JE.out.below hbf
            have XF : Hid (CS wf (.slice pe (firL l 9).length cpe) (firL l 9)) := XE.out.below hbf
            clear hbf LE JE XE
            go_wp2_with fail
            refine (IJX.out _ LF.out JF.out XF.out).mono ?_
            rintro e wg ⟨rfl, hbg⟩
            have BG : Hid (Below w.heap.size w wg) := LF.out.bl.trans (hbg.mono LF.out.bl.size)
            clear hbg
            go_wp2_with fail
            go_ret
            exact ⟨rfl, BG.out⟩
          · have z1 : (firE l 9 == 0) = false := by simpa using hfe
            have z2 : (firE l 9 != 0) = true := by simpa using hfe
            generalize firE l 9 = fx at *
            clear FF
            go_wp2_with fail
            go_ret
            exact ⟨rfl, LE.out.bl⟩
      | false =>
        rw [hfg] at IFG
        simp only [Bool.false_or]
        refine (IFG.out _ L7.out).mono ?_
        rintro e w8 ⟨rfl, hb8⟩
        have L8 : Hid (LH w w8 (.slice pf l.length cf) (.slice pg m.length cg) l m) := L7.out.below hb8
        have O8 : Hid (CS w8 (.slice p5 (wrapL n l).length c5) (wrapL n l)) := O7.out.below hb8
        clear hb8 L7 O7 IFG hfg
        go_wp2_with fail
        refine (sameFail_any w8 _ _ (wrapL n l) m O8.out L8.out.g HW4.out).mono ?_
        rintro e w9 ⟨rfl, n9, hw9⟩
        have L9 : Hid (LH w w9 (.slice pf l.length cf) (.slice pg m.length cg) l m) := L8.out.below (hw9 ▸ below_drewN' (Below.refl _ _) n9)
        clear hw9 L8 O8
        go_wp2_with fail
        refine (JN.out _ L9.out).mono ?_
        rintro e wa ⟨pa, ca, rfl, hja, hla⟩
        have JA : Hid (CS wa (.slice pa (joinL [l, m]).length ca) (joinL [l, m])) := hja
        have LA : Hid (LH w wa (.slice pf l.length cf) (.slice pg m.length cg) l m) := hla
        clear hja hla L9
        by_cases hlong : 1024 ≤ l.length + m.length
        · have hJ := JLG.out hlong
          rw [hJ] at JA ⊢
          have hli : ((l.length : Int) + (m.length : Int)) ≥ 1024 := by omega
          clear hJ JLG JFX
          go_wp2_with fail
          refine (sameFail_same _ _ _ [⟨11, 0, ByteArray.empty⟩] (JA.out.below ((Below.refl _ _).alloc (Nat.le_refl _) _)) (one_cs wa ⟨11, 0, ByteArray.empty⟩) (by simp)).mono ?_
          rintro e wb ⟨rfl, nb, hwb⟩
          have BB : Hid (Below w.heap.size w wb) := LA.out.bl.trans ((hwb ▸ below_drewN' ((Below.refl _ _).alloc (Nat.le_refl _) _) nb : Below wa.heap.size wa wb).mono LA.out.bl.size)
          clear hwb
          go_wp2_with fail
          go_ret
          exact ⟨rfl, BB.out⟩
        · obtain ⟨j1, j2, j3, j4, j5, j6⟩ := JFX.out (by omega)
          have hli : ¬ ((l.length : Int) + (m.length : Int)) ≥ 1024 := by omega
          have HJ1 : Hid (chk (joinL [l, m]) = 0) := j1
          have HJ5 : Hid (∀ x, chk x = 0 → isV l x = true → isB (joinL [l, m]) x = true) := j5
          have IJF : Hid (∀ w', LH w w' (.slice pf l.length cf) (.slice pg m.length cg) l m → CS w' (.slice pa (joinL [l, m]).length ca) (joinL [l, m]) → Calls Tryd.prog 32 #[.slice pa (joinL [l, m]).length ca, .slice pf l.length cf] w' fun e w'' => e = .returned (.bool true) ∧ Below w'.heap.size w' w'') := fun w' L J => by
            have := ISX.out w' _ _ _ l L.fv J L.f HJ1.out HCL.out
            rw [j2] at this; exact this
          have IJG : Hid (∀ w', LH w w' (.slice pf l.length cf) (.slice pg m.length cg) l m → CS w' (.slice pa (joinL [l, m]).length ca) (joinL [l, m]) → Calls Tryd.prog 32 #[.slice pa (joinL [l, m]).length ca, .slice pg m.length cg] w' fun e w'' => e = .returned (.bool true) ∧ Below w'.heap.size w' w'') := fun w' L J => by
            have := ISX.out w' _ _ _ m L.fv J L.g HJ1.out HCM.out
            rw [j3] at this; exact this
          have IFJ : Hid (∀ w', LH w w' (.slice pf l.length cf) (.slice pg m.length cg) l m → CS w' (.slice pa (joinL [l, m]).length ca) (joinL [l, m]) → Calls Tryd.prog 32 #[.slice pf l.length cf, .slice pa (joinL [l, m]).length ca] w' fun e w'' => e = .returned (.bool false) ∧ Below w'.heap.size w' w'') := fun w' L J => by
            have := ISX.out w' _ _ l _ L.fv L.f J HCL.out HJ1.out
            rw [j4] at this; exact this
          clear j1 j2 j3 j4 j5 j6 JFX JLG
          go_wp2_with fail
          refine (IJF.out _ LA.out JA.out).mono ?_
          rintro e wb ⟨rfl, hbb⟩
          have LB' : Hid (LH w wb (.slice pf l.length cf) (.slice pg m.length cg) l m) := LA.out.below hbb
          have JB : Hid (CS wb (.slice pa (joinL [l, m]).length ca) (joinL [l, m])) := JA.out.below hbb
          clear hbb LA JA
          go_wp2_with fail
          refine (IJG.out _ LB'.out JB.out).mono ?_
          rintro e wc ⟨rfl, hbc⟩
          have LC : Hid (LH w wc (.slice pf l.length cf) (.slice pg m.length cg) l m) := LB'.out.below hbc
          have JC : Hid (CS wc (.slice pa (joinL [l, m]).length ca) (joinL [l, m])) := JB.out.below hbc
          clear hbc LB' JB
          go_wp2_with fail
          refine (IFJ.out _ LC.out JC.out).mono ?_
          rintro e wd ⟨rfl, hbd⟩
          have LD : Hid (LH w wd (.slice pf l.length cf) (.slice pg m.length cg) l m) := LC.out.below hbd
          have JD : Hid (CS wd (.slice pa (joinL [l, m]).length ca) (joinL [l, m])) := JC.out.below hbd
          clear hbd LC JC IJF IJG IFJ
          go_wp2_with fail
          refine Calls.mono (FI.out _ LD.out) ?_
          rintro e we ⟨pe, cpe, rfl, hoe, hbe⟩
          have LE : Hid (LH w we (.slice pf l.length cf) (.slice pg m.length cg) l m) := LD.out.below hbe
          have JE : Hid (CS we (.slice pa (joinL [l, m]).length ca) (joinL [l, m])) := JD.out.below hbe
          have XE : Hid (CS we (.slice pe (firL l 9).length cpe) (firL l 9)) := hoe.cs
          clear hbe hoe LD JD
          by_cases hfe : firE l 9 = 0
          · obtain ⟨x1, x2, x3⟩ := FF.out hfe
            have IFX : Hid (∀ w', LH w w' (.slice pf l.length cf) (.slice pg m.length cg) l m → CS w' (.slice pe (firL l 9).length cpe) (firL l 9) → Calls Tryd.prog 32 #[.slice pf l.length cf, .slice pe (firL l 9).length cpe] w' fun e w'' => e = .returned (.bool true) ∧ Below w'.heap.size w' w'') := fun w' L X => by
              have := ISX.out w' _ _ l _ L.fv L.f X HCL.out x2
              rw [IOK.out _ x2, x1] at this; exact this
            have IJX : Hid (∀ w', LH w w' (.slice pf l.length cf) (.slice pg m.length cg) l m → CS w' (.slice pa (joinL [l, m]).length ca) (joinL [l, m]) → CS w' (.slice pe (firL l 9).length cpe) (firL l 9) → Calls Tryd.prog 32 #[.slice pa (joinL [l, m]).length ca, .slice pe (firL l 9).length cpe] w' fun e w'' => e = .returned (.bool true) ∧ Below w'.heap.size w' w'') := fun w' L J X => by
              have := ISX.out w' _ _ _ _ L.fv J X HJ1.out x2
              rw [HJ5.out _ x2 x1] at this; exact this
            rw [hfe]
            clear x1 x2 x3 FF hfe
            go_wp2_with fail
            refine (IFX.out _ LE.out XE.out).mono ?_
            rintro e wf ⟨rfl, hbf⟩
            have LF : Hid (LH w wf (.slice pf l.length cf) (.slice pg m.length cg) l m) := LE.out.below hbf
            have JF : Hid (CS wf (.slice pa (joinL [l, m]).length ca) (joinL [l, m])) := JE.out.below hbf
            have XF : Hid (CS wf (.slice pe (firL l 9).length cpe) (firL l 9)) := XE.out.below hbf
            clear hbf LE JE XE
            go_wp2_with fail
            refine (IJX.out _ LF.out JF.out XF.out).mono ?_
            rintro e wg ⟨rfl, hbg⟩
            have BG : Hid (Below w.heap.size w wg) := LF.out.bl.trans (hbg.mono LF.out.bl.size)
            clear hbg
            go_wp2_with fail
            go_ret
            exact ⟨rfl, BG.out⟩
          · have z1 : (firE l 9 == 0) = false := by simpa using hfe
            have z2 : (firE l 9 != 0) = true := by simpa using hfe
            generalize firE l 9 = fx at *
            clear FF
            go_wp2_with fail
            go_ret
            exact ⟨rfl, LE.out.bl⟩
    · have hlfi : ¬ (l.length : Int) < 1024 := by omega
      clear hw WN WY WF IFG hnm
      go_enter Tryd.func7, Tryd.ntmps7
      go_wp2_with fail
      refine WK.mono ?_
      rintro e w1 ⟨rfl, hb1⟩
      have L1 : Hid (LH w w1 (.slice pf l.length cf) (.slice pg m.length cg) l m) := L0.out.below hb1
      clear hb1 WK
      go_wp2_with fail
      refine (CF.out _ L1.out).mono ?_
      rintro e w2 ⟨rfl, hb2⟩
      have L2 : Hid (LH w w2 (.slice pf l.length cf) (.slice pg m.length cg) l m) := L1.out.below hb2
      clear hb2
      go_wp2_with fail
      refine (CG.out _ L2.out).mono ?_
      rintro e w3 ⟨rfl, hb3⟩
      have L3 : Hid (LH w w3 (.slice pf l.length cf) (.slice pg m.length cg) l m) := L2.out.below hb3
      clear hb3
      go_wp2_with fail
      refine (IFF.out _ L3.out).mono ?_
      rintro e w4 ⟨rfl, hb4⟩
      have L4 : Hid (LH w w4 (.slice pf l.length cf) (.slice pg m.length cg) l m) := L3.out.below hb4
      clear hb4 L1 L2 L3 L0
      go_wp2_with fail
      refine Calls.mono (WR.out _ L4.out) ?_
      rintro e w5 ⟨p5, c5, rfl, ho5, hb5⟩
      have L5 : Hid (LH w w5 (.slice pf l.length cf) (.slice pg m.length cg) l m) := L4.out.below hb5
      have O5 : Hid (CS w5 (.slice p5 (wrapL n l).length c5) (wrapL n l)) := ho5.cs
      clear ho5 hb5 L4 IFF CF CG
      obtain ⟨w9, hw9⟩ : ∃ w9, w9 = w5 := ⟨_, rfl⟩
      rw [← hw9] at L5 ⊢
      have L9 : Hid (LH w w9 (.slice pf l.length cf) (.slice pg m.length cg) l m) := L5
      clear hw9 L5 O5 WR
      go_wp2_with fail
      refine (JN.out _ L9.out).mono ?_
      rintro e wa ⟨pa, ca, rfl, hja, hla⟩
      have JA : Hid (CS wa (.slice pa (joinL [l, m]).length ca) (joinL [l, m])) := hja
      have LA : Hid (LH w wa (.slice pf l.length cf) (.slice pg m.length cg) l m) := hla
      clear hja hla L9
      have hlong : 1024 ≤ l.length + m.length := by omega
      have hJ := JLG.out hlong
      rw [hJ] at JA ⊢
      have hli : ((l.length : Int) + (m.length : Int)) ≥ 1024 := by omega
      clear hJ JLG JFX
      go_wp2_with fail
      refine (sameFail_same _ _ _ [⟨11, 0, ByteArray.empty⟩] (JA.out.below ((Below.refl _ _).alloc (Nat.le_refl _) _)) (one_cs wa ⟨11, 0, ByteArray.empty⟩) (by simp)).mono ?_
      rintro e wb ⟨rfl, nb, hwb⟩
      have BB : Hid (Below w.heap.size w wb) := LA.out.bl.trans ((hwb ▸ below_drewN' ((Below.refl _ _).alloc (Nat.le_refl _) _) nb : Below wa.heap.size wa wb).mono LA.out.bl.size)
      clear hwb
      go_wp2_with fail
      go_ret
      exact ⟨rfl, BB.out⟩
end Go.Proofs.YtaleagkhblokgaaDoor
