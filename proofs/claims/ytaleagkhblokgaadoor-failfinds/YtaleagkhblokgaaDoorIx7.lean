/- The walk of the law FailFinds. -/
import Derived.Test.YtaleagkhblokgaaDoorIx6
namespace Go.Proofs.YtaleagkhblokgaaDoor
open Go.RowKit

/-- What the law looks at: two failures, and a copy of each. -/
structure LQ (w wk : World) (f own g oth : Value) (l m : List Cr) : Prop where
  bl : Below w.heap.size w wk
  fv : FV wk
  f : CS wk f l
  own : CS wk own l
  g : CS wk g m
  oth : CS wk oth m
theorem LQ.below {w wk w' : World} {f own g oth : Value} {l m : List Cr} (h : LQ w wk f own g oth l m) (b : Below wk.heap.size wk w') : LQ w w' f own g oth l m :=
  ⟨h.bl.trans (b.mono h.bl.size), h.fv.below b, h.f.below b, h.own.below b, h.g.below b, h.oth.below b⟩
theorem firL_len (l : List Cr) (k : Int) : (firL l k).length ≤ l.length := by
  unfold firL
  split
  · by_cases h : (firS l k l.length).toNat < l.length
    · exact subL_len h
    · have := firS_lt l k l.length
      have e : l.length = 0 := by omega
      have : l = [] := List.length_eq_zero_iff.1 e
      subst this
      simp [subL]
  · simp
set_option maxHeartbeats 8000000 in
set_option maxRecDepth 100000 in
theorem failFinds_any (v u : Value) (l m : List Cr) (k : Int) (w : World) (h : CS w v l) (h' : CS w u m) (ht : ∀ c ∈ l, c.text.size ≤ maxLen) (ht' : ∀ c ∈ m, c.text.size ≤ maxLen) (hl : l.length * 32 ≤ 140737488355328) (hm : m.length * 32 ≤ 140737488355328) (hv : FV w) :
    Calls Tryd.prog 4 #[v, u, .int .i64 k] w fun e w' => e = .returned (.bool true) ∧ Below w.heap.size w w' := by
  have hlm : l.length ≤ 1000000000000000 := by omega
  have hmm : m.length ≤ 1000000000000000 := by omega
  have CP := copyFail_any v l w h hl
  have CO : Hid (∀ w', Below w.heap.size w w' → _) := fun w' b => copyFail_any u m w' (h'.below b) hm
  have HV : Hid (FV w) := hv
  have HF : Hid (CS w v l) := h
  have HG : Hid (CS w u m) := h'
  have A1 : Hid (∀ w' v' u', CS w' v' l → CS w' u' m → FV w' → Calls Tryd.prog 20 #[v', u'] w' fun e w'' => AnsB w' w'' e (isB l m) (isE l m)) := fun w' v' u' c1 c2 fv => is_any v' u' l m w' c1 c2 ht ht' hlm hmm fv
  have A2 : Hid (∀ w' v' u', CS w' v' l → CS w' u' m → Calls Tryd.prog 21 #[v', u'] w' fun e w'' => AnsB w' w'' e (isB l m) (isE l m)) := fun w' v' u' c1 c2 => ris_any v' u' l m w' c1 c2 ht ht' hlm hmm
  have A3 : Hid (∀ w' v', CS w' v' l → FV w' → Calls Tryd.prog 22 #[v', .int .i64 k] w' fun e w'' => AnsB w' w'' e (hasB l k) (hasE l k)) := fun w' v' cs fv => has_any v' l k w' cs ht hlm fv
  have A4 : Hid (∀ w' v', CS w' v' l → Calls Tryd.prog 23 #[v', .int .i64 k] w' fun e w'' => AnsB w' w'' e (hasB l k) (hasE l k)) := fun w' v' cs => rhas_any v' l k w' cs ht hlm
  have A5 : Hid (∀ w' v', CS w' v' l → FV w' → Calls Tryd.prog 24 #[v', .int .i64 k] w' fun e w'' => Ans w' w'' e (firL l k) (firE l k)) := fun w' v' cs fv => first_any v' l k w' cs ht hlm fv
  have A6 : Hid (∀ w' v', CS w' v' l → Calls Tryd.prog 25 #[v', .int .i64 k] w' fun e w'' => AnsQ w' w'' e (firL l k) (firE l k)) := fun w' v' cs => rfirst_any v' l k w' cs ht hlm
  have HLx : Hid (l.length ≤ 100000000000000000) := by show l.length ≤ 100000000000000000; omega
  have HMx : Hid (m.length ≤ 100000000000000000) := by show m.length ≤ 100000000000000000; omega
  have HLf : Hid ((firL l k).length ≤ 100000000000000000) := by show _ ≤ _; have := firL_len l k; omega
  generalize isB l m = b1 at *
  generalize isE l m = e1 at *
  generalize hasB l k = b2 at *
  generalize hasE l k = e2 at *
  generalize firL l k = L at *
  generalize firE l k = e3 at *
  obtain ⟨pf, cf, rfl⟩ := h.form
  obtain ⟨pg, cg, rfl⟩ := h'.form
  clear h h' ht ht' hv hl hm hlm hmm
  go_enter Tryd.func4, Tryd.ntmps4
  go_wp2_with fail
  refine CP.mono ?_
  rintro e w1 ⟨p1, c1, rfl, ho1, hb1⟩
  have B1 : Hid (Below w.heap.size w w1) := hb1
  have O1 : Hid (CS w1 (.slice p1 l.length c1) l) := ho1.cs
  clear ho1 hb1 CP
  go_wp2_with fail
  refine (CO.out _ B1.out).mono ?_
  rintro e w2 ⟨p2, c2, rfl, ho2, hb2⟩
  have L2 : Hid (LQ w w2 (.slice pf l.length cf) (.slice p1 l.length c1) (.slice pg m.length cg) (.slice p2 m.length c2) l m) := ⟨B1.out.trans (hb2.mono B1.out.size), (HV.out.below B1.out).below hb2, (HF.out.below B1.out).below hb2, O1.out.below hb2, (HG.out.below B1.out).below hb2, ho2.cs⟩
  clear ho2 hb2 CO B1 O1 HV HF HG
  go_wp2_with fail
  refine (A1.out _ _ _ L2.out.own L2.out.oth L2.out.fv).mono ?_
  rintro e w3 ⟨rfl, hb3⟩
  have L3 : Hid (LQ w w3 (.slice pf l.length cf) (.slice p1 l.length c1) (.slice pg m.length cg) (.slice p2 m.length c2) l m) := L2.out.below hb3
  clear hb3 L2
  go_wp2_with fail
  refine (A2.out _ _ _ L3.out.f L3.out.g).mono ?_
  rintro e w4 ⟨rfl, hb4⟩
  have L4 : Hid (LQ w w4 (.slice pf l.length cf) (.slice p1 l.length c1) (.slice pg m.length cg) (.slice p2 m.length c2) l m) := L3.out.below hb4
  clear hb4 L3
  go_wp2_with fail
  refine (A3.out _ _ L4.out.own L4.out.fv).mono ?_
  rintro e w5 ⟨rfl, hb5⟩
  have L5 : Hid (LQ w w5 (.slice pf l.length cf) (.slice p1 l.length c1) (.slice pg m.length cg) (.slice p2 m.length c2) l m) := L4.out.below hb5
  clear hb5 L4
  go_wp2_with fail
  refine (A4.out _ _ L5.out.f).mono ?_
  rintro e w6 ⟨rfl, hb6⟩
  have L6 : Hid (LQ w w6 (.slice pf l.length cf) (.slice p1 l.length c1) (.slice pg m.length cg) (.slice p2 m.length c2) l m) := L5.out.below hb6
  clear hb6 L5
  go_wp2_with fail
  refine (A5.out _ _ L6.out.own L6.out.fv).mono ?_
  rintro e w7 ⟨p7, c7, rfl, ho7, hb7⟩
  have L7 : Hid (LQ w w7 (.slice pf l.length cf) (.slice p1 l.length c1) (.slice pg m.length cg) (.slice p2 m.length c2) l m) := L6.out.below hb7
  have B7 : Hid (Below w6.heap.size w6 w7) := hb7
  have O7 : Hid (OwnC w7 w6.heap.size (.slice p7 L.length c7) L) := ho7
  clear hb7 ho7
  go_wp2_with fail
  refine (A6.out _ _ L7.out.f).mono ?_
  rintro e w8 ⟨p8, c8, rfl, hi8, hb8⟩
  have B8 : Hid (Below w6.heap.size w6 w8) := B7.out.trans (hb8.mono B7.out.size)
  have O8 : Hid (OwnC w8 w6.heap.size (.slice p7 L.length c7) L) := O7.out.below hb8
  have I8 : Hid (CS w8 (.slice p8 L.length c8) L) := hi8
  clear hb8 hi8 L7 B7 O7 A1 A2 A3 A4 A5 A6
  go_wp2_with fail
  refine (sameFail_same w8 _ _ L O8.out.cs I8.out HLf.out).mono ?_
  rintro e w9 ⟨rfl, n9, hw9⟩
  have B9 : Hid (Below w6.heap.size w6 w9) := B8.out.trans (hw9 ▸ below_drewN' (Below.refl _ _) n9)
  have O9 : Hid (OwnC w9 w6.heap.size (.slice p7 L.length c7) L) := hw9 ▸ O8.out.below (below_drewN' (Below.refl _ _) n9)
  clear hw9 B8 O8 I8
  go_wp2_with fail
  refine (spoil_own w9 _ _ L O9.out).mono ?_
  rintro e wa ⟨rfl, kb⟩
  have BA : Hid (Below w6.heap.size w6 wa) := B9.out.trans (kb.below (fun x hx => (World.ownsRow.lt O9.out x hx).1))
  have LA : Hid (LQ w wa (.slice pf l.length cf) (.slice p1 l.length c1) (.slice pg m.length cg) (.slice p2 m.length c2) l m) := L6.out.below BA.out
  clear kb BA B9 O9 L6
  go_wp2_with fail
  refine (sameFail_same wa _ _ l LA.out.own LA.out.f HLx.out).mono ?_
  rintro e wb ⟨rfl, nb, hwb⟩
  have LB : Hid (LQ w wb (.slice pf l.length cf) (.slice p1 l.length c1) (.slice pg m.length cg) (.slice p2 m.length c2) l m) := LA.out.below (hwb ▸ below_drewN' (Below.refl _ _) nb)
  clear hwb LA
  go_wp2_with fail
  refine (sameFail_same wb _ _ m LB.out.oth LB.out.g HMx.out).mono ?_
  rintro e wc ⟨rfl, nc, hwc⟩
  have BC : Hid (Below w.heap.size w wc) := LB.out.bl.trans (hwc ▸ below_drewN' (Below.refl _ _) nc)
  clear hwc LB
  go_wp2_with fail
  go_ret
  exact ⟨rfl, BC.out⟩
end Go.Proofs.YtaleagkhblokgaaDoor
