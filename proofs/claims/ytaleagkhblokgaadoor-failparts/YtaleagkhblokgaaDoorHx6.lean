/- The walk of the law FailParts. -/
import Derived.Test.YtaleagkhblokgaaDoorHx5
namespace Go.Proofs.YtaleagkhblokgaaDoor
open Go.RowKit

theorem OwnS.at {w : World} {base n cap : Nat} {p : Option Addr} {us : List Value} (h : OwnS w base (.slice p n cap) us) {i : Nat} (hi : i < us.length) : ∃ X, p = some ⟨X, 0, none⟩ ∧ X < w.heap.size ∧ w.cell? ⟨X, i, none⟩ = some us[i] := by
  have h0 := h
  rcases h.2 with ⟨e, e2⟩ | ⟨g, c, cur, e, _, _, hcp, _⟩
  · omega
  · injection e with e1 e2 e3
    subst e1
    refine ⟨g, rfl, (World.ownsRow.lt h0 g rfl).2, ?_⟩
    subst e2 e3
    exact (World.ownsRow.cellAt h0 i (by omega)).trans (List.getElem?_eq_getElem hi)
/-- Two rows of leaves, the first k of the first row spoilt. -/
structure SP (b1 b2 : Nat) (wk : World) (vl vm : Value) (us us2 : List Value) (cs : List Cr) (k : Nat) : Prop where
  s1 : OwnS wk b1 vl us
  l1 : us.length = cs.length
  e1 : ∀ i (h1 : i < us.length) (h2 : i < cs.length), k ≤ i → OwnC wk b1 us[i] [cs[i]]
  n1 : ∀ i (h1 : i < us.length), ∃ g, us[i].ownBlock = some g ∧ vl.ownBlock ≠ some g ∧ b1 ≤ g ∧ g < b2
  d1 : ∀ j k (h1 : j < us.length) (h2 : k < us.length), j ≠ k → us[j].ownBlock ≠ us[k].ownBlock
  s2 : OwnS wk b2 vm us2
  l2 : us2.length = cs.length
  e2 : ∀ i (h1 : i < us2.length) (h2 : i < cs.length), OwnC wk b2 us2[i] [cs[i]]
theorem SP.same {b1 b2 : Nat} {wk w' : World} {vl vm : Value} {us us2 : List Value} {cs : List Cr} {k : Nat} (h : SP b1 b2 wk vl vm us us2 cs k) (e : ∀ j : Nat, w'.heap[j]? = wk.heap[j]?) : SP b1 b2 w' vl vm us us2 cs k :=
  ⟨h.s1.far (fun g _ => e g), h.l1, fun i h1 h2 hk => (h.e1 i h1 h2 hk).far (fun g _ => e g), h.n1, h.d1, h.s2.far (fun g _ => e g), h.l2, fun i h1 h2 => (h.e2 i h1 h2).far (fun g _ => e g)⟩
theorem SP.spoil {b1 b2 : Nat} {wk w' : World} {vl vm : Value} {us us2 : List Value} {cs : List Cr} {k : Nat} (h : SP b1 b2 wk vl vm us us2 cs k) (hk : k < us.length) (kb : KB us[k].ownBlock wk w') : SP b1 b2 w' vl vm us us2 cs (k + 1) := by
  obtain ⟨g, hg, hv, hb1, hb2⟩ := h.n1 k hk
  rw [hg] at kb
  refine ⟨h.s1.far (fun x hx => kb.block x (fun e => ?_)), h.l1, fun i h1 h2 hi => (h.e1 i h1 h2 (by omega)).far (fun x hx => kb.block x (fun e => ?_)), h.n1, h.d1, h.s2.far (fun x hx => kb.block x (fun e => ?_)), h.l2, fun i h1 h2 => (h.e2 i h1 h2).far (fun x hx => kb.block x (fun e => ?_))⟩
  · rw [e] at hx; exact hv hx
  · rw [e] at hx; exact h.d1 i k h1 hk (by omega) (hx.trans hg.symm)
  · injection e with e
    have := World.ownsRow.lt h.s2 x hx; omega
  · injection e with e
    have := World.ownsRow.lt (h.e2 i h1 h2) x hx; omega
theorem SP.begin {b1 b2 : Nat} {w1 w2 : World} {vl vm : Value} {us us2 : List Value} {cs : List Cr} (h1 : LV b1 w1 vl us cs) (hb : w1.heap.size = b2) (b : Below b2 w1 w2) (h2 : LV b2 w2 vm us2 cs) : SP b1 b2 w2 vl vm us us2 cs 0 := by
  have h1' := h1.below (w' := w2) (by rw [hb]; exact b)
  refine ⟨h1'.s, h1.ln, fun i a c _ => (h1'.el i a c).1, fun i a => ?_, h1.ds, h2.s, h2.ln, fun i a c => (h2.el i a c).1⟩
  obtain ⟨o, g, hg, hv⟩ := h1.el i a (by have := h1.ln; omega)
  have := World.ownsRow.lt o g hg
  exact ⟨g, hg, hv, this.1, by omega⟩
/-- What the law looks at. -/
structure LP (w wk : World) (f own : Value) (l : List Cr) : Prop where
  bl : Below w.heap.size w wk
  fv : FV wk
  f : CS wk f l
  own : CS wk own l
theorem LP.below {w wk w' : World} {f own : Value} {l : List Cr} (h : LP w wk f own l) (b : Below wk.heap.size wk w') : LP w w' f own l :=
  ⟨h.bl.trans (b.mono h.bl.size), h.fv.below b, h.f.below b, h.own.below b⟩
theorem partL_len (l : List Cr) (k : Int) : (partL l k).length ≤ 100000000000000000 := by
  unfold partL
  split
  · rename_i h
    obtain ⟨hc, h1, h2⟩ := part_ok h
    have := (whA_PB l k.toNat (by rw [whA_len]; omega)).1
    have := (chk_ok hc).1
    omega
  · simp
theorem leavL_len (l : List Cr) : (leavL l).length ≤ 100000 := by
  unfold leavL
  split
  · rename_i h
    have := lvK_le l l.length
    have := (chk_ok h).1
    omega
  · simp
theorem pathL_len (l : List Cr) : (pathL l).length ≤ 100000000000000000 := by
  unfold pathL
  split
  · rename_i h
    have := pthL_len l l.length
    have := (chk_ok h).1
    omega
  · simp
set_option maxHeartbeats 4000000 in
set_option maxRecDepth 100000 in
theorem failParts_any (v : Value) (l : List Cr) (k : Int) (w : World) (h : CS w v l) (ht : ∀ c ∈ l, c.text.size ≤ maxLen) (hl : l.length * 32 ≤ 140737488355328) (hv : FV w) :
    Calls Tryd.prog 3 #[v, .int .i64 k] w fun e w' => e = .returned (.bool true) ∧ Below w.heap.size w w' := by
  have hlm : l.length ≤ 1000000000000000 := by omega
  have CP := copyFail_any v l w h hl
  have HV : Hid (FV w) := hv
  have HF : Hid (CS w v l) := h
  have PA : Hid (∀ w' v', CS w' v' l → FV w' → Calls Tryd.prog 10 #[v', .int .i64 k] w' fun e w'' => AnsI w' w'' e (partL l k) (partE l k)) := fun w' v' cs fv => parts_any v' l k w' cs ht hlm fv
  have RP : Hid (∀ w' v', CS w' v' l → Calls Tryd.prog 11 #[v', .int .i64 k] w' fun e w'' => AnsI w' w'' e (partL l k) (partE l k)) := fun w' v' cs => rparts_any v' l k w' cs ht hlm
  have LE : Hid (∀ w' v', CS w' v' l → FV w' → Calls Tryd.prog 13 #[v'] w' fun e w'' => AnsL w' w'' e (leavL l) (chk l)) := fun w' v' cs fv => leaves_any v' l w' cs ht hlm fv
  have RL : Hid (∀ w' v', CS w' v' l → Calls Tryd.prog 14 #[v'] w' fun e w'' => AnsL w' w'' e (leavL l) (chk l)) := fun w' v' cs => rleaves_any v' l w' cs ht hlm
  have PT : Hid (∀ w' v', CS w' v' l → FV w' → Calls Tryd.prog 17 #[v'] w' fun e w'' => AnsT w' w'' e (pathL l) (chk l)) := fun w' v' cs fv => path_any v' l w' cs ht hlm fv
  have RT : Hid (∀ w' v', CS w' v' l → Calls Tryd.prog 18 #[v'] w' fun e w'' => AnsT w' w'' e (pathL l) (chk l)) := fun w' v' cs => rpath_any v' l w' cs ht hlm
  have HPL : Hid ((partL l k).length ≤ 100000000000000000) := partL_len l k
  have hLL : (leavL l).length ≤ 100000 := leavL_len l
  have HTL : Hid ((pathL l).length ≤ 100000000000000000) := pathL_len l
  have HLx : Hid (l.length ≤ 100000000000000000) := by show l.length ≤ 100000000000000000; omega
  generalize partL l k = P at *
  generalize partE l k = PE at *
  generalize leavL l = L at *
  generalize pathL l = T at *
  generalize chk l = C at *
  obtain ⟨pf, cf, rfl⟩ := h.form
  clear h ht hv hl hlm
  go_enter Tryd.func3, Tryd.ntmps3
  go_wp2_with fail
  refine CP.mono ?_
  rintro e w1 ⟨p1, c1, rfl, ho1, hb1⟩
  have L1 : Hid (LP w w1 (.slice pf l.length cf) (.slice p1 l.length c1) l) := ⟨hb1, HV.out.below hb1, HF.out.below hb1, ho1.cs⟩
  clear ho1 hb1 CP
  go_wp2_with fail
  refine (PA.out _ _ L1.out.own L1.out.fv).mono ?_
  rintro e w2 ⟨p2, c2, rfl, hi2, hb2⟩
  have L2 : Hid (LP w w2 (.slice pf l.length cf) (.slice p1 l.length c1) l) := L1.out.below hb2
  have I2 : Hid (IS w2 (.slice p2 P.length c2) P) := hi2
  clear hi2 hb2 L1
  go_wp2_with fail
  refine (RP.out _ _ L2.out.f).mono ?_
  rintro e w3 ⟨p3, c3, rfl, hi3, hb3⟩
  have L3 : Hid (LP w w3 (.slice pf l.length cf) (.slice p1 l.length c1) l) := L2.out.below hb3
  have I3 : Hid (IS w3 (.slice p2 P.length c2) P) := I2.out.below hb3
  have J3 : Hid (IS w3 (.slice p3 P.length c3) P) := hi3
  clear hi3 hb3 L2 I2
  go_wp2_with fail
  refine (sameInts_same w3 _ _ P I3.out J3.out HPL.out).mono ?_
  rintro e w4 ⟨rfl, n4, hw4⟩
  have L4 : Hid (LP w w4 (.slice pf l.length cf) (.slice p1 l.length c1) l) := L3.out.below (hw4 ▸ below_drewN' (Below.refl _ _) n4)
  clear hw4 L3 I3 J3
  go_wp2_with fail
  refine (LE.out _ _ L4.out.own L4.out.fv).mono ?_
  rintro e w5 ⟨p5, c5, us, rfl, hl5, hb5⟩
  have L5 : Hid (LP w w5 (.slice pf l.length cf) (.slice p1 l.length c1) l) := L4.out.below hb5
  have B5 : Hid (Below w4.heap.size w4 w5) := hb5
  have V5 : Hid (LV w4.heap.size w5 (.slice p5 L.length c5) us L) := hl5
  clear hl5 hb5
  go_wp2_with fail
  refine (RL.out _ _ L5.out.f).mono ?_
  rintro e w6 ⟨p6, c6, us2, rfl, hl6, hb6⟩
  have S6 : Hid (SP w4.heap.size w5.heap.size w6 (.slice p5 L.length c5) (.slice p6 L.length c6) us us2 L 0) := SP.begin V5.out rfl hb6 hl6
  have B6 : Hid (Below w4.heap.size w4 w6) := B5.out.trans (hb6.mono B5.out.size)
  clear hl6 hb6 V5 B5 L5
  go_wp2
  go_loopw [12] (fun b wl => ∃ (j : Nat) (wk : World), j ≤ L.length ∧ b = .int .i64 j ∧ wk = wl ∧ Hid (SP w4.heap.size w5.heap.size wk (.slice p5 L.length c5) (.slice p6 L.length c6) us us2 L j) ∧ Hid (Below w4.heap.size w4 wk)) (fun b _ => L.length - (intOf b).toNat)
  case atStart => exact ⟨0, _, Nat.zero_le _, rfl, rfl, S6, B6⟩
  case round =>
    obtain ⟨j, wq, hj, rfl, rfl, SQ, BQ⟩ := hrel
    clear S6 B6
    by_cases hlt : j < L.length
    · have hu1 : j < us.length := by rw [SQ.out.l1]; exact hlt
      have hu2 : j < us2.length := by rw [SQ.out.l2]; exact hlt
      obtain ⟨X1, rfl, hX1, y1⟩ := SQ.out.s1.at hu1
      obtain ⟨X2, rfl, hX2, y2⟩ := SQ.out.s2.at hu2
      have o1 := SQ.out.e1 j hu1 hlt (Nat.le_refl _)
      have o2 := SQ.out.e2 j hu2 hlt
      obtain ⟨gb, hgb, _, hgb1, _⟩ := SQ.out.n1 j hu1
      have SPO : Hid (∀ w', KB us[j].ownBlock wq w' → SP w4.heap.size w5.heap.size w' (.slice (some ⟨X1, 0, none⟩) L.length c5) (.slice (some ⟨X2, 0, none⟩) L.length c6) us us2 L (j + 1) ∧ Below w4.heap.size w4 w') := fun w' kb => ⟨SQ.out.spoil hu1 kb, BQ.out.trans (kb.below (fun x hx => by rw [hgb] at hx; injection hx with hx; omega))⟩
      obtain ⟨q1, d1, hq1⟩ := o1.form
      obtain ⟨q2, d2, hq2⟩ := o2.form
      obtain ⟨u1, hu1e⟩ : ∃ u, u = us[j] := ⟨_, rfl⟩
      obtain ⟨u2, hu2e⟩ : ∃ u, u = us2[j] := ⟨_, rfl⟩
      rw [← hu1e] at y1 o1 hq1 SPO
      rw [← hu2e] at y2 o2 hq2
      clear hu1e hu2e hgb hgb1
      simp only [List.length_singleton] at hq1 hq2
      subst hq1 hq2
      have SFJ : Hid (∀ w', Below wq.heap.size wq w' → Calls Tryd.prog 15 #[.slice q1 1 d1, .slice q2 1 d2] w' fun e w'' => e = .returned (.bool true) ∧ ∃ n, w'' = w'.drewN n) := fun w' b => sameFail_same w' _ _ [L[j]] (o1.cs.below b) (o2.cs.below b) (by simp)
      have SPL : Hid (∀ w', Below wq.heap.size wq w' → Calls Tryd.prog 16 #[.slice q1 1 d1] w' fun e w'' => e = .returned (.tuple #[]) ∧ KB (Value.slice q1 1 d1).ownBlock w' w'') := fun w' b => spoil_own w' _ _ [L[j]] (o1.below b)
      have CZ : Hid (∀ w', Below wq.heap.size wq w' → w'.cell? ⟨X1, j, none⟩ = some (.slice q1 1 d1)) := fun w' b => (b.cell (p := ⟨X1, j, none⟩) hX1).trans y1
      have ZK : Hid (∀ n w', KB (Value.slice q1 1 d1).ownBlock (wq.drew.drewN n) w' → KB (Value.slice q1 1 d1).ownBlock wq w') := fun n w' kb => ⟨kb.os, kb.tape, kb.output, kb.size, kb.block⟩
      clear o1 o2 SQ BQ hu1 hu2
      go_wp2
      go_region_with (go_at_call 15; refine (SFJ.out _ (Below.refl _ _).drew).mono ?_; rintro e wz ⟨rfl, nz, hwz⟩; have BZ : Hid (Below wq.heap.size wq wz) := hwz ▸ below_drewN' (Below.refl _ _).drew nz; have HZ : Hid (wz = wq.drew.drewN nz) := hwz; have cz := CZ.out _ BZ.out; clear hwz)
      all_goals go_wp2_with (go_at_call 16; refine (SPL.out _ BZ.out).mono ?_; rintro e wy ⟨rfl, hk⟩; have NX : Hid (SP w4.heap.size w5.heap.size wy (.slice (some ⟨X1, 0, none⟩) L.length c5) (.slice (some ⟨X2, 0, none⟩) L.length c6) us us2 L (j + 1) ∧ Below w4.heap.size w4 wy) := SPO.out _ (ZK.out nz _ (HZ.out ▸ hk)); clear hk)
      all_goals first
        | exact ⟨⟨j + 1, _, by omega, by go_num, rfl, NX.out.1, NX.out.2⟩, by simp [intOf]; omega⟩
        | (go_roundw
           case rel => exact ⟨j + 1, _, by omega, by go_num, rfl, NX.out.1, NX.out.2⟩
           case measure => simp [intOf]; omega)
    · have LQ : Hid (LP w wq (.slice pf l.length cf) (.slice p1 l.length c1) l) := L4.out.below BQ.out
      clear SQ BQ
      go_wp2_with fail
      refine (PT.out _ _ LQ.out.own LQ.out.fv).mono ?_
      rintro e w7 ⟨p7, c7, rfl, hi7, hb7⟩
      have L7 : Hid (LP w w7 (.slice pf l.length cf) (.slice p1 l.length c1) l) := LQ.out.below hb7
      have I7 : Hid (TS w7 (.slice p7 T.length c7) T) := hi7
      clear hi7 hb7 LQ
      go_wp2_with fail
      refine (RT.out _ _ L7.out.f).mono ?_
      rintro e w8 ⟨p8, c8, rfl, hi8, hb8⟩
      have L8 : Hid (LP w w8 (.slice pf l.length cf) (.slice p1 l.length c1) l) := L7.out.below hb8
      have I8 : Hid (TS w8 (.slice p7 T.length c7) T) := I7.out.below hb8
      have J8 : Hid (TS w8 (.slice p8 T.length c8) T) := hi8
      clear hi8 hb8 L7 I7
      go_wp2_with fail
      refine (sameTexts_same w8 _ _ T I8.out J8.out HTL.out).mono ?_
      rintro e w9 ⟨rfl, n9, hw9⟩
      have L9 : Hid (LP w w9 (.slice pf l.length cf) (.slice p1 l.length c1) l) := L8.out.below (hw9 ▸ below_drewN' (Below.refl _ _) n9)
      clear hw9 L8 I8 J8
      go_wp2_with fail
      refine (sameFail_same w9 _ _ l L9.out.own L9.out.f HLx.out).mono ?_
      rintro e wz ⟨rfl, nz, hwz⟩
      have BZ : Hid (Below w.heap.size w wz) := L9.out.bl.trans (hwz ▸ below_drewN' (Below.refl _ _) nz)
      clear hwz
      go_wp2_with fail
      go_ret
      exact ⟨rfl, BZ.out⟩
end Go.Proofs.YtaleagkhblokgaaDoor
