/- The walk of the law FailBack. -/
import Derived.Test.YtaleagkhblokgaaDoorNx0
import Derived.Test.YtaleagkhblokgaaDoorIx2
import Derived.Test.YtaleagkhblokgaaDoorIx3
namespace Go.Proofs.YtaleagkhblokgaaDoor
open Go.RowKit

def exL : List Cr := [⟨5, 0, ⟨#[97]⟩⟩, ⟨8, 1, ⟨#[115, 116, 111, 112]⟩⟩, ⟨9, 1, ⟨#[100, 98]⟩⟩]
def exT : List UInt8 := [99, 101, 108, 108, 32, 100, 98, 58, 32, 116, 111, 107, 101, 110, 32, 34, 115, 116, 111, 112, 34, 58, 32, 99, 121, 99, 108, 101, 32, 97]
theorem exL_chk : chk exL = 0 := by decide +kernel
theorem exL_one : chk (exL.take 1) = 0 := by decide +kernel
theorem exL_pr : prV exL = exT := by
  unfold prV
  rw [if_pos exL_chk]
  decide +kernel
theorem exL_is : isB exL (exL.take 1) = true := by
  unfold isB isE
  rw [if_pos exL_chk, exL_one]
  refine Bool.and_eq_true _ _ ▸ ⟨by decide, ?_⟩
  exact isV_hit (j := 0) (by decide) (by decide +kernel)
theorem exL_isE : isE exL (exL.take 1) = 0 := by unfold isE; rw [if_pos exL_chk, exL_one]
theorem exL_ps : psL exT = exL ∧ psE exT = 0 := by
  have := print_parse exL_chk (by rw [exL_pr]; decide)
  rw [exL_pr] at this; exact this
def exC : Array Value := #[.int .i64 5, .int .i64 0, .string ⟨#[97]⟩, .int .i64 8, .int .i64 1, .string ⟨#[115, 116, 111, 112]⟩, .int .i64 9, .int .i64 1, .string ⟨#[100, 98]⟩]
def exS : ByteArray := ⟨#[99, 101, 108, 108, 32, 100, 98, 58, 32, 116, 111, 107, 101, 110, 32, 34, 115, 116, 111, 112, 34, 58, 32, 99, 121, 99, 108, 101, 32, 97]⟩
theorem ex_cs (w : World) : CS (w.alloc (.cells exC 55)) (.slice (some ⟨w.heap.size, 0, none⟩) 3 3) exL := by
  have hc : ∀ o, (w.alloc (.cells exC 55)).cell? ⟨w.heap.size, o, none⟩ = exC[o]? := fun o => cell_of_row _ _ _ _ _ _ (heap_alloc_new _ _)
  refine Or.inr ⟨w.heap.size, 0, 3, rfl, by simp, by decide, fun k hk => ?_⟩
  have hk3 : k < 3 := hk
  match k, hk3 with
  | 0, _ => exact ⟨hc 0, hc 1, hc 2⟩
  | 1, _ => exact ⟨hc 3, hc 4, hc 5⟩
  | 2, _ => exact ⟨hc 6, hc 7, hc 8⟩
theorem ex_cs1 {w : World} {X : Nat} (h : CS w (.slice (some ⟨X, 0, none⟩) 3 3) exL) : CS w (.slice (some ⟨X, 0, none⟩) 1 3) (exL.take 1) := by
  have := (h.cut (a := 0) (b := 1) (by omega) (by decide)).1
  simpa using this
theorem ex_text : ∀ c ∈ exL, c.text.size ≤ maxLen := by unfold maxLen; decide
theorem ex_text1 : ∀ c ∈ exL.take 1, c.text.size ≤ maxLen := by unfold maxLen; decide
set_option maxHeartbeats 4000000 in
set_option maxRecDepth 100000 in
theorem works_any (w : World) (hv : FV w) : Calls Tryd.prog 30 #[] w fun e w' => e = .returned (.bool true) ∧ Below w.heap.size w w' := by
  obtain ⟨W1, hW1⟩ : ∃ W1, W1 = w.alloc (.cells exC 55) := ⟨_, rfl⟩
  have B1 : Hid (Below w.heap.size w W1) := by show Below _ _ _; rw [hW1]; exact (Below.refl _ _).alloc (Nat.le_refl _) _
  have C1 : Hid (CS W1 (.slice (some ⟨w.heap.size, 0, none⟩) 3 3) exL) := by show CS _ _ _; rw [hW1]; exact ex_cs w
  have PR1 : Hid (Calls Tryd.prog 26 #[.slice (some ⟨w.heap.size, 0, none⟩) 3 3] W1 fun e w' => e = .returned (.tuple #[.string exS, .int .i64 0]) ∧ Below W1.heap.size W1 w') := by
    have := print_any _ exL W1 C1.out ex_text (by decide) (hv.below B1.out)
    rw [exL_pr, exL_chk] at this
    exact this
  have PA : Hid (∀ w', Below w.heap.size w w' → Calls Tryd.prog 28 #[.string exS] w' fun e w'' => ∃ p cap, e = .returned (.tuple #[.slice p 3 cap, .int .i64 0]) ∧ CS w'' (.slice p 3 cap) exL ∧ Below w'.heap.size w' w'') := fun w' b => by
    have := parse_any exS w' (hv.below b) (by unfold maxLen; decide)
    have e1 : exS.data.toList = exT := rfl
    rw [e1] at this
    refine Calls.mono this fun e w'' ⟨p, cap, h1, h2, h3⟩ => ?_
    rw [exL_ps.1] at h1 h2
    rw [exL_ps.2] at h1
    exact ⟨p, cap, h1, h2, h3⟩
  have IS : Hid (∀ w', Below w.heap.size w w' → CS w' (.slice (some ⟨w.heap.size, 0, none⟩) 3 3) exL → Calls Tryd.prog 20 #[.slice (some ⟨w.heap.size, 0, none⟩) 3 3, .slice (some ⟨w.heap.size, 0, none⟩) 1 3] w' fun e w'' => e = .returned (.tuple #[.bool true, .int .i64 0]) ∧ Below w'.heap.size w' w'') := fun w' b c => by
    have := is_any _ _ exL (exL.take 1) w' c (ex_cs1 c) ex_text ex_text1 (by decide) (by decide) (hv.below b)
    rw [exL_is, exL_isE] at this
    exact this
  have HW1 : Hid (W1 = w.alloc (.cells #[.int .i64 5, .int .i64 0, .string ⟨#[97]⟩, .int .i64 8, .int .i64 1, .string ⟨#[115, 116, 111, 112]⟩, .int .i64 9, .int .i64 1, .string ⟨#[100, 98]⟩] 55)) := hW1
  have HXS : Hid (exS = ⟨#[99, 101, 108, 108, 32, 100, 98, 58, 32, 116, 111, 107, 101, 110, 32, 34, 115, 116, 111, 112, 34, 58, 32, 99, 121, 99, 108, 101, 32, 97]⟩) := rfl
  generalize exS = XS at *
  clear hW1 hv
  go_enter Tryd.func30, Tryd.ntmps30
  go_wp2_with fail
  rw [← HW1.out]
  refine Calls.mono PR1.out ?_
  rintro e w2 ⟨rfl, hb2⟩
  have B2 : Hid (Below w.heap.size w w2) := B1.out.trans (hb2.mono B1.out.size)
  have C2 : Hid (CS w2 (.slice (some ⟨w.heap.size, 0, none⟩) 3 3) exL) := C1.out.below hb2
  clear hb2
  go_wp2_with fail
  refine (PA.out _ B2.out).mono ?_
  rintro e w3 ⟨p3, c3, rfl, h3, hb3⟩
  have B3 : Hid (Below w.heap.size w w3) := B2.out.trans (hb3.mono B2.out.size)
  have C3 : Hid (CS w3 (.slice (some ⟨w.heap.size, 0, none⟩) 3 3) exL) := C2.out.below hb3
  have D3 : Hid (CS w3 (.slice p3 3 c3) exL) := h3
  clear hb3 h3
  go_wp2_with fail
  refine (IS.out _ B3.out C3.out).mono ?_
  rintro e w4 ⟨rfl, hb4⟩
  have B4 : Hid (Below w.heap.size w w4) := B3.out.trans (hb4.mono B3.out.size)
  have C4 : Hid (CS w4 (.slice (some ⟨w.heap.size, 0, none⟩) 3 3) exL) := C3.out.below hb4
  have D4 : Hid (CS w4 (.slice p3 3 c3) exL) := D3.out.below hb4
  clear hb4
  rw [HXS.out]
  go_wp2_with fail
  refine (sameFail_same w4 _ _ exL C4.out D4.out (by decide)).mono ?_
  rintro e w5 ⟨rfl, n5, hw5⟩
  have B5 : Hid (Below w.heap.size w w5) := B4.out.trans (hw5 ▸ below_drewN' (Below.refl _ _) n5)
  clear hw5
  go_wp2_with fail
  go_ret
  exact ⟨rfl, B5.out⟩
set_option maxHeartbeats 2000000 in
theorem lawIs_any (v u : Value) (l m : List Cr) (w : World) (h : CS w v l) (h' : CS w u m) (ht : ∀ c ∈ l, c.text.size ≤ maxLen) (ht' : ∀ c ∈ m, c.text.size ≤ maxLen) (hlm : l.length ≤ 1000000000000000) (hmm : m.length ≤ 1000000000000000) (hv : FV w) :
    Calls Tryd.prog 32 #[v, u] w fun e w' => e = .returned (.bool (isB l m)) ∧ Below w.heap.size w w' := by
  have IS := is_any v u l m w h h' ht ht' hlm hmm hv
  have HE : Hid (isE l m ≠ 0 → isB l m = false) := fun h0 => by unfold isB; simp [h0]
  generalize isB l m = r at *
  generalize isE l m = x at *
  obtain ⟨p, c, rfl⟩ := h.form
  obtain ⟨p', c', rfl⟩ := h'.form
  clear h h' ht ht' hv
  by_cases hx : x = 0
  · subst hx
    go_enter Tryd.func32, Tryd.ntmps32
    go_wp2_with fail
    refine IS.mono ?_
    rintro e w1 ⟨rfl, hb1⟩
    have B1 : Hid (Below w.heap.size w w1) := hb1
    clear hb1 IS
    go_wp2_with fail
    go_ret
    exact ⟨rfl, B1.out⟩
  · have hr := HE.out hx
    subst hr
    have z : (x == 0) = false := by simpa using hx
    go_enter Tryd.func32, Tryd.ntmps32
    go_wp2_with fail
    refine IS.mono ?_
    rintro e w1 ⟨rfl, hb1⟩
    have B1 : Hid (Below w.heap.size w w1) := hb1
    clear hb1 IS
    go_wp2_with fail
    go_ret
    exact ⟨rfl, B1.out⟩
end Go.Proofs.YtaleagkhblokgaaDoor
namespace Go.Proofs.YtaleagkhblokgaaDoor
open Go.RowKit

theorem psL_ok {s : List UInt8} : ∀ c ∈ psL s, c.text.size ≤ maxLen := by
  intro c hc
  by_cases h : psE s = 0
  · have := crB_text (chk_crB (parse_print h).1 c hc)
    unfold maxLen; omega
  · rw [parse_none h] at hc; cases hc
theorem psL_len (s : List UInt8) : (psL s).length ≤ 1024 := by
  by_cases h : psE s = 0
  · exact (chk_ok (parse_print h).1).1
  · rw [parse_none h]; simp
/-- What the law looks at. -/
structure LB (w wk : World) (f : Value) (l : List Cr) : Prop where
  bl : Below w.heap.size w wk
  fv : FV wk
  f : CS wk f l
theorem LB.below {w wk w' : World} {f : Value} {l : List Cr} (h : LB w wk f l) (b : Below wk.heap.size wk w') : LB w w' f l :=
  ⟨h.bl.trans (b.mono h.bl.size), h.fv.below b, h.f.below b⟩
set_option maxHeartbeats 8000000 in
set_option maxRecDepth 100000 in
theorem failBack_any (v : Value) (l : List Cr) (s : ByteArray) (w : World) (h : CS w v l) (ht : ∀ c ∈ l, c.text.size ≤ maxLen) (hl : l.length ≤ 1000000000000000) (hs : s.size ≤ maxLen) (hv : FV w) :
    Calls Tryd.prog 6 #[v, .string s] w fun e w' => e = .returned (.bool true) ∧ Below w.heap.size w w' := by
  have WK := works_any w hv
  have PRF : Hid (∀ w', LB w w' v l → Calls Tryd.prog 26 #[v] w' fun e w'' => e = .returned (.tuple #[.string ⟨(prV l).toArray⟩, .int .i64 (chk l)]) ∧ Below w'.heap.size w' w'') := fun w' L => print_any v l w' L.f ht hl L.fv
  have PAS : Hid (∀ w', LB w w' v l → Calls Tryd.prog 28 #[.string s] w' fun e w'' => OutR w' w'' e s.data.toList) := fun w' L => parse_any s w' L.fv hs
  have PAT : Hid (∀ w', LB w w' v l → Calls Tryd.prog 28 #[.string ⟨(prV l).toArray⟩] w' fun e w'' => OutR w' w'' e (prV l)) := fun w' L => by
    have := parse_any ⟨(prV l).toArray⟩ w' L.fv (by have := prV_len l; show (prV l).toArray.size ≤ maxLen; unfold maxLen; rw [List.size_toArray]; omega)
    have e : (⟨(prV l).toArray⟩ : ByteArray).data.toList = prV l := by simp
    rw [e] at this
    exact this
  have PRG : Hid (∀ w' v', FV w' → CS w' v' (psL s.data.toList) → Calls Tryd.prog 26 #[v'] w' fun e w'' => e = .returned (.tuple #[.string ⟨(prV (psL s.data.toList)).toArray⟩, .int .i64 (chk (psL s.data.toList))]) ∧ Below w'.heap.size w' w'') := fun w' v' fv cs => print_any v' _ w' cs psL_ok (by have := psL_len s.data.toList; omega) fv
  obtain ⟨PT, hPT⟩ : ∃ PT : ByteArray, PT = ⟨(prV l).toArray⟩ := ⟨_, rfl⟩
  have hPS : PT.size = (prV l).length := by rw [hPT]; show (prV l).toArray.size = _; simp
  have hPB := prV_len l
  rw [← hPT] at PRF PAT
  have THERE : Hid (chk l = 0 → PT.size ≤ 65536 → psL (prV l) = l ∧ psE (prV l) = 0) := fun h0 h1 => print_parse h0 (by omega)
  have BACK : Hid (psE s.data.toList = 0 → chk (psL s.data.toList) = 0 ∧ (⟨(prV (psL s.data.toList)).toArray⟩ : ByteArray) = s) := fun h0 => by
    obtain ⟨a, b⟩ := parse_print h0
    exact ⟨a, bytes_ext (by rw [b])⟩
  have NONE : Hid (psE s.data.toList ≠ 0 → psL s.data.toList = []) := parse_none
  have hPS2 : PT.size ≤ 17500000 := by omega
  have HLx : Hid (l.length ≤ 100000000000000000) := by show l.length ≤ _; omega
  have HV : Hid (FV w) := hv
  have HF : Hid (CS w v l) := h
  obtain ⟨pf, cf, rfl⟩ := h.form
  unfold maxLen at hs
  clear h ht hv hl hPT hPB hPS
  by_cases hA1 : chk l = 0
  · by_cases hA2 : PT.size ≤ 65536
    · obtain ⟨t1, t2⟩ := THERE.out hA1 hA2
      have PAT2 : Hid (∀ w', LB w w' (.slice pf l.length cf) l → Calls Tryd.prog 28 #[.string PT] w' fun e w'' => ∃ p cap, e = .returned (.tuple #[.slice p l.length cap, .int .i64 0]) ∧ CS w'' (.slice p l.length cap) l ∧ Below w'.heap.size w' w'') := fun w' L => by
        refine Calls.mono (PAT.out w' L) fun e w'' ⟨p, cap, h1, h2, h3⟩ => ?_
        rw [t1] at h1 h2
        rw [t2] at h1
        exact ⟨p, cap, h1, h2, h3⟩
      rw [hA1] at PRF
      clear THERE PAT t1 t2 hA1
      go_enter Tryd.func6, Tryd.ntmps6
      go_wp2_with fail
      refine WK.mono ?_
      rintro e w1 ⟨rfl, hb1⟩
      have L1 : Hid (LB w w1 (.slice pf l.length cf) l) := ⟨hb1, HV.out.below hb1, HF.out.below hb1⟩
      clear hb1 WK
      go_wp2_with fail
      refine (PRF.out _ L1.out).mono ?_
      rintro e w2 ⟨rfl, hb2⟩
      have L2 : Hid (LB w w2 (.slice pf l.length cf) l) := L1.out.below hb2
      clear hb2
      go_wp2_with fail
      refine (PAT2.out _ L2.out).mono ?_
      rintro e w3 ⟨p3, c3, rfl, h3, hb3⟩
      have L3 : Hid (LB w w3 (.slice pf l.length cf) l) := L2.out.below hb3
      have G3 : Hid (CS w3 (.slice p3 l.length c3) l) := h3
      clear hb3 h3
      go_wp2_with fail
      refine (sameFail_same w3 _ _ l L3.out.f G3.out HLx.out).mono ?_
      rintro e w4 ⟨rfl, n4, hw4⟩
      have L4 : Hid (LB w w4 (.slice pf l.length cf) l) := L3.out.below (hw4 ▸ below_drewN' (Below.refl _ _) n4)
      clear hw4 L1 L2 L3 G3
      go_wp2_with fail
      refine Calls.mono (PAS.out _ L4.out) ?_
      rintro e w5 ⟨p5, c5, rfl, h5, hb5⟩
      have L5 : Hid (LB w w5 (.slice pf l.length cf) l) := L4.out.below hb5
      have G5 : Hid (CS w5 (.slice p5 (psL s.data.toList).length c5) (psL s.data.toList)) := h5
      clear h5 hb5 L4
      by_cases hE : psE s.data.toList = 0
      · obtain ⟨b1, b2⟩ := BACK.out hE
        have PRH := PRG.out _ _ L5.out.fv G5.out
        rw [b1, b2] at PRH
        rw [hE]
        clear hE b1 b2 BACK NONE
        go_wp2_with fail
        refine PRH.mono ?_
        rintro e w6 ⟨rfl, hb6⟩
        have B6 : Hid (Below w.heap.size w w6) := L5.out.bl.trans (hb6.mono L5.out.bl.size)
        clear hb6 PRH
        go_wp2_with fail
        go_ret
        exact ⟨rfl, B6.out⟩
      · have hn := NONE.out hE
        rw [hn]
        have z1 : (psE s.data.toList == 0) = false := by simpa using hE
        have z2 : (psE s.data.toList != 0) = true := by simpa using hE
        generalize psE s.data.toList = x at *
        clear hn G5
        go_wp2_with fail
        go_ret
        exact ⟨rfl, L5.out.bl⟩
    · have hA3 : (PT.size : Int) > 65536 := by omega
      have hA4 : ¬ (PT.size : Int) ≤ 65536 := by omega
      rw [hA1] at PRF
      clear THERE PAT hA1 hA2
      go_enter Tryd.func6, Tryd.ntmps6
      go_wp2_with fail
      refine WK.mono ?_
      rintro e w1 ⟨rfl, hb1⟩
      have L1 : Hid (LB w w1 (.slice pf l.length cf) l) := ⟨hb1, HV.out.below hb1, HF.out.below hb1⟩
      clear hb1 WK
      go_wp2_with fail
      refine (PRF.out _ L1.out).mono ?_
      rintro e w4 ⟨rfl, hb2⟩
      have L4 : Hid (LB w w4 (.slice pf l.length cf) l) := L1.out.below hb2
      clear hb2
      go_wp2_with fail
      refine Calls.mono (PAS.out _ L4.out) ?_
      rintro e w5 ⟨p5, c5, rfl, h5, hb5⟩
      have L5 : Hid (LB w w5 (.slice pf l.length cf) l) := L4.out.below hb5
      have G5 : Hid (CS w5 (.slice p5 (psL s.data.toList).length c5) (psL s.data.toList)) := h5
      clear h5 hb5 L4
      by_cases hE : psE s.data.toList = 0
      · obtain ⟨b1, b2⟩ := BACK.out hE
        have PRH := PRG.out _ _ L5.out.fv G5.out
        rw [b1, b2] at PRH
        rw [hE]
        clear hE b1 b2 BACK NONE
        go_wp2_with fail
        refine PRH.mono ?_
        rintro e w6 ⟨rfl, hb6⟩
        have B6 : Hid (Below w.heap.size w w6) := L5.out.bl.trans (hb6.mono L5.out.bl.size)
        clear hb6 PRH
        go_wp2_with fail
        go_ret
        exact ⟨rfl, B6.out⟩
      · have hn := NONE.out hE
        rw [hn]
        have z1 : (psE s.data.toList == 0) = false := by simpa using hE
        have z2 : (psE s.data.toList != 0) = true := by simpa using hE
        generalize psE s.data.toList = x at *
        clear hn G5
        go_wp2_with fail
        go_ret
        exact ⟨rfl, L5.out.bl⟩
  · have z1 : (chk l == 0) = false := by simpa using hA1
    have z2 : (chk l != 0) = true := by simpa using hA1
    clear THERE PAT hA1
    generalize chk l = y at *
    go_enter Tryd.func6, Tryd.ntmps6
    go_wp2_with fail
    refine WK.mono ?_
    rintro e w1 ⟨rfl, hb1⟩
    have L1 : Hid (LB w w1 (.slice pf l.length cf) l) := ⟨hb1, HV.out.below hb1, HF.out.below hb1⟩
    clear hb1 WK
    go_wp2_with fail
    refine (PRF.out _ L1.out).mono ?_
    rintro e w4 ⟨rfl, hb2⟩
    have L4 : Hid (LB w w4 (.slice pf l.length cf) l) := L1.out.below hb2
    clear hb2
    go_wp2_with fail
    refine Calls.mono (PAS.out _ L4.out) ?_
    rintro e w5 ⟨p5, c5, rfl, h5, hb5⟩
    have L5 : Hid (LB w w5 (.slice pf l.length cf) l) := L4.out.below hb5
    have G5 : Hid (CS w5 (.slice p5 (psL s.data.toList).length c5) (psL s.data.toList)) := h5
    clear h5 hb5 L4
    by_cases hE : psE s.data.toList = 0
    · obtain ⟨b1, b2⟩ := BACK.out hE
      have PRH := PRG.out _ _ L5.out.fv G5.out
      rw [b1, b2] at PRH
      rw [hE]
      clear hE b1 b2 BACK NONE
      go_wp2_with fail
      refine PRH.mono ?_
      rintro e w6 ⟨rfl, hb6⟩
      have B6 : Hid (Below w.heap.size w w6) := L5.out.bl.trans (hb6.mono L5.out.bl.size)
      clear hb6 PRH
      go_wp2_with fail
      go_ret
      exact ⟨rfl, B6.out⟩
    · have hn := NONE.out hE
      rw [hn]
      have z1 : (psE s.data.toList == 0) = false := by simpa using hE
      have z2 : (psE s.data.toList != 0) = true := by simpa using hE
      generalize psE s.data.toList = x at *
      clear hn G5
      go_wp2_with fail
      go_ret
      exact ⟨rfl, L5.out.bl⟩
end Go.Proofs.YtaleagkhblokgaaDoor
