/- Failures: the law FailTexts. -/
import Derived.Test.YtaleagkhblokgaaDoorNx6
import Derived.Test.YtaleagkhblokgaaDoorNx1
import Derived.Test.YtaleagkhblokgaaDoorLx4
namespace Go.Proofs.YtaleagkhblokgaaDoor
open Go.RowKit

set_option maxHeartbeats 4000000 in
set_option maxRecDepth 100000 in
theorem rprint_bad (v : Value) (l : List Cr) (w : World) (h : CS w v l) (ht : ∀ c ∈ l, c.text.size ≤ maxLen) (hlm : l.length ≤ 1000000000000000) (hc : ¬ chk l = 0) :
    Calls Tryd.prog 27 #[v] w fun e w' => e = .returned (.tuple #[.string ByteArray.empty, .int .i64 (chk l)]) ∧ Below w.heap.size w w' := by
  have CK := rcheck_any v l w h ht hlm
  have z1 : (chk l == 0) = false := by simpa using hc
  have z2 : (chk l != 0) = true := by simpa using hc
  clear h ht hc
  generalize chk l = x at *
  go_enter Tryd.func27, Tryd.ntmps27
  go_wp2_with fail
  refine CK.mono ?_
  rintro e w1 ⟨rfl, hb1⟩
  have B1 : Hid (Below w.heap.size w w1) := hb1
  clear hb1 CK
  go_wp2_with fail
  go_ret2
  exact ⟨rfl, B1.out⟩
theorem rprint_any (v : Value) (l : List Cr) (w : World) (h : CS w v l) (ht : ∀ c ∈ l, c.text.size ≤ maxLen) (hlm : l.length ≤ 1000000000000000) :
    Calls Tryd.prog 27 #[v] w fun e w' => e = .returned (.tuple #[.string ⟨(prV l).toArray⟩, .int .i64 (chk l)]) ∧ Below w.heap.size w w' := by
  by_cases hc : chk l = 0
  · refine (rprint_ok v l w h ht hc).mono ?_
    rintro e w' ⟨f, hf, rfl, hb⟩
    refine ⟨?_, hb⟩
    have : f = ⟨(prV l).toArray⟩ := bytes_ext (by rw [hf]; unfold prV; rw [if_pos hc])
    rw [this, hc]
  · refine (rprint_bad v l w h ht hlm hc).mono ?_
    rintro e w' ⟨rfl, hb⟩
    refine ⟨?_, hb⟩
    have : prV l = [] := by unfold prV; rw [if_neg hc]
    rw [this]; rfl
set_option maxHeartbeats 8000000 in
theorem failTexts_any (v : Value) (l : List Cr) (s : ByteArray) (w : World) (h : CS w v l) (ht : ∀ c ∈ l, c.text.size ≤ maxLen) (hl : l.length * 32 ≤ 140737488355328) (hs : s.size ≤ maxLen) (hv : FV w) :
    Calls Tryd.prog 5 #[v, .string s] w fun e w' => e = .returned (.bool true) ∧ Below w.heap.size w w' := by
  obtain ⟨pf, cf, rfl⟩ := h.form
  have CP := copyFail_any _ l w h hl
  have HS : Hid (CS w (.slice pf l.length cf) l) := h
  have HV : Hid (FV w) := hv
  have PR : Hid (∀ w' p c, FV w' → CS w' (.slice p l.length c) l → Calls Tryd.prog 26 #[.slice p l.length c] w' fun e w'' => e = .returned (.tuple #[.string ⟨(prV l).toArray⟩, .int .i64 (chk l)]) ∧ Below w'.heap.size w' w'') := fun w' p c hv' hc' => print_any _ l w' hc' ht (by omega) hv'
  have RP' : Hid (∀ w' p c, CS w' (.slice p l.length c) l → Calls Tryd.prog 27 #[.slice p l.length c] w' fun e w'' => e = .returned (.tuple #[.string ⟨(prV l).toArray⟩, .int .i64 (chk l)]) ∧ Below w'.heap.size w' w'') := fun w' p c hc' => rprint_any _ l w' hc' ht (by omega)
  have PA : Hid (∀ w', FV w' → Calls Tryd.prog 28 #[.string s] w' fun e w'' => OutR w' w'' e s.data.toList) := fun w' hv' => parse_any s w' hv' hs
  have RA : Hid (∀ w', Calls Tryd.prog 29 #[.string s] w' fun e w'' => RfO s.data.toList w' e w'') := fun w' => rParse_any s w' hs
  have HQ : Hid ((psL s.data.toList).length ≤ 100000000000000000) := by have := psL_len s.data.toList; show _ ≤ _; omega
  have HLx : Hid (l.length ≤ 100000000000000000) := by show _ ≤ _; omega
  generalize (⟨(prV l).toArray⟩ : ByteArray) = PT at *
  generalize chk l = x at *
  clear h hv ht
  go_enter Tryd.func5, Tryd.ntmps5
  go_wp2_with fail
  refine CP.mono ?_
  rintro e w1 ⟨p1, c1, rfl, ho1, hb1⟩
  have B1 : Hid (Below w.heap.size w w1) := hb1
  have V1 : Hid (FV w1) := HV.out.below hb1
  have F1 : Hid (CS w1 (.slice pf l.length cf) l) := HS.out.below hb1
  have O1 : Hid (CS w1 (.slice p1 l.length c1) l) := ho1.cs
  clear ho1 hb1 CP HS HV
  go_wp2_with fail
  refine Calls.mono (PR.out _ _ _ V1.out O1.out) ?_
  rintro e w2 ⟨rfl, hb2⟩
  have B2 : Hid (Below w.heap.size w w2) := B1.out.trans (hb2.mono B1.out.size)
  have V2 : Hid (FV w2) := V1.out.below hb2
  have F2 : Hid (CS w2 (.slice pf l.length cf) l) := F1.out.below hb2
  have O2 : Hid (CS w2 (.slice p1 l.length c1) l) := O1.out.below hb2
  clear hb2 PR B1 V1 F1 O1
  go_wp2_with fail
  refine Calls.mono (RP'.out _ _ _ F2.out) ?_
  rintro e w3 ⟨rfl, hb3⟩
  have B3 : Hid (Below w.heap.size w w3) := B2.out.trans (hb3.mono B2.out.size)
  have V3 : Hid (FV w3) := V2.out.below hb3
  have F3 : Hid (CS w3 (.slice pf l.length cf) l) := F2.out.below hb3
  have O3 : Hid (CS w3 (.slice p1 l.length c1) l) := O2.out.below hb3
  clear hb3 RP' B2 V2 F2 O2
  go_wp2_with fail
  refine (sameFail_same w3 _ _ l O3.out F3.out HLx.out).mono ?_
  rintro e w4 ⟨rfl, n4, hw4⟩
  have hb4 : Below w3.heap.size w3 w4 := hw4 ▸ below_drewN' (Below.refl _ _) n4
  have B4 : Hid (Below w.heap.size w w4) := B3.out.trans (hb4.mono B3.out.size)
  have V4 : Hid (FV w4) := V3.out.below hb4
  clear hb4 hw4 B3 V3 F3 O3
  go_wp2_with fail
  refine Calls.mono (PA.out _ V4.out) ?_
  rintro e w5 ⟨p5, c5, rfl, h5, hb5⟩
  have B5 : Hid (Below w.heap.size w w5) := B4.out.trans (hb5.mono B4.out.size)
  have G5 : Hid (CS w5 (.slice p5 (psL s.data.toList).length c5) (psL s.data.toList)) := h5
  clear h5 hb5 B4 V4 PA
  go_wp2_with fail
  refine Calls.mono (RA.out _) ?_
  rintro e w6 ⟨hb6, p6, c6, rfl, h6⟩
  have B6 : Hid (Below w.heap.size w w6) := B5.out.trans (hb6.mono B5.out.size)
  have G6 : Hid (CS w6 (.slice p5 (psL s.data.toList).length c5) (psL s.data.toList)) := G5.out.below hb6
  have R6 : Hid (CS w6 (.slice p6 (psL s.data.toList).length c6) (psL s.data.toList)) := h6
  clear hb6 h6 B5 G5 RA
  go_wp2_with fail
  refine (sameFail_same w6 _ _ _ G6.out R6.out HQ.out).mono ?_
  rintro e w7 ⟨rfl, n7, hw7⟩
  have hb7 : Below w6.heap.size w6 w7 := hw7 ▸ below_drewN' (Below.refl _ _) n7
  have B7 : Hid (Below w.heap.size w w7) := B6.out.trans (hb7.mono B6.out.size)
  clear hb7 hw7
  go_wp2_with fail
  go_ret
  exact ⟨rfl, B7.out⟩
end Go.Proofs.YtaleagkhblokgaaDoor
