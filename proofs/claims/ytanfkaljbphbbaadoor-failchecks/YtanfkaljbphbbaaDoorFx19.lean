/- The walk of the law FailChecks: it answers true for every failure, kind and text, the three variables lying as they are laid. -/
import Derived.Test.YtanfkaljbphbbaaDoorFx18
namespace Go.Proofs.YtanfkaljbphbbaaDoor
open Go.RowKit

set_option maxHeartbeats 4000000 in
set_option maxRecDepth 100000 in
theorem failChecks_any (v : Value) (l : List Cr) (k : Int) (t : ByteArray) (w : World) (h : CS w v l) (ht : ∀ c ∈ l, c.text.size ≤ maxLen) (hl : l.length * 32 ≤ 140737488355328) (hts : t.size ≤ maxLen) (hv : FV w) :
    Calls Tryd.prog 3 #[v, .int .i64 k, .string t] w fun e w' => e = .returned (.bool true) ∧ Below w.heap.size w w' := by
  have hlm : l.length ≤ 1000000000000000 := by omega
  have CP := copyFail_any v l w h hl
  have DE : Hid (∀ w' v', CS w' v' l → Below w.heap.size w w' → _) := fun w' v' cs b => deep_any v' l w' cs ht (hv.below b) hlm
  have RD : Hid (∀ w', Below w.heap.size w w' → _) := fun w' b => rdeep_any v l w' (h.below b) ht hlm
  have LF : Hid (∀ w', Below w.heap.size w w' → _) := fun w' b => leaf_any k t w' hts (hv.below b)
  have RL : Hid (∀ w' : World, _) := fun w' => rleaf_any k t w' hts
  have CK : Hid (∀ w' v', CS w' v' l → Below w.heap.size w w' → _) := fun w' v' cs b => check_any v' l w' cs ht (hv.below b) hlm
  have RC : Hid (∀ w', Below w.heap.size w w' → _) := fun w' b => rcheck_any v l w' (h.below b) ht hlm
  have SF : Hid (∀ w' v1 v2 m, CS w' v1 m → CS w' v2 m → m.length ≤ 1000000000000000 → _) := fun w' v1 v2 m h1 h2 h3 => sameFail_same w' v1 v2 m h1 h2 (by omega)
  have HV : Hid (∀ w', Below w.heap.size w w' → CS w' v l) := fun w' b => h.below b
  have HLL : Hid ((leafL k t).length ≤ 1000000000000000) := by show (leafL k t).length ≤ 1000000000000000; unfold leafL; split <;> simp
  have HLM : Hid (l.length ≤ 1000000000000000) := hlm
  clear h ht hv hl hlm
  generalize leafL k t = L at *
  generalize leafE k t = E at *
  generalize deepA l = D at *
  generalize chk l = C at *
  go_enter Tryd.func3, Tryd.ntmps3
  go_wp2_with (first | (go_at_call 9; refine CP.mono ?_; rintro e w1 ⟨p1, c1, rfl, ho1, hb1⟩; have C1 : Hid (CS w1 (.slice p1 l.length c1) l) := ho1.cs; have B1 : Hid (Below w.heap.size w w1) := hb1; clear ho1 hb1) | (go_at_call 10; refine (DE.out _ _ C1.out B1.out).mono ?_; rintro e w2 ⟨rfl, hb2⟩; have C2 : Hid (CS w2 (.slice p1 l.length c1) l) := C1.out.below hb2; have B2 : Hid (Below w.heap.size w w2) := B1.out.trans (hb2.mono B1.out.size); clear hb2) | (go_at_call 11; refine (RD.out _ B2.out).mono ?_; rintro e w3 ⟨rfl, hb3⟩; have C3 : Hid (CS w3 (.slice p1 l.length c1) l) := C2.out.below hb3; have B3 : Hid (Below w.heap.size w w3) := B2.out.trans (hb3.mono B2.out.size); clear hb3) | (go_at_call 12; refine (LF.out _ B3.out).mono ?_; rintro e w4 ⟨p4, c4, rfl, ho4, hb4⟩; have C4 : Hid (CS w4 (.slice p1 l.length c1) l) := C3.out.below hb4; have B4 : Hid (Below w.heap.size w w4) := B3.out.trans (hb4.mono B3.out.size); have L4 : Hid (CS w4 (.slice p4 L.length c4) L) := ho4.cs; clear ho4 hb4) | (go_at_call 13; refine (RL.out _).mono ?_; rintro e w5 ⟨p5, c5, rfl, ho5, hb5⟩; have C5 : Hid (CS w5 (.slice p1 l.length c1) l) := C4.out.below hb5; have B5 : Hid (Below w.heap.size w w5) := B4.out.trans (hb5.mono B4.out.size); have L5 : Hid (CS w5 (.slice p4 L.length c4) L) := L4.out.below hb5; have R5 : Hid (CS w5 (.slice p5 L.length c5) L) := ho5; clear ho5 hb5))
  refine (CK.out _ _ C5.out B5.out).mono ?_
  rintro e w6 ⟨rfl, hb6⟩
  have C6 : Hid (CS w6 (.slice p1 l.length c1) l) := C5.out.below hb6
  have B6 : Hid (Below w.heap.size w w6) := B5.out.trans (hb6.mono B5.out.size)
  have L6 : Hid (CS w6 (.slice p4 L.length c4) L) := L5.out.below hb6
  have R6 : Hid (CS w6 (.slice p5 L.length c5) L) := R5.out.below hb6
  clear hb6
  go_wp2_with fail
  refine (RC.out _ B6.out).mono ?_
  rintro e w7 ⟨rfl, hb7⟩
  have C7 : Hid (CS w7 (.slice p1 l.length c1) l) := C6.out.below hb7
  have B7 : Hid (Below w.heap.size w w7) := B6.out.trans (hb7.mono B6.out.size)
  have L7 : Hid (CS w7 (.slice p4 L.length c4) L) := L6.out.below hb7
  have R7 : Hid (CS w7 (.slice p5 L.length c5) L) := R6.out.below hb7
  clear hb7
  go_wp2_with fail
  refine (SF.out _ _ _ L L7.out R7.out HLL.out).mono ?_
  rintro e w8 ⟨rfl, n8, hw8⟩
  have hb8 : Below w7.heap.size w7 w8 := hw8 ▸ below_drewN' (Below.refl _ _) n8
  have C8 : Hid (CS w8 (.slice p1 l.length c1) l) := C7.out.below hb8
  have B8 : Hid (Below w.heap.size w w8) := B7.out.trans (hb8.mono B7.out.size)
  clear hb8 hw8
  go_wp2_with fail
  refine (SF.out _ _ _ l C8.out (HV.out _ B8.out) HLM.out).mono ?_
  rintro e w9 ⟨rfl, n9, hw9⟩
  have B9 : Hid (Below w.heap.size w w9) := B8.out.trans (hw9 ▸ below_drewN' (Below.refl _ _) n9)
  clear hw9
  go_wp2_with fail
  go_ret
  exact ⟨rfl, B9.out⟩
end Go.Proofs.YtanfkaljbphbbaaDoor
