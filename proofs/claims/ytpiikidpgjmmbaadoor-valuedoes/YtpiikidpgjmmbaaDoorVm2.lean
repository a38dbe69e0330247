/- The law ValueDoes. -/
import Derived.Test.YtpiikidpgjmmbaaDoorVg3
import Derived.Test.YtpiikidpgjmmbaaDoorVg4
namespace Go.Proofs.YtpiikidpgjmmbaaDoor
open Go.RowKit

theorem CPV.full {w w' : World} {vs : Value} {L M : List Vx} (h : CPV w w' vs L M L.length) : aL M = aL L := by
  have := h.eq; rw [List.take_length] at this; exact this
theorem doO_rt {k : Int} {A : List (List Atm)} {t : Vt} (h : doO k A = some t) : RT t := by
  unfold doO at h
  split at h
  · rename_i he
    have hz : ∀ a ∈ A, chkV a = 0 := by
      unfold doE at he
      split at he
      · cases he
      · split at he
        · cases he
        · split at he
          · cases he
          · exact firstE_zero he
    obtain ⟨ts, rfl, hr⟩ := trees_of hz
    rw [treeA_map hr] at h
    exact doT_rt hr h
  · cases h
theorem outL_len (k : Int) (A : List (List Atm)) : (outL (doO k A)).length ≤ 1024 := by
  cases h : doO k A with
  | none => simp [outL]
  | some t => exact (doO_rt h).sz
set_option maxHeartbeats 16000000 in
theorem valueDoes_any (k : Int) (v : Value) (L : List Vx) (w : World) (h : VR w v L) (ht : VT L) (hv : VWat w) :
    Calls Tryd.prog 3 #[.int .i64 k, v] w fun e w' => e = .returned (.bool true) ∧ Below w.heap.size w w' := by
  have CE : Hid _ := copied_any v L w h ht
  have D1 : Hid (∀ w1 u M, VR w1 u M → aL M = aL L → Calls Tryd.prog 8 #[.int .i64 k, u] w1 fun e w' => AnsD w1 w' e (doO k (aL L)) (doE k (aL L))) := fun w1 u M hu e => by rw [← e]; exact vdo_any k u M w1 hu (ht.of e)
  have D2 : Hid (∀ w1, Below w.heap.size w w1 → _) := fun w1 b => rdo_any k v L w1 (h.below b) ht
  have SV : Hid (∀ w1 b1 b2 v1 v2 l, OwnG KA w1 b1 v1 l → OwnG KA w1 b2 v2 l → l.length ≤ 100000000000000000 → Calls Tryd.prog 10 #[v1, v2] w1 fun e w' => e = .returned (.bool true) ∧ Below w1.heap.size w1 w') := fun w1 b1 b2 v1 v2 l h1 h2 h3 => sameV_same w1 v1 v2 l (h1.gs KA_ok.len) (h2.gs KA_ok.len) h3
  have LL : Hid ((outL (doO k (aL L))).length ≤ 100000000000000000) := by have := outL_len k (aL L); show _ ≤ _; omega
  have W1 : Hid (∀ w1, Below w.heap.size w w1 → _) := fun w1 b => vword_any k w1 (hv.below b)
  have W2 : Hid (∀ w1, _) := fun w1 => rword_any k w1
  have SO : Hid (∀ w1 b u l, OwnG KA w1 b u l → _) := fun w1 b u l hu => spoil_any w1 b u (SPV.own hu)
  have VS : Hid (∀ w1 u M, Below w.heap.size w w1 → VR w1 u M → aL M = aL L → Calls Tryd.prog 14 #[u, v] w1 fun e w' => e = .returned (.bool true) ∧ Below w1.heap.size w1 w') := fun w1 u M b hu e => values_same u v M L w1 hu (h.below b) e ht
  obtain ⟨p, cap, rfl⟩ := h.gs.form
  generalize doO k (aL L) = r at *
  generalize doE k (aL L) = de at *
  generalize wordF k = wd at *
  clear h ht hv
  go_enter Tryd.func3, Tryd.ntmps3
  go_wp2_with fail
  refine Calls.mono CE.out ?_
  rintro e w1 ⟨p1, c1, M, rfl, cpv⟩
  have EQ : Hid (aL M = aL L) := cpv.full
  have V1 : Hid (VR w1 (.slice p1 L.length c1) M) := cpv.vr
  have B1 : Hid (Below w.heap.size w w1) := cpv.bl
  have Q1 : Hid _ := D1.out w1 _ _ V1.out EQ.out
  clear cpv CE D1
  go_wp2_with fail
  refine Calls.mono Q1.out ?_
  rintro e w2 ⟨p2, c2, rfl, ho2, hb2⟩
  have B12 : Hid (Below w1.heap.size w1 w2) := hb2
  have O2 : Hid (OwnG KA w2 w1.heap.size (.slice p2 (outL r).length c2) (outL r)) := ho2
  have Q2 : Hid _ := D2.out w2 (B1.out.trans (hb2.mono B1.out.size))
  clear ho2 hb2 Q1 D2
  go_wp2_with fail
  refine Calls.mono Q2.out ?_
  rintro e w3 ⟨p3, c3, rfl, ho3, hb3⟩
  have B13 : Hid (Below w1.heap.size w1 w3) := B12.out.trans (hb3.mono B12.out.size)
  have O3 : Hid (OwnG KA w3 w1.heap.size (.slice p2 (outL r).length c2) (outL r)) := O2.out.below hb3
  have S3 : Hid _ := SV.out w3 _ _ _ _ _ O3.out ho3 LL.out
  clear ho3 hb3 Q2 O2 B12
  have zde : (de == de) = true := by simp
  go_wp2_with fail
  refine Calls.mono S3.out ?_
  rintro e w4 ⟨rfl, hb4⟩
  have B14 : Hid (Below w1.heap.size w1 w4) := B13.out.trans (hb4.mono B13.out.size)
  have O4 : Hid (OwnG KA w4 w1.heap.size (.slice p2 (outL r).length c2) (outL r)) := O3.out.below hb4
  have Q4 : Hid _ := W1.out w4 (B1.out.trans (B14.out.mono B1.out.size))
  clear hb4 S3 O3 B13 W1
  go_wp2_with fail
  refine Calls.mono Q4.out ?_
  rintro e w5 ⟨rfl, hw5⟩
  rw [hw5]
  clear hw5 Q4
  go_wp2_with fail
  refine Calls.mono (W2.out _) ?_
  rintro e w6 ⟨rfl, hw6⟩
  rw [hw6]
  clear hw6 W2
  have S4 : Hid _ := SO.out w4 _ _ _ O4.out
  clear SO
  go_wp2_with fail
  refine Calls.mono S4.out ?_
  rintro e w7 ⟨rfl, hb7, _, _⟩
  have B17 : Hid (Below w1.heap.size w1 w7) := B14.out.trans hb7
  have Q7 : Hid _ := VS.out w7 _ _ (B1.out.trans (B17.out.mono B1.out.size)) (V1.out.below B17.out) EQ.out
  clear hb7 S4 O4 B14 VS SV LL
  go_wp2_with fail
  refine Calls.mono Q7.out ?_
  rintro e w8 ⟨rfl, hb8⟩
  have B8 : Hid (Below w.heap.size w w8) := (B1.out.trans (B17.out.mono B1.out.size)).trans (hb8.mono (Nat.le_trans B1.out.size B17.out.size))
  clear hb8 Q7
  go_wp2_with fail
  go_ret
  exact ⟨rfl, B8.out⟩
end Go.Proofs.YtpiikidpgjmmbaaDoor
