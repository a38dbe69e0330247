/- Names: the reference's well, whole. -/
import Derived.Test.YthmppnmmlblbhaaDoorPv1
import Derived.Test.YthmppnmmlblbhaaDoorPv2
import Derived.Test.YthmppnmmlblbhaaDoorPv3
import Derived.Test.YthmppnmmlblbhaaDoorPv5
namespace Go.Proofs.YthmppnmmlblbhaaDoor
open Go.RowKit

set_option maxHeartbeats 4000000 in
theorem rwell_any (o : Opn) (w : World) (ht : o.text.size ≤ maxLen) : Calls Tryd.prog 97 #[opV o] w fun e w' => e = .returned (.bool (opB o)) ∧ Below w.heap.size w w' := by
  have HB : Hid (opB o = (isX o.kind && (arB o && inB' o && txB o))) := rfl
  have AL : Hid (∀ ob n, Below w.heap.size w ((w.alloc ob).drewN n)) := fun ob n => below_drewY ((Below.refl _ _).alloc (Nat.le_refl _) ob) n
  cases hk : isX o.kind with
  | false =>
    rw [hk] at HB
    generalize opB o = r at *
    have hk2 : ¬ (1 ≤ o.kind ∧ o.kind ≤ 19) := fun h => by rw [isX_iff.2 h] at hk; cases hk
    obtain ⟨k, n, i, t⟩ := o
    simp only [opV] at *
    by_cases h1 : k < 1
    · go_enter Tryd.func97, Tryd.ntmps97
      go_wp2
      go_quiet (fail)
      go_wp2
      go_ret
      exact ⟨ret_bool (by rw [HB.out]; rfl), AL.out _ _⟩
    · have h2 : k > 19 := by omega
      go_enter Tryd.func97, Tryd.ntmps97
      go_wp2
      go_quiet (fail)
      go_wp2
      go_ret
      exact ⟨ret_bool (by rw [HB.out]; rfl), AL.out _ _⟩
  | true =>
    rw [hk] at HB
    have hk2 := isX_iff.1 hk
    have e1 := arB_eq hk
    by_cases h3 : o.n < 0
    · have e2 : arB o = false := by rw [e1]; exact decide_eq_false (by omega)
      rw [e2] at HB
      generalize opB o = r at *
      clear e1 e2
      obtain ⟨k, n, i, t⟩ := o
      simp only [opV] at *
      obtain ⟨h1, h2⟩ := hk2
      have hn1 : ¬ k < 1 := by omega
      have hn2 : ¬ k > 19 := by omega
      go_enter Tryd.func97, Tryd.ntmps97
      go_wp2
      go_quiet (fail)
      go_wp2
      go_ret
      exact ⟨ret_bool (by rw [HB.out]; rfl), AL.out _ _⟩
    · obtain ⟨k, n, i, t⟩ := o
      simp only at h3 ht hk
      obtain ⟨m, rfl⟩ : ∃ m : Nat, n = m := ⟨n.toNat, by omega⟩
      clear HB AL e1 hk2 h3
      simp only [opV]
      rcases isX_cases hk with rfl | rfl | rfl | rfl | rfl | rfl | rfl | rfl | rfl | rfl | rfl | rfl | rfl | rfl | rfl | rfl | rfl | rfl | rfl
      · exact rwell_1 m i t w ht
      · exact rwell_2 m i t w ht
      · exact rwell_3 m i t w ht
      · exact rwell_4 m i t w ht
      · exact rwell_5 m i t w ht
      · exact rwell_6 m i t w ht
      · exact rwell_7 m i t w ht
      · exact rwell_8 m i t w ht
      · exact rwell_9 m i t w ht
      · exact rwell_10 m i t w ht
      · exact rwell_11 m i t w ht
      · exact rwell_12 m i t w ht
      · exact rwell_13 m i t w ht
      · exact rwell_14 m i t w ht
      · exact rwell_15 m i t w ht
      · exact rwell_16 m i t w ht
      · exact rwell_17 m i t w ht
      · exact rwell_18 m i t w ht
      · exact rwell_19 m i t w ht
end Go.Proofs.YthmppnmmlblbhaaDoor
