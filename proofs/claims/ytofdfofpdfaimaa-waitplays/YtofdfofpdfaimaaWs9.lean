/- Waiting: Each. -/
import Derived.Test.YtofdfofpdfaimaaWs8
namespace Go.Proofs.Ytofdfofpdfaimaa
open Go.RowKit Go.Maps

set_option maxHeartbeats 4000000 in
theorem each_any (w : World) (base r m : Nat) (L : List Wc) (c : Nat) (f : ByteArray → Option Value) (h : RX w base r m L c f) : Calls Try.prog 15 #[.pointer (some ⟨r, 0, none⟩)] w fun e w' => ∃ B r' m' f', e = .returned (.func (.func 43) #[] #[.pointer (some ⟨B, 0, none⟩)]) ∧ w'.cell? ⟨B, 0, none⟩ = some (.pointer (some ⟨r', 0, none⟩)) ∧ w.heap.size ≤ B ∧ RX w' w.heap.size r' m' L c f' ∧ Below w.heap.size w w' := by
  have CL := hid (fun w' (hb : Below w.heap.size w w') => clone_any w' base r m L c f (h.below hb))
  have hmf : ∀ (fn : Fn) (first cap : Array Value) (w : World), (Instr.makeFunc fn first cap).run Try.prog w = .ok (.func fn first cap) w := fun _ _ _ _ => rfl
  clear h
  go_enter Try.func15, Try.ntmps15
  go_wp2_with (go_at_call 9; refine (CL.out _ (Below.refl _ _)).mono ?_; rintro e w2 ⟨r2, m2, f2, rfl, hx, hb⟩; have X2 := hid (hx.below (bal w2 (.cells #[.pointer (some ⟨r2, 0, none⟩)] 23))); have B2 := hid (bl3 hb (bal w2 (.cells #[.pointer (some ⟨r2, 0, none⟩)] 23))); have Z2 := hid hb.size; clear hx hb)
  go_ret
  exact ⟨w2.heap.size, r2, m2, f2, rfl, box1 (heap_alloc_new w2 _), Z2.out, X2.out, B2.out⟩
end Go.Proofs.Ytofdfofpdfaimaa
