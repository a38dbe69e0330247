/- Failures, the reference: crack. -/
import Derived.Test.YtbgeihgenckihaaDoorFx3
namespace Go.Proofs.YtbgeihgenckihaaDoor
open Go.RowKit

set_option maxHeartbeats 8000000 in
set_option maxRecDepth 100000 in
theorem crack3_any (x : ByteArray) (w : World) :
    Calls Tryd.prog 71 #[.agg #[.int .i64 3, .int .i64 0, .string x]] w fun e w' => e = .returned (.bool (crR ⟨3, 0, x⟩)) ∧ Below w.heap.size w w' := by
  have HC : Hid (crR ⟨3, 0, x⟩ = inB wd x) := by show _ = _; simp [crR]
  generalize crR ⟨3, 0, x⟩ = r at *
  have WD := fun w' => rwords_any w'
  have IN : ∀ (W : World) (b : Nat), W.heap.size = b → Calls Tryd.prog 75 #[.slice (some ⟨b, 0, none⟩) wd.length 10, .string x] (W.alloc (.cells wdV 9)).drew fun e w' => e = .returned (.bool (inB wd x)) ∧ w' = (W.alloc (.cells wdV 9)).drew := fun W b hb => by subst hb; exact in_any wd x _ 0 10 _ (by decide) (fun i hi => wd_cells W i hi)
  generalize inB wd x = b at *
  generalize wdV = V at *
  generalize wd.length = LN at *
  go_enter Tryd.func71, Tryd.ntmps71
  go_wp2
  have FB2 : Hid (∀ o1 o2, Below w.heap.size w (((w.alloc o1).alloc o2).drew)) := fun o1 o2 => (((Below.refl _ _).alloc (Nat.le_refl _) o1).alloc (by simp) o2).drew
  go_region_with (first | (go_at_call 76; refine (WD _).mono ?_; rintro e w5 ⟨rfl, rfl⟩) | (go_at_call 75; refine (IN _ (w.heap.size + 1) ?_).mono ?_; (first | rfl | (simp; done) | (show (w.alloc _).heap.size = _; simp)); rintro e w6 ⟨rfl, rfl⟩))
  all_goals
    go_wp2
    go_ret
    exact ⟨ret_bool HC.out.symm, FB2.out _ _⟩
end Go.Proofs.YtbgeihgenckihaaDoor
