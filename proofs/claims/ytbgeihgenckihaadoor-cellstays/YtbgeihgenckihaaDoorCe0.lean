/- Cells, the laws: among. -/
import Derived.Test.YtbgeihgenckihaaDoorCb2
namespace Go.Proofs.YtbgeihgenckihaaDoor
open Go.RowKit

/-- A number from 0 to 4. -/
def amF (n : Int) : Int := (n % 18446744073709551616) % 5
theorem amF_bd (n : Int) : 0 ≤ amF n ∧ amF n < 5 := by unfold amF; omega
set_option maxHeartbeats 2000000 in
theorem among_any (x : Int) (w : World) : Calls Tryd.prog 9 #[.int .i64 x, .int .i64 5] w fun e w' => e = .returned (.int .i64 (amF x)) ∧ w' = w := by
  have HA : Hid (amF x = (x % 18446744073709551616) % 5) := rfl
  generalize amF x = r at *
  go_enter Tryd.func9, Tryd.ntmps9
  go_wp2
  go_ret
  refine ⟨ret_int ?_, rfl⟩
  rw [HA.out]
  have h1 : IntKind.u64.wrap x = x % 18446744073709551616 := by simp [IntKind.wrap, IntKind.bits, IntKind.signed]
  have h2 : (x % 18446744073709551616).tmod 5 = (x % 18446744073709551616) % 5 := Int.tmod_eq_emod_of_nonneg (Int.emod_nonneg _ (by decide))
  rw [h1, h2]
  unfold wrap64
  omega
end Go.Proofs.YtbgeihgenckihaaDoor
