/- The walk of the law LexWords: it answers true for every text, the keywords lying in their variable. -/
import Derived.Test.YthckmpjokabkcaaDoorKey
namespace Go.Proofs.YthckmpjokabkcaaDoor
open Go.RowKit

set_option maxHeartbeats 1000000 in
theorem lexWords_any (s : ByteArray) (w : World) (hs : s.size ≤ maxLen) (hk : KeysAt w) :
    Calls Tryd.prog 4 #[.string s] w fun e w' => e = .returned (.bool true) ∧ Below w.heap.size w w' := by
  have NU := number_any s w hs
  have RN := refNumber_any s w hs
  have IN := isName_any s w hs hk
  have RI := refIsName_any s w hs
  have IK : ∀ w1, Below w.heap.size w w1 → Calls Tryd.prog 15 #[.string s] w1 fun e w' => e = .returned (.bool (inB kw s)) ∧ w' = w1 := fun w1 hb => isKey_any s w1 (hk.below hb)
  have RK : ∀ w1, Calls Tryd.prog 16 #[.string s] w1 fun e w' => e = .returned (.bool (inB kw s)) ∧ w' = w1.alloc (.cells kwV 9) := fun w1 => refIsKey_any s w1
  clear hk
  generalize nameB s = nb at *
  generalize inB kw s = kb at *
  generalize kwV = V at *
  generalize numN s.data.toList = nn at *
  generalize numB s.data.toList = nk at *
  go_enter Tryd.func4, Tryd.ntmps4
  go_wp2_with (first
    | (go_at_call 11; refine NU.mono ?_; rintro e w' ⟨rfl, rfl⟩)
    | (go_at_call 12; refine RN.mono ?_; rintro e w' ⟨rfl, rfl⟩)
    | (go_at_call 13; refine IN.mono ?_; rintro e w' ⟨rfl, rfl⟩)
    | (go_at_call 14; refine RI.mono ?_; rintro e w1 ⟨rfl, hb⟩)
    | (go_at_call 15; refine (IK _ hb).mono ?_; rintro e w' ⟨rfl, rfl⟩)
    | (go_at_call 16; refine (RK _).mono ?_; rintro e w' ⟨rfl, rfl⟩))
  go_ret
  exact ⟨rfl, hb.alloc hb.size _⟩
end Go.Proofs.YthckmpjokabkcaaDoor
