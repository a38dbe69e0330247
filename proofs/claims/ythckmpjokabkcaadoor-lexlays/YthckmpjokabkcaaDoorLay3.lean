/- The walks of the reference's Mark, right and Lay: the text of tokens, or the fault. -/
import Derived.Test.YthckmpjokabkcaaDoorLay2
import Derived.Test.YthckmpjokabkcaaDoorItoa
namespace Go.Proofs.YthckmpjokabkcaaDoor
open Go.RowKit

theorem mk_cells (w : World) : ∀ i, i < mk.length → (w.alloc (.cells mkV 9)).cell? ⟨w.heap.size, 0 + i, none⟩ = some (.string (mk.getD i ByteArray.empty)) := by
  intro i hi
  rw [cell_of_row _ _ _ _ _ _ (heap_alloc_new w _), Nat.zero_add, mkV_at i hi]; simp [hi]
set_option maxHeartbeats 1000000 in
theorem refMark_any (s : ByteArray) (w : World) :
    Calls Tryd.prog 46 #[.string s] w fun e w' => e = .returned (.bool (inB mk s)) ∧ Below w.heap.size w w' := by
  have IN : Calls Tryd.prog 30 #[.slice (some ⟨w.heap.size, 0, none⟩) 14 14, .string s] (w.alloc (.cells mkV 9)) fun e w' => e = .returned (.bool (inB mk s)) ∧ w' = (w.alloc (.cells mkV 9)) := in_any mk s w.heap.size 0 14 _ (by rw [mk_len]; omega) (mk_cells w)
  generalize inB mk s = b at *
  go_enter Tryd.func46, Tryd.ntmps46
  go_wp2_with (go_at_call 30; refine IN.mono ?_; rintro e w' ⟨rfl, rfl⟩)
  go_ret
  exact ⟨rfl, (Below.refl _ _).alloc (Nat.le_refl _) _⟩

set_option maxHeartbeats 2000000 in
theorem right_any (k p n : Int) (s : ByteArray) (w : World) (hs : s.size ≤ maxLen) :
    Calls Tryd.prog 34 #[.agg #[.int .i64 k, .int .i64 p, .int .i64 n, .string s]] w fun e w' => e = .returned (.bool (toldB k n s)) ∧ Below w.heap.size w w' := by
  have hB : Hid (Below w.heap.size w (w.alloc (.cells #[.int .i64 k, .int .i64 p, .int .i64 n, .string s] 30))) := (Below.refl _ _).alloc (Nat.le_refl _) _
  have hz : (w.alloc (.cells #[.int .i64 k, .int .i64 p, .int .i64 n, .string s] 30)).heap.size = w.heap.size + 1 := by simp
  have I1 := refIsName_any s (w.alloc (.cells #[.int .i64 k, .int .i64 p, .int .i64 n, .string s] 30)) hs
  have I2 := refIsKey_any s (w.alloc (.cells #[.int .i64 k, .int .i64 p, .int .i64 n, .string s] 30))
  have I3 := word_any s (w.alloc (.cells #[.int .i64 k, .int .i64 p, .int .i64 n, .string s] 30)) hs
  have I6 := refMark_any s (w.alloc (.cells #[.int .i64 k, .int .i64 p, .int .i64 n, .string s] 30))
  have HT : Hid (toldB k n s = if k = 4 then decide (s.size = 0 ∧ 0 ≤ n ∧ n ≤ 9007199254740992) else decide (n = 0) && if k = 1 then nameB s else if k = 2 then inB kw s else if k = 3 then decide (s.size ≤ 24) && wordB s.data.toList else if k = 5 then decide ((s.size : Int) ≤ 4096) else if k = 6 then inB mk s else false) := by
    show _ = _
    have e : s.data.toList.length = s.size := by simp
    simp only [toldB, textOfB, localB, e]
  generalize toldB k n s = X at *
  generalize nameB s = b1 at *
  generalize inB kw s = b2 at *
  generalize wordB s.data.toList = b3 at *
  generalize inB mk s = b6 at *
  generalize kwV = KV at *
  unfold maxLen at hs
  by_cases h1 : k = 1
  · subst h1
    have HX : Hid (X = (decide (n = 0) && b1)) := HT.out
    clear HT
    cases b1
    · go_enter Tryd.func34, Tryd.ntmps34
      go_wp2_with (go_at_call 14; refine I1.mono ?_; rintro e w' ⟨rfl, hb⟩)
      go_ret
      exact ⟨ret_bool (by rw [HX.out]; simp <;> rfl), hB.out.trans (hb.mono (by simp))⟩
    · have q2 : ∀ w', Below (w.heap.size + 1) (w.alloc (.cells #[.int .i64 1, .int .i64 p, .int .i64 n, .string s] 30)) w' → w'.cell? ⟨w.heap.size, 2, none⟩ = some (.int .i64 n) := fun w' hb => (hb.cell (p := ⟨w.heap.size, 2, none⟩) (by simp)).trans ((cell_of_row _ _ _ _ _ _ (heap_alloc_new w _)).trans rfl)
      have HQ2 : Hid _ := q2
      clear q2
      go_enter Tryd.func34, Tryd.ntmps34
      go_wp2_with (go_at_call 14; refine I1.mono ?_; rintro e w' ⟨rfl, hb⟩; have c2 := HQ2.out w' (hb.mono (by simp)))
      go_ret
      exact ⟨ret_bool (by rw [HX.out]; simp <;> rfl), hB.out.trans (hb.mono (by simp))⟩
  by_cases h2 : k = 2
  · subst h2
    have HX : Hid (X = (decide (n = 0) && b2)) := HT.out
    clear HT
    cases b2
    · go_enter Tryd.func34, Tryd.ntmps34
      go_wp2_with (go_at_call 16; refine I2.mono ?_; rintro e w' ⟨rfl, hb⟩)
      go_ret
      exact ⟨ret_bool (by rw [HX.out]; simp <;> rfl), hB.out.alloc (by simp) _⟩
    · have q2 : ∀ w', Below (w.heap.size + 1) (w.alloc (.cells #[.int .i64 2, .int .i64 p, .int .i64 n, .string s] 30)) w' → w'.cell? ⟨w.heap.size, 2, none⟩ = some (.int .i64 n) := fun w' hb => (hb.cell (p := ⟨w.heap.size, 2, none⟩) (by simp)).trans ((cell_of_row _ _ _ _ _ _ (heap_alloc_new w _)).trans rfl)
      have HQ2 : Hid _ := q2
      clear q2
      go_enter Tryd.func34, Tryd.ntmps34
      go_wp2_with (go_at_call 16; refine I2.mono ?_; rintro e w' ⟨rfl, hb⟩; have c2 := HQ2.out w' (by rw [hb]; exact (Below.refl _ _).alloc (by simp) _))
      go_ret
      exact ⟨ret_bool (by rw [HX.out]; simp <;> rfl), hB.out.alloc (by simp) _⟩
  by_cases h3 : k = 3
  · subst h3
    have HX : Hid (X = (decide (n = 0) && (decide (s.size ≤ 24) && b3))) := HT.out
    clear HT
    by_cases h24 : s.size ≤ 24
    · cases b3
      · go_enter Tryd.func34, Tryd.ntmps34
        go_wp2_with (go_at_call 48; refine I3.mono ?_; rintro e w' ⟨rfl, rfl⟩)
        go_ret
        exact ⟨ret_bool (by rw [HX.out]; simp <;> rfl), hB.out⟩
      · go_enter Tryd.func34, Tryd.ntmps34
        go_wp2_with (go_at_call 48; refine I3.mono ?_; rintro e w' ⟨rfl, rfl⟩)
        go_ret
        exact ⟨ret_bool (by rw [HX.out]; simp [h24] <;> rfl), hB.out⟩
    · go_enter Tryd.func34, Tryd.ntmps34
      go_wp2
      go_ret
      exact ⟨ret_bool (by rw [HX.out]; simp [h24] <;> rfl), hB.out⟩
  by_cases h4 : k = 4
  · subst h4
    have HX : Hid (X = decide (s.size = 0 ∧ 0 ≤ n ∧ n ≤ 9007199254740992)) := HT.out
    clear HT
    by_cases hz0 : s.size = 0
    · obtain rfl := bytes_nil hz0
      by_cases h0 : 0 ≤ n
      · go_enter Tryd.func34, Tryd.ntmps34
        go_wp2
        go_ret
        exact ⟨ret_bool (by rw [HX.out]; simp; omega), hB.out⟩
      · go_enter Tryd.func34, Tryd.ntmps34
        go_wp2
        go_ret
        exact ⟨ret_bool (by rw [HX.out]; simp; omega), hB.out⟩
    · obtain ⟨hn1, hn2⟩ := bytes_ne (by omega : 0 < s.size)
      go_enter Tryd.func34, Tryd.ntmps34
      go_wp2
      go_ret
      exact ⟨ret_bool (by rw [HX.out]; simp [hz0]), hB.out⟩
  by_cases h5 : k = 5
  · subst h5
    have HX : Hid (X = (decide (n = 0) && decide ((s.size : Int) ≤ 4096))) := HT.out
    clear HT
    by_cases h4096 : (s.size : Int) ≤ 4096
    · go_enter Tryd.func34, Tryd.ntmps34
      go_wp2
      go_ret
      exact ⟨ret_bool (by rw [HX.out]; simp [h4096] <;> rfl), hB.out⟩
    · go_enter Tryd.func34, Tryd.ntmps34
      go_wp2
      go_ret
      exact ⟨ret_bool (by rw [HX.out]; simp [h4096] <;> rfl), hB.out⟩
  by_cases h6 : k = 6
  · subst h6
    have HX : Hid (X = (decide (n = 0) && b6)) := HT.out
    clear HT
    cases b6
    · go_enter Tryd.func34, Tryd.ntmps34
      go_wp2_with (go_at_call 46; refine I6.mono ?_; rintro e w' ⟨rfl, hb⟩)
      go_ret
      exact ⟨ret_bool (by rw [HX.out]; simp <;> rfl), hB.out.trans (hb.mono (by simp))⟩
    · have q2 : ∀ w', Below (w.heap.size + 1) (w.alloc (.cells #[.int .i64 6, .int .i64 p, .int .i64 n, .string s] 30)) w' → w'.cell? ⟨w.heap.size, 2, none⟩ = some (.int .i64 n) := fun w' hb => (hb.cell (p := ⟨w.heap.size, 2, none⟩) (by simp)).trans ((cell_of_row _ _ _ _ _ _ (heap_alloc_new w _)).trans rfl)
      have HQ2 : Hid _ := q2
      clear q2
      go_enter Tryd.func34, Tryd.ntmps34
      go_wp2_with (go_at_call 46; refine I6.mono ?_; rintro e w' ⟨rfl, hb⟩; have c2 := HQ2.out w' (hb.mono (by simp)))
      go_ret
      exact ⟨ret_bool (by rw [HX.out]; simp <;> rfl), hB.out.trans (hb.mono (by simp))⟩
  have HX : Hid (X = false) := by show _ = _; rw [HT.out, if_neg h4, if_neg h1, if_neg h2, if_neg h3, if_neg h5, if_neg h6, Bool.and_false]
  clear HT
  have n1 : (k == 1) = false := by simpa using h1
  have n2 : (k == 2) = false := by simpa using h2
  have n3 : (k == 3) = false := by simpa using h3
  have n4 : (k == 4) = false := by simpa using h4
  have n5 : (k == 5) = false := by simpa using h5
  have n6 : (k == 6) = false := by simpa using h6
  go_enter Tryd.func34, Tryd.ntmps34
  go_wp2
  go_ret
  exact ⟨ret_bool (by rw [HX.out]), hB.out⟩
end Go.Proofs.YthckmpjokabkcaaDoor
