/- The walks of lex.isMark, isTextOf and isTold: is a token such as Tokens tells? -/
import Derived.Test.YthckmpjokabkcaaDoorTok4
namespace Go.Proofs.YthckmpjokabkcaaDoor
open Go.RowKit

set_option maxHeartbeats 1000000 in
theorem isMark_any (s : ByteArray) (w : World) (hk : MarksAt w) :
    Calls Tryd.prog 57 #[.string s] w fun e w' => e = .returned (.bool (inB mk s)) ∧ w' = w := by
  have hcs : ∀ j v, mkV.toList[j]? = some v → w.cell? ⟨1, j, none⟩ = some v := by
    intro j v hv
    have hj : j < mk.length := by
      by_cases h : j < mk.length
      · exact h
      · exfalso; rw [List.getElem?_eq_none (by simp [mkV]; omega)] at hv; cases hv
    rw [hk j hj]
    have := mkV_at j hj
    rw [← Array.getElem?_toList, hv] at this
    rw [this]; simp [hj]
  have hix : ∀ k (h : k < mk.length) (w' : World), (Instr.index 69 (.agg mkV) (.int .i64 k)).run Tryd.prog w' = .ok (.string mk[k]) w' := fun k h w' =>
    run_index_strs 69 9 14 mkV k mk[k] w' Tryd.underlying69 Tryd.underlying9 (by kernel_rfl) (by rw [mk_len] at h; exact h) (mkV_at k h)
  have hsz : (Tryd.prog.info? 69).map (·.size) = some mkV.size := by kernel_rfl
  have HCS : Hid (∀ j v, mkV.toList[j]? = some v → w.cell? ⟨1, j, none⟩ = some v) := hcs
  have HSZ : Hid ((Tryd.prog.info? 69).map (·.size) = some mkV.size) := hsz
  have hkl := mk_len
  generalize mkV = V at *
  generalize mk = L at *
  clear hcs hsz hk
  go_enter Tryd.func57, Tryd.ntmps57
  go_wp2_with (refine wpList_load_cells rfl 69 (.global 1) rfl 1 rfl V (.array 14 9) HCS.out Tryd.underlying69 rfl HSZ.out ?_)
  go_loop [6] (fun i => ∃ k : Nat, k ≤ L.length ∧ i = .int .i64 k ∧ Hid (inB L s = inB (L.drop k) s)) (fun i => L.length - (intOf i).toNat)
  case atStart => exact ⟨0, Nat.zero_le _, rfl, rfl⟩
  case round =>
    obtain ⟨k, hkl', rfl, HR⟩ := hrel
    by_cases hlt : k < L.length
    · have hi := hix k hlt
      cases ht : (s.toList == L[k].toList)
      · go_wp2
        go_round
        case rel => exact ⟨k + 1, by omega, by go_num, by show _ = _; rw [HR.out, inB_miss hlt (by rw [Bool.beq_comm]; exact ht)]⟩
        case measure => simp [intOf]; omega
      · go_wp2
        go_ret
        exact ⟨ret_bool (inB_hit hlt (by rw [Bool.beq_comm]; exact ht)).symm, rfl⟩
    · go_wp2
      go_ret
      exact ⟨ret_bool (by rw [HR.out, inB_end (by omega)]), rfl⟩

/-- May a token of that kind, which is no number's, have that text? -/
def textOfB (k : Int) (s : ByteArray) : Bool :=
  if k = 1 then nameB s else if k = 2 then inB kw s else if k = 3 then localB s.data.toList else if k = 5 then decide ((s.size : Int) ≤ 4096) else if k = 6 then inB mk s else false
/-- Is a token, but for its place, such as Tokens tells? -/
def toldB (k num : Int) (s : ByteArray) : Bool :=
  if k = 4 then decide (s.size = 0 ∧ 0 ≤ num ∧ num ≤ 9007199254740992) else decide (num = 0) && textOfB k s
def told (t : Tok) : Bool := toldB t.kind t.num ⟨t.text.toArray⟩

set_option maxHeartbeats 1000000 in
theorem isTextOf_any (k : Int) (s : ByteArray) (w : World) (hs : s.size ≤ maxLen) (hk : KeysAt w) (hm : MarksAt w) :
    Calls Tryd.prog 49 #[.int .i64 k, .string s] w fun e w' => e = .returned (.bool (textOfB k s)) ∧ w' = w := by
  have I1 := isName_any s w hs hk
  have I2 := isKey_any s w hk
  have I3 := isWord_any s w hs
  have I6 := isMark_any s w hm
  have HT : Hid (textOfB k s = if k = 1 then nameB s else if k = 2 then inB kw s else if k = 3 then localB s.data.toList else if k = 5 then decide ((s.size : Int) ≤ 4096) else if k = 6 then inB mk s else false) := rfl
  generalize textOfB k s = X at *
  generalize nameB s = b1 at *
  generalize inB kw s = b2 at *
  generalize localB s.data.toList = b3 at *
  generalize inB mk s = b6 at *
  clear hk hm
  by_cases h1 : k = 1
  · subst h1
    go_enter Tryd.func49, Tryd.ntmps49
    go_wp2_with (go_at_call 13; refine I1.mono ?_; rintro e w' ⟨rfl, rfl⟩)
    go_ret
    exact ⟨ret_bool (by rw [HT.out]; rfl), rfl⟩
  by_cases h2 : k = 2
  · subst h2
    go_enter Tryd.func49, Tryd.ntmps49
    go_wp2_with (go_at_call 15; refine I2.mono ?_; rintro e w' ⟨rfl, rfl⟩)
    go_ret
    exact ⟨ret_bool (by rw [HT.out]; rfl), rfl⟩
  by_cases h3 : k = 3
  · subst h3
    go_enter Tryd.func49, Tryd.ntmps49
    go_wp2_with (go_at_call 28; refine I3.mono ?_; rintro e w' ⟨rfl, rfl⟩)
    go_ret
    exact ⟨ret_bool (by rw [HT.out]; rfl), rfl⟩
  by_cases h5 : k = 5
  · subst h5
    unfold maxLen at hs
    go_enter Tryd.func49, Tryd.ntmps49
    go_wp2
    go_ret
    exact ⟨ret_bool (by rw [HT.out]; rfl), rfl⟩
  by_cases h6 : k = 6
  · subst h6
    go_enter Tryd.func49, Tryd.ntmps49
    go_wp2_with (go_at_call 57; refine I6.mono ?_; rintro e w' ⟨rfl, rfl⟩)
    go_ret
    exact ⟨ret_bool (by rw [HT.out]; rfl), rfl⟩
  have n1 : (k == 1) = false := by simpa using h1
  have n2 : (k == 2) = false := by simpa using h2
  have n3 : (k == 3) = false := by simpa using h3
  have n5 : (k == 5) = false := by simpa using h5
  have n6 : (k == 6) = false := by simpa using h6
  go_enter Tryd.func49, Tryd.ntmps49
  go_wp2
  go_ret
  exact ⟨ret_bool (by rw [HT.out, if_neg h1, if_neg h2, if_neg h3, if_neg h5, if_neg h6]), rfl⟩

/-- The block of a token that is handed on by its value. -/
def tokBox (k p n : Int) (s : ByteArray) : Obj := .cells #[.int .i64 k, .int .i64 p, .int .i64 n, .string s] 30

set_option maxHeartbeats 1000000 in
theorem isTold_any (k p n : Int) (s : ByteArray) (w : World) (hs : s.size ≤ maxLen) (hk : KeysAt w) (hm : MarksAt w) :
    Calls Tryd.prog 32 #[.agg #[.int .i64 k, .int .i64 p, .int .i64 n, .string s]] w fun e w' => e = .returned (.bool (toldB k n s)) ∧ Below w.heap.size w w' := by
  have hB : Hid (Below w.heap.size w (w.alloc (.cells #[.int .i64 k, .int .i64 p, .int .i64 n, .string s] 30))) := (Below.refl _ _).alloc (Nat.le_refl _) _
  have IT := isTextOf_any k s (w.alloc (.cells #[.int .i64 k, .int .i64 p, .int .i64 n, .string s] 30)) hs (hk.alloc _) (hm.alloc _)
  have HT : Hid (toldB k n s = if k = 4 then decide (s.size = 0 ∧ 0 ≤ n ∧ n ≤ 9007199254740992) else decide (n = 0) && textOfB k s) := rfl
  generalize toldB k n s = X at *
  generalize textOfB k s = b at *
  clear hk hm
  by_cases h4 : k = 4
  · subst h4
    by_cases hz : s.size = 0
    · obtain rfl := bytes_nil hz
      by_cases h0 : 0 ≤ n
      · go_enter Tryd.func32, Tryd.ntmps32
        go_wp2
        go_ret
        exact ⟨ret_bool (by rw [HT.out]; simp; omega), hB.out⟩
      · go_enter Tryd.func32, Tryd.ntmps32
        go_wp2
        go_ret
        exact ⟨ret_bool (by rw [HT.out]; simp; omega), hB.out⟩
    · obtain ⟨hn1, hn2⟩ := bytes_ne (by omega : 0 < s.size)
      go_enter Tryd.func32, Tryd.ntmps32
      go_wp2
      go_ret
      exact ⟨ret_bool (by rw [HT.out]; simp [hz]), hB.out⟩
  · have n4 : (k == 4) = false := by simpa using h4
    by_cases h0 : n = 0
    · subst h0
      go_enter Tryd.func32, Tryd.ntmps32
      go_wp2_with (go_at_call 49; refine IT.mono ?_; rintro e w' ⟨rfl, rfl⟩)
      go_ret
      exact ⟨ret_bool (by rw [HT.out, if_neg h4]; rfl), hB.out⟩
    · have n0 : (n == 0) = false := by simpa using h0
      go_enter Tryd.func32, Tryd.ntmps32
      go_wp2
      go_ret
      exact ⟨ret_bool (by rw [HT.out, if_neg h4]; simp [h0]), hB.out⟩
end Go.Proofs.YthckmpjokabkcaaDoor
