/- The walks of lex.IsKey and of its reference: both tell whether a text is one of the nineteen keywords. -/
import Derived.Test.YtbgeihgenckihaaDoorProg
import Derived.Test.YtbgeihgenckihaaDoorWord
import Derived.Test.YtbgeihgenckihaaDoorLaws
import Derived.WalkKit
import Derived.WalkSpells
import Derived.WalkLawsBesides
namespace Go.Proofs.YtbgeihgenckihaaDoor
open Go.RowKit

/-- Is a text among others? -/
def inB (l : List ByteArray) (s : ByteArray) : Bool := l.any fun x => x.toList == s.toList
theorem inB_hit {l : List ByteArray} {s : ByteArray} {k : Nat} (hk : k < l.length) (h : (l[k].toList == s.toList) = true) : inB l s = true := by
  unfold inB; rw [List.any_eq_true]; exact ⟨l[k], List.getElem_mem hk, h⟩
theorem inB_miss {l : List ByteArray} {s : ByteArray} {k : Nat} (hk : k < l.length) (h : (l[k].toList == s.toList) = false) : inB (l.drop k) s = inB (l.drop (k + 1)) s := by
  unfold inB; rw [List.drop_eq_getElem_cons hk, List.any_cons, h, Bool.false_or]
theorem inB_end {l : List ByteArray} {s : ByteArray} {k : Nat} (hk : l.length ≤ k) : inB (l.drop k) s = false := by
  unfold inB; rw [List.drop_eq_nil_iff.2 hk]; rfl

set_option maxHeartbeats 1000000 in
theorem in_any (l : List ByteArray) (s : ByteArray) (b o c : Nat) (w : World) (hl : l.length ≤ 1000000) (hk : ∀ i, i < l.length → w.cell? ⟨b, o + i, none⟩ = some (.string (l.getD i ByteArray.empty))) :
    Calls Tryd.prog 75 #[.slice (some ⟨b, o, none⟩) l.length c, .string s] w fun e w' => e = .returned (.bool (inB l s)) ∧ w' = w := by
  go_enter Tryd.func75, Tryd.ntmps75
  go_wp2
  go_loop [5] (fun i => ∃ k : Nat, k ≤ l.length ∧ i = .int .i64 k ∧ Hid (inB l s = inB (l.drop k) s)) (fun i => l.length - (intOf i).toNat)
  case atStart => exact ⟨0, Nat.zero_le _, rfl, rfl⟩
  case round =>
    obtain ⟨k, hkl, rfl, HR⟩ := hrel
    by_cases hlt : k < l.length
    · have hc := hk k hlt
      cases ht : (l[k].toList == s.toList)
      · go_wp2
        go_round
        case rel => exact ⟨k + 1, by omega, by go_num, by show _ = _; rw [HR.out, inB_miss hlt ht]⟩
        case measure => simp [intOf]; omega
      · go_wp2
        go_ret
        exact ⟨ret_bool (inB_hit hlt ht).symm, rfl⟩
    · go_wp2
      go_ret
      exact ⟨ret_bool (by rw [HR.out, inB_end (by omega)]), rfl⟩

/-- The nineteen keywords. -/
def kw : List ByteArray := [⟨#[99, 101, 108, 108]⟩, ⟨#[97, 103, 97, 105, 110]⟩, ⟨#[116, 114, 105, 101, 115]⟩, ⟨#[98, 97, 115, 101]⟩, ⟨#[102, 97, 99, 116, 111, 114]⟩, ⟨#[99, 97, 112]⟩, ⟨#[99, 108, 111, 115, 101]⟩, ⟨#[102, 105, 110, 101]⟩, ⟨#[102, 97, 105, 108]⟩, ⟨#[112, 97, 110, 105, 99]⟩, ⟨#[105, 102]⟩, ⟨#[116, 104, 101, 110]⟩, ⟨#[101, 108, 115, 101]⟩, ⟨#[116, 114, 121]⟩, ⟨#[119, 97, 105, 116]⟩, ⟨#[108, 101, 116]⟩, ⟨#[105, 110]⟩, ⟨#[105, 116, 101, 109]⟩, ⟨#[115, 105, 122, 101]⟩]
def kwV : Array Value := (kw.map Value.string).toArray
theorem kw_len : kw.length = 19 := by decide
theorem kwV_at (k : Nat) (h : k < kw.length) : kwV[k]? = some (.string kw[k]) := by simp [kwV, h]

/-- The keywords lie in the memory of the package's variable. -/
def KeysAt (w : World) : Prop := ∀ i, i < kw.length → w.cell? ⟨2, i, none⟩ = some (.string (kw.getD i ByteArray.empty))

theorem KeysAt.below {w w' : World} (h : KeysAt w) (hb : Below w.heap.size w w') : KeysAt w' := by
  intro i hi
  have := h i hi
  rw [hb.cell (p := ⟨2, i, none⟩) (block_lt_of_cell this)]; exact this
theorem KeysAt.alloc {w : World} (h : KeysAt w) (o : Obj) : KeysAt (w.alloc o) := h.below ((Below.refl _ _).alloc (Nat.le_refl _) _)

set_option maxHeartbeats 1000000 in
set_option maxRecDepth 100000 in
theorem isKey_any (s : ByteArray) (w : World) (hk : KeysAt w) :
    Calls Tryd.prog 79 #[.string s] w fun e w' => e = .returned (.bool (inB kw s)) ∧ w' = w := by
  have hcs : ∀ j v, kwV.toList[j]? = some v → w.cell? ⟨2, j, none⟩ = some v := by
    intro j v hv
    have hj : j < kw.length := by
      by_cases h : j < kw.length
      · exact h
      · exfalso; rw [List.getElem?_eq_none (by simp [kwV]; omega)] at hv; cases hv
    rw [hk j hj]
    have := kwV_at j hj
    rw [← Array.getElem?_toList, hv] at this
    rw [this]; simp [hj]
  have hix : ∀ k (h : k < kw.length) (w' : World), (Instr.index 115 (.agg kwV) (.int .i64 k)).run Tryd.prog w' = .ok (.string kw[k]) w' := fun k h w' =>
    run_index_strs 115 9 19 kwV k kw[k] w' Tryd.underlying115 Tryd.underlying9 (by kernel_rfl) (by rw [kw_len] at h; exact h) (kwV_at k h)
  have hsz : (Tryd.prog.info? 115).map (·.size) = some kwV.size := by kernel_rfl
  have HCS : Hid (∀ j v, kwV.toList[j]? = some v → w.cell? ⟨2, j, none⟩ = some v) := hcs
  have HSZ : Hid ((Tryd.prog.info? 115).map (·.size) = some kwV.size) := hsz
  have hkl := kw_len
  generalize kwV = V at *
  generalize kw = L at *
  clear hcs hsz hk
  go_enter Tryd.func79, Tryd.ntmps79
  go_wp2_with (refine wpList_load_cells rfl 115 (.global 2) rfl 2 rfl V (.array 19 9) HCS.out Tryd.underlying115 rfl HSZ.out ?_)
  go_loop [6] (fun i => ∃ k : Nat, k ≤ L.length ∧ i = .int .i64 k ∧ Hid (inB L s = inB (L.drop k) s)) (fun i => L.length - (intOf i).toNat)
  case atStart => exact ⟨0, Nat.zero_le _, rfl, rfl⟩
  case round =>
    obtain ⟨k, hkl', rfl, HR⟩ := hrel
    by_cases hlt : k < L.length
    · have hi := hix k hlt
      cases ht : (s.toList == L[k].toList)
      · go_wp2
        go_round
        case rel => exact ⟨k + 1, by omega, by go_num, by show _ = _; rw [HR.out, inB_miss hlt (by rw [Bool.beq_comm]; exact ht)]⟩
        case measure => simp [intOf]; omega
      · go_wp2
        go_ret
        exact ⟨ret_bool (inB_hit hlt (by rw [Bool.beq_comm]; exact ht)).symm, rfl⟩
    · go_wp2
      go_ret
      exact ⟨ret_bool (by rw [HR.out, inB_end (by omega)]), rfl⟩

set_option maxHeartbeats 1000000 in
theorem keys_any (w : World) :
    Calls Tryd.prog 81 #[] w fun e w' => e = .returned (.slice (some ⟨w.heap.size, 0, none⟩) kw.length 19) ∧ w' = w.alloc (.cells kwV 9) := by
  go_enter Tryd.func81, Tryd.ntmps81
  go_wp2
  go_ret
  exact ⟨rfl, rfl⟩
theorem kw_cells (w : World) : ∀ i, i < kw.length → (w.alloc (.cells kwV 9)).cell? ⟨w.heap.size, 0 + i, none⟩ = some (.string (kw.getD i ByteArray.empty)) := by
  intro i hi
  rw [cell_of_row _ _ _ _ _ _ (heap_alloc_new w _), Nat.zero_add, kwV_at i hi]; simp [hi]

/-- A name: a word of at most MaxName bytes that is no keyword. -/
def nameB (s : ByteArray) : Bool := localB s.data.toList && !inB kw s

set_option maxHeartbeats 1000000 in
theorem isName_any (s : ByteArray) (w : World) (hs : s.size ≤ maxLen) (hk : KeysAt w) :
    Calls Tryd.prog 74 #[.string s] w fun e w' => e = .returned (.bool (nameB s)) ∧ w' = w := by
  have HN : Hid (nameB s = (localB s.data.toList && !inB kw s)) := rfl
  have IK := isKey_any s w hk
  have IW := isWord_any s w hs
  generalize nameB s = nb at *
  generalize inB kw s = kb at *
  generalize localB s.data.toList = lb at *
  clear hk
  cases lb
  · go_enter Tryd.func74, Tryd.ntmps74
    go_wp2_with (first
      | (go_at_call 78; refine IW.mono ?_; rintro e w' ⟨rfl, rfl⟩))
    go_ret
    exact ⟨ret_bool (by rw [HN.out]; rfl), rfl⟩
  · go_enter Tryd.func74, Tryd.ntmps74
    go_wp2_with (first
      | (go_at_call 78; refine IW.mono ?_; rintro e w' ⟨rfl, rfl⟩)
      | (go_at_call 79; refine IK.mono ?_; rintro e w' ⟨rfl, rfl⟩))
    go_ret
    exact ⟨ret_bool (by rw [HN.out]; rfl), rfl⟩

set_option maxHeartbeats 1000000 in
theorem baseName_any (s : ByteArray) (w : World) (hs : s.size ≤ maxLen) :
    Calls Tryd.prog 77 #[.string s] w fun e w' => e = .returned (.bool (nameB s)) ∧ Below w.heap.size w w' := by
  have HN : Hid (nameB s = ((decide (s.size ≤ 24) && wordB s.data.toList) && !inB kw s)) := by
    show _ = _
    simp [nameB, localB]
  have hl : kw.length ≤ 1000000 := by rw [kw_len]; omega
  have KA := keys_any w
  have KC := kw_cells w
  have IN := in_any kw s w.heap.size 0 19 _ hl KC
  have IW := word_any s w hs
  clear KC
  generalize nameB s = nb at *
  generalize inB kw s = kb at *
  generalize wordB s.data.toList = lb at *
  generalize kw = L at *
  generalize kwV = V at *
  unfold maxLen at hs
  by_cases h24 : s.size ≤ 24
  · cases lb
    · go_enter Tryd.func77, Tryd.ntmps77
      go_wp2_with (first
        | (go_at_call 80; refine IW.mono ?_; rintro e w' ⟨rfl, rfl⟩))
      go_ret
      exact ⟨ret_bool (by rw [HN.out]; simp), Below.refl _ _⟩
    · go_enter Tryd.func77, Tryd.ntmps77
      go_wp2_with (first
        | (go_at_call 80; refine IW.mono ?_; rintro e w' ⟨rfl, rfl⟩)
        | (go_at_call 81; refine KA.mono ?_; rintro e w' ⟨rfl, rfl⟩)
        | (go_at_call 75; refine IN.mono ?_; rintro e w' ⟨rfl, rfl⟩))
      go_ret
      exact ⟨ret_bool (by rw [HN.out]; simp [h24]), (Below.refl _ _).alloc (Nat.le_refl _) _⟩
  · go_enter Tryd.func77, Tryd.ntmps77
    go_wp2
    go_ret
    exact ⟨ret_bool (by rw [HN.out]; simp [h24]), Below.refl _ _⟩

end Go.Proofs.YtbgeihgenckihaaDoor
