/- The walks of lex.IsKey and of its reference: both tell whether a text is one of the nineteen keywords. -/
import Derived.Test.YtkebflllbphkkaaDoorProg
import Derived.Test.YtkebflllbphkkaaDoorWord
import Derived.Test.YtkebflllbphkkaaDoorLaws
import Derived.WalkKit
import Derived.WalkSpells
import Derived.WalkLawsBesides
namespace Go.Proofs.YtkebflllbphkkaaDoor
open Go.RowKit

/-- Is a text among others? -/
def inB (l : List ByteArray) (s : ByteArray) : Bool := l.any fun x => x.toList == s.toList
theorem inB_hit {l : List ByteArray} {s : ByteArray} {k : Nat} (hk : k < l.length) (h : (l[k].toList == s.toList) = true) : inB l s = true := by
  unfold inB; rw [List.any_eq_true]; exact ⟨l[k], List.getElem_mem hk, h⟩
theorem inB_miss {l : List ByteArray} {s : ByteArray} {k : Nat} (hk : k < l.length) (h : (l[k].toList == s.toList) = false) : inB (l.drop k) s = inB (l.drop (k + 1)) s := by
  unfold inB; rw [List.drop_eq_getElem_cons hk, List.any_cons, h, Bool.false_or]
theorem inB_end {l : List ByteArray} {s : ByteArray} {k : Nat} (hk : l.length ≤ k) : inB (l.drop k) s = false := by
  unfold inB; rw [List.drop_eq_nil_iff.2 hk]; rfl

/-- The nineteen keywords. -/
def kw : List ByteArray := [⟨#[99, 101, 108, 108]⟩, ⟨#[97, 103, 97, 105, 110]⟩, ⟨#[116, 114, 105, 101, 115]⟩, ⟨#[98, 97, 115, 101]⟩, ⟨#[102, 97, 99, 116, 111, 114]⟩, ⟨#[99, 97, 112]⟩, ⟨#[99, 108, 111, 115, 101]⟩, ⟨#[102, 105, 110, 101]⟩, ⟨#[102, 97, 105, 108]⟩, ⟨#[112, 97, 110, 105, 99]⟩, ⟨#[105, 102]⟩, ⟨#[116, 104, 101, 110]⟩, ⟨#[101, 108, 115, 101]⟩, ⟨#[116, 114, 121]⟩, ⟨#[119, 97, 105, 116]⟩, ⟨#[108, 101, 116]⟩, ⟨#[105, 110]⟩, ⟨#[105, 116, 101, 109]⟩, ⟨#[115, 105, 122, 101]⟩]
def kwV : Array Value := (kw.map Value.string).toArray
theorem kw_len : kw.length = 19 := by decide
theorem kwV_at (k : Nat) (h : k < kw.length) : kwV[k]? = some (.string kw[k]) := by simp [kwV, h]

/-- The keywords lie in the memory of the package's variable. -/
def KeysAt (w : World) : Prop := ∀ i, i < kw.length → w.cell? ⟨2, i, none⟩ = some (.string (kw.getD i ByteArray.empty))

theorem KeysAt.below {w w' : World} (h : KeysAt w) (hb : Below w.heap.size w w') : KeysAt w' := by
  intro i hi
  have := h i hi
  rw [hb.cell (p := ⟨2, i, none⟩) (block_lt_of_cell this)]; exact this
theorem KeysAt.alloc {w : World} (h : KeysAt w) (o : Obj) : KeysAt (w.alloc o) := h.below ((Below.refl _ _).alloc (Nat.le_refl _) _)

set_option maxHeartbeats 1000000 in
set_option maxRecDepth 100000 in
theorem isKey_any (s : ByteArray) (w : World) (hk : KeysAt w) :
    Calls Tryd.prog 83 #[.string s] w fun e w' => e = .returned (.bool (inB kw s)) ∧ w' = w := by
  have hcs : ∀ j v, kwV.toList[j]? = some v → w.cell? ⟨2, j, none⟩ = some v := by
    intro j v hv
    have hj : j < kw.length := by
      by_cases h : j < kw.length
      · exact h
      · exfalso; rw [List.getElem?_eq_none (by simp [kwV]; omega)] at hv; cases hv
    rw [hk j hj]
    have := kwV_at j hj
    rw [← Array.getElem?_toList, hv] at this
    rw [this]; simp [hj]
  have hix : ∀ k (h : k < kw.length) (w' : World), (Instr.index 132 (.agg kwV) (.int .i64 k)).run Tryd.prog w' = .ok (.string kw[k]) w' := fun k h w' =>
    run_index_strs 132 9 19 kwV k kw[k] w' Tryd.underlying132 Tryd.underlying9 (by kernel_rfl) (by rw [kw_len] at h; exact h) (kwV_at k h)
  have hsz : (Tryd.prog.info? 132).map (·.size) = some kwV.size := by kernel_rfl
  have HCS : Hid (∀ j v, kwV.toList[j]? = some v → w.cell? ⟨2, j, none⟩ = some v) := hcs
  have HSZ : Hid ((Tryd.prog.info? 132).map (·.size) = some kwV.size) := hsz
  have hkl := kw_len
  generalize kwV = V at *
  generalize kw = L at *
  clear hcs hsz hk
  go_enter Tryd.func83, Tryd.ntmps83
  go_wp2_with (refine wpList_load_cells rfl 132 (.global 2) rfl 2 rfl V (.array 19 9) HCS.out Tryd.underlying132 rfl HSZ.out ?_)
  go_loop [6] (fun i => ∃ k : Nat, k ≤ L.length ∧ i = .int .i64 k ∧ Hid (inB L s = inB (L.drop k) s)) (fun i => L.length - (intOf i).toNat)
  case atStart => exact ⟨0, Nat.zero_le _, rfl, rfl⟩
  case round =>
    obtain ⟨k, hkl', rfl, HR⟩ := hrel
    by_cases hlt : k < L.length
    · have hi := hix k hlt
      cases ht : (s.toList == L[k].toList)
      · go_wp2
        go_round
        case rel => exact ⟨k + 1, by omega, by go_num, by show _ = _; rw [HR.out, inB_miss hlt (by rw [Bool.beq_comm]; exact ht)]⟩
        case measure => simp [intOf]; omega
      · go_wp2
        go_ret
        exact ⟨ret_bool (inB_hit hlt (by rw [Bool.beq_comm]; exact ht)).symm, rfl⟩
    · go_wp2
      go_ret
      exact ⟨ret_bool (by rw [HR.out, inB_end (by omega)]), rfl⟩

/-- A name: a word of at most MaxName bytes that is no keyword. -/
def nameB (s : ByteArray) : Bool := localB s.data.toList && !inB kw s

set_option maxHeartbeats 1000000 in
theorem isName_any (s : ByteArray) (w : World) (hs : s.size ≤ maxLen) (hk : KeysAt w) :
    Calls Tryd.prog 80 #[.string s] w fun e w' => e = .returned (.bool (nameB s)) ∧ w' = w := by
  have HN : Hid (nameB s = (localB s.data.toList && !inB kw s)) := rfl
  have IK := isKey_any s w hk
  have IW := isWord_any s w hs
  generalize nameB s = nb at *
  generalize inB kw s = kb at *
  generalize localB s.data.toList = lb at *
  clear hk
  cases lb
  · go_enter Tryd.func80, Tryd.ntmps80
    go_wp2_with (first
      | (go_at_call 82; refine IW.mono ?_; rintro e w' ⟨rfl, rfl⟩))
    go_ret
    exact ⟨ret_bool (by rw [HN.out]; rfl), rfl⟩
  · go_enter Tryd.func80, Tryd.ntmps80
    go_wp2_with (first
      | (go_at_call 82; refine IW.mono ?_; rintro e w' ⟨rfl, rfl⟩)
      | (go_at_call 83; refine IK.mono ?_; rintro e w' ⟨rfl, rfl⟩))
    go_ret
    exact ⟨ret_bool (by rw [HN.out]; rfl), rfl⟩

end Go.Proofs.YtkebflllbphkkaaDoor
