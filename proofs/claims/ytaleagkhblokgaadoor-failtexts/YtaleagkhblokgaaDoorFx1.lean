/- Failures: the table of kinds, the words; isKind, isWord, isTextOf, isCrack. -/
import Derived.Test.YtaleagkhblokgaaDoorProg
import Derived.Test.YtaleagkhblokgaaDoorLaws
import Derived.WalkKit
import Derived.WalkSpells
import Derived.WalkLawsBesides
namespace Go.Proofs.YtaleagkhblokgaaDoor
open Go.RowKit

/-- Is a text among others? -/
def inB (l : List ByteArray) (s : ByteArray) : Bool := l.any fun x => x.toList == s.toList
theorem inB_hit {l : List ByteArray} {s : ByteArray} {k : Nat} (hk : k < l.length) (h : (l[k].toList == s.toList) = true) : inB l s = true := by
  unfold inB; rw [List.any_eq_true]; exact ⟨l[k], List.getElem_mem hk, h⟩
theorem inB_miss {l : List ByteArray} {s : ByteArray} {k : Nat} (hk : k < l.length) (h : (l[k].toList == s.toList) = false) : inB (l.drop k) s = inB (l.drop (k + 1)) s := by
  unfold inB; rw [List.drop_eq_getElem_cons hk, List.any_cons, h, Bool.false_or]
theorem inB_end {l : List ByteArray} {s : ByteArray} {k : Nat} (hk : l.length ≤ k) : inB (l.drop k) s = false := by
  unfold inB; rw [List.drop_eq_nil_iff.2 hk]; rfl

set_option maxHeartbeats 1000000 in
theorem in_any (l : List ByteArray) (s : ByteArray) (b o c : Nat) (w : World) (hl : l.length ≤ 1000000) (hk : ∀ i, i < l.length → w.cell? ⟨b, o + i, none⟩ = some (.string (l.getD i ByteArray.empty))) :
    Calls Tryd.prog 73 #[.slice (some ⟨b, o, none⟩) l.length c, .string s] w fun e w' => e = .returned (.bool (inB l s)) ∧ w' = w := by
  go_enter Tryd.func73, Tryd.ntmps73
  go_wp2
  go_loop [5] (fun i => ∃ k : Nat, k ≤ l.length ∧ i = .int .i64 k ∧ Hid (inB l s = inB (l.drop k) s)) (fun i => l.length - (intOf i).toNat)
  case atStart => exact ⟨0, Nat.zero_le _, rfl, rfl⟩
  case round =>
    obtain ⟨k, hkl, rfl, HR⟩ := hrel
    by_cases hlt : k < l.length
    · have hc := hk k hlt
      cases ht : (l[k].toList == s.toList)
      · go_wp2
        go_round
        case rel => exact ⟨k + 1, by omega, by go_num, by show _ = _; rw [HR.out, inB_miss hlt ht]⟩
        case measure => simp [intOf]; omega
      · go_wp2
        go_ret
        exact ⟨ret_bool (inB_hit hlt ht).symm, rfl⟩
    · go_wp2
      go_ret
      exact ⟨ret_bool (by rw [HR.out, inB_end (by omega)]), rfl⟩

/-- The nineteen keywords. -/
def kw : List ByteArray := [⟨#[99, 101, 108, 108]⟩, ⟨#[97, 103, 97, 105, 110]⟩, ⟨#[116, 114, 105, 101, 115]⟩, ⟨#[98, 97, 115, 101]⟩, ⟨#[102, 97, 99, 116, 111, 114]⟩, ⟨#[99, 97, 112]⟩, ⟨#[99, 108, 111, 115, 101]⟩, ⟨#[102, 105, 110, 101]⟩, ⟨#[102, 97, 105, 108]⟩, ⟨#[112, 97, 110, 105, 99]⟩, ⟨#[105, 102]⟩, ⟨#[116, 104, 101, 110]⟩, ⟨#[101, 108, 115, 101]⟩, ⟨#[116, 114, 121]⟩, ⟨#[119, 97, 105, 116]⟩, ⟨#[108, 101, 116]⟩, ⟨#[105, 110]⟩, ⟨#[105, 116, 101, 109]⟩, ⟨#[115, 105, 122, 101]⟩]
def kwV : Array Value := (kw.map Value.string).toArray
theorem kw_len : kw.length = 19 := by decide
theorem kwV_at (k : Nat) (h : k < kw.length) : kwV[k]? = some (.string kw[k]) := by simp [kwV, h]

/-- The keywords lie in the memory of the package's variable. -/
def KeysAt (w : World) : Prop := ∀ i, i < kw.length → w.cell? ⟨1, i, none⟩ = some (.string (kw.getD i ByteArray.empty))

theorem KeysAt.below {w w' : World} (h : KeysAt w) (hb : Below w.heap.size w w') : KeysAt w' := by
  intro i hi
  have := h i hi
  rw [hb.cell (p := ⟨1, i, none⟩) (block_lt_of_cell this)]; exact this
theorem KeysAt.alloc {w : World} (h : KeysAt w) (o : Obj) : KeysAt (w.alloc o) := h.below ((Below.refl _ _).alloc (Nat.le_refl _) _)

set_option maxHeartbeats 1000000 in
set_option maxRecDepth 100000 in
theorem isKey_any (s : ByteArray) (w : World) (hk : KeysAt w) :
    Calls Tryd.prog 72 #[.string s] w fun e w' => e = .returned (.bool (inB kw s)) ∧ w' = w := by
  have hcs : ∀ j v, kwV.toList[j]? = some v → w.cell? ⟨1, j, none⟩ = some v := by
    intro j v hv
    have hj : j < kw.length := by
      by_cases h : j < kw.length
      · exact h
      · exfalso; rw [List.getElem?_eq_none (by simp [kwV]; omega)] at hv; cases hv
    rw [hk j hj]
    have := kwV_at j hj
    rw [← Array.getElem?_toList, hv] at this
    rw [this]; simp [hj]
  have hix : ∀ k (h : k < kw.length) (w' : World), (Instr.index 111 (.agg kwV) (.int .i64 k)).run Tryd.prog w' = .ok (.string kw[k]) w' := fun k h w' =>
    run_index_strs 111 9 19 kwV k kw[k] w' Tryd.underlying111 Tryd.underlying9 (by kernel_rfl) (by rw [kw_len] at h; exact h) (kwV_at k h)
  have hsz : (Tryd.prog.info? 111).map (·.size) = some kwV.size := by kernel_rfl
  have HCS : Hid (∀ j v, kwV.toList[j]? = some v → w.cell? ⟨1, j, none⟩ = some v) := hcs
  have HSZ : Hid ((Tryd.prog.info? 111).map (·.size) = some kwV.size) := hsz
  have hkl := kw_len
  generalize kwV = V at *
  generalize kw = L at *
  clear hcs hsz hk
  go_enter Tryd.func72, Tryd.ntmps72
  go_wp2_with (refine wpList_load_cells rfl 111 (.global 1) rfl 1 rfl V (.array 19 9) HCS.out Tryd.underlying111 rfl HSZ.out ?_)
  go_loop [6] (fun i => ∃ k : Nat, k ≤ L.length ∧ i = .int .i64 k ∧ Hid (inB L s = inB (L.drop k) s)) (fun i => L.length - (intOf i).toNat)
  case atStart => exact ⟨0, Nat.zero_le _, rfl, rfl⟩
  case round =>
    obtain ⟨k, hkl', rfl, HR⟩ := hrel
    by_cases hlt : k < L.length
    · have hi := hix k hlt
      cases ht : (s.toList == L[k].toList)
      · go_wp2
        go_round
        case rel => exact ⟨k + 1, by omega, by go_num, by show _ = _; rw [HR.out, inB_miss hlt (by rw [Bool.beq_comm]; exact ht)]⟩
        case measure => simp [intOf]; omega
      · go_wp2
        go_ret
        exact ⟨ret_bool (inB_hit hlt (by rw [Bool.beq_comm]; exact ht)).symm, rfl⟩
    · go_wp2
      go_ret
      exact ⟨ret_bool (by rw [HR.out, inB_end (by omega)]), rfl⟩

set_option maxHeartbeats 1000000 in
theorem keys_any (w : World) :
    Calls Tryd.prog 87 #[] w fun e w' => e = .returned (.slice (some ⟨w.heap.size, 0, none⟩) kw.length 19) ∧ w' = w.alloc (.cells kwV 9) := by
  go_enter Tryd.func87, Tryd.ntmps87
  go_wp2
  go_ret
  exact ⟨rfl, rfl⟩
theorem kw_cells (w : World) : ∀ i, i < kw.length → (w.alloc (.cells kwV 9)).cell? ⟨w.heap.size, 0 + i, none⟩ = some (.string (kw.getD i ByteArray.empty)) := by
  intro i hi
  rw [cell_of_row _ _ _ _ _ _ (heap_alloc_new w _), Nat.zero_add, kwV_at i hi]; simp [hi]

/-- A name: a word of at most MaxName bytes that is no keyword. -/
def nameB (s : ByteArray) : Bool := localB s.data.toList && !inB kw s

set_option maxHeartbeats 1000000 in
theorem isName_any (s : ByteArray) (w : World) (hs : s.size ≤ maxLen) (hk : KeysAt w) :
    Calls Tryd.prog 53 #[.string s] w fun e w' => e = .returned (.bool (nameB s)) ∧ w' = w := by
  have HN : Hid (nameB s = (localB s.data.toList && !inB kw s)) := rfl
  have IK := isKey_any s w hk
  have IW := isWord_any s w hs
  generalize nameB s = nb at *
  generalize inB kw s = kb at *
  generalize localB s.data.toList = lb at *
  clear hk
  cases lb
  · go_enter Tryd.func53, Tryd.ntmps53
    go_wp2_with (first
      | (go_at_call 71; refine IW.mono ?_; rintro e w' ⟨rfl, rfl⟩))
    go_ret
    exact ⟨ret_bool (by rw [HN.out]; rfl), rfl⟩
  · go_enter Tryd.func53, Tryd.ntmps53
    go_wp2_with (first
      | (go_at_call 71; refine IW.mono ?_; rintro e w' ⟨rfl, rfl⟩)
      | (go_at_call 72; refine IK.mono ?_; rintro e w' ⟨rfl, rfl⟩))
    go_ret
    exact ⟨ret_bool (by rw [HN.out]; rfl), rfl⟩

set_option maxHeartbeats 1000000 in
theorem baseName_any (s : ByteArray) (w : World) (hs : s.size ≤ maxLen) :
    Calls Tryd.prog 75 #[.string s] w fun e w' => e = .returned (.bool (nameB s)) ∧ Below w.heap.size w w' := by
  have HN : Hid (nameB s = ((decide (s.size ≤ 24) && wordB s.data.toList) && !inB kw s)) := by
    show _ = _
    simp [nameB, localB]
  have hl : kw.length ≤ 1000000 := by rw [kw_len]; omega
  have KA := keys_any w
  have KC := kw_cells w
  have IN := in_any kw s w.heap.size 0 19 _ hl KC
  have IW := word_any s w hs
  clear KC
  generalize nameB s = nb at *
  generalize inB kw s = kb at *
  generalize wordB s.data.toList = lb at *
  generalize kw = L at *
  generalize kwV = V at *
  unfold maxLen at hs
  by_cases h24 : s.size ≤ 24
  · cases lb
    · go_enter Tryd.func75, Tryd.ntmps75
      go_wp2_with (first
        | (go_at_call 86; refine IW.mono ?_; rintro e w' ⟨rfl, rfl⟩))
      go_ret
      exact ⟨ret_bool (by rw [HN.out]; simp), Below.refl _ _⟩
    · go_enter Tryd.func75, Tryd.ntmps75
      go_wp2_with (first
        | (go_at_call 86; refine IW.mono ?_; rintro e w' ⟨rfl, rfl⟩)
        | (go_at_call 87; refine KA.mono ?_; rintro e w' ⟨rfl, rfl⟩)
        | (go_at_call 73; refine IN.mono ?_; rintro e w' ⟨rfl, rfl⟩))
      go_ret
      exact ⟨ret_bool (by rw [HN.out]; simp [h24]), (Below.refl _ _).alloc (Nat.le_refl _) _⟩
  · go_enter Tryd.func75, Tryd.ntmps75
    go_wp2
    go_ret
    exact ⟨ret_bool (by rw [HN.out]; simp [h24]), Below.refl _ _⟩

end Go.Proofs.YtaleagkhblokgaaDoor
namespace Go.Proofs.YtaleagkhblokgaaDoor
open Go.RowKit

/-- The operations' words. -/
def wd : List ByteArray := [⟨#[108, 105, 115, 116]⟩, ⟨#[97, 100, 100]⟩, ⟨#[115, 117, 98]⟩, ⟨#[109, 117, 108]⟩, ⟨#[106, 111, 105, 110]⟩, ⟨#[105, 116, 101, 109]⟩, ⟨#[115, 105, 122, 101]⟩, ⟨#[105, 102]⟩, ⟨#[102, 97, 105, 108]⟩, ⟨#[112, 97, 110, 105, 99]⟩]
def wdV : Array Value := (wd.map Value.string).toArray
theorem wd_len : wd.length = 10 := by decide
theorem wdV_at (k : Nat) (h : k < wd.length) : wdV[k]? = some (.string wd[k]) := by simp [wdV, h]
def WordsAt (w : World) : Prop := ∀ i, i < wd.length → w.cell? ⟨2, i, none⟩ = some (.string (wd.getD i ByteArray.empty))
theorem WordsAt.below {w w' : World} (h : WordsAt w) (hb : Below w.heap.size w w') : WordsAt w' := by
  intro i hi
  have := h i hi
  rw [hb.cell (p := ⟨2, i, none⟩) (block_lt_of_cell this)]; exact this
set_option maxHeartbeats 1000000 in
set_option maxRecDepth 100000 in
theorem fword_any (s : ByteArray) (w : World) (hk : WordsAt w) :
    Calls Tryd.prog 84 #[.string s] w fun e w' => e = .returned (.bool (inB wd s)) ∧ w' = w := by
  have hcs : ∀ j v, wdV.toList[j]? = some v → w.cell? ⟨2, j, none⟩ = some v := by
    intro j v hv
    have hj : j < wd.length := by
      by_cases h : j < wd.length
      · exact h
      · exfalso; rw [List.getElem?_eq_none (by simp [wdV]; omega)] at hv; cases hv
    rw [hk j hj]
    have := wdV_at j hj
    rw [← Array.getElem?_toList, hv] at this
    rw [this]; simp [hj]
  have hix : ∀ k (h : k < wd.length) (w' : World), (Instr.index 116 (.agg wdV) (.int .i64 k)).run Tryd.prog w' = .ok (.string wd[k]) w' := fun k h w' =>
    run_index_strs 116 9 10 wdV k wd[k] w' Tryd.underlying116 Tryd.underlying9 (by kernel_rfl) (by rw [wd_len] at h; exact h) (wdV_at k h)
  have hsz : (Tryd.prog.info? 116).map (·.size) = some wdV.size := by kernel_rfl
  have HCS : Hid (∀ j v, wdV.toList[j]? = some v → w.cell? ⟨2, j, none⟩ = some v) := hcs
  have HSZ : Hid ((Tryd.prog.info? 116).map (·.size) = some wdV.size) := hsz
  have hkl := wd_len
  generalize wdV = V at *
  generalize wd = L at *
  clear hcs hsz hk
  go_enter Tryd.func84, Tryd.ntmps84
  go_wp2_with (refine wpList_load_cells rfl 116 (.global 2) rfl 2 rfl V (.array 10 9) HCS.out Tryd.underlying116 rfl HSZ.out ?_)
  go_loop [6] (fun i => ∃ k : Nat, k ≤ L.length ∧ i = .int .i64 k ∧ Hid (inB L s = inB (L.drop k) s)) (fun i => L.length - (intOf i).toNat)
  case atStart => exact ⟨0, Nat.zero_le _, rfl, rfl⟩
  case round =>
    obtain ⟨k, hkl', rfl, HR⟩ := hrel
    by_cases hlt : k < L.length
    · have hi := hix k hlt
      cases ht : (s.toList == L[k].toList)
      · go_wp2
        go_round
        case rel => exact ⟨k + 1, by omega, by go_num, by show _ = _; rw [HR.out, inB_miss hlt (by rw [Bool.beq_comm]; exact ht)]⟩
        case measure => simp [intOf]; omega
      · go_wp2
        go_ret
        exact ⟨ret_bool (inB_hit hlt (by rw [Bool.beq_comm]; exact ht)).symm, rfl⟩
    · go_wp2
      go_ret
      exact ⟨ret_bool (by rw [HR.out, inB_end (by omega)]), rfl⟩
/-- A row of the table of kinds. -/
structure FRow where
  word : ByteArray
  text : Int
  least : Int
  most : Int
  op : ByteArray
  bt : ByteArray
  en : ByteArray
def frows : List FRow := [⟨⟨#[]⟩, 0, 0, 0, ⟨#[]⟩, ⟨#[]⟩, ⟨#[]⟩⟩, ⟨⟨#[102, 97, 105, 108]⟩, 1, 0, 0, ⟨#[]⟩, ⟨#[]⟩, ⟨#[]⟩⟩, ⟨⟨#[112, 97, 110, 105, 99]⟩, 1, 0, 0, ⟨#[]⟩, ⟨#[]⟩, ⟨#[]⟩⟩, ⟨⟨#[118, 97, 108, 117, 101]⟩, 2, 0, 0, ⟨#[]⟩, ⟨#[]⟩, ⟨#[]⟩⟩, ⟨⟨#[110, 111, 110, 101]⟩, 3, 0, 0, ⟨#[]⟩, ⟨#[]⟩, ⟨#[]⟩⟩, ⟨⟨#[99, 121, 99, 108, 101]⟩, 3, 0, 0, ⟨#[]⟩, ⟨#[]⟩, ⟨#[]⟩⟩, ⟨⟨#[100, 101, 112, 116, 104]⟩, 0, 0, 0, ⟨#[]⟩, ⟨#[]⟩, ⟨#[]⟩⟩, ⟨⟨#[99, 108, 111, 115, 101, 100]⟩, 0, 0, 0, ⟨#[]⟩, ⟨#[]⟩, ⟨#[]⟩⟩, ⟨⟨#[116, 111, 107, 101, 110]⟩, 1, 0, 1, ⟨#[58, 32]⟩, ⟨#[]⟩, ⟨#[]⟩⟩, ⟨⟨#[99, 101, 108, 108]⟩, 3, 1, 1, ⟨#[58, 32]⟩, ⟨#[]⟩, ⟨#[]⟩⟩, ⟨⟨#[106, 111, 105, 110]⟩, 0, 1, 1024, ⟨#[40]⟩, ⟨#[59, 32]⟩, ⟨#[41]⟩⟩, ⟨⟨#[108, 111, 110, 103]⟩, 0, 0, 0, ⟨#[]⟩, ⟨#[]⟩, ⟨#[]⟩⟩]
theorem frows_len : frows.length = 12 := by decide
def frC (r : FRow) : List Value := [.string r.word, .int .i64 r.text, .int .i64 r.least, .int .i64 r.most, .string r.op, .string r.bt, .string r.en]
def RowsAt (w : World) : Prop := ∀ k (h : k < frows.length) j, j < 7 → w.cell? ⟨0, k * 7 + j, none⟩ = (frC frows[k])[j]?
theorem RowsAt.below {w w' : World} (h : RowsAt w) (hb : Below w.heap.size w w') : RowsAt w' := by
  intro k hk j hj
  have h0 := h k hk j hj
  have : ∃ u, (frC frows[k])[j]? = some u := by
    rw [List.getElem?_eq_getElem (by simp [frC]; omega)]; exact ⟨_, rfl⟩
  obtain ⟨u, hu⟩ := this
  rw [hu] at h0 ⊢
  rw [hb.cell (p := ⟨0, k * 7 + j, none⟩) (block_lt_of_cell h0)]; exact h0
/-- All three variables. -/
structure FV (w : World) : Prop where
  keys : KeysAt w
  words : WordsAt w
  rows : RowsAt w
theorem FV.below {w w' : World} (h : FV w) (hb : Below w.heap.size w w') : FV w' := ⟨h.keys.below hb, h.words.below hb, h.rows.below hb⟩
/-- What the text of a crack may be, by the kind's word for it. -/
def txT (x : Int) (t : ByteArray) : Bool := if x = 1 then decide (t.size ≤ 4096) else if x = 2 then inB wd t else if x = 3 then nameB t else decide (t.size = 0)
def frow (k : Int) : FRow := frows.getD k.toNat ⟨ByteArray.empty, 0, 0, 0, ByteArray.empty, ByteArray.empty, ByteArray.empty⟩
/-- A crack. -/
structure Cr where
  kind : Int
  n : Int
  text : ByteArray
def isK (k : Int) : Bool := decide (1 ≤ k ∧ k ≤ 11)
def crB (c : Cr) : Bool := isK c.kind && decide ((frow c.kind).least ≤ c.n ∧ c.n ≤ (frow c.kind).most) && txT (frow c.kind).text c.text
set_option maxHeartbeats 1000000 in
theorem isKind_any (k : Int) (w : World) :
    Calls Tryd.prog 58 #[.int .i64 k] w fun e w' => e = .returned (.bool (isK k)) ∧ w' = w := by
  have HK : Hid (isK k = decide (1 ≤ k ∧ k ≤ 11)) := rfl
  generalize isK k = r at *
  by_cases h1 : 1 ≤ k
  · by_cases h2 : k ≤ 11
    · go_enter Tryd.func58, Tryd.ntmps58
      go_wp2
      go_ret
      exact ⟨ret_bool (by rw [HK.out]; simp [h1, h2]), rfl⟩
    · go_enter Tryd.func58, Tryd.ntmps58
      go_wp2
      go_ret
      exact ⟨ret_bool (by rw [HK.out]; simp [h2]), rfl⟩
  · go_enter Tryd.func58, Tryd.ntmps58
    go_wp2
    go_ret
    exact ⟨ret_bool (by rw [HK.out]; simp; omega), rfl⟩
theorem isK_iff (k : Int) : isK k = true ↔ 1 ≤ k ∧ k ≤ 11 := by unfold isK; simp
theorem row_cells {w : World} (h : RowsAt w) {k : Int} (hk : isK k = true) : ∃ m : Nat, k = (m : Int) ∧ m < 12 ∧ w.cell? ⟨0, m * 7, none⟩ = some (.string (frow k).word) ∧ w.cell? ⟨0, m * 7 + 1, none⟩ = some (.int .i64 (frow k).text) ∧ w.cell? ⟨0, m * 7 + 2, none⟩ = some (.int .i64 (frow k).least) ∧ w.cell? ⟨0, m * 7 + 3, none⟩ = some (.int .i64 (frow k).most) ∧ w.cell? ⟨0, m * 7 + 4, none⟩ = some (.string (frow k).op) ∧ w.cell? ⟨0, m * 7 + 5, none⟩ = some (.string (frow k).bt) ∧ w.cell? ⟨0, m * 7 + 6, none⟩ = some (.string (frow k).en) := by
  rw [isK_iff] at hk
  have hm : k.toNat < frows.length := by rw [frows_len]; omega
  have e : frow k = frows[k.toNat] := by unfold frow; rw [List.getD_eq_getElem?_getD, List.getElem?_eq_getElem hm]; rfl
  refine ⟨k.toNat, by omega, by omega, ?_⟩
  rw [e]
  exact ⟨h _ hm 0 (by omega), h _ hm 1 (by omega), h _ hm 2 (by omega), h _ hm 3 (by omega), h _ hm 4 (by omega), h _ hm 5 (by omega), h _ hm 6 (by omega)⟩
end Go.Proofs.YtaleagkhblokgaaDoor
