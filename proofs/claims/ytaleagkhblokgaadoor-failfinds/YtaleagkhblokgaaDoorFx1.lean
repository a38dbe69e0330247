/- Failures: the table of kinds, the words; isKind, isWord, isTextOf, isCrack. -/
import Derived.Test.YtaleagkhblokgaaDoorKey
namespace Go.Proofs.YtaleagkhblokgaaDoor
open Go.RowKit

/-- The operations' words. -/
def wd : List ByteArray := [⟨#[108, 105, 115, 116]⟩, ⟨#[97, 100, 100]⟩, ⟨#[115, 117, 98]⟩, ⟨#[109, 117, 108]⟩, ⟨#[106, 111, 105, 110]⟩, ⟨#[105, 116, 101, 109]⟩, ⟨#[115, 105, 122, 101]⟩, ⟨#[105, 102]⟩, ⟨#[102, 97, 105, 108]⟩, ⟨#[112, 97, 110, 105, 99]⟩]
def wdV : Array Value := (wd.map Value.string).toArray
theorem wd_len : wd.length = 10 := by decide
theorem wdV_at (k : Nat) (h : k < wd.length) : wdV[k]? = some (.string wd[k]) := by simp [wdV, h]
def WordsAt (w : World) : Prop := ∀ i, i < wd.length → w.cell? ⟨2, i, none⟩ = some (.string (wd.getD i ByteArray.empty))
theorem WordsAt.below {w w' : World} (h : WordsAt w) (hb : Below w.heap.size w w') : WordsAt w' := by
  intro i hi
  have := h i hi
  rw [hb.cell (p := ⟨2, i, none⟩) (block_lt_of_cell this)]; exact this
set_option maxHeartbeats 1000000 in
set_option maxRecDepth 100000 in
theorem fword_any (s : ByteArray) (w : World) (hk : WordsAt w) :
    Calls Tryd.prog 84 #[.string s] w fun e w' => e = .returned (.bool (inB wd s)) ∧ w' = w := by
  have hcs : ∀ j v, wdV.toList[j]? = some v → w.cell? ⟨2, j, none⟩ = some v := by
    intro j v hv
    have hj : j < wd.length := by
      by_cases h : j < wd.length
      · exact h
      · exfalso; rw [List.getElem?_eq_none (by simp [wdV]; omega)] at hv; cases hv
    rw [hk j hj]
    have := wdV_at j hj
    rw [← Array.getElem?_toList, hv] at this
    rw [this]; simp [hj]
  have hix : ∀ k (h : k < wd.length) (w' : World), (Instr.index 116 (.agg wdV) (.int .i64 k)).run Tryd.prog w' = .ok (.string wd[k]) w' := fun k h w' =>
    run_index_strs 116 9 10 wdV k wd[k] w' Tryd.underlying116 Tryd.underlying9 (by kernel_rfl) (by rw [wd_len] at h; exact h) (wdV_at k h)
  have hsz : (Tryd.prog.info? 116).map (·.size) = some wdV.size := by kernel_rfl
  have HCS : Hid (∀ j v, wdV.toList[j]? = some v → w.cell? ⟨2, j, none⟩ = some v) := hcs
  have HSZ : Hid ((Tryd.prog.info? 116).map (·.size) = some wdV.size) := hsz
  have hkl := wd_len
  generalize wdV = V at *
  generalize wd = L at *
  clear hcs hsz hk
  go_enter Tryd.func84, Tryd.ntmps84
  go_wp2_with (refine wpList_load_cells rfl 116 (.global 2) rfl 2 rfl V (.array 10 9) HCS.out Tryd.underlying116 rfl HSZ.out ?_)
  go_loop [6] (fun i => ∃ k : Nat, k ≤ L.length ∧ i = .int .i64 k ∧ Hid (inB L s = inB (L.drop k) s)) (fun i => L.length - (intOf i).toNat)
  case atStart => exact ⟨0, Nat.zero_le _, rfl, rfl⟩
  case round =>
    obtain ⟨k, hkl', rfl, HR⟩ := hrel
    by_cases hlt : k < L.length
    · have hi := hix k hlt
      cases ht : (s.toList == L[k].toList)
      · go_wp2
        go_round
        case rel => exact ⟨k + 1, by omega, by go_num, by show _ = _; rw [HR.out, inB_miss hlt (by rw [Bool.beq_comm]; exact ht)]⟩
        case measure => simp [intOf]; omega
      · go_wp2
        go_ret
        exact ⟨ret_bool (inB_hit hlt (by rw [Bool.beq_comm]; exact ht)).symm, rfl⟩
    · go_wp2
      go_ret
      exact ⟨ret_bool (by rw [HR.out, inB_end (by omega)]), rfl⟩
/-- A row of the table of kinds. -/
structure FRow where
  word : ByteArray
  text : Int
  least : Int
  most : Int
  op : ByteArray
  bt : ByteArray
  en : ByteArray
def frows : List FRow := [⟨⟨#[]⟩, 0, 0, 0, ⟨#[]⟩, ⟨#[]⟩, ⟨#[]⟩⟩, ⟨⟨#[102, 97, 105, 108]⟩, 1, 0, 0, ⟨#[]⟩, ⟨#[]⟩, ⟨#[]⟩⟩, ⟨⟨#[112, 97, 110, 105, 99]⟩, 1, 0, 0, ⟨#[]⟩, ⟨#[]⟩, ⟨#[]⟩⟩, ⟨⟨#[118, 97, 108, 117, 101]⟩, 2, 0, 0, ⟨#[]⟩, ⟨#[]⟩, ⟨#[]⟩⟩, ⟨⟨#[110, 111, 110, 101]⟩, 3, 0, 0, ⟨#[]⟩, ⟨#[]⟩, ⟨#[]⟩⟩, ⟨⟨#[99, 121, 99, 108, 101]⟩, 3, 0, 0, ⟨#[]⟩, ⟨#[]⟩, ⟨#[]⟩⟩, ⟨⟨#[100, 101, 112, 116, 104]⟩, 0, 0, 0, ⟨#[]⟩, ⟨#[]⟩, ⟨#[]⟩⟩, ⟨⟨#[99, 108, 111, 115, 101, 100]⟩, 0, 0, 0, ⟨#[]⟩, ⟨#[]⟩, ⟨#[]⟩⟩, ⟨⟨#[116, 111, 107, 101, 110]⟩, 1, 0, 1, ⟨#[58, 32]⟩, ⟨#[]⟩, ⟨#[]⟩⟩, ⟨⟨#[99, 101, 108, 108]⟩, 3, 1, 1, ⟨#[58, 32]⟩, ⟨#[]⟩, ⟨#[]⟩⟩, ⟨⟨#[106, 111, 105, 110]⟩, 0, 1, 1024, ⟨#[40]⟩, ⟨#[59, 32]⟩, ⟨#[41]⟩⟩, ⟨⟨#[108, 111, 110, 103]⟩, 0, 0, 0, ⟨#[]⟩, ⟨#[]⟩, ⟨#[]⟩⟩]
theorem frows_len : frows.length = 12 := by decide
def frC (r : FRow) : List Value := [.string r.word, .int .i64 r.text, .int .i64 r.least, .int .i64 r.most, .string r.op, .string r.bt, .string r.en]
def RowsAt (w : World) : Prop := ∀ k (h : k < frows.length) j, j < 7 → w.cell? ⟨0, k * 7 + j, none⟩ = (frC frows[k])[j]?
theorem RowsAt.below {w w' : World} (h : RowsAt w) (hb : Below w.heap.size w w') : RowsAt w' := by
  intro k hk j hj
  have h0 := h k hk j hj
  have : ∃ u, (frC frows[k])[j]? = some u := by
    rw [List.getElem?_eq_getElem (by simp [frC]; omega)]; exact ⟨_, rfl⟩
  obtain ⟨u, hu⟩ := this
  rw [hu] at h0 ⊢
  rw [hb.cell (p := ⟨0, k * 7 + j, none⟩) (block_lt_of_cell h0)]; exact h0
/-- All three variables. -/
structure FV (w : World) : Prop where
  keys : KeysAt w
  words : WordsAt w
  rows : RowsAt w
theorem FV.below {w w' : World} (h : FV w) (hb : Below w.heap.size w w') : FV w' := ⟨h.keys.below hb, h.words.below hb, h.rows.below hb⟩
/-- What the text of a crack may be, by the kind's word for it. -/
def txT (x : Int) (t : ByteArray) : Bool := if x = 1 then decide (t.size ≤ 4096) else if x = 2 then inB wd t else if x = 3 then nameB t else decide (t.size = 0)
def frow (k : Int) : FRow := frows.getD k.toNat ⟨ByteArray.empty, 0, 0, 0, ByteArray.empty, ByteArray.empty, ByteArray.empty⟩
/-- A crack. -/
structure Cr where
  kind : Int
  n : Int
  text : ByteArray
def isK (k : Int) : Bool := decide (1 ≤ k ∧ k ≤ 11)
def crB (c : Cr) : Bool := isK c.kind && decide ((frow c.kind).least ≤ c.n ∧ c.n ≤ (frow c.kind).most) && txT (frow c.kind).text c.text
set_option maxHeartbeats 1000000 in
theorem isKind_any (k : Int) (w : World) :
    Calls Tryd.prog 58 #[.int .i64 k] w fun e w' => e = .returned (.bool (isK k)) ∧ w' = w := by
  have HK : Hid (isK k = decide (1 ≤ k ∧ k ≤ 11)) := rfl
  generalize isK k = r at *
  by_cases h1 : 1 ≤ k
  · by_cases h2 : k ≤ 11
    · go_enter Tryd.func58, Tryd.ntmps58
      go_wp2
      go_ret
      exact ⟨ret_bool (by rw [HK.out]; simp [h1, h2]), rfl⟩
    · go_enter Tryd.func58, Tryd.ntmps58
      go_wp2
      go_ret
      exact ⟨ret_bool (by rw [HK.out]; simp [h2]), rfl⟩
  · go_enter Tryd.func58, Tryd.ntmps58
    go_wp2
    go_ret
    exact ⟨ret_bool (by rw [HK.out]; simp; omega), rfl⟩
theorem isK_iff (k : Int) : isK k = true ↔ 1 ≤ k ∧ k ≤ 11 := by unfold isK; simp
theorem row_cells {w : World} (h : RowsAt w) {k : Int} (hk : isK k = true) : ∃ m : Nat, k = (m : Int) ∧ m < 12 ∧ w.cell? ⟨0, m * 7, none⟩ = some (.string (frow k).word) ∧ w.cell? ⟨0, m * 7 + 1, none⟩ = some (.int .i64 (frow k).text) ∧ w.cell? ⟨0, m * 7 + 2, none⟩ = some (.int .i64 (frow k).least) ∧ w.cell? ⟨0, m * 7 + 3, none⟩ = some (.int .i64 (frow k).most) ∧ w.cell? ⟨0, m * 7 + 4, none⟩ = some (.string (frow k).op) ∧ w.cell? ⟨0, m * 7 + 5, none⟩ = some (.string (frow k).bt) ∧ w.cell? ⟨0, m * 7 + 6, none⟩ = some (.string (frow k).en) := by
  rw [isK_iff] at hk
  have hm : k.toNat < frows.length := by rw [frows_len]; omega
  have e : frow k = frows[k.toNat] := by unfold frow; rw [List.getD_eq_getElem?_getD, List.getElem?_eq_getElem hm]; rfl
  refine ⟨k.toNat, by omega, by omega, ?_⟩
  rw [e]
  exact ⟨h _ hm 0 (by omega), h _ hm 1 (by omega), h _ hm 2 (by omega), h _ hm 3 (by omega), h _ hm 4 (by omega), h _ hm 5 (by omega), h _ hm 6 (by omega)⟩
end Go.Proofs.YtaleagkhblokgaaDoor
