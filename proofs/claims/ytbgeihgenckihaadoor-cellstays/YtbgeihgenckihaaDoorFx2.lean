/- Failures: isTextOf, isCrack, Check. -/
import Derived.Test.YtbgeihgenckihaaDoorKey
namespace Go.Proofs.YtbgeihgenckihaaDoor
open Go.RowKit

/-- The operations' words. -/
def wd : List ByteArray := [⟨#[108, 105, 115, 116]⟩, ⟨#[97, 100, 100]⟩, ⟨#[115, 117, 98]⟩, ⟨#[109, 117, 108]⟩, ⟨#[106, 111, 105, 110]⟩, ⟨#[105, 116, 101, 109]⟩, ⟨#[115, 105, 122, 101]⟩, ⟨#[105, 102]⟩, ⟨#[102, 97, 105, 108]⟩, ⟨#[112, 97, 110, 105, 99]⟩]
def wdV : Array Value := (wd.map Value.string).toArray
theorem wd_len : wd.length = 10 := by decide
theorem wdV_at (k : Nat) (h : k < wd.length) : wdV[k]? = some (.string wd[k]) := by simp [wdV, h]
def WordsAt (w : World) : Prop := ∀ i, i < wd.length → w.cell? ⟨1, i, none⟩ = some (.string (wd.getD i ByteArray.empty))
theorem WordsAt.below {w w' : World} (h : WordsAt w) (hb : Below w.heap.size w w') : WordsAt w' := by
  intro i hi
  have := h i hi
  rw [hb.cell (p := ⟨1, i, none⟩) (block_lt_of_cell this)]; exact this
set_option maxHeartbeats 1000000 in
set_option maxRecDepth 100000 in
theorem fword_any (s : ByteArray) (w : World) (hk : WordsAt w) :
    Calls Tryd.prog 73 #[.string s] w fun e w' => e = .returned (.bool (inB wd s)) ∧ w' = w := by
  have hcs : ∀ j v, wdV.toList[j]? = some v → w.cell? ⟨1, j, none⟩ = some v := by
    intro j v hv
    have hj : j < wd.length := by
      by_cases h : j < wd.length
      · exact h
      · exfalso; rw [List.getElem?_eq_none (by simp [wdV]; omega)] at hv; cases hv
    rw [hk j hj]
    have := wdV_at j hj
    rw [← Array.getElem?_toList, hv] at this
    rw [this]; simp [hj]
  have hix : ∀ k (h : k < wd.length) (w' : World), (Instr.index 113 (.agg wdV) (.int .i64 k)).run Tryd.prog w' = .ok (.string wd[k]) w' := fun k h w' =>
    run_index_strs 113 9 10 wdV k wd[k] w' Tryd.underlying113 Tryd.underlying9 (by kernel_rfl) (by rw [wd_len] at h; exact h) (wdV_at k h)
  have hsz : (Tryd.prog.info? 113).map (·.size) = some wdV.size := by kernel_rfl
  have HCS : Hid (∀ j v, wdV.toList[j]? = some v → w.cell? ⟨1, j, none⟩ = some v) := hcs
  have HSZ : Hid ((Tryd.prog.info? 113).map (·.size) = some wdV.size) := hsz
  have hkl := wd_len
  generalize wdV = V at *
  generalize wd = L at *
  clear hcs hsz hk
  go_enter Tryd.func73, Tryd.ntmps73
  go_wp2_with (refine wpList_load_cells rfl 113 (.global 1) rfl 1 rfl V (.array 10 9) HCS.out Tryd.underlying113 rfl HSZ.out ?_)
  go_loop [6] (fun i => ∃ k : Nat, k ≤ L.length ∧ i = .int .i64 k ∧ Hid (inB L s = inB (L.drop k) s)) (fun i => L.length - (intOf i).toNat)
  case atStart => exact ⟨0, Nat.zero_le _, rfl, rfl⟩
  case round =>
    obtain ⟨k, hkl', rfl, HR⟩ := hrel
    by_cases hlt : k < L.length
    · have hi := hix k hlt
      cases ht : (s.toList == L[k].toList)
      · go_wp2
        go_round
        case rel => exact ⟨k + 1, by omega, by go_num, by show _ = _; rw [HR.out, inB_miss hlt (by rw [Bool.beq_comm]; exact ht)]⟩
        case measure => simp [intOf]; omega
      · go_wp2
        go_ret
        exact ⟨ret_bool (inB_hit hlt (by rw [Bool.beq_comm]; exact ht)).symm, rfl⟩
    · go_wp2
      go_ret
      exact ⟨ret_bool (by rw [HR.out, inB_end (by omega)]), rfl⟩
/-- A row of the table of kinds. -/
structure FRow where
  word : ByteArray
  text : Int
  least : Int
  most : Int
  op : ByteArray
  bt : ByteArray
  en : ByteArray
def frows : List FRow := [⟨⟨#[]⟩, 0, 0, 0, ⟨#[]⟩, ⟨#[]⟩, ⟨#[]⟩⟩, ⟨⟨#[102, 97, 105, 108]⟩, 1, 0, 0, ⟨#[]⟩, ⟨#[]⟩, ⟨#[]⟩⟩, ⟨⟨#[112, 97, 110, 105, 99]⟩, 1, 0, 0, ⟨#[]⟩, ⟨#[]⟩, ⟨#[]⟩⟩, ⟨⟨#[118, 97, 108, 117, 101]⟩, 2, 0, 0, ⟨#[]⟩, ⟨#[]⟩, ⟨#[]⟩⟩, ⟨⟨#[110, 111, 110, 101]⟩, 3, 0, 0, ⟨#[]⟩, ⟨#[]⟩, ⟨#[]⟩⟩, ⟨⟨#[99, 121, 99, 108, 101]⟩, 3, 0, 0, ⟨#[]⟩, ⟨#[]⟩, ⟨#[]⟩⟩, ⟨⟨#[100, 101, 112, 116, 104]⟩, 0, 0, 0, ⟨#[]⟩, ⟨#[]⟩, ⟨#[]⟩⟩, ⟨⟨#[99, 108, 111, 115, 101, 100]⟩, 0, 0, 0, ⟨#[]⟩, ⟨#[]⟩, ⟨#[]⟩⟩, ⟨⟨#[116, 111, 107, 101, 110]⟩, 1, 0, 1, ⟨#[58, 32]⟩, ⟨#[]⟩, ⟨#[]⟩⟩, ⟨⟨#[99, 101, 108, 108]⟩, 3, 1, 1, ⟨#[58, 32]⟩, ⟨#[]⟩, ⟨#[]⟩⟩, ⟨⟨#[106, 111, 105, 110]⟩, 0, 1, 1024, ⟨#[40]⟩, ⟨#[59, 32]⟩, ⟨#[41]⟩⟩, ⟨⟨#[108, 111, 110, 103]⟩, 0, 0, 0, ⟨#[]⟩, ⟨#[]⟩, ⟨#[]⟩⟩]
theorem frows_len : frows.length = 12 := by decide
def frC (r : FRow) : List Value := [.string r.word, .int .i64 r.text, .int .i64 r.least, .int .i64 r.most, .string r.op, .string r.bt, .string r.en]
def RowsAt (w : World) : Prop := ∀ k (h : k < frows.length) j, j < 7 → w.cell? ⟨0, k * 7 + j, none⟩ = (frC frows[k])[j]?
theorem RowsAt.below {w w' : World} (h : RowsAt w) (hb : Below w.heap.size w w') : RowsAt w' := by
  intro k hk j hj
  have h0 := h k hk j hj
  have : ∃ u, (frC frows[k])[j]? = some u := by
    rw [List.getElem?_eq_getElem (by simp [frC]; omega)]; exact ⟨_, rfl⟩
  obtain ⟨u, hu⟩ := this
  rw [hu] at h0 ⊢
  rw [hb.cell (p := ⟨0, k * 7 + j, none⟩) (block_lt_of_cell h0)]; exact h0
/-- All three variables. -/
structure FV (w : World) : Prop where
  keys : KeysAt w
  words : WordsAt w
  rows : RowsAt w
theorem FV.below {w w' : World} (h : FV w) (hb : Below w.heap.size w w') : FV w' := ⟨h.keys.below hb, h.words.below hb, h.rows.below hb⟩
/-- What the text of a crack may be, by the kind's word for it. -/
def txT (x : Int) (t : ByteArray) : Bool := if x = 1 then decide (t.size ≤ 4096) else if x = 2 then inB wd t else if x = 3 then nameB t else decide (t.size = 0)
def frow (k : Int) : FRow := frows.getD k.toNat ⟨ByteArray.empty, 0, 0, 0, ByteArray.empty, ByteArray.empty, ByteArray.empty⟩
/-- A crack. -/
structure Cr where
  kind : Int
  n : Int
  text : ByteArray
def isK (k : Int) : Bool := decide (1 ≤ k ∧ k ≤ 11)
def crB (c : Cr) : Bool := isK c.kind && decide ((frow c.kind).least ≤ c.n ∧ c.n ≤ (frow c.kind).most) && txT (frow c.kind).text c.text
set_option maxHeartbeats 1000000 in
theorem isKind_any (k : Int) (w : World) :
    Calls Tryd.prog 68 #[.int .i64 k] w fun e w' => e = .returned (.bool (isK k)) ∧ w' = w := by
  have HK : Hid (isK k = decide (1 ≤ k ∧ k ≤ 11)) := rfl
  generalize isK k = r at *
  by_cases h1 : 1 ≤ k
  · by_cases h2 : k ≤ 11
    · go_enter Tryd.func68, Tryd.ntmps68
      go_wp2
      go_ret
      exact ⟨ret_bool (by rw [HK.out]; simp [h1, h2]), rfl⟩
    · go_enter Tryd.func68, Tryd.ntmps68
      go_wp2
      go_ret
      exact ⟨ret_bool (by rw [HK.out]; simp [h2]), rfl⟩
  · go_enter Tryd.func68, Tryd.ntmps68
    go_wp2
    go_ret
    exact ⟨ret_bool (by rw [HK.out]; simp; omega), rfl⟩
theorem isK_iff (k : Int) : isK k = true ↔ 1 ≤ k ∧ k ≤ 11 := by unfold isK; simp
theorem row_cells {w : World} (h : RowsAt w) {k : Int} (hk : isK k = true) : ∃ m : Nat, k = (m : Int) ∧ m < 12 ∧ w.cell? ⟨0, m * 7, none⟩ = some (.string (frow k).word) ∧ w.cell? ⟨0, m * 7 + 1, none⟩ = some (.int .i64 (frow k).text) ∧ w.cell? ⟨0, m * 7 + 2, none⟩ = some (.int .i64 (frow k).least) ∧ w.cell? ⟨0, m * 7 + 3, none⟩ = some (.int .i64 (frow k).most) ∧ w.cell? ⟨0, m * 7 + 4, none⟩ = some (.string (frow k).op) ∧ w.cell? ⟨0, m * 7 + 5, none⟩ = some (.string (frow k).bt) ∧ w.cell? ⟨0, m * 7 + 6, none⟩ = some (.string (frow k).en) := by
  rw [isK_iff] at hk
  have hm : k.toNat < frows.length := by rw [frows_len]; omega
  have e : frow k = frows[k.toNat] := by unfold frow; rw [List.getD_eq_getElem?_getD, List.getElem?_eq_getElem hm]; rfl
  refine ⟨k.toNat, by omega, by omega, ?_⟩
  rw [e]
  exact ⟨h _ hm 0 (by omega), h _ hm 1 (by omega), h _ hm 2 (by omega), h _ hm 3 (by omega), h _ hm 4 (by omega), h _ hm 5 (by omega), h _ hm 6 (by omega)⟩
end Go.Proofs.YtbgeihgenckihaaDoor
namespace Go.Proofs.YtbgeihgenckihaaDoor
open Go.RowKit

theorem frow_text (k : Int) (h : isK k = true) : (frow k).text = 0 ∨ (frow k).text = 1 ∨ (frow k).text = 2 ∨ (frow k).text = 3 := by
  rw [isK_iff] at h
  have hk : k = 1 ∨ k = 2 ∨ k = 3 ∨ k = 4 ∨ k = 5 ∨ k = 6 ∨ k = 7 ∨ k = 8 ∨ k = 9 ∨ k = 10 ∨ k = 11 := by omega
  rcases hk with rfl | rfl | rfl | rfl | rfl | rfl | rfl | rfl | rfl | rfl | rfl <;> decide
set_option maxHeartbeats 2000000 in
theorem isTextOf_any (k : Int) (t : ByteArray) (w : World) (hk : isK k = true) (ht : t.size ≤ maxLen) (hv : FV w) :
    Calls Tryd.prog 69 #[.int .i64 k, .string t] w fun e w' => e = .returned (.bool (txT (frow k).text t)) ∧ w' = w := by
  obtain ⟨m, hm, hm2, _, c1, _⟩ := row_cells hv.rows hk
  have hx := frow_text k hk
  have IW := fword_any t w hv.words
  have IN := isName_any t w ht hv.keys
  have HT : Hid (∀ x, txT x t = if x = 1 then decide (t.size ≤ 4096) else if x = 2 then inB wd t else if x = 3 then nameB t else decide (t.size = 0)) := fun x => rfl
  generalize (frow k).text = x at *
  subst hm
  unfold maxLen at ht
  clear hk hv
  rcases hx with rfl | rfl | rfl | rfl
  · by_cases hz : t.size = 0
    · have := bytes_nil hz
      subst this
      go_enter Tryd.func69, Tryd.ntmps69
      go_wp2
      go_ret
      exact ⟨ret_bool (by rw [HT.out]; rfl), rfl⟩
    · obtain ⟨z1, z2⟩ := bytes_ne (s := t) (by omega)
      go_enter Tryd.func69, Tryd.ntmps69
      go_wp2
      go_ret
      exact ⟨ret_bool (by rw [HT.out]; simp [hz]), rfl⟩
  · go_enter Tryd.func69, Tryd.ntmps69
    go_wp2
    go_ret
    exact ⟨ret_bool (by rw [HT.out, if_pos rfl]; exact decide_eq_decide.2 (by omega)), rfl⟩
  · go_enter Tryd.func69, Tryd.ntmps69
    go_wp2_with (go_at_call 73; refine IW.mono ?_; rintro e w' ⟨rfl, rfl⟩)
    go_ret
    exact ⟨ret_bool (by rw [HT.out]; simp), rfl⟩
  · go_enter Tryd.func69, Tryd.ntmps69
    go_wp2_with (go_at_call 74; refine IN.mono ?_; rintro e w' ⟨rfl, rfl⟩)
    go_ret
    exact ⟨ret_bool (by rw [HT.out]; simp), rfl⟩
set_option maxHeartbeats 4000000 in
set_option maxRecDepth 100000 in
theorem isCrack_any (c : Cr) (w : World) (ht : c.text.size ≤ maxLen) (hv : FV w) :
    Calls Tryd.prog 64 #[.agg #[.int .i64 c.kind, .int .i64 c.n, .string c.text]] w fun e w' => e = .returned (.bool (crB c)) ∧ Below w.heap.size w w' := by
  have HC : Hid (crB c = (isK c.kind && decide ((frow c.kind).least ≤ c.n ∧ c.n ≤ (frow c.kind).most) && txT (frow c.kind).text c.text)) := rfl
  have HV : Hid (FV w) := hv
  have IK := fun w' => isKind_any c.kind w'
  generalize crB c = r at *
  cases hk : isK c.kind with
  | false =>
    rw [hk] at IK
    clear hv
    go_enter Tryd.func64, Tryd.ntmps64
    go_wp2_with (go_at_call 68; refine (IK _).mono ?_; rintro e w' ⟨rfl, rfl⟩)
    go_ret
    exact ⟨ret_bool (by rw [HC.out, hk]; rfl), (Below.refl _ _).alloc (Nat.le_refl _) _⟩
  | true =>
    rw [hk] at IK
    have TX := fun w' (h : Below w.heap.size w w') => isTextOf_any c.kind c.text w' hk ht (hv.below h)
    obtain ⟨m, hm, hm2, q0, q1, q2, q3, q4, q5, q6⟩ := row_cells (hv.rows.below ((Below.refl _ _).alloc (Nat.le_refl _) (.cells #[.int .i64 c.kind, .int .i64 c.n, .string c.text] 79))) hk
    rw [hk] at HC
    generalize txT (frow c.kind).text c.text = tx at *
    generalize frow c.kind = R at *
    obtain ⟨ck, cn, ct⟩ := c
    simp only at *
    subst hm
    have FB : Hid (∀ o1 o2, Below w.heap.size w ((w.alloc o1).alloc o2)) := fun o1 o2 => ((Below.refl _ _).alloc (Nat.le_refl _) o1).alloc (by simp) o2
    clear hv hk
    by_cases h1 : R.least ≤ cn
    · by_cases h2 : cn ≤ R.most
      · go_enter Tryd.func64, Tryd.ntmps64
        go_wp2_with (first | (go_at_call 68; refine (IK _).mono ?_; rintro e w' ⟨rfl, rfl⟩) | (go_at_call 69; refine (TX _ (FB.out _ _)).mono ?_; rintro e w' ⟨rfl, rfl⟩))
        go_ret
        exact ⟨ret_bool (by rw [HC.out]; simp [h1, h2]), FB.out _ _⟩
      · go_enter Tryd.func64, Tryd.ntmps64
        go_wp2_with (first | (go_at_call 68; refine (IK _).mono ?_; rintro e w' ⟨rfl, rfl⟩) | (go_at_call 69; refine (TX _ (FB.out _ _)).mono ?_; rintro e w' ⟨rfl, rfl⟩))
        go_ret
        exact ⟨ret_bool (by rw [HC.out]; have e : decide (R.least ≤ cn ∧ cn ≤ R.most) = false := (by simp; omega); rw [e]; rfl), FB.out _ _⟩
    · go_enter Tryd.func64, Tryd.ntmps64
      go_wp2_with (first | (go_at_call 68; refine (IK _).mono ?_; rintro e w' ⟨rfl, rfl⟩) | (go_at_call 69; refine (TX _ (FB.out _ _)).mono ?_; rintro e w' ⟨rfl, rfl⟩))
      go_ret
      exact ⟨ret_bool (by rw [HC.out]; have e : decide (R.least ≤ cn ∧ cn ≤ R.most) = false := (by simp; omega); rw [e]; rfl), FB.out _ _⟩
/-- The slice reads as these cracks. -/
def CS (w : World) (v : Value) (l : List Cr) : Prop := ((v = .slice none 0 0 ∨ ∃ a c, v = .slice (some a) 0 c) ∧ l = []) ∨ ∃ X o cap, v = .slice (some ⟨X, o, none⟩) l.length cap ∧ X < w.heap.size ∧ l.length ≤ cap ∧ ∀ k (h : k < l.length), w.cell? ⟨X, o + k * 3, none⟩ = some (.int .i64 l[k].kind) ∧ w.cell? ⟨X, o + k * 3 + 1, none⟩ = some (.int .i64 l[k].n) ∧ w.cell? ⟨X, o + k * 3 + 2, none⟩ = some (.string l[k].text)
theorem CS.form {w : World} {v : Value} {l : List Cr} (h : CS w v l) : ∃ p cap, v = .slice p l.length cap := by
  rcases h with ⟨rfl | ⟨a, c, rfl⟩, rfl⟩ | ⟨X, o, cap, rfl, _⟩
  · exact ⟨none, 0, rfl⟩
  · exact ⟨some a, c, rfl⟩
  · exact ⟨_, cap, rfl⟩
theorem CS.below {w w' : World} {v : Value} {l : List Cr} (h : CS w v l) (k : Below w.heap.size w w') : CS w' v l := by
  rcases h with h | ⟨X, o, cap, rfl, hX, hcp, hc⟩
  · exact Or.inl h
  · refine Or.inr ⟨X, o, cap, rfl, Nat.lt_of_lt_of_le hX k.size, hcp, fun i hi => ?_⟩
    obtain ⟨c1, c2, c3⟩ := hc i hi
    exact ⟨(k.cell (p := ⟨X, _, none⟩) hX).trans c1, (k.cell (p := ⟨X, _, none⟩) hX).trans c2, (k.cell (p := ⟨X, _, none⟩) hX).trans c3⟩
theorem CS.at {w : World} {p : Option Addr} {n cap k : Nat} {l : List Cr} (h : CS w (.slice p n cap) l) (hk : k < l.length) : ∃ X o, p = some ⟨X, o, none⟩ ∧ w.cell? ⟨X, o + k * 3, none⟩ = some (.int .i64 l[k].kind) ∧ w.cell? ⟨X, o + k * 3 + 1, none⟩ = some (.int .i64 l[k].n) ∧ w.cell? ⟨X, o + k * 3 + 2, none⟩ = some (.string l[k].text) := by
  rcases h with ⟨_, rfl⟩ | ⟨X, o, cap, e, hX, _, hc⟩
  · simp at hk
  · injection e with e1 e2 e3
    exact ⟨X, o, e1, hc k hk⟩
/-- How many wholes are left; none: a crack can not stand there. -/
def walkC : Int → List Cr → Option Int
  | s, [] => some s
  | s, c :: r => if crB c = true ∧ c.n ≤ s then walkC (s + (1 - c.n)) r else none
/-- Check's answer. -/
def chk (l : List Cr) : Int := if 1024 < l.length then 3 else if walkC 0 l = some 1 then 0 else 5
theorem crB_n {c : Cr} (h : crB c = true) : 0 ≤ c.n ∧ c.n ≤ 1024 := by
  unfold crB at h
  simp only [Bool.and_eq_true, decide_eq_true_eq] at h
  obtain ⟨⟨hk, h1, h2⟩, _⟩ := h
  rw [isK_iff] at hk
  have hkk : c.kind = 1 ∨ c.kind = 2 ∨ c.kind = 3 ∨ c.kind = 4 ∨ c.kind = 5 ∨ c.kind = 6 ∨ c.kind = 7 ∨ c.kind = 8 ∨ c.kind = 9 ∨ c.kind = 10 ∨ c.kind = 11 := by omega
  have hr : 0 ≤ (frow c.kind).least ∧ (frow c.kind).most ≤ 1024 := by
    rcases hkk with e | e | e | e | e | e | e | e | e | e | e <;> rw [e] <;> decide
  omega
theorem drop_cr {l : List Cr} {k : Nat} (h : k < l.length) : l.drop k = l[k] :: l.drop (k + 1) := List.drop_eq_getElem_cons h
set_option maxHeartbeats 4000000 in
set_option maxRecDepth 100000 in
theorem check_any (v : Value) (l : List Cr) (w : World) (h : CS w v l) (ht : ∀ c ∈ l, c.text.size ≤ maxLen) (hv : FV w) (hlm : l.length ≤ 1000000000000000) :
    Calls Tryd.prog 59 #[v] w fun e w' => e = .returned (.int .i64 (chk l)) ∧ Below w.heap.size w w' := by
  obtain ⟨p, cap, rfl⟩ := h.form
  have HS : Hid (CS w (.slice p l.length cap) l) := h
  have HV : Hid (FV w) := hv
  have HT : Hid (∀ c ∈ l, c.text.size ≤ maxLen) := ht
  have HC : Hid (chk l = if 1024 < l.length then 3 else if walkC 0 l = some 1 then 0 else 5) := rfl
  generalize chk l = r at *
  clear h hv ht
  by_cases hl : 1024 < l.length
  · have hl2 : (l.length : Int) > 1024 := by omega
    go_enter Tryd.func59, Tryd.ntmps59
    go_wp2
    go_ret
    exact ⟨ret_int (by rw [HC.out, if_pos hl]), Below.refl _ _⟩
  · have hl2 : ¬ (l.length : Int) > 1024 := by omega
    have HC2 : Hid (r = if walkC 0 l = some 1 then 0 else 5) := by show r = _; rw [HC.out, if_neg hl]
    clear HC
    go_enter Tryd.func59, Tryd.ntmps59
    go_wp2
    go_loopw [3, 11] (fun v3 v11 wr => ∃ (k : Nat) (s : Int) (wk : World), v11 = .int .i64 k ∧ v3 = .int .i64 s ∧ wk = wr ∧ k ≤ l.length ∧ 0 ≤ s ∧ s ≤ k ∧ Hid (Below w.heap.size w wk ∧ walkC 0 l = walkC s (l.drop k))) (fun _ v11 _ => l.length - (intOf v11).toNat)
    case atStart => exact ⟨0, 0, _, rfl, rfl, rfl, Nat.zero_le _, Int.le_refl _, Int.le_refl _, ⟨Below.refl _ _, rfl⟩⟩
    case round =>
      obtain ⟨k, s, wr, rfl, rfl, rfl, hk, hs0, hsk, HW⟩ := hrel
      by_cases hlt : k < l.length
      · obtain ⟨X, o, e1, x1, x2, x3⟩ := (HS.out.below HW.out.1).at hlt
        obtain rfl : p = some ⟨X, o, none⟩ := e1
        have hmem := HT.out _ (List.getElem_mem hlt)
        have HD : Hid _ := drop_cr hlt
        obtain ⟨c, hc⟩ : ∃ c, c = l[k] := ⟨_, rfl⟩
        rw [← hc] at x1 x2 x3 hmem HD
        have IC := fun w' (hb : Below w.heap.size w w') => isCrack_any c w' hmem (HV.out.below hb)
        have AL : Hid (∀ ob, Below w.heap.size w (wr.alloc ob)) := fun ob => HW.out.1.alloc HW.out.1.size ob
        clear hc
        cases hcb : crB c with
        | false =>
          rw [hcb] at IC
          have HN : Hid (walkC 0 l = none) := by show walkC 0 l = none; rw [HW.out.2, HD.out, walkC, hcb]; simp
          go_wp2_with (go_at_call 64; refine (IC _ (AL.out _)).mono ?_; rintro e w5 ⟨rfl, hb5⟩)
          go_ret
          exact ⟨ret_int (by rw [HC2.out, HN.out]; rfl), (AL.out _).trans (hb5.mono (AL.out _).size)⟩
        | true =>
          rw [hcb] at IC
          have hn := crB_n hcb
          obtain ⟨hn0, hn1⟩ := hn
          by_cases hcs : c.n ≤ s
          · have hcs2 : ¬ c.n > s := by omega
            have HN : Hid (walkC 0 l = walkC (s + (1 - c.n)) (l.drop (k + 1))) := by show _ = _; rw [HW.out.2, HD.out, walkC, hcb]; simp [hcs]
            have BX : ∀ ob w5, Below (wr.alloc ob).heap.size (wr.alloc ob) w5 → ∀ o u, (wr.alloc ob).cell? ⟨wr.heap.size, o, none⟩ = some u → w5.cell? ⟨wr.heap.size, o, none⟩ = some u := fun ob w5 hb o u hu => (hb.cell (p := ⟨wr.heap.size, o, none⟩) (by simp)).trans hu
            go_wp2_with (go_at_call 64; refine (IC _ (AL.out _)).mono ?_; rintro e w5 ⟨rfl, hb5⟩; have y1 : w5.cell? ⟨wr.heap.size, 1, none⟩ = some (.int .i64 c.n) := (hb5.cell (p := ⟨wr.heap.size, 1, none⟩) (by simp)).trans (cell_of_row _ _ _ _ _ _ (heap_alloc_new wr _)); have HB5 : Hid (Below w.heap.size w w5) := (AL.out _).trans (hb5.mono (AL.out _).size); clear hb5)
            go_roundw
            case rel => exact ⟨k + 1, s + (1 - c.n), _, by go_num, rfl, rfl, by omega, by omega, by omega, ⟨HB5.out, HN.out⟩⟩
            case measure => simp [intOf]; omega
          · have hcs2 : c.n > s := by omega
            have HN : Hid (walkC 0 l = none) := by show walkC 0 l = none; rw [HW.out.2, HD.out, walkC]; simp [hcs]
            go_wp2_with (go_at_call 64; refine (IC _ (AL.out _)).mono ?_; rintro e w5 ⟨rfl, hb5⟩; have y1 : w5.cell? ⟨wr.heap.size, 1, none⟩ = some (.int .i64 c.n) := (hb5.cell (p := ⟨wr.heap.size, 1, none⟩) (by simp)).trans (cell_of_row _ _ _ _ _ _ (heap_alloc_new wr _)); have HB5 : Hid (Below w.heap.size w w5) := (AL.out _).trans (hb5.mono (AL.out _).size); clear hb5)
            go_ret
            exact ⟨ret_int (by rw [HC2.out, HN.out]; rfl), HB5.out⟩
      · have HN : Hid (walkC 0 l = some s) := by show walkC 0 l = some s; rw [HW.out.2, List.drop_eq_nil_of_le (by omega)]; rfl
        by_cases hs1 : s = 1
        · subst hs1
          go_wp2
          go_ret
          exact ⟨ret_int (by rw [HC2.out, HN.out]; rfl), HW.out.1⟩
        · have hs2 : (s != 1) = true := by rw [bne_iff_ne]; exact hs1
          go_wp2
          go_ret
          exact ⟨ret_int (by rw [HC2.out, HN.out]; simp [hs1]), HW.out.1⟩
end Go.Proofs.YtbgeihgenckihaaDoor
