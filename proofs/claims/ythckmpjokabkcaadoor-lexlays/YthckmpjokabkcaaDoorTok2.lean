/- The walks of lex.readNumber, readText and readMark: one token that begins at a place, or its fault. -/
import Derived.Test.YthckmpjokabkcaaDoorTok1
namespace Go.Proofs.YthckmpjokabkcaaDoor
open Go.RowKit

/-- How many digits begin here. -/
def dLen : List UInt8 → Nat
  | [] => 0
  | c :: r => if isDg c then dLen r + 1 else 0
theorem dLen_le : ∀ l : List UInt8, dLen l ≤ l.length
  | [] => Nat.le_refl _
  | c :: r => by simp only [dLen]; split <;> simp <;> have := dLen_le r <;> omega
theorem dLen_t {c : UInt8} {r : List UInt8} (h1 : 48 ≤ (c.toNat : Int)) (h2 : (c.toNat : Int) ≤ 57) : dLen (c :: r) = dLen r + 1 := by
  have : isDg c = true := by simp only [isDg, decide_eq_true_eq]; exact ⟨h1, h2⟩
  simp [dLen, this]
theorem dLen_f {c : UInt8} {r : List UInt8} (h : ¬ (48 ≤ (c.toNat : Int) ∧ (c.toNat : Int) ≤ 57)) : dLen (c :: r) = 0 := by
  have : isDg c = false := by simp only [isDg, decide_eq_false_iff_not]; exact h
  simp [dLen, this]
def rn (r : List UInt8) : RT := if numB (r.take (dLen r)) then ⟨0, 4, numN (r.take (dLen r)), [], dLen r⟩ else RT.bad 12

set_option maxHeartbeats 1000000 in
theorem readNumber_any (s : ByteArray) (n : Nat) (w : World) (hs : s.size ≤ 65536) (hn : n ≤ s.size) :
    Calls Tryd.prog 41 #[.string s, .int .i64 n] w fun e w' => e = .returned (rtV (rn (s.data.toList.drop n)) n) ∧ Below w.heap.size w w' := by
  have hl := dLen_le (s.data.toList.drop n)
  have hle : n + dLen (s.data.toList.drop n) ≤ s.size := by simp at hl; omega
  obtain ⟨R, hR⟩ : ∃ R, R = rn (s.data.toList.drop n) := ⟨_, rfl⟩
  rw [← hR]
  have HR : Hid (R = if numB ((s.data.toList.drop n).take (dLen (s.data.toList.drop n))) then ⟨0, 4, numN ((s.data.toList.drop n).take (dLen (s.data.toList.drop n))), [], dLen (s.data.toList.drop n)⟩ else RT.bad 12) := hR
  clear hR hl
  obtain ⟨m, hm⟩ : ∃ m, m = dLen (s.data.toList.drop n) := ⟨_, rfl⟩
  rw [← hm] at hle HR
  have HM : Hid (n + m = n + dLen (s.data.toList.drop n)) := by show _ = _; rw [hm]
  clear hm
  have hsz : (s.extract n (n + m)).size = m := by rw [ByteArray.size_extract]; omega
  have NU := fun w1 => number_any (s.extract n (n + m)) w1 (by rw [hsz]; unfold maxLen; omega)
  have HE : Hid ((s.extract n (n + m)).data.toList = (s.data.toList.drop n).take m) := by
    show _ = _; rw [extract_toList]; congr 1; omega
  rw [HE.out] at NU
  obtain ⟨nn, hnn⟩ : ∃ nn, nn = numN ((s.data.toList.drop n).take m) := ⟨_, rfl⟩
  obtain ⟨nb, hnb⟩ : ∃ nb, nb = numB ((s.data.toList.drop n).take m) := ⟨_, rfl⟩
  rw [← hnn, ← hnb] at NU HR
  clear hnn hnb HE
  have HRF : Hid (nb = false → R = RT.bad 12) := fun h => by rw [HR.out, h]; rfl
  have HRT : Hid (nb = true → R = ⟨0, 4, nn, [], m⟩) := fun h => by rw [HR.out, h]; rfl
  clear HR
  go_enter Tryd.func41, Tryd.ntmps41
  go_wp2
  go_loop [7] (fun i => ∃ k : Nat, n ≤ k ∧ k ≤ s.size ∧ i = .int .i64 k ∧ Hid (n + m = k + dLen (s.data.toList.drop k))) (fun i => s.size - (intOf i).toNat)
  case atStart => exact ⟨n, Nat.le_refl _, hn, rfl, HM⟩
  case round =>
    obtain ⟨k, hk, hks, rfl, HK⟩ := hrel
    clear HM
    by_cases hlt : k < s.size
    · have HD : Hid (s.data.toList.drop k = s[k] :: s.data.toList.drop (k + 1)) := drop_cons s k hlt
      have hc : (s[k].toNat : Int) ≤ 255 := by have := UInt8.toNat_lt s[k]; omega
      by_cases hd : 48 ≤ (s[k].toNat : Int) ∧ (s[k].toNat : Int) ≤ 57
      · obtain ⟨h1, h2⟩ := hd
        clear NU
        go_wp2
        go_round
        case rel => exact ⟨k + 1, by omega, by omega, by go_num, by show _ = _; rw [HK.out, HD.out, dLen_t h1 h2]; omega⟩
        case measure => simp [intOf]; omega
      · have hkm : n + m = k := by rw [HK.out, HD.out, dLen_f hd]; rfl
        subst hkm
        clear HK HD
        rcases (by omega : (s[n + m].toNat : Int) < 48 ∨ 57 < (s[n + m].toNat : Int)) with h1 | h1
        all_goals
          cases nb
          · go_wp2_with (first | (go_at_call 11; refine (NU _).mono ?_; rintro e w' ⟨rfl, rfl⟩) | go_in)
            refine bodyPost_ret (v := rtV R n) (by rw [HRF.out (by simp), rtV_bad 12 n (by decide)]; simp [results, Tryd.results41, go_sem]) rfl ⟨rfl, (Below.refl _ _).alloc (Nat.le_refl _) _⟩
          · go_wp2_with (first | (go_at_call 11; refine (NU _).mono ?_; rintro e w' ⟨rfl, rfl⟩) | go_in)
            refine bodyPost_ret (v := rtV R n) (by rw [HRT.out (by simp), rtV_ok]; simp [results, Tryd.results41, go_sem]) rfl ⟨rfl, (Below.refl _ _).alloc (Nat.le_refl _) _⟩
    · have hkm : n + m = k := by rw [HK.out, drop_end s k (by omega)]; rfl
      subst hkm
      clear HK
      cases nb
      · go_wp2_with (first | (go_at_call 11; refine (NU _).mono ?_; rintro e w' ⟨rfl, rfl⟩) | go_in)
        refine bodyPost_ret (v := rtV R n) (by rw [HRF.out (by simp), rtV_bad 12 n (by decide)]; simp [results, Tryd.results41, go_sem]) rfl ⟨rfl, (Below.refl _ _).alloc (Nat.le_refl _) _⟩
      · go_wp2_with (first | (go_at_call 11; refine (NU _).mono ?_; rintro e w' ⟨rfl, rfl⟩) | go_in)
        refine bodyPost_ret (v := rtV R n) (by rw [HRT.out (by simp), rtV_ok]; simp [results, Tryd.results41, go_sem]) rfl ⟨rfl, (Below.refl _ _).alloc (Nat.le_refl _) _⟩

def rq (r : List UInt8) : RT := match uq (r.drop 1) with
  | none => RT.bad 11
  | some (t, m) => if 4096 < t.length then RT.bad 3 else ⟨0, 5, 0, t, m + 1⟩
theorem rq_f {l : List UInt8} {n : Nat} (h : (qa l n).2.2 = false) : rq (l.drop n) = RT.bad 11 := by
  unfold qa at h; unfold rq
  rw [List.drop_drop]
  cases e : uq (l.drop (n + 1)) with
  | none => rfl
  | some x => rw [e] at h; simp at h
theorem rq_t {l : List UInt8} {n : Nat} (h : (qa l n).2.2 = true) : rq (l.drop n) = if 4096 < (qa l n).1.length then RT.bad 3 else ⟨0, 5, 0, (qa l n).1, (qa l n).2.1 - n⟩ := by
  unfold qa at h ⊢; unfold rq
  rw [List.drop_drop]
  cases e : uq (l.drop (n + 1)) with
  | none => rw [e] at h; simp at h
  | some x => simp; congr 2; omega
theorem qa_ge {l : List UInt8} {n : Nat} (h : (qa l n).2.2 = true) : n ≤ (qa l n).2.1 := by
  unfold qa at h ⊢
  cases e : uq (l.drop (n + 1)) with
  | none => rw [e] at h; simp at h
  | some x => simp; omega

set_option maxHeartbeats 1000000 in
theorem readText_any (s : ByteArray) (n : Nat) (w : World) (hs : s.size ≤ 65536) (hn : n < s.size) :
    Calls Tryd.prog 42 #[.string s, .int .i64 n] w fun e w' => e = .returned (rtV (rq (s.data.toList.drop n)) n) ∧ Below w.heap.size w w' := by
  have QA := fun w1 => quotedAt_any s n w1 (by omega) hn
  have HF : Hid _ := @rq_f s.data.toList n
  have HT : Hid _ := @rq_t s.data.toList n
  have HG : Hid _ := @qa_ge s.data.toList n
  obtain ⟨R, hR⟩ : ∃ R, R = rq (s.data.toList.drop n) := ⟨_, rfl⟩
  rw [← hR] at HF HT
  rw [← hR]
  obtain ⟨Q, hQ⟩ : ∃ Q, Q = qa s.data.toList n := ⟨_, rfl⟩
  rw [← hQ] at HF HT HG QA
  clear hR hQ
  obtain ⟨t, en, ok⟩ := Q
  simp only at HF HT HG QA
  cases ok
  · have HR := HF.out rfl
    have HR2 : Hid (R = RT.bad 11) := HR
    clear HR HF HT HG
    go_enter Tryd.func42, Tryd.ntmps42
    go_wp2_with (go_at_call 37; refine (QA _).mono ?_; rintro e w2 ⟨rfl, hb2⟩; obtain ⟨hc, hf⟩ := oldCells hb2; have hz2 := hb2.size)
    refine bodyPost_ret (v := rtV R n) (by rw [HR2.out, rtV_bad 11 n (by decide)]; simp [results, Tryd.results42, go_sem, hc]) rfl ⟨rfl, ?_⟩
    exact ((((((Below.refl _ _).alloc (Nat.le_refl _) _).trans (hb2.mono (by simp))).setCell (Nat.le_refl _) _).setCell (Nat.le_refl _) _).setCell (Nat.le_refl _) _).setCell (Nat.le_refl _) _
  · have hge := HG.out rfl
    by_cases h4 : 4096 < t.length
    · have HR2 : Hid (R = RT.bad 3) := by show _ = _; rw [HT.out rfl, if_pos h4]
      have h4' : (4096 : Int) < ((ByteArray.mk t.toArray).size : Int) := by show (4096 : Int) < ((t.toArray.size : Nat) : Int); simp; omega
      clear HF HT HG
      go_enter Tryd.func42, Tryd.ntmps42
      go_wp2_with (go_at_call 37; refine (QA _).mono ?_; rintro e w2 ⟨rfl, hb2⟩; obtain ⟨hc, hf⟩ := oldCells hb2; have hz2 := hb2.size)
      refine bodyPost_ret (v := rtV R n) (by rw [HR2.out, rtV_bad 3 n (by decide)]; simp [results, Tryd.results42, go_sem, hc]) rfl ⟨rfl, ?_⟩
      exact ((((((Below.refl _ _).alloc (Nat.le_refl _) _).trans (hb2.mono (by simp))).setCell (Nat.le_refl _) _).setCell (Nat.le_refl _) _).setCell (Nat.le_refl _) _).setCell (Nat.le_refl _) _
    · have HR2 : Hid (R = ⟨0, 5, 0, t, en - n⟩) := by show _ = _; rw [HT.out rfl, if_neg h4]
      have h4' : ¬ (4096 : Int) < ((ByteArray.mk t.toArray).size : Int) := by show ¬ (4096 : Int) < ((t.toArray.size : Nat) : Int); simp; omega
      clear HF HT HG
      go_enter Tryd.func42, Tryd.ntmps42
      go_wp2_with (go_at_call 37; refine (QA _).mono ?_; rintro e w2 ⟨rfl, hb2⟩; obtain ⟨hc, hf⟩ := oldCells hb2; have hz2 := hb2.size)
      refine bodyPost_ret (v := rtV R n) (by rw [HR2.out, rtV_ok]; simp [results, Tryd.results42, go_sem, hc]; omega) rfl ⟨rfl, ?_⟩
      exact ((((((Below.refl _ _).alloc (Nat.le_refl _) _).trans (hb2.mono (by simp))).setCell (Nat.le_refl _) _).setCell (Nat.le_refl _) _).setCell (Nat.le_refl _) _).setCell (Nat.le_refl _) _

/-- The fourteen marks, the longest first. -/
def mk : List ByteArray := [⟨#[61, 61]⟩, ⟨#[40]⟩, ⟨#[41]⟩, ⟨#[91]⟩, ⟨#[93]⟩, ⟨#[44]⟩, ⟨#[59]⟩, ⟨#[46]⟩, ⟨#[61]⟩, ⟨#[43]⟩, ⟨#[45]⟩, ⟨#[42]⟩, ⟨#[38]⟩, ⟨#[60]⟩]
def mkV : Array Value := (mk.map Value.string).toArray
theorem mk_len : mk.length = 14 := by decide
theorem mkV_at (k : Nat) (h : k < mk.length) : mkV[k]? = some (.string mk[k]) := by simp [mkV, h]
theorem mk_size : ∀ k (h : k < mk.length), mk[k].size ≤ 2 := by decide
/-- The marks lie in the memory of the package's variable. -/
def MarksAt (w : World) : Prop := ∀ i, i < mk.length → w.cell? ⟨1, i, none⟩ = some (.string (mk.getD i ByteArray.empty))
theorem MarksAt.below {w w' : World} (h : MarksAt w) (hb : Below w.heap.size w w') : MarksAt w' := by
  intro i hi
  have := h i hi
  rw [hb.cell (p := ⟨1, i, none⟩) (block_lt_of_cell this)]; exact this
theorem MarksAt.alloc {w : World} (h : MarksAt w) (o : Obj) : MarksAt (w.alloc o) := h.below ((Below.refl _ _).alloc (Nat.le_refl _) _)
def rmOf (l : List ByteArray) (r : List UInt8) : RT := match l.find? fun m => Lib.hasPrefix r m.data.toList with
  | some m => ⟨0, 6, 0, m.data.toList, m.size⟩
  | none => RT.bad 10
def rm (r : List UInt8) : RT := rmOf mk r
theorem rmOf_hit {l : List ByteArray} {r : List UInt8} {k : Nat} (hk : k < l.length) (h : Lib.hasPrefix r l[k].data.toList = true) : rmOf (l.drop k) r = ⟨0, 6, 0, l[k].data.toList, l[k].size⟩ := by
  unfold rmOf; rw [List.drop_eq_getElem_cons hk, List.find?_cons, h]
theorem rmOf_miss {l : List ByteArray} {r : List UInt8} {k : Nat} (hk : k < l.length) (h : Lib.hasPrefix r l[k].data.toList = false) : rmOf (l.drop k) r = rmOf (l.drop (k + 1)) r := by
  unfold rmOf; rw [List.drop_eq_getElem_cons hk, List.find?_cons, h]
theorem rmOf_end {l : List ByteArray} {r : List UInt8} {k : Nat} (hk : l.length ≤ k) : rmOf (l.drop k) r = RT.bad 10 := by
  unfold rmOf; rw [List.drop_eq_nil_iff.2 hk]; rfl
theorem mk_bytes (s : ByteArray) : s = ⟨s.data.toList.toArray⟩ := by cases s; simp

set_option maxHeartbeats 1000000 in
theorem readMark_any (s : ByteArray) (n : Nat) (w : World) (hs : s.size ≤ 65536) (hn : n < s.size) (hk : MarksAt w) :
    Calls Tryd.prog 43 #[.string s, .int .i64 n] w fun e w' => e = .returned (rtV (rm (s.data.toList.drop n)) n) ∧ Below w.heap.size w w' := by
  have hcs : ∀ j v, mkV.toList[j]? = some v → (w.alloc (.cells #[.int .i64 0, .int .i64 0, .int .i64 0, .string ⟨#[]⟩] 30)).cell? ⟨1, j, none⟩ = some v := by
    intro j v hv
    have hj : j < mk.length := by
      by_cases h : j < mk.length
      · exact h
      · exfalso; rw [List.getElem?_eq_none (by simp [mkV]; omega)] at hv; cases hv
    rw [hk.alloc _ j hj]
    have := mkV_at j hj
    rw [← Array.getElem?_toList, hv] at this
    rw [this]; simp [hj]
  have hix : ∀ k (h : k < mk.length) (w' : World), (Instr.index 69 (.agg mkV) (.int .i64 k)).run Tryd.prog w' = .ok (.string mk[k]) w' := fun k h w' =>
    run_index_strs 69 9 14 mkV k mk[k] w' Tryd.underlying69 Tryd.underlying9 (by kernel_rfl) (by rw [mk_len] at h; exact h) (mkV_at k h)
  have hsz : (Tryd.prog.info? 69).map (·.size) = some mkV.size := by kernel_rfl
  have HCS : Hid (∀ j v, mkV.toList[j]? = some v → (w.alloc (.cells #[.int .i64 0, .int .i64 0, .int .i64 0, .string ⟨#[]⟩] 30)).cell? ⟨1, j, none⟩ = some v) := hcs
  have HSZ : Hid ((Tryd.prog.info? 69).map (·.size) = some mkV.size) := hsz
  have hkl := mk_len
  have HM : Hid (rm (s.data.toList.drop n) = rmOf mk (s.data.toList.drop n)) := rfl
  have hm2 := mk_size
  generalize mkV = V at *
  generalize mk = L at *
  clear hcs hsz hk
  obtain ⟨R, hR⟩ : ∃ R, R = rm (s.data.toList.drop n) := ⟨_, rfl⟩
  rw [← hR] at HM
  rw [← hR]
  clear hR
  go_enter Tryd.func43, Tryd.ntmps43
  go_wp2_with (refine wpList_load_cells rfl 69 (.global 1) rfl 1 rfl V (.array 14 9) HCS.out Tryd.underlying69 rfl HSZ.out ?_)
  go_loop [10] (fun i => ∃ k : Nat, k ≤ L.length ∧ i = .int .i64 k ∧ Hid (R = rmOf (L.drop k) (s.data.toList.drop n))) (fun i => L.length - (intOf i).toNat)
  case atStart => exact ⟨0, Nat.zero_le _, rfl, HM⟩
  case round =>
    obtain ⟨k, hkl', rfl, HR⟩ := hrel
    by_cases hlt : k < L.length
    · have hi := hix k hlt
      have h2 := hm2 k hlt
      have HP := fun w1 => Tryd.strings_HasPrefix (s.extract n s.size) L[k] w1
      have HX : Hid ((s.extract n s.size).data.toList = s.data.toList.drop n) := extract_drop s n
      rw [HX.out] at HP
      clear HX
      cases ht : Lib.hasPrefix (s.data.toList.drop n) L[k].data.toList
      · rw [ht] at HP
        have HT : Hid (Lib.hasPrefix (s.data.toList.drop n) L[k].data.toList = false) := ht
        clear ht
        go_wp2_with (go_at_call 54; refine (HP _).mono ?_; rintro e w' ⟨rfl, rfl⟩)
        go_round
        case rel => exact ⟨k + 1, by omega, by go_num, by show _ = _; rw [HR.out, rmOf_miss hlt HT.out]⟩
        case measure => simp [intOf]; omega
      · rw [ht] at HP
        have HR2 : Hid (R = ⟨0, 6, 0, L[k].data.toList, L[k].size⟩) := by show _ = _; rw [HR.out, rmOf_hit hlt ht]
        clear ht HR
        go_wp2_with (go_at_call 54; refine (HP _).mono ?_; rintro e w' ⟨rfl, rfl⟩)
        refine bodyPost_ret (v := rtV R n) (by rw [HR2.out, rtV_ok, ← mk_bytes]; simp [results, Tryd.results43, go_sem]) rfl ⟨rfl, (Below.refl _ _).alloc (Nat.le_refl _) _⟩
    · have HR2 : Hid (R = RT.bad 10) := by show _ = _; rw [HR.out, rmOf_end (by omega)]
      go_wp2
      refine bodyPost_ret (v := rtV R n) (by rw [HR2.out, rtV_bad 10 n (by decide)]; simp [results, Tryd.results43, go_sem]) rfl ⟨rfl, (Below.refl _ _).alloc (Nat.le_refl _) _⟩
end Go.Proofs.YthckmpjokabkcaaDoor
