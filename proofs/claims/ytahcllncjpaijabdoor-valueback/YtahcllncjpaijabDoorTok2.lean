/- The walks of lex.readNumber, readText and readMark: one token that begins at a place, or its fault. -/
import Derived.Test.YtahcllncjpaijabDoorKey
import Derived.Test.YtahcllncjpaijabDoorUnq3
import Derived.Test.YtahcllncjpaijabDoorShelf
namespace Go.Proofs.YtahcllncjpaijabDoor.L1
open Go.RowKit

/-- What is read at a place: a fault's code, or a token and how many bytes it has. -/
structure RT where
  code : Int
  kind : Int
  num : Int
  text : List UInt8
  len : Nat
def RT.bad (c : Int) : RT := ⟨c, 0, 0, [], 0⟩
/-- The struct's cells. -/
def tokA (kind at' num : Int) (text : List UInt8) : Array Value := #[.int .i64 kind, .int .i64 at', .int .i64 num, .string ⟨text.toArray⟩]
/-- The three results, for a token that begins at n. -/
def rtV (r : RT) (n : Nat) : Value := if r.code = 0 then .tuple #[.agg (tokA r.kind n r.num r.text), .int .i64 (n + r.len : Nat), .int .i64 0] else .tuple #[.agg (tokA 0 0 0 []), .int .i64 0, .int .i64 r.code]
def keyL (l : List UInt8) : Bool := kw.any fun x => x.data.toList == l
theorem keyL_in (s : ByteArray) : inB kw s = keyL s.data.toList := by
  unfold inB keyL
  congr 1; funext x; rw [ByteArray.toList_eq, ByteArray.toList_eq]
/-- A word, behind a dollar sign or not. -/
def rw' (dollar : Bool) (r : List UInt8) : RT :=
  if wLen r = 0 then RT.bad 10 else if 24 < wLen r then RT.bad 3
  else ⟨0, if dollar then 3 else if keyL (r.take (wLen r)) then 2 else 1, 0, r.take (wLen r), wLen r + (if dollar then 1 else 0)⟩
theorem extract_toList (s : ByteArray) (a b : Nat) : (s.extract a b).data.toList = (s.data.toList.drop a).take (b - a) := by
  rw [ByteArray.data_extract, Array.toList_extract, List.extract_eq_take_drop]
theorem extract_eq (s : ByteArray) (a b : Nat) : s.extract a b = ⟨((s.data.toList.drop a).take (b - a)).toArray⟩ := by
  have := extract_toList s a b
  cases h : s.extract a b with
  | mk d => rw [h] at this; simp at this; rw [← this]

theorem clone_any (s : ByteArray) (w : World) (h : s.size ≤ 281474976710656) :
    Calls Tryd.prog 75 #[.string s] w fun e w' => e = .returned (.string s) ∧ Below w.heap.size w w' := by
  have C := Tryd.stringslite_Clone s w h
  go_enter Tryd.func75, Tryd.ntmps75
  go_wp2_with (go_at_call 86; refine C.mono ?_; rintro e w' ⟨rfl, hb⟩)
  go_ret
  exact ⟨rfl, hb⟩

/-- Old cells and marks read as before. -/
theorem oldCells {W w1 : World} (h : Below W.heap.size W w1) : (∀ b o, b < W.heap.size → w1.cell? ⟨b, o, none⟩ = W.cell? ⟨b, o, none⟩) ∧ (∀ b o, b < W.heap.size → w1.frozen? ⟨b, o, none⟩ = W.frozen? ⟨b, o, none⟩) :=
  ⟨fun b o hb => h.cell (p := ⟨b, o, none⟩) hb, fun b o hb => h.frozen (p := ⟨b, o, none⟩) hb⟩
theorem rtV_bad (c : Int) (n : Nat) (h : c ≠ 0) : rtV (RT.bad c) n = .tuple #[.agg #[.int .i64 0, .int .i64 0, .int .i64 0, .string ⟨#[]⟩], .int .i64 0, .int .i64 c] := by
  simp [rtV, RT.bad, h, tokA]
theorem rtV_ok (kind num : Int) (text : List UInt8) (len n : Nat) : rtV ⟨0, kind, num, text, len⟩ n = .tuple #[.agg #[.int .i64 kind, .int .i64 n, .int .i64 num, .string ⟨text.toArray⟩], .int .i64 (n + len : Nat), .int .i64 0] := by
  simp [rtV, tokA]

set_option maxHeartbeats 1000000 in
theorem readWord_any (s : ByteArray) (n d : Nat) (w : World) (hs : s.size ≤ 65536) (hn : n + d ≤ s.size) (hd : d ≤ 1) (hk : KeysAt w) :
    Calls Tryd.prog 55 #[.string s, .int .i64 n, .int .i64 (n + d : Nat)] w fun e w' => e = .returned (rtV (rw' (decide (d = 1)) (s.data.toList.drop (n + d))) n) ∧ Below w.heap.size w w' := by
  have hl := wLen_le (s.data.toList.drop (n + d))
  have WE := fun w1 => wordEnd_any s (n + d) w1 (by unfold maxLen; omega) (by omega)
  have hle : n + d + wLen (s.data.toList.drop (n + d)) ≤ s.size := by simp at hl; omega
  obtain ⟨R, hR⟩ : ∃ R, R = rw' (decide (d = 1)) (s.data.toList.drop (n + d)) := ⟨_, rfl⟩
  rw [← hR]
  have HR : Hid (R = if wLen (s.data.toList.drop (n + d)) = 0 then RT.bad 10 else if 24 < wLen (s.data.toList.drop (n + d)) then RT.bad 3
    else ⟨0, if decide (d = 1) then 3 else if keyL ((s.data.toList.drop (n + d)).take (wLen (s.data.toList.drop (n + d)))) then 2 else 1, 0, (s.data.toList.drop (n + d)).take (wLen (s.data.toList.drop (n + d))), wLen (s.data.toList.drop (n + d)) + (if decide (d = 1) then 1 else 0)⟩) := hR
  clear hR hl
  obtain ⟨m, hm⟩ : ∃ m, m = wLen (s.data.toList.drop (n + d)) := ⟨_, rfl⟩
  rw [← hm] at WE hle HR
  clear hm
  have hsz : (s.extract (n + d) (n + d + m)).size = m := by rw [ByteArray.size_extract]; omega
  have HE : Hid (s.extract (n + d) (n + d + m) = ⟨((s.data.toList.drop (n + d)).take m).toArray⟩) := by
    show _ = _; rw [extract_eq]; congr 3; omega
  obtain ⟨T, hT⟩ : ∃ T, T = (s.data.toList.drop (n + d)).take m := ⟨_, rfl⟩
  rw [← hT] at HR HE
  clear hT
  have HK : Hid (inB kw (s.extract (n + d) (n + d + m)) = keyL T) := by show _ = _; rw [keyL_in, HE.out]
  have IK := isKey_any (s.extract (n + d) (n + d + m)) (w.alloc (.cells #[.int .i64 0, .int .i64 0, .int .i64 0, .string ⟨#[]⟩] 77)) (hk.alloc _)
  rw [HK.out] at IK
  clear HK hk
  obtain ⟨b, hb⟩ : ∃ b, b = keyL T := ⟨_, rfl⟩
  rw [← hb] at HR IK
  clear hb
  have CL := fun w1 => clone_any (s.extract (n + d) (n + d + m)) w1 (by rw [hsz]; omega)
  by_cases h0 : m = 0
  · have e1 : (s.extract (n + d) (n + d + m)).toList.isEmpty = true := by
      have : (s.extract (n + d) (n + d + m)) = ByteArray.empty := bytes_nil (by rw [hsz]; exact h0)
      rw [this, ByteArray.toList_eq]; rfl
    have HR2 : Hid (R = RT.bad 10) := by show _ = _; rw [HR.out, if_pos h0]
    clear HR IK CL h0
    go_enter Tryd.func55, Tryd.ntmps55
    go_wp2_with (first
      | (go_at_call 73; refine (WE _).mono ?_; rintro e w' ⟨rfl, rfl⟩))
    refine bodyPost_ret (v := rtV R n) (by rw [HR2.out, rtV_bad 10 n (by decide)]; simp [results, Tryd.results55, go_sem]) rfl ⟨rfl, (Below.refl _ _).alloc (Nat.le_refl _) _⟩
  obtain ⟨e0, e1⟩ := bytes_ne (s := s.extract (n + d) (n + d + m)) (by rw [hsz]; omega)
  by_cases h24 : 24 < m
  · have HR2 : Hid (R = RT.bad 3) := by show _ = _; rw [HR.out, if_neg h0, if_pos h24]
    clear HR IK CL
    go_enter Tryd.func55, Tryd.ntmps55
    go_wp2_with (first
      | (go_at_call 73; refine (WE _).mono ?_; rintro e w' ⟨rfl, rfl⟩))
    refine bodyPost_ret (v := rtV R n) (by rw [HR2.out, rtV_bad 3 n (by decide)]; simp [results, Tryd.results55, go_sem]) rfl ⟨rfl, (Below.refl _ _).alloc (Nat.le_refl _) _⟩
  have HR2 : Hid (R = ⟨0, if decide (d = 1) then 3 else if b then 2 else 1, 0, T, m + (if decide (d = 1) then 1 else 0)⟩) := by show _ = _; rw [HR.out, if_neg h0, if_neg h24]
  clear HR
  by_cases hd1 : d = 1
  · subst hd1
    have HR3 : Hid (R = ⟨0, 3, 0, T, m + 1⟩) := by show _ = _; rw [HR2.out]; rfl
    clear HR2 IK
    go_enter Tryd.func55, Tryd.ntmps55
    go_wp2_with (first
      | (go_at_call 73; refine (WE _).mono ?_; rintro e w' ⟨rfl, rfl⟩)
      | (go_at_call 75; refine (CL _).mono ?_; rintro e w2 ⟨rfl, hb2⟩; obtain ⟨hc, hf⟩ := oldCells hb2; have hz2 := hb2.size))
    refine bodyPost_ret (v := rtV R n) (by rw [HR3.out, rtV_ok, ← HE.out]; simp [results, Tryd.results55, go_sem, hc]; omega) rfl ⟨rfl, ?_⟩
    exact ((((((Below.refl _ _).alloc (Nat.le_refl _) _).trans (hb2.mono (by simp))).setCell (Nat.le_refl _) _).setCell (Nat.le_refl _) _).setCell (Nat.le_refl _) _).setCell (Nat.le_refl _) _
  · have hd0 : d = 0 := by omega
    subst hd0
    have HR3 : Hid (R = ⟨0, if b then 2 else 1, 0, T, m⟩) := by show _ = _; rw [HR2.out]; rfl
    clear HR2 hd hd1
    simp only [Nat.add_zero] at WE IK CL HE hle hn hsz e0 e1 ⊢
    cases b
    all_goals
      go_enter Tryd.func55, Tryd.ntmps55
      go_wp2_with (first
        | (go_at_call 73; refine (WE _).mono ?_; rintro e w' ⟨rfl, rfl⟩)
        | (go_at_call 74; refine IK.mono ?_; rintro e w' ⟨rfl, rfl⟩)
        | (go_at_call 75; refine (CL _).mono ?_; rintro e w2 ⟨rfl, hb2⟩; obtain ⟨hc, hf⟩ := oldCells hb2; have hz2 := hb2.size))
      refine bodyPost_ret (v := rtV R n) (by rw [HR3.out, rtV_ok, ← HE.out]; simp [results, Tryd.results55, go_sem, hc]) rfl ⟨rfl, ?_⟩
      exact ((((((Below.refl _ _).alloc (Nat.le_refl _) _).trans (hb2.mono (by simp))).setCell (Nat.le_refl _) _).setCell (Nat.le_refl _) _).setCell (Nat.le_refl _) _).setCell (Nat.le_refl _) _
end Go.Proofs.YtahcllncjpaijabDoor.L1
namespace Go.Proofs.YtahcllncjpaijabDoor.L1
open Go.RowKit

/-- How many digits begin here. -/
def dLen : List UInt8 → Nat
  | [] => 0
  | c :: r => if isDg c then dLen r + 1 else 0
theorem dLen_le : ∀ l : List UInt8, dLen l ≤ l.length
  | [] => Nat.le_refl _
  | c :: r => by simp only [dLen]; split <;> simp <;> have := dLen_le r <;> omega
theorem dLen_t {c : UInt8} {r : List UInt8} (h1 : 48 ≤ (c.toNat : Int)) (h2 : (c.toNat : Int) ≤ 57) : dLen (c :: r) = dLen r + 1 := by
  have : isDg c = true := by simp only [isDg, decide_eq_true_eq]; exact ⟨h1, h2⟩
  simp [dLen, this]
theorem dLen_f {c : UInt8} {r : List UInt8} (h : ¬ (48 ≤ (c.toNat : Int) ∧ (c.toNat : Int) ≤ 57)) : dLen (c :: r) = 0 := by
  have : isDg c = false := by simp only [isDg, decide_eq_false_iff_not]; exact h
  simp [dLen, this]
def rn (r : List UInt8) : RT := if numB (r.take (dLen r)) then ⟨0, 4, numN (r.take (dLen r)), [], dLen r⟩ else RT.bad 12

set_option maxHeartbeats 1000000 in
theorem readNumber_any (s : ByteArray) (n : Nat) (w : World) (hs : s.size ≤ 65536) (hn : n ≤ s.size) :
    Calls Tryd.prog 57 #[.string s, .int .i64 n] w fun e w' => e = .returned (rtV (rn (s.data.toList.drop n)) n) ∧ Below w.heap.size w w' := by
  have hl := dLen_le (s.data.toList.drop n)
  have hle : n + dLen (s.data.toList.drop n) ≤ s.size := by simp at hl; omega
  obtain ⟨R, hR⟩ : ∃ R, R = rn (s.data.toList.drop n) := ⟨_, rfl⟩
  rw [← hR]
  have HR : Hid (R = if numB ((s.data.toList.drop n).take (dLen (s.data.toList.drop n))) then ⟨0, 4, numN ((s.data.toList.drop n).take (dLen (s.data.toList.drop n))), [], dLen (s.data.toList.drop n)⟩ else RT.bad 12) := hR
  clear hR hl
  obtain ⟨m, hm⟩ : ∃ m, m = dLen (s.data.toList.drop n) := ⟨_, rfl⟩
  rw [← hm] at hle HR
  have HM : Hid (n + m = n + dLen (s.data.toList.drop n)) := by show _ = _; rw [hm]
  clear hm
  have hsz : (s.extract n (n + m)).size = m := by rw [ByteArray.size_extract]; omega
  have NU := fun w1 => number_any (s.extract n (n + m)) w1 (by rw [hsz]; unfold maxLen; omega)
  have HE : Hid ((s.extract n (n + m)).data.toList = (s.data.toList.drop n).take m) := by
    show _ = _; rw [extract_toList]; congr 1; omega
  rw [HE.out] at NU
  obtain ⟨nn, hnn⟩ : ∃ nn, nn = numN ((s.data.toList.drop n).take m) := ⟨_, rfl⟩
  obtain ⟨nb, hnb⟩ : ∃ nb, nb = numB ((s.data.toList.drop n).take m) := ⟨_, rfl⟩
  rw [← hnn, ← hnb] at NU HR
  clear hnn hnb HE
  have HRF : Hid (nb = false → R = RT.bad 12) := fun h => by rw [HR.out, h]; rfl
  have HRT : Hid (nb = true → R = ⟨0, 4, nn, [], m⟩) := fun h => by rw [HR.out, h]; rfl
  clear HR
  go_enter Tryd.func57, Tryd.ntmps57
  go_wp2
  go_loop [7] (fun i => ∃ k : Nat, n ≤ k ∧ k ≤ s.size ∧ i = .int .i64 k ∧ Hid (n + m = k + dLen (s.data.toList.drop k))) (fun i => s.size - (intOf i).toNat)
  case atStart => exact ⟨n, Nat.le_refl _, hn, rfl, HM⟩
  case round =>
    obtain ⟨k, hk, hks, rfl, HK⟩ := hrel
    clear HM
    by_cases hlt : k < s.size
    · have HD : Hid (s.data.toList.drop k = s[k] :: s.data.toList.drop (k + 1)) := drop_cons s k hlt
      have hc : (s[k].toNat : Int) ≤ 255 := by have := UInt8.toNat_lt s[k]; omega
      by_cases hd : 48 ≤ (s[k].toNat : Int) ∧ (s[k].toNat : Int) ≤ 57
      · obtain ⟨h1, h2⟩ := hd
        clear NU
        go_wp2
        go_round
        case rel => exact ⟨k + 1, by omega, by omega, by go_num, by show _ = _; rw [HK.out, HD.out, dLen_t h1 h2]; omega⟩
        case measure => simp [intOf]; omega
      · have hkm : n + m = k := by rw [HK.out, HD.out, dLen_f hd]; rfl
        subst hkm
        clear HK HD
        rcases (by omega : (s[n + m].toNat : Int) < 48 ∨ 57 < (s[n + m].toNat : Int)) with h1 | h1
        all_goals
          cases nb
          · go_wp2_with (first | (go_at_call 76; refine (NU _).mono ?_; rintro e w' ⟨rfl, rfl⟩) | go_in)
            refine bodyPost_ret (v := rtV R n) (by rw [HRF.out (by simp), rtV_bad 12 n (by decide)]; simp [results, Tryd.results57, go_sem]) rfl ⟨rfl, (Below.refl _ _).alloc (Nat.le_refl _) _⟩
          · go_wp2_with (first | (go_at_call 76; refine (NU _).mono ?_; rintro e w' ⟨rfl, rfl⟩) | go_in)
            refine bodyPost_ret (v := rtV R n) (by rw [HRT.out (by simp), rtV_ok]; simp [results, Tryd.results57, go_sem]) rfl ⟨rfl, (Below.refl _ _).alloc (Nat.le_refl _) _⟩
    · have hkm : n + m = k := by rw [HK.out, drop_end s k (by omega)]; rfl
      subst hkm
      clear HK
      cases nb
      · go_wp2_with (first | (go_at_call 76; refine (NU _).mono ?_; rintro e w' ⟨rfl, rfl⟩) | go_in)
        refine bodyPost_ret (v := rtV R n) (by rw [HRF.out (by simp), rtV_bad 12 n (by decide)]; simp [results, Tryd.results57, go_sem]) rfl ⟨rfl, (Below.refl _ _).alloc (Nat.le_refl _) _⟩
      · go_wp2_with (first | (go_at_call 76; refine (NU _).mono ?_; rintro e w' ⟨rfl, rfl⟩) | go_in)
        refine bodyPost_ret (v := rtV R n) (by rw [HRT.out (by simp), rtV_ok]; simp [results, Tryd.results57, go_sem]) rfl ⟨rfl, (Below.refl _ _).alloc (Nat.le_refl _) _⟩

def rq (r : List UInt8) : RT := match uq (r.drop 1) with
  | none => RT.bad 11
  | some (t, m) => if 4096 < t.length then RT.bad 3 else ⟨0, 5, 0, t, m + 1⟩
theorem rq_f {l : List UInt8} {n : Nat} (h : (qa l n).2.2 = false) : rq (l.drop n) = RT.bad 11 := by
  unfold qa at h; unfold rq
  rw [List.drop_drop]
  cases e : uq (l.drop (n + 1)) with
  | none => rfl
  | some x => rw [e] at h; simp at h
theorem rq_t {l : List UInt8} {n : Nat} (h : (qa l n).2.2 = true) : rq (l.drop n) = if 4096 < (qa l n).1.length then RT.bad 3 else ⟨0, 5, 0, (qa l n).1, (qa l n).2.1 - n⟩ := by
  unfold qa at h ⊢; unfold rq
  rw [List.drop_drop]
  cases e : uq (l.drop (n + 1)) with
  | none => rw [e] at h; simp at h
  | some x => simp; congr 2; omega
theorem qa_ge {l : List UInt8} {n : Nat} (h : (qa l n).2.2 = true) : n ≤ (qa l n).2.1 := by
  unfold qa at h ⊢
  cases e : uq (l.drop (n + 1)) with
  | none => rw [e] at h; simp at h
  | some x => simp; omega

set_option maxHeartbeats 1000000 in
theorem readText_any (s : ByteArray) (n : Nat) (w : World) (hs : s.size ≤ 65536) (hn : n < s.size) :
    Calls Tryd.prog 58 #[.string s, .int .i64 n] w fun e w' => e = .returned (rtV (rq (s.data.toList.drop n)) n) ∧ Below w.heap.size w w' := by
  have QA := fun w1 => quotedAt_any s n w1 (by omega) hn
  have HF : Hid _ := @rq_f s.data.toList n
  have HT : Hid _ := @rq_t s.data.toList n
  have HG : Hid _ := @qa_ge s.data.toList n
  obtain ⟨R, hR⟩ : ∃ R, R = rq (s.data.toList.drop n) := ⟨_, rfl⟩
  rw [← hR] at HF HT
  rw [← hR]
  obtain ⟨Q, hQ⟩ : ∃ Q, Q = qa s.data.toList n := ⟨_, rfl⟩
  rw [← hQ] at HF HT HG QA
  clear hR hQ
  obtain ⟨t, en, ok⟩ := Q
  simp only at HF HT HG QA
  cases ok
  · have HR := HF.out rfl
    have HR2 : Hid (R = RT.bad 11) := HR
    clear HR HF HT HG
    go_enter Tryd.func58, Tryd.ntmps58
    go_wp2_with (go_at_call 77; refine (QA _).mono ?_; rintro e w2 ⟨rfl, hb2⟩; obtain ⟨hc, hf⟩ := oldCells hb2; have hz2 := hb2.size)
    refine bodyPost_ret (v := rtV R n) (by rw [HR2.out, rtV_bad 11 n (by decide)]; simp [results, Tryd.results58, go_sem, hc]) rfl ⟨rfl, ?_⟩
    exact ((((((Below.refl _ _).alloc (Nat.le_refl _) _).trans (hb2.mono (by simp))).setCell (Nat.le_refl _) _).setCell (Nat.le_refl _) _).setCell (Nat.le_refl _) _).setCell (Nat.le_refl _) _
  · have hge := HG.out rfl
    by_cases h4 : 4096 < t.length
    · have HR2 : Hid (R = RT.bad 3) := by show _ = _; rw [HT.out rfl, if_pos h4]
      have h4' : (4096 : Int) < ((ByteArray.mk t.toArray).size : Int) := by show (4096 : Int) < ((t.toArray.size : Nat) : Int); simp; omega
      clear HF HT HG
      go_enter Tryd.func58, Tryd.ntmps58
      go_wp2_with (go_at_call 77; refine (QA _).mono ?_; rintro e w2 ⟨rfl, hb2⟩; obtain ⟨hc, hf⟩ := oldCells hb2; have hz2 := hb2.size)
      refine bodyPost_ret (v := rtV R n) (by rw [HR2.out, rtV_bad 3 n (by decide)]; simp [results, Tryd.results58, go_sem, hc]) rfl ⟨rfl, ?_⟩
      exact ((((((Below.refl _ _).alloc (Nat.le_refl _) _).trans (hb2.mono (by simp))).setCell (Nat.le_refl _) _).setCell (Nat.le_refl _) _).setCell (Nat.le_refl _) _).setCell (Nat.le_refl _) _
    · have HR2 : Hid (R = ⟨0, 5, 0, t, en - n⟩) := by show _ = _; rw [HT.out rfl, if_neg h4]
      have h4' : ¬ (4096 : Int) < ((ByteArray.mk t.toArray).size : Int) := by show ¬ (4096 : Int) < ((t.toArray.size : Nat) : Int); simp; omega
      clear HF HT HG
      go_enter Tryd.func58, Tryd.ntmps58
      go_wp2_with (go_at_call 77; refine (QA _).mono ?_; rintro e w2 ⟨rfl, hb2⟩; obtain ⟨hc, hf⟩ := oldCells hb2; have hz2 := hb2.size)
      refine bodyPost_ret (v := rtV R n) (by rw [HR2.out, rtV_ok]; simp [results, Tryd.results58, go_sem, hc]; omega) rfl ⟨rfl, ?_⟩
      exact ((((((Below.refl _ _).alloc (Nat.le_refl _) _).trans (hb2.mono (by simp))).setCell (Nat.le_refl _) _).setCell (Nat.le_refl _) _).setCell (Nat.le_refl _) _).setCell (Nat.le_refl _) _

/-- The fourteen marks, the longest first. -/
def mk : List ByteArray := [⟨#[61, 61]⟩, ⟨#[40]⟩, ⟨#[41]⟩, ⟨#[91]⟩, ⟨#[93]⟩, ⟨#[44]⟩, ⟨#[59]⟩, ⟨#[46]⟩, ⟨#[61]⟩, ⟨#[43]⟩, ⟨#[45]⟩, ⟨#[42]⟩, ⟨#[38]⟩, ⟨#[60]⟩]
def mkV : Array Value := (mk.map Value.string).toArray
theorem mk_len : mk.length = 14 := by decide
theorem mkV_at (k : Nat) (h : k < mk.length) : mkV[k]? = some (.string mk[k]) := by simp [mkV, h]
theorem mk_size : ∀ k (h : k < mk.length), mk[k].size ≤ 2 := by decide
/-- The marks lie in the memory of the package's variable. -/
def MarksAt (w : World) : Prop := ∀ i, i < mk.length → w.cell? ⟨0, i, none⟩ = some (.string (mk.getD i ByteArray.empty))
theorem MarksAt.below {w w' : World} (h : MarksAt w) (hb : Below w.heap.size w w') : MarksAt w' := by
  intro i hi
  have := h i hi
  rw [hb.cell (p := ⟨0, i, none⟩) (block_lt_of_cell this)]; exact this
theorem MarksAt.alloc {w : World} (h : MarksAt w) (o : Obj) : MarksAt (w.alloc o) := h.below ((Below.refl _ _).alloc (Nat.le_refl _) _)
def rmOf (l : List ByteArray) (r : List UInt8) : RT := match l.find? fun m => Lib.hasPrefix r m.data.toList with
  | some m => ⟨0, 6, 0, m.data.toList, m.size⟩
  | none => RT.bad 10
def rm (r : List UInt8) : RT := rmOf mk r
theorem rmOf_hit {l : List ByteArray} {r : List UInt8} {k : Nat} (hk : k < l.length) (h : Lib.hasPrefix r l[k].data.toList = true) : rmOf (l.drop k) r = ⟨0, 6, 0, l[k].data.toList, l[k].size⟩ := by
  unfold rmOf; rw [List.drop_eq_getElem_cons hk, List.find?_cons, h]
theorem rmOf_miss {l : List ByteArray} {r : List UInt8} {k : Nat} (hk : k < l.length) (h : Lib.hasPrefix r l[k].data.toList = false) : rmOf (l.drop k) r = rmOf (l.drop (k + 1)) r := by
  unfold rmOf; rw [List.drop_eq_getElem_cons hk, List.find?_cons, h]
theorem rmOf_end {l : List ByteArray} {r : List UInt8} {k : Nat} (hk : l.length ≤ k) : rmOf (l.drop k) r = RT.bad 10 := by
  unfold rmOf; rw [List.drop_eq_nil_iff.2 hk]; rfl
theorem mk_bytes (s : ByteArray) : s = ⟨s.data.toList.toArray⟩ := by cases s; simp

set_option maxRecDepth 100000 in
set_option maxHeartbeats 1000000 in
theorem readMark_any (s : ByteArray) (n : Nat) (w : World) (hs : s.size ≤ 65536) (hn : n < s.size) (hk : MarksAt w) :
    Calls Tryd.prog 59 #[.string s, .int .i64 n] w fun e w' => e = .returned (rtV (rm (s.data.toList.drop n)) n) ∧ Below w.heap.size w w' := by
  have hcs : ∀ j v, mkV.toList[j]? = some v → (w.alloc (.cells #[.int .i64 0, .int .i64 0, .int .i64 0, .string ⟨#[]⟩] 77)).cell? ⟨0, j, none⟩ = some v := by
    intro j v hv
    have hj : j < mk.length := by
      by_cases h : j < mk.length
      · exact h
      · exfalso; rw [List.getElem?_eq_none (by simp [mkV]; omega)] at hv; cases hv
    rw [hk.alloc _ j hj]
    have := mkV_at j hj
    rw [← Array.getElem?_toList, hv] at this
    rw [this]; simp [hj]
  have hix : ∀ k (h : k < mk.length) (w' : World), (Instr.index 112 (.agg mkV) (.int .i64 k)).run Tryd.prog w' = .ok (.string mk[k]) w' := fun k h w' =>
    run_index_strs 112 9 14 mkV k mk[k] w' Tryd.underlying112 Tryd.underlying9 (by kernel_rfl) (by rw [mk_len] at h; exact h) (mkV_at k h)
  have hsz : (Tryd.prog.info? 112).map (·.size) = some mkV.size := by kernel_rfl
  have HCS : Hid (∀ j v, mkV.toList[j]? = some v → (w.alloc (.cells #[.int .i64 0, .int .i64 0, .int .i64 0, .string ⟨#[]⟩] 77)).cell? ⟨0, j, none⟩ = some v) := hcs
  have HSZ : Hid ((Tryd.prog.info? 112).map (·.size) = some mkV.size) := hsz
  have hkl := mk_len
  have HM : Hid (rm (s.data.toList.drop n) = rmOf mk (s.data.toList.drop n)) := rfl
  have hm2 := mk_size
  generalize mkV = V at *
  generalize mk = L at *
  clear hcs hsz hk
  obtain ⟨R, hR⟩ : ∃ R, R = rm (s.data.toList.drop n) := ⟨_, rfl⟩
  rw [← hR] at HM
  rw [← hR]
  clear hR
  go_enter Tryd.func59, Tryd.ntmps59
  go_wp2_with (refine wpList_load_cells rfl 112 (.global 0) rfl 0 rfl V (.array 14 9) HCS.out Tryd.underlying112 rfl HSZ.out ?_)
  go_loop [10] (fun i => ∃ k : Nat, k ≤ L.length ∧ i = .int .i64 k ∧ Hid (R = rmOf (L.drop k) (s.data.toList.drop n))) (fun i => L.length - (intOf i).toNat)
  case atStart => exact ⟨0, Nat.zero_le _, rfl, HM⟩
  case round =>
    obtain ⟨k, hkl', rfl, HR⟩ := hrel
    by_cases hlt : k < L.length
    · have hi := hix k hlt
      have h2 := hm2 k hlt
      have HP := fun w1 => Tryd.strings_HasPrefix (s.extract n s.size) L[k] w1
      have HX : Hid ((s.extract n s.size).data.toList = s.data.toList.drop n) := extract_drop s n
      rw [HX.out] at HP
      clear HX
      cases ht : Lib.hasPrefix (s.data.toList.drop n) L[k].data.toList
      · rw [ht] at HP
        have HT : Hid (Lib.hasPrefix (s.data.toList.drop n) L[k].data.toList = false) := ht
        clear ht
        go_wp2_with (go_at_call 78; refine (HP _).mono ?_; rintro e w' ⟨rfl, rfl⟩)
        go_round
        case rel => exact ⟨k + 1, by omega, by go_num, by show _ = _; rw [HR.out, rmOf_miss hlt HT.out]⟩
        case measure => simp [intOf]; omega
      · rw [ht] at HP
        have HR2 : Hid (R = ⟨0, 6, 0, L[k].data.toList, L[k].size⟩) := by show _ = _; rw [HR.out, rmOf_hit hlt ht]
        clear ht HR
        go_wp2_with (go_at_call 78; refine (HP _).mono ?_; rintro e w' ⟨rfl, rfl⟩)
        refine bodyPost_ret (v := rtV R n) (by rw [HR2.out, rtV_ok, ← mk_bytes]; simp [results, Tryd.results59, go_sem]) rfl ⟨rfl, (Below.refl _ _).alloc (Nat.le_refl _) _⟩
    · have HR2 : Hid (R = RT.bad 10) := by show _ = _; rw [HR.out, rmOf_end (by omega)]
      go_wp2
      refine bodyPost_ret (v := rtV R n) (by rw [HR2.out, rtV_bad 10 n (by decide)]; simp [results, Tryd.results59, go_sem]) rfl ⟨rfl, (Below.refl _ _).alloc (Nat.le_refl _) _⟩
end Go.Proofs.YtahcllncjpaijabDoor.L1
