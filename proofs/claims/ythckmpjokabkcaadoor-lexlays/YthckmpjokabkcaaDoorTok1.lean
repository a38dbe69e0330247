/- The walks of lex.readWord, readNumber, readText and readMark: one token that begins at a place, or its fault. -/
import Derived.Test.YthckmpjokabkcaaDoorBlank
import Derived.Test.YthckmpjokabkcaaDoorKey
import Derived.Test.YthckmpjokabkcaaDoorUnq3
import Derived.Test.YthckmpjokabkcaaDoorShelf
namespace Go.Proofs.YthckmpjokabkcaaDoor
open Go.RowKit

/-- What is read at a place: a fault's code, or a token and how many bytes it has. -/
structure RT where
  code : Int
  kind : Int
  num : Int
  text : List UInt8
  len : Nat
def RT.bad (c : Int) : RT := ⟨c, 0, 0, [], 0⟩
/-- The struct's cells. -/
def tokA (kind at' num : Int) (text : List UInt8) : Array Value := #[.int .i64 kind, .int .i64 at', .int .i64 num, .string ⟨text.toArray⟩]
/-- The three results, for a token that begins at n. -/
def rtV (r : RT) (n : Nat) : Value := if r.code = 0 then .tuple #[.agg (tokA r.kind n r.num r.text), .int .i64 (n + r.len : Nat), .int .i64 0] else .tuple #[.agg (tokA 0 0 0 []), .int .i64 0, .int .i64 r.code]
def keyL (l : List UInt8) : Bool := kw.any fun x => x.data.toList == l
theorem keyL_in (s : ByteArray) : inB kw s = keyL s.data.toList := by
  unfold inB keyL
  congr 1; funext x; rw [ByteArray.toList_eq, ByteArray.toList_eq]
/-- A word, behind a dollar sign or not. -/
def rw' (dollar : Bool) (r : List UInt8) : RT :=
  if wLen r = 0 then RT.bad 10 else if 24 < wLen r then RT.bad 3
  else ⟨0, if dollar then 3 else if keyL (r.take (wLen r)) then 2 else 1, 0, r.take (wLen r), wLen r + (if dollar then 1 else 0)⟩
theorem extract_toList (s : ByteArray) (a b : Nat) : (s.extract a b).data.toList = (s.data.toList.drop a).take (b - a) := by
  rw [ByteArray.data_extract, Array.toList_extract, List.extract_eq_take_drop]
theorem extract_eq (s : ByteArray) (a b : Nat) : s.extract a b = ⟨((s.data.toList.drop a).take (b - a)).toArray⟩ := by
  have := extract_toList s a b
  cases h : s.extract a b with
  | mk d => rw [h] at this; simp at this; rw [← this]

theorem clone_any (s : ByteArray) (w : World) (h : s.size ≤ 281474976710656) :
    Calls Tryd.prog 53 #[.string s] w fun e w' => e = .returned (.string s) ∧ Below w.heap.size w w' := by
  have C := Tryd.stringslite_Clone s w h
  go_enter Tryd.func53, Tryd.ntmps53
  go_wp2_with (go_at_call 60; refine C.mono ?_; rintro e w' ⟨rfl, hb⟩)
  go_ret
  exact ⟨rfl, hb⟩

/-- Old cells and marks read as before. -/
theorem oldCells {W w1 : World} (h : Below W.heap.size W w1) : (∀ b o, b < W.heap.size → w1.cell? ⟨b, o, none⟩ = W.cell? ⟨b, o, none⟩) ∧ (∀ b o, b < W.heap.size → w1.frozen? ⟨b, o, none⟩ = W.frozen? ⟨b, o, none⟩) :=
  ⟨fun b o hb => h.cell (p := ⟨b, o, none⟩) hb, fun b o hb => h.frozen (p := ⟨b, o, none⟩) hb⟩
theorem rtV_bad (c : Int) (n : Nat) (h : c ≠ 0) : rtV (RT.bad c) n = .tuple #[.agg #[.int .i64 0, .int .i64 0, .int .i64 0, .string ⟨#[]⟩], .int .i64 0, .int .i64 c] := by
  simp [rtV, RT.bad, h, tokA]
theorem rtV_ok (kind num : Int) (text : List UInt8) (len n : Nat) : rtV ⟨0, kind, num, text, len⟩ n = .tuple #[.agg #[.int .i64 kind, .int .i64 n, .int .i64 num, .string ⟨text.toArray⟩], .int .i64 (n + len : Nat), .int .i64 0] := by
  simp [rtV, tokA]

set_option maxHeartbeats 1000000 in
theorem readWord_any (s : ByteArray) (n d : Nat) (w : World) (hs : s.size ≤ 65536) (hn : n + d ≤ s.size) (hd : d ≤ 1) (hk : KeysAt w) :
    Calls Tryd.prog 40 #[.string s, .int .i64 n, .int .i64 (n + d : Nat)] w fun e w' => e = .returned (rtV (rw' (decide (d = 1)) (s.data.toList.drop (n + d))) n) ∧ Below w.heap.size w w' := by
  have hl := wLen_le (s.data.toList.drop (n + d))
  have WE := fun w1 => wordEnd_any s (n + d) w1 (by unfold maxLen; omega) (by omega)
  have hle : n + d + wLen (s.data.toList.drop (n + d)) ≤ s.size := by simp at hl; omega
  obtain ⟨R, hR⟩ : ∃ R, R = rw' (decide (d = 1)) (s.data.toList.drop (n + d)) := ⟨_, rfl⟩
  rw [← hR]
  have HR : Hid (R = if wLen (s.data.toList.drop (n + d)) = 0 then RT.bad 10 else if 24 < wLen (s.data.toList.drop (n + d)) then RT.bad 3
    else ⟨0, if decide (d = 1) then 3 else if keyL ((s.data.toList.drop (n + d)).take (wLen (s.data.toList.drop (n + d)))) then 2 else 1, 0, (s.data.toList.drop (n + d)).take (wLen (s.data.toList.drop (n + d))), wLen (s.data.toList.drop (n + d)) + (if decide (d = 1) then 1 else 0)⟩) := hR
  clear hR hl
  obtain ⟨m, hm⟩ : ∃ m, m = wLen (s.data.toList.drop (n + d)) := ⟨_, rfl⟩
  rw [← hm] at WE hle HR
  clear hm
  have hsz : (s.extract (n + d) (n + d + m)).size = m := by rw [ByteArray.size_extract]; omega
  have HE : Hid (s.extract (n + d) (n + d + m) = ⟨((s.data.toList.drop (n + d)).take m).toArray⟩) := by
    show _ = _; rw [extract_eq]; congr 3; omega
  obtain ⟨T, hT⟩ : ∃ T, T = (s.data.toList.drop (n + d)).take m := ⟨_, rfl⟩
  rw [← hT] at HR HE
  clear hT
  have HK : Hid (inB kw (s.extract (n + d) (n + d + m)) = keyL T) := by show _ = _; rw [keyL_in, HE.out]
  have IK := isKey_any (s.extract (n + d) (n + d + m)) (w.alloc (.cells #[.int .i64 0, .int .i64 0, .int .i64 0, .string ⟨#[]⟩] 30)) (hk.alloc _)
  rw [HK.out] at IK
  clear HK hk
  obtain ⟨b, hb⟩ : ∃ b, b = keyL T := ⟨_, rfl⟩
  rw [← hb] at HR IK
  clear hb
  have CL := fun w1 => clone_any (s.extract (n + d) (n + d + m)) w1 (by rw [hsz]; omega)
  by_cases h0 : m = 0
  · have e1 : (s.extract (n + d) (n + d + m)).toList.isEmpty = true := by
      have : (s.extract (n + d) (n + d + m)) = ByteArray.empty := bytes_nil (by rw [hsz]; exact h0)
      rw [this, ByteArray.toList_eq]; rfl
    have HR2 : Hid (R = RT.bad 10) := by show _ = _; rw [HR.out, if_pos h0]
    clear HR IK CL h0
    go_enter Tryd.func40, Tryd.ntmps40
    go_wp2_with (first
      | (go_at_call 47; refine (WE _).mono ?_; rintro e w' ⟨rfl, rfl⟩))
    refine bodyPost_ret (v := rtV R n) (by rw [HR2.out, rtV_bad 10 n (by decide)]; simp [results, Tryd.results40, go_sem]) rfl ⟨rfl, (Below.refl _ _).alloc (Nat.le_refl _) _⟩
  obtain ⟨e0, e1⟩ := bytes_ne (s := s.extract (n + d) (n + d + m)) (by rw [hsz]; omega)
  by_cases h24 : 24 < m
  · have HR2 : Hid (R = RT.bad 3) := by show _ = _; rw [HR.out, if_neg h0, if_pos h24]
    clear HR IK CL
    go_enter Tryd.func40, Tryd.ntmps40
    go_wp2_with (first
      | (go_at_call 47; refine (WE _).mono ?_; rintro e w' ⟨rfl, rfl⟩))
    refine bodyPost_ret (v := rtV R n) (by rw [HR2.out, rtV_bad 3 n (by decide)]; simp [results, Tryd.results40, go_sem]) rfl ⟨rfl, (Below.refl _ _).alloc (Nat.le_refl _) _⟩
  have HR2 : Hid (R = ⟨0, if decide (d = 1) then 3 else if b then 2 else 1, 0, T, m + (if decide (d = 1) then 1 else 0)⟩) := by show _ = _; rw [HR.out, if_neg h0, if_neg h24]
  clear HR
  by_cases hd1 : d = 1
  · subst hd1
    have HR3 : Hid (R = ⟨0, 3, 0, T, m + 1⟩) := by show _ = _; rw [HR2.out]; rfl
    clear HR2 IK
    go_enter Tryd.func40, Tryd.ntmps40
    go_wp2_with (first
      | (go_at_call 47; refine (WE _).mono ?_; rintro e w' ⟨rfl, rfl⟩)
      | (go_at_call 53; refine (CL _).mono ?_; rintro e w2 ⟨rfl, hb2⟩; obtain ⟨hc, hf⟩ := oldCells hb2; have hz2 := hb2.size))
    refine bodyPost_ret (v := rtV R n) (by rw [HR3.out, rtV_ok, ← HE.out]; simp [results, Tryd.results40, go_sem, hc]; omega) rfl ⟨rfl, ?_⟩
    exact ((((((Below.refl _ _).alloc (Nat.le_refl _) _).trans (hb2.mono (by simp))).setCell (Nat.le_refl _) _).setCell (Nat.le_refl _) _).setCell (Nat.le_refl _) _).setCell (Nat.le_refl _) _
  · have hd0 : d = 0 := by omega
    subst hd0
    have HR3 : Hid (R = ⟨0, if b then 2 else 1, 0, T, m⟩) := by show _ = _; rw [HR2.out]; rfl
    clear HR2 hd hd1
    simp only [Nat.add_zero] at WE IK CL HE hle hn hsz e0 e1 ⊢
    cases b
    all_goals
      go_enter Tryd.func40, Tryd.ntmps40
      go_wp2_with (first
        | (go_at_call 47; refine (WE _).mono ?_; rintro e w' ⟨rfl, rfl⟩)
        | (go_at_call 15; refine IK.mono ?_; rintro e w' ⟨rfl, rfl⟩)
        | (go_at_call 53; refine (CL _).mono ?_; rintro e w2 ⟨rfl, hb2⟩; obtain ⟨hc, hf⟩ := oldCells hb2; have hz2 := hb2.size))
      refine bodyPost_ret (v := rtV R n) (by rw [HR3.out, rtV_ok, ← HE.out]; simp [results, Tryd.results40, go_sem, hc]) rfl ⟨rfl, ?_⟩
      exact ((((((Below.refl _ _).alloc (Nat.le_refl _) _).trans (hb2.mono (by simp))).setCell (Nat.le_refl _) _).setCell (Nat.le_refl _) _).setCell (Nat.le_refl _) _).setCell (Nat.le_refl _) _
end Go.Proofs.YthckmpjokabkcaaDoor
