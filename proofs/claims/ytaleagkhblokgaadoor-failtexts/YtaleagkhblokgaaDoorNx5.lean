/- Failures: the reference's reader: one failure, kind by kind. -/
import Derived.Test.YtaleagkhblokgaaDoorNx4
namespace Go.Proofs.YtaleagkhblokgaaDoor
open Go.RowKit

theorem drop_len (s : ByteArray) {b : Nat} (h : b ≤ s.size) : s.size - (s.data.toList.drop b).length = b := by rw [List.length_drop, bsz]; omega
theorem PO.leaf {A : Option (List Cr × List UInt8)} {s : ByteArray} {n : Nat} {w w' : World} {k : Int} {t : ByteArray} {b : Nat} (hb : Below w.heap.size w w') (hA : A = some ([⟨k, 0, t⟩], s.data.toList.drop b)) (h1 : 1 ≤ b) (h2 : b ≤ s.size) :
    PO A s n w (.returned (.tuple #[.slice (some ⟨w'.heap.size, 0, none⟩) 1 1, .int .i64 b, .bool true])) (w'.alloc (.cells #[.int .i64 k, .int .i64 0, .string t] 55)) := by
  refine ⟨hb.alloc hb.size _, Or.inl ⟨_, _, _, _, hA, ?_, by simp, ?_, (ownC_one w' k 0 t).low hb.size, ?_⟩⟩
  · rw [List.length_drop, bsz]; simp; omega
  · rw [drop_len s h2]
  · rw [drop_len s h2]; rfl
theorem PO.leafno {A : Option (List Cr × List UInt8)} {s : ByteArray} {n : Nat} {w w' : World} {k : Int} {t : ByteArray} {m : Nat} (hb : Below w.heap.size w w') (hA : A = none) (h1 : m ≤ 200000) (hn : 1 ≤ n) :
    PO A s n w (.returned (.tuple #[.slice (some ⟨w'.heap.size, 0, none⟩) 1 1, .int .i64 m, .bool false])) (w'.alloc (.cells #[.int .i64 k, .int .i64 0, .string t] 55)) :=
  ⟨hb.alloc hb.size _, Or.inr ⟨hA, [⟨k, 0, t⟩], _, _, m, by simpa using hn, h1, (ownC_one w' k 0 t).low hb.size, rfl⟩⟩
theorem PO.more {A : Option (List Cr × List UInt8)} {s : ByteArray} {n m : Nat} {w w' : World} {e : Ending} (h : PO A s n w e w') (hm : n ≤ m) : PO A s m w e w' := by
  obtain ⟨hb, h | ⟨hA, l, p, c, k, hl, hk, ho, he⟩⟩ := h
  · exact ⟨hb, Or.inl h⟩
  · exact ⟨hb, Or.inr ⟨hA, l, p, c, k, by omega, hk, ho, he⟩⟩
theorem rpK_R (T : RpT) {k : Int} {R q : List UInt8} (h1 : ¬ (k = 6 ∨ k = 7 ∨ k = 11)) (h2 : k ≠ 10) (hR : R = 32 :: q) : rpK T k R = rpR T k q := by
  unfold rpK
  rw [if_neg h1, if_neg h2, hR, show (32 :: q) = [32] ++ q from rfl, strip_app, Option.bind_some]
theorem rpK_no (T : RpT) {k : Int} {R : List UInt8} (h1 : ¬ (k = 6 ∨ k = 7 ∨ k = 11)) (h2 : k ≠ 10) (hR : R.head? ≠ some 32) : rpK T k R = none := by
  unfold rpK
  rw [if_neg h1, if_neg h2, strip_no (by cases R with | nil => simp | cons c r => simp [List.isPrefixOf] at hR ⊢; exact fun h => hR h.symm)]; rfl
set_option maxHeartbeats 8000000 in
set_option maxRecDepth 100000 in
theorem rparse_k6 (s : ByteArray) (f : Nat) (_hs : s.size ≤ 65536) (_hf : f ≤ 1024) (H : ByteArray) (b a : Nat) (d : Int) (w : World) (_ha : a ≤ s.size) (hd : d + (f + 1 : Nat) = 1025) (WD : Calls Tryd.prog 66 #[.string s, .int .i64 a] w fun e w' => e = .returned (.tuple #[.string H, .int .i64 b]) ∧ w' = w) (_hb : b ≤ s.size) (_hb1 : 1 ≤ b) (A : Option (List Cr × List UInt8)) (hH : H = ⟨#[100, 101, 112, 116, 104]⟩) (hA : A = rpK (rp f) 6 (s.data.toList.drop b)) :
    Calls Tryd.prog 51 #[.string s, .int .i64 a, .int .i64 d] w fun e w' => PO A s (f + 2) w e w' := by
  have hs := _hs
  have hf := _hf
  have ha := _ha
  have hb := _hb
  have hb1 := _hb1
  have hd0 : 0 ≤ d ∧ d ≤ 1024 := by omega
  have hd1 : d + 1 + f = 1025 := by omega
  have hsl := bsz s
  have HF : Hid (A = some ([⟨6, 0, ByteArray.empty⟩], s.data.toList.drop b)) := by show A = _; rw [hA, there_n _ (by decide)]
  clear hA
  subst hH
  go_enter Tryd.func51, Tryd.ntmps51
  go_wp2_with fail
  refine WD.mono ?_
  rintro e w1 ⟨rfl, hw1⟩
  rw [hw1]
  clear hw1 WD w1
  go_wp2_with fail
  go_ret3
  exact PO.leaf (Below.refl _ _) HF.out hb1 hb
set_option maxHeartbeats 8000000 in
set_option maxRecDepth 100000 in
theorem rparse_k7 (s : ByteArray) (f : Nat) (_hs : s.size ≤ 65536) (_hf : f ≤ 1024) (H : ByteArray) (b a : Nat) (d : Int) (w : World) (_ha : a ≤ s.size) (hd : d + (f + 1 : Nat) = 1025) (WD : Calls Tryd.prog 66 #[.string s, .int .i64 a] w fun e w' => e = .returned (.tuple #[.string H, .int .i64 b]) ∧ w' = w) (_hb : b ≤ s.size) (_hb1 : 1 ≤ b) (A : Option (List Cr × List UInt8)) (hH : H = ⟨#[99, 108, 111, 115, 101, 100]⟩) (hA : A = rpK (rp f) 7 (s.data.toList.drop b)) :
    Calls Tryd.prog 51 #[.string s, .int .i64 a, .int .i64 d] w fun e w' => PO A s (f + 2) w e w' := by
  have hs := _hs
  have hf := _hf
  have ha := _ha
  have hb := _hb
  have hb1 := _hb1
  have hd0 : 0 ≤ d ∧ d ≤ 1024 := by omega
  have hd1 : d + 1 + f = 1025 := by omega
  have hsl := bsz s
  have HF : Hid (A = some ([⟨7, 0, ByteArray.empty⟩], s.data.toList.drop b)) := by show A = _; rw [hA, there_n _ (by decide)]
  clear hA
  subst hH
  go_enter Tryd.func51, Tryd.ntmps51
  go_wp2_with fail
  refine WD.mono ?_
  rintro e w1 ⟨rfl, hw1⟩
  rw [hw1]
  clear hw1 WD w1
  go_wp2_with fail
  go_ret3
  exact PO.leaf (Below.refl _ _) HF.out hb1 hb
set_option maxHeartbeats 8000000 in
set_option maxRecDepth 100000 in
theorem rparse_k11 (s : ByteArray) (f : Nat) (_hs : s.size ≤ 65536) (_hf : f ≤ 1024) (H : ByteArray) (b a : Nat) (d : Int) (w : World) (_ha : a ≤ s.size) (hd : d + (f + 1 : Nat) = 1025) (WD : Calls Tryd.prog 66 #[.string s, .int .i64 a] w fun e w' => e = .returned (.tuple #[.string H, .int .i64 b]) ∧ w' = w) (_hb : b ≤ s.size) (_hb1 : 1 ≤ b) (A : Option (List Cr × List UInt8)) (hH : H = ⟨#[108, 111, 110, 103]⟩) (hA : A = rpK (rp f) 11 (s.data.toList.drop b)) :
    Calls Tryd.prog 51 #[.string s, .int .i64 a, .int .i64 d] w fun e w' => PO A s (f + 2) w e w' := by
  have hs := _hs
  have hf := _hf
  have ha := _ha
  have hb := _hb
  have hb1 := _hb1
  have hd0 : 0 ≤ d ∧ d ≤ 1024 := by omega
  have hd1 : d + 1 + f = 1025 := by omega
  have hsl := bsz s
  have HF : Hid (A = some ([⟨11, 0, ByteArray.empty⟩], s.data.toList.drop b)) := by show A = _; rw [hA, there_n _ (by decide)]
  clear hA
  subst hH
  go_enter Tryd.func51, Tryd.ntmps51
  go_wp2_with fail
  refine WD.mono ?_
  rintro e w1 ⟨rfl, hw1⟩
  rw [hw1]
  clear hw1 WD w1
  go_wp2_with fail
  go_ret3
  exact PO.leaf (Below.refl _ _) HF.out hb1 hb
set_option maxHeartbeats 8000000 in
set_option maxRecDepth 100000 in
theorem rparse_k10 (s : ByteArray) (f : Nat) (_hs : s.size ≤ 65536) (_hf : f ≤ 1024) (H : ByteArray) (b a : Nat) (d : Int) (w : World) (_ha : a ≤ s.size) (hd : d + (f + 1 : Nat) = 1025) (WD : Calls Tryd.prog 66 #[.string s, .int .i64 a] w fun e w' => e = .returned (.tuple #[.string H, .int .i64 b]) ∧ w' = w) (_hb : b ≤ s.size) (_hb1 : 1 ≤ b) (A : Option (List Cr × List UInt8)) (hH : H = ⟨#[106, 111, 105, 110]⟩) (PA : ∀ (a : Nat) (d : Int) (w : World), a ≤ s.size → d + f = 1025 → Calls Tryd.prog 51 #[.string s, .int .i64 a, .int .i64 d] w fun e w' => PO (rp f (s.data.toList.drop a)) s (f + 1) w e w') (hA : A = rpK (rp f) 10 (s.data.toList.drop b)) :
    Calls Tryd.prog 51 #[.string s, .int .i64 a, .int .i64 d] w fun e w' => PO A s (f + 2) w e w' := by
  have hs := _hs
  have hf := _hf
  have ha := _ha
  have hb := _hb
  have hb1 := _hb1
  have hd0 : 0 ≤ d ∧ d ≤ 1024 := by omega
  have hd1 : d + 1 + f = 1025 := by omega
  have hsl := bsz s
  have JA := rjoined_step s f hs hf PA b d w hb hd
  have hA2 : rpJ (rp f) (s.data.toList.drop b) = A := by rw [hA]; unfold rpK; rw [if_neg (by decide), if_pos rfl]
  rw [hA2] at JA
  clear hA hA2 PA
  subst hH
  go_enter Tryd.func51, Tryd.ntmps51
  go_wp2_with fail
  refine WD.mono ?_
  rintro e w1 ⟨rfl, hw1⟩
  rw [hw1]
  clear hw1 WD w1
  go_wp2_with fail
  refine JA.mono ?_
  rintro e w2 ⟨hb2, ⟨l, r, p, c, h1, h2, h3, h4, h5, rfl⟩ | ⟨h1, l, p, c, m, h2, h3, h5, rfl⟩⟩
  · have HF : Hid (PO A s (f + 2) w (.returned (.tuple #[.slice p l.length c, .int .i64 (s.size - r.length : Nat), .bool true])) w2) := ⟨hb2, Or.inl ⟨l, r, p, c, h1, h2, h3, h4, h5, rfl⟩⟩
    clear hb2 h1 h4 h5 JA
    obtain ⟨nx, hnx⟩ : ∃ nx, nx = s.size - r.length := ⟨_, rfl⟩
    rw [← hnx] at HF ⊢
    clear hnx
    go_wp2
    go_ret3
    exact HF.out
  · have HF : Hid (PO A s (f + 2) w (.returned (.tuple #[.slice p l.length c, .int .i64 m, .bool false])) w2) := ⟨hb2, Or.inr ⟨h1, l, p, c, m, by omega, h3, h5, rfl⟩⟩
    clear hb2 h1 h5 JA
    go_wp2
    go_ret3
    exact HF.out
set_option maxHeartbeats 8000000 in
set_option maxRecDepth 100000 in
theorem rparse_end (s : ByteArray) (f : Nat) (_hs : s.size ≤ 65536) (_hf : f ≤ 1024) (H : ByteArray) (b a : Nat) (d : Int) (w : World) (_ha : a ≤ s.size) (hd : d + (f + 1 : Nat) = 1025) (WD : Calls Tryd.prog 66 #[.string s, .int .i64 a] w fun e w' => e = .returned (.tuple #[.string H, .int .i64 b]) ∧ w' = w) (_hb : b ≤ s.size) (A : Option (List Cr × List UInt8)) (n6 : (H.toList == [100, 101, 112, 116, 104]) = false) (n7 : (H.toList == [99, 108, 111, 115, 101, 100]) = false) (n11 : (H.toList == [108, 111, 110, 103]) = false) (n10 : (H.toList == [106, 111, 105, 110]) = false) (hlt : s.size ≤ b) (hA : A = none) :
    Calls Tryd.prog 51 #[.string s, .int .i64 a, .int .i64 d] w fun e w' => PO A s (f + 2) w e w' := by
  have hs := _hs
  have hf := _hf
  have ha := _ha
  have hb := _hb
  have hd0 : 0 ≤ d ∧ d ≤ 1024 := by omega
  have hd1 : d + 1 + f = 1025 := by omega
  have hsl := bsz s
  have HF : Hid (A = none) := hA
  clear hA
  go_enter Tryd.func51, Tryd.ntmps51
  go_wp2_with fail
  refine WD.mono ?_
  rintro e w1 ⟨rfl, hw1⟩
  rw [hw1]
  clear hw1 WD w1
  go_wp2_with fail
  go_ret3
  exact PO.no (Below.refl _ _) HF.out
set_option maxHeartbeats 8000000 in
set_option maxRecDepth 100000 in
theorem rparse_nosp (s : ByteArray) (f : Nat) (_hs : s.size ≤ 65536) (_hf : f ≤ 1024) (H : ByteArray) (b a : Nat) (d : Int) (w : World) (_ha : a ≤ s.size) (hd : d + (f + 1 : Nat) = 1025) (WD : Calls Tryd.prog 66 #[.string s, .int .i64 a] w fun e w' => e = .returned (.tuple #[.string H, .int .i64 b]) ∧ w' = w) (_hb : b ≤ s.size) (A : Option (List Cr × List UInt8)) (n6 : (H.toList == [100, 101, 112, 116, 104]) = false) (n7 : (H.toList == [99, 108, 111, 115, 101, 100]) = false) (n11 : (H.toList == [108, 111, 110, 103]) = false) (n10 : (H.toList == [106, 111, 105, 110]) = false) (hlt : b < s.size) (hsp : ¬ (s[b].toNat : Int) = 32) (hA : A = none) :
    Calls Tryd.prog 51 #[.string s, .int .i64 a, .int .i64 d] w fun e w' => PO A s (f + 2) w e w' := by
  have hs := _hs
  have hf := _hf
  have ha := _ha
  have hb := _hb
  have hd0 : 0 ≤ d ∧ d ≤ 1024 := by omega
  have hd1 : d + 1 + f = 1025 := by omega
  have hsl := bsz s
  have HF : Hid (A = none) := hA
  have hsn : ((s[b].toNat : Int) != 32) = true := by simpa using hsp
  have hnb : ¬ s.size ≤ b := by omega
  clear hA
  go_enter Tryd.func51, Tryd.ntmps51
  go_wp2_with fail
  refine WD.mono ?_
  rintro e w1 ⟨rfl, hw1⟩
  rw [hw1]
  clear hw1 WD w1
  go_wp2_with fail
  go_ret3
  exact PO.no (Below.refl _ _) HF.out
set_option maxHeartbeats 8000000 in
set_option maxRecDepth 100000 in
theorem rparse_k0 (s : ByteArray) (f : Nat) (_hs : s.size ≤ 65536) (_hf : f ≤ 1024) (H : ByteArray) (b a : Nat) (d : Int) (w : World) (_ha : a ≤ s.size) (hd : d + (f + 1 : Nat) = 1025) (WD : Calls Tryd.prog 66 #[.string s, .int .i64 a] w fun e w' => e = .returned (.tuple #[.string H, .int .i64 b]) ∧ w' = w) (_hb : b ≤ s.size) (A : Option (List Cr × List UInt8)) (n6 : (H.toList == [100, 101, 112, 116, 104]) = false) (n7 : (H.toList == [99, 108, 111, 115, 101, 100]) = false) (n11 : (H.toList == [108, 111, 110, 103]) = false) (n10 : (H.toList == [106, 111, 105, 110]) = false) (n1 : (H.toList == [102, 97, 105, 108]) = false) (n2 : (H.toList == [112, 97, 110, 105, 99]) = false) (n3 : (H.toList == [118, 97, 108, 117, 101]) = false) (n4 : (H.toList == [110, 111, 110, 101]) = false) (n5 : (H.toList == [99, 121, 99, 108, 101]) = false) (n8 : (H.toList == [116, 111, 107, 101, 110]) = false) (n9 : (H.toList == [99, 101, 108, 108]) = false) (hlt : b < s.size) (hsp : (s[b].toNat : Int) = 32) (hA : A = none) :
    Calls Tryd.prog 51 #[.string s, .int .i64 a, .int .i64 d] w fun e w' => PO A s (f + 2) w e w' := by
  have hs := _hs
  have hf := _hf
  have ha := _ha
  have hb := _hb
  have hd0 : 0 ≤ d ∧ d ≤ 1024 := by omega
  have hd1 : d + 1 + f = 1025 := by omega
  have hsl := bsz s
  have hsn : ((s[b].toNat : Int) != 32) = false := by simpa using hsp
  have hnb : ¬ s.size ≤ b := by omega
  have hR : s.data.toList.drop b = 32 :: s.data.toList.drop (b + 1) := by rw [drop_cons' s b hlt, u8_eq (n := 32) (by omega) hsp]; rfl
  have HF : Hid (A = none) := hA
  clear hA hR
  go_enter Tryd.func51, Tryd.ntmps51
  go_wp2_with fail
  refine WD.mono ?_
  rintro e w1 ⟨rfl, hw1⟩
  rw [hw1]
  clear hw1 WD w1
  go_wp2_with fail
  go_ret3
  exact PO.no (Below.refl _ _) HF.out
set_option maxHeartbeats 8000000 in
set_option maxRecDepth 100000 in
theorem rparse_k1 (s : ByteArray) (f : Nat) (_hs : s.size ≤ 65536) (_hf : f ≤ 1024) (H : ByteArray) (b a : Nat) (d : Int) (w : World) (_ha : a ≤ s.size) (hd : d + (f + 1 : Nat) = 1025) (WD : Calls Tryd.prog 66 #[.string s, .int .i64 a] w fun e w' => e = .returned (.tuple #[.string H, .int .i64 b]) ∧ w' = w) (_hb : b ≤ s.size) (_hb1 : 1 ≤ b) (A : Option (List Cr × List UInt8)) (hH : H = ⟨#[102, 97, 105, 108]⟩) (hlt : b < s.size) (hsp : (s[b].toNat : Int) = 32) (hA : A = rpK (rp f) 1 (s.data.toList.drop b)) :
    Calls Tryd.prog 51 #[.string s, .int .i64 a, .int .i64 d] w fun e w' => PO A s (f + 2) w e w' := by
  have hs := _hs
  have hf := _hf
  have ha := _ha
  have hb := _hb
  have hb1 := _hb1
  have hd0 : 0 ≤ d ∧ d ≤ 1024 := by omega
  have hd1 : d + 1 + f = 1025 := by omega
  have hsl := bsz s
  have hsn : ((s[b].toNat : Int) != 32) = false := by simpa using hsp
  have hnb : ¬ s.size ≤ b := by omega
  have hR : s.data.toList.drop b = 32 :: s.data.toList.drop (b + 1) := by rw [drop_cons' s b hlt, u8_eq (n := 32) (by omega) hsp]; rfl
  have TX := rtext_any s (b + 1) w (by omega) (by omega)
  have hA2 : A = (rpt (s.data.toList.drop (b + 1))).map fun z => ([⟨1, 0, z.1⟩], z.2) := by
    rw [hA, rpK_R _ (by decide) (by decide) hR]; unfold rpR; rw [if_pos (by decide)]
  clear hA hR
  subst hH
  go_enter Tryd.func51, Tryd.ntmps51
  go_wp2_with fail
  refine WD.mono ?_
  rintro e w1 ⟨rfl, hw1⟩
  rw [hw1]
  clear hw1 WD w1
  go_wp2_with fail
  refine TX.mono ?_
  rintro e w2 ⟨⟨t, r, h1, h2, rfl⟩ | ⟨h1, t, m, h2, rfl⟩, hb2⟩
  · have hr := drop_rest (rpt_back h1) (by omega)
    have h3 := rpt_len h1
    rw [List.length_drop, hsl] at h3
    obtain ⟨nx, hnx⟩ : ∃ nx, nx = s.size - r.length := ⟨_, rfl⟩
    rw [← hnx] at hr ⊢
    have HF : Hid (A = some ([⟨1, 0, t⟩], s.data.toList.drop nx)) := by show A = _; rw [hA2, h1, hr]; rfl
    have hx : 1 ≤ nx ∧ nx ≤ s.size := by omega
    have B2 : Hid (Below w.heap.size w w2) := hb2
    clear hb2 hr hA2 h1 h2 hnx TX h3
    go_wp2_with fail
    go_ret3
    exact PO.leaf B2.out HF.out hx.1 hx.2
  · have HF : Hid (A = none) := by show A = _; rw [hA2, h1]; rfl
    have B2 : Hid (Below w.heap.size w w2) := hb2
    clear hb2 hA2 h1 TX
    go_wp2_with fail
    go_ret3
    exact PO.leafno B2.out HF.out h2 (by omega)
set_option maxHeartbeats 8000000 in
set_option maxRecDepth 100000 in
theorem rparse_k2 (s : ByteArray) (f : Nat) (_hs : s.size ≤ 65536) (_hf : f ≤ 1024) (H : ByteArray) (b a : Nat) (d : Int) (w : World) (_ha : a ≤ s.size) (hd : d + (f + 1 : Nat) = 1025) (WD : Calls Tryd.prog 66 #[.string s, .int .i64 a] w fun e w' => e = .returned (.tuple #[.string H, .int .i64 b]) ∧ w' = w) (_hb : b ≤ s.size) (_hb1 : 1 ≤ b) (A : Option (List Cr × List UInt8)) (hH : H = ⟨#[112, 97, 110, 105, 99]⟩) (hlt : b < s.size) (hsp : (s[b].toNat : Int) = 32) (hA : A = rpK (rp f) 2 (s.data.toList.drop b)) :
    Calls Tryd.prog 51 #[.string s, .int .i64 a, .int .i64 d] w fun e w' => PO A s (f + 2) w e w' := by
  have hs := _hs
  have hf := _hf
  have ha := _ha
  have hb := _hb
  have hb1 := _hb1
  have hd0 : 0 ≤ d ∧ d ≤ 1024 := by omega
  have hd1 : d + 1 + f = 1025 := by omega
  have hsl := bsz s
  have hsn : ((s[b].toNat : Int) != 32) = false := by simpa using hsp
  have hnb : ¬ s.size ≤ b := by omega
  have hR : s.data.toList.drop b = 32 :: s.data.toList.drop (b + 1) := by rw [drop_cons' s b hlt, u8_eq (n := 32) (by omega) hsp]; rfl
  have TX := rtext_any s (b + 1) w (by omega) (by omega)
  have hA2 : A = (rpt (s.data.toList.drop (b + 1))).map fun z => ([⟨2, 0, z.1⟩], z.2) := by
    rw [hA, rpK_R _ (by decide) (by decide) hR]; unfold rpR; rw [if_pos (by decide)]
  clear hA hR
  subst hH
  go_enter Tryd.func51, Tryd.ntmps51
  go_wp2_with fail
  refine WD.mono ?_
  rintro e w1 ⟨rfl, hw1⟩
  rw [hw1]
  clear hw1 WD w1
  go_wp2_with fail
  refine TX.mono ?_
  rintro e w2 ⟨⟨t, r, h1, h2, rfl⟩ | ⟨h1, t, m, h2, rfl⟩, hb2⟩
  · have hr := drop_rest (rpt_back h1) (by omega)
    have h3 := rpt_len h1
    rw [List.length_drop, hsl] at h3
    obtain ⟨nx, hnx⟩ : ∃ nx, nx = s.size - r.length := ⟨_, rfl⟩
    rw [← hnx] at hr ⊢
    have HF : Hid (A = some ([⟨2, 0, t⟩], s.data.toList.drop nx)) := by show A = _; rw [hA2, h1, hr]; rfl
    have hx : 1 ≤ nx ∧ nx ≤ s.size := by omega
    have B2 : Hid (Below w.heap.size w w2) := hb2
    clear hb2 hr hA2 h1 h2 hnx TX h3
    go_wp2_with fail
    go_ret3
    exact PO.leaf B2.out HF.out hx.1 hx.2
  · have HF : Hid (A = none) := by show A = _; rw [hA2, h1]; rfl
    have B2 : Hid (Below w.heap.size w w2) := hb2
    clear hb2 hA2 h1 TX
    go_wp2_with fail
    go_ret3
    exact PO.leafno B2.out HF.out h2 (by omega)
set_option maxHeartbeats 8000000 in
set_option maxRecDepth 100000 in
theorem rparse_k3 (s : ByteArray) (f : Nat) (_hs : s.size ≤ 65536) (_hf : f ≤ 1024) (H : ByteArray) (b a : Nat) (d : Int) (w : World) (_ha : a ≤ s.size) (hd : d + (f + 1 : Nat) = 1025) (WD : Calls Tryd.prog 66 #[.string s, .int .i64 a] w fun e w' => e = .returned (.tuple #[.string H, .int .i64 b]) ∧ w' = w) (_hb : b ≤ s.size) (_hb1 : 1 ≤ b) (A : Option (List Cr × List UInt8)) (hH : H = ⟨#[118, 97, 108, 117, 101]⟩) (hlt : b < s.size) (hsp : (s[b].toNat : Int) = 32) (hA : A = rpK (rp f) 3 (s.data.toList.drop b)) :
    Calls Tryd.prog 51 #[.string s, .int .i64 a, .int .i64 d] w fun e w' => PO A s (f + 2) w e w' := by
  have hs := _hs
  have hf := _hf
  have ha := _ha
  have hb := _hb
  have hb1 := _hb1
  have hd0 : 0 ≤ d ∧ d ≤ 1024 := by omega
  have hd1 : d + 1 + f = 1025 := by omega
  have hsl := bsz s
  have hsn : ((s[b].toNat : Int) != 32) = false := by simpa using hsp
  have hnb : ¬ s.size ≤ b := by omega
  have hR : s.data.toList.drop b = 32 :: s.data.toList.drop (b + 1) := by rw [drop_cons' s b hlt, u8_eq (n := 32) (by omega) hsp]; rfl
  obtain ⟨T, hT⟩ : ∃ T, T = s.extract (b + 1) (b + 1 + ptLen (s.data.toList.drop (b + 1))) := ⟨_, rfl⟩
  obtain ⟨b2, hb2⟩ : ∃ b2, b2 = b + 1 + ptLen (s.data.toList.drop (b + 1)) := ⟨_, rfl⟩
  have WD2 := rword_any s (b + 1) w (by omega) (by omega)
  rw [← hT, ← hb2] at WD2
  have hT2 : (⟨((s.data.toList.drop (b + 1)).take (ptLen (s.data.toList.drop (b + 1)))).toArray⟩ : ByteArray) = T := bytes_ext (by rw [hT, ext_mid])
  have hD2 : (s.data.toList.drop (b + 1)).drop (ptLen (s.data.toList.drop (b + 1))) = s.data.toList.drop b2 := by rw [List.drop_drop, hb2]
  have hb3 : b2 ≤ s.size := by have := ptLen_le (s.data.toList.drop (b + 1)); rw [List.length_drop, hsl] at this; omega
  have hb4 : 1 ≤ b2 := by omega
  have HF : Hid (A = some ([⟨3, 0, T⟩], s.data.toList.drop b2)) := by
    show A = _
    rw [hA, rpK_R _ (by decide) (by decide) hR]; unfold rpR; rw [if_neg (by decide), if_pos (by decide), hT2, hD2]
  clear hA hR hT hb2 hT2 hD2
  subst hH
  go_enter Tryd.func51, Tryd.ntmps51
  go_wp2_with fail
  refine WD.mono ?_
  rintro e w1 ⟨rfl, hw1⟩
  rw [hw1]
  clear hw1 WD w1
  go_wp2_with fail
  refine WD2.mono ?_
  rintro e w2 ⟨rfl, hw2⟩
  rw [hw2]
  clear hw2 w2 WD2
  go_wp2_with fail
  go_ret3
  exact PO.leaf (Below.refl _ _) HF.out hb4 hb3
set_option maxHeartbeats 8000000 in
set_option maxRecDepth 100000 in
theorem rparse_k4 (s : ByteArray) (f : Nat) (_hs : s.size ≤ 65536) (_hf : f ≤ 1024) (H : ByteArray) (b a : Nat) (d : Int) (w : World) (_ha : a ≤ s.size) (hd : d + (f + 1 : Nat) = 1025) (WD : Calls Tryd.prog 66 #[.string s, .int .i64 a] w fun e w' => e = .returned (.tuple #[.string H, .int .i64 b]) ∧ w' = w) (_hb : b ≤ s.size) (_hb1 : 1 ≤ b) (A : Option (List Cr × List UInt8)) (hH : H = ⟨#[110, 111, 110, 101]⟩) (hlt : b < s.size) (hsp : (s[b].toNat : Int) = 32) (hA : A = rpK (rp f) 4 (s.data.toList.drop b)) :
    Calls Tryd.prog 51 #[.string s, .int .i64 a, .int .i64 d] w fun e w' => PO A s (f + 2) w e w' := by
  have hs := _hs
  have hf := _hf
  have ha := _ha
  have hb := _hb
  have hb1 := _hb1
  have hd0 : 0 ≤ d ∧ d ≤ 1024 := by omega
  have hd1 : d + 1 + f = 1025 := by omega
  have hsl := bsz s
  have hsn : ((s[b].toNat : Int) != 32) = false := by simpa using hsp
  have hnb : ¬ s.size ≤ b := by omega
  have hR : s.data.toList.drop b = 32 :: s.data.toList.drop (b + 1) := by rw [drop_cons' s b hlt, u8_eq (n := 32) (by omega) hsp]; rfl
  obtain ⟨T, hT⟩ : ∃ T, T = s.extract (b + 1) (b + 1 + ptLen (s.data.toList.drop (b + 1))) := ⟨_, rfl⟩
  obtain ⟨b2, hb2⟩ : ∃ b2, b2 = b + 1 + ptLen (s.data.toList.drop (b + 1)) := ⟨_, rfl⟩
  have WD2 := rword_any s (b + 1) w (by omega) (by omega)
  rw [← hT, ← hb2] at WD2
  have hT2 : (⟨((s.data.toList.drop (b + 1)).take (ptLen (s.data.toList.drop (b + 1)))).toArray⟩ : ByteArray) = T := bytes_ext (by rw [hT, ext_mid])
  have hD2 : (s.data.toList.drop (b + 1)).drop (ptLen (s.data.toList.drop (b + 1))) = s.data.toList.drop b2 := by rw [List.drop_drop, hb2]
  have hb3 : b2 ≤ s.size := by have := ptLen_le (s.data.toList.drop (b + 1)); rw [List.length_drop, hsl] at this; omega
  have hb4 : 1 ≤ b2 := by omega
  have HF : Hid (A = some ([⟨4, 0, T⟩], s.data.toList.drop b2)) := by
    show A = _
    rw [hA, rpK_R _ (by decide) (by decide) hR]; unfold rpR; rw [if_neg (by decide), if_pos (by decide), hT2, hD2]
  clear hA hR hT hb2 hT2 hD2
  subst hH
  go_enter Tryd.func51, Tryd.ntmps51
  go_wp2_with fail
  refine WD.mono ?_
  rintro e w1 ⟨rfl, hw1⟩
  rw [hw1]
  clear hw1 WD w1
  go_wp2_with fail
  refine WD2.mono ?_
  rintro e w2 ⟨rfl, hw2⟩
  rw [hw2]
  clear hw2 w2 WD2
  go_wp2_with fail
  go_ret3
  exact PO.leaf (Below.refl _ _) HF.out hb4 hb3
set_option maxHeartbeats 8000000 in
set_option maxRecDepth 100000 in
theorem rparse_k5 (s : ByteArray) (f : Nat) (_hs : s.size ≤ 65536) (_hf : f ≤ 1024) (H : ByteArray) (b a : Nat) (d : Int) (w : World) (_ha : a ≤ s.size) (hd : d + (f + 1 : Nat) = 1025) (WD : Calls Tryd.prog 66 #[.string s, .int .i64 a] w fun e w' => e = .returned (.tuple #[.string H, .int .i64 b]) ∧ w' = w) (_hb : b ≤ s.size) (_hb1 : 1 ≤ b) (A : Option (List Cr × List UInt8)) (hH : H = ⟨#[99, 121, 99, 108, 101]⟩) (hlt : b < s.size) (hsp : (s[b].toNat : Int) = 32) (hA : A = rpK (rp f) 5 (s.data.toList.drop b)) :
    Calls Tryd.prog 51 #[.string s, .int .i64 a, .int .i64 d] w fun e w' => PO A s (f + 2) w e w' := by
  have hs := _hs
  have hf := _hf
  have ha := _ha
  have hb := _hb
  have hb1 := _hb1
  have hd0 : 0 ≤ d ∧ d ≤ 1024 := by omega
  have hd1 : d + 1 + f = 1025 := by omega
  have hsl := bsz s
  have hsn : ((s[b].toNat : Int) != 32) = false := by simpa using hsp
  have hnb : ¬ s.size ≤ b := by omega
  have hR : s.data.toList.drop b = 32 :: s.data.toList.drop (b + 1) := by rw [drop_cons' s b hlt, u8_eq (n := 32) (by omega) hsp]; rfl
  obtain ⟨T, hT⟩ : ∃ T, T = s.extract (b + 1) (b + 1 + ptLen (s.data.toList.drop (b + 1))) := ⟨_, rfl⟩
  obtain ⟨b2, hb2⟩ : ∃ b2, b2 = b + 1 + ptLen (s.data.toList.drop (b + 1)) := ⟨_, rfl⟩
  have WD2 := rword_any s (b + 1) w (by omega) (by omega)
  rw [← hT, ← hb2] at WD2
  have hT2 : (⟨((s.data.toList.drop (b + 1)).take (ptLen (s.data.toList.drop (b + 1)))).toArray⟩ : ByteArray) = T := bytes_ext (by rw [hT, ext_mid])
  have hD2 : (s.data.toList.drop (b + 1)).drop (ptLen (s.data.toList.drop (b + 1))) = s.data.toList.drop b2 := by rw [List.drop_drop, hb2]
  have hb3 : b2 ≤ s.size := by have := ptLen_le (s.data.toList.drop (b + 1)); rw [List.length_drop, hsl] at this; omega
  have hb4 : 1 ≤ b2 := by omega
  have HF : Hid (A = some ([⟨5, 0, T⟩], s.data.toList.drop b2)) := by
    show A = _
    rw [hA, rpK_R _ (by decide) (by decide) hR]; unfold rpR; rw [if_neg (by decide), if_pos (by decide), hT2, hD2]
  clear hA hR hT hb2 hT2 hD2
  subst hH
  go_enter Tryd.func51, Tryd.ntmps51
  go_wp2_with fail
  refine WD.mono ?_
  rintro e w1 ⟨rfl, hw1⟩
  rw [hw1]
  clear hw1 WD w1
  go_wp2_with fail
  refine WD2.mono ?_
  rintro e w2 ⟨rfl, hw2⟩
  rw [hw2]
  clear hw2 w2 WD2
  go_wp2_with fail
  go_ret3
  exact PO.leaf (Below.refl _ _) HF.out hb4 hb3
set_option maxHeartbeats 8000000 in
set_option maxRecDepth 100000 in
theorem rparse_k8 (s : ByteArray) (f : Nat) (_hs : s.size ≤ 65536) (_hf : f ≤ 1024) (H : ByteArray) (b a : Nat) (d : Int) (w : World) (_ha : a ≤ s.size) (hd : d + (f + 1 : Nat) = 1025) (WD : Calls Tryd.prog 66 #[.string s, .int .i64 a] w fun e w' => e = .returned (.tuple #[.string H, .int .i64 b]) ∧ w' = w) (_hb : b ≤ s.size) (_hb1 : 1 ≤ b) (A : Option (List Cr × List UInt8)) (hH : H = ⟨#[116, 111, 107, 101, 110]⟩) (hlt : b < s.size) (hsp : (s[b].toNat : Int) = 32) (PA : ∀ (a : Nat) (d : Int) (w : World), a ≤ s.size → d + f = 1025 → Calls Tryd.prog 51 #[.string s, .int .i64 a, .int .i64 d] w fun e w' => PO (rp f (s.data.toList.drop a)) s (f + 1) w e w') (hA : A = rpK (rp f) 8 (s.data.toList.drop b)) :
    Calls Tryd.prog 51 #[.string s, .int .i64 a, .int .i64 d] w fun e w' => PO A s (f + 2) w e w' := by
  have hs := _hs
  have hf := _hf
  have ha := _ha
  have hb := _hb
  have hb1 := _hb1
  have hd0 : 0 ≤ d ∧ d ≤ 1024 := by omega
  have hd1 : d + 1 + f = 1025 := by omega
  have hsl := bsz s
  have hsn : ((s[b].toNat : Int) != 32) = false := by simpa using hsp
  have hnb : ¬ s.size ≤ b := by omega
  have hR : s.data.toList.drop b = 32 :: s.data.toList.drop (b + 1) := by rw [drop_cons' s b hlt, u8_eq (n := 32) (by omega) hsp]; rfl
  have TX := rtext_any s (b + 1) w (by omega) (by omega)
  have hA2 : A = (rpt (s.data.toList.drop (b + 1))).bind fun z => match strip [58, 32] z.2 with
    | none => some ([⟨8, 0, z.1⟩], z.2)
    | some u => (rp f u).map fun y => (y.1 ++ [⟨8, 1, z.1⟩], y.2) := by
    rw [hA, rpK_R _ (by decide) (by decide) hR]; unfold rpR; rw [if_neg (by decide), if_neg (by decide), if_pos rfl]; rfl
  clear hA hR
  subst hH
  go_enter Tryd.func51, Tryd.ntmps51
  go_wp2_with fail
  refine WD.mono ?_
  rintro e w1 ⟨rfl, hw1⟩
  rw [hw1]
  clear hw1 WD w1
  go_wp2_with fail
  refine TX.mono ?_
  rintro e w2 ⟨⟨t, r, h1, h2, rfl⟩ | ⟨h1, t, m, h2, rfl⟩, hb2⟩
  · have hr := drop_rest (rpt_back h1) (by omega)
    have h3 := rpt_len h1
    rw [List.length_drop, hsl] at h3
    obtain ⟨nx, hnx⟩ : ∃ nx, nx = s.size - r.length := ⟨_, rfl⟩
    rw [← hnx] at hr ⊢
    have hx : 1 ≤ nx ∧ nx ≤ s.size := by omega
    have B2 : Hid (Below w.heap.size w w2) := hb2
    have BG := rbegin_any s ⟨#[58, 32]⟩ nx w2 hx.2 (by omega) (by decide)
    rw [hr, show (⟨#[58, 32]⟩ : ByteArray).data.toList = [58, 32] from rfl] at BG
    rw [h1, Option.bind_some] at hA2
    dsimp only at hA2
    cases hc : Lib.hasPrefix r [58, 32] with
    | false =>
      have HF : Hid (A = some ([⟨8, 0, t⟩], s.data.toList.drop nx)) := by show A = _; rw [hA2, strip_if, if_neg (by rw [hc]; simp), hr]
      rw [hc] at BG
      clear hb2 hr hA2 h1 h2 hnx TX h3 PA hc
      go_wp2_with fail
      refine BG.mono ?_
      rintro e w4 ⟨rfl, hw4⟩
      rw [hw4]
      clear hw4 w4 BG
      go_wp2_with fail
      go_ret3
      exact PO.leaf B2.out HF.out hx.1 hx.2
    | true =>
      have hq : strip [58, 32] r = some (r.drop 2) := by rw [strip_if, if_pos hc]; rfl
      have hq2 : r.drop 2 = s.data.toList.drop (nx + 2) := by rw [← hr, List.drop_drop]
      have HAS : Hid (A = (rp f (s.data.toList.drop (nx + 2))).map fun y => (y.1 ++ [⟨8, 1, t⟩], y.2)) := by
        show A = _
        rw [hA2, hq, ← hq2]
      have hnx2 : nx + 2 ≤ s.size := by have := strip_len hq; simp at this; omega
      rw [hc] at BG
      clear hb2 hr hA2 h1 h2 hnx TX h3 hc hq hq2
      go_wp2_with fail
      refine BG.mono ?_
      rintro e w4 ⟨rfl, hw4⟩
      rw [hw4]
      clear hw4 w4 BG
      have HP := PA (nx + 2) (d + 1) w2 hnx2 hd1
      go_wp2_with fail
      refine HP.mono ?_
      rintro e w3 ⟨hb3', ⟨l, r2, p, c, h4, h5, h6, h7, h8, rfl⟩ | ⟨h4, l, p, c, m2, h5, h6, h8, rfl⟩⟩
      · have O3 : Hid (OwnC w3 w.heap.size (.slice p l.length c) l) := h8.low B2.out.size
        have B3 : Hid (Below w.heap.size w w3) := B2.out.trans (hb3'.mono B2.out.size)
        have h9 := rp_len f _ _ _ h4
        rw [List.length_drop, hsl] at h9
        have HF : Hid (A = some (l ++ [⟨8, 1, t⟩], r2) ∧ s.data.toList.drop (s.size - r2.length) = r2 ∧ l.length + 1 + r2.length ≤ s.size) := ⟨by rw [HAS.out, h4]; rfl, h7, by omega⟩
        obtain ⟨ny, hny⟩ : ∃ ny, ny = s.size - r2.length := ⟨_, rfl⟩
        rw [← hny] at HF ⊢
        have HNY : Hid (ny = s.size - r2.length) := hny
        have hnyb : ny ≤ s.size := by omega
        have hlb : l.length ≤ 65536 := by omega
        clear hny h4 h5 h7 h8 hb3' HP HAS h9
        have OX : Hid (OwnC (w3.alloc (.cells #[.int .i64 8, .int .i64 1, .string t] 55)) w.heap.size (.slice p l.length c) l) := O3.out.below ((Below.refl _ _).alloc (Nat.le_refl _) _)
        have CX : Hid (CS (w3.alloc (.cells #[.int .i64 8, .int .i64 1, .string t] 55)) (.slice (some ⟨w3.heap.size, 0, none⟩) 1 1) [⟨8, 1, t⟩]) := (ownC_one w3 8 1 t).cs
        have BX : Hid (Below w.heap.size w (w3.alloc (.cells #[.int .i64 8, .int .i64 1, .string t] 55))) := B3.out.alloc B3.out.size _
        have LX : Hid ((l.length + [(⟨8, 1, t⟩ : Cr)].length) * 32 ≤ 140737488355328) := by show _ ≤ _; simp; omega
        go_wp2_with (at_builtin; refine append_crs rfl (.tmp 144) (.tmp 147) 23 rfl w.heap.size Tryd.underlying23 info_cr _ (.slice p l.length c) (.slice (some ⟨w3.heap.size, 0, none⟩) 1 1) l [⟨8, 1, t⟩] rfl rfl OX.out CX.out LX.out BX.out.size ?_; intro v7 w7 ho7 hb7; obtain ⟨p7, c7, rfl⟩ := ho7.form; have O7 : Hid _ := ho7; have B7 : Hid (Below w.heap.size w w7) := BX.out.trans hb7; clear ho7 hb7)
        go_ret3
        have hny := HNY.out
        have h10 := HF.out.2.2
        refine ⟨B7.out, Or.inl ⟨_, _, p7, c7, HF.out.1, by simp; omega, by simp, by rw [← hny]; exact HF.out.2.1, O7.out, ret_pv (by rw [List.length_append]; rfl) (by omega)⟩⟩
      · have O3 : Hid (OwnC w3 w.heap.size (.slice p l.length c) l) := h8.low B2.out.size
        have B3 : Hid (Below w.heap.size w w3) := B2.out.trans (hb3'.mono B2.out.size)
        have HF : Hid (A = none) := by show A = none; rw [HAS.out, h4]; rfl
        clear h4 h8 hb3' HP HAS
        have OX : Hid (OwnC (w3.alloc (.cells #[.int .i64 8, .int .i64 1, .string t] 55)) w.heap.size (.slice p l.length c) l) := O3.out.below ((Below.refl _ _).alloc (Nat.le_refl _) _)
        have CX : Hid (CS (w3.alloc (.cells #[.int .i64 8, .int .i64 1, .string t] 55)) (.slice (some ⟨w3.heap.size, 0, none⟩) 1 1) [⟨8, 1, t⟩]) := (ownC_one w3 8 1 t).cs
        have BX : Hid (Below w.heap.size w (w3.alloc (.cells #[.int .i64 8, .int .i64 1, .string t] 55))) := B3.out.alloc B3.out.size _
        have LX : Hid ((l.length + [(⟨8, 1, t⟩ : Cr)].length) * 32 ≤ 140737488355328) := by show _ ≤ _; simp; omega
        go_wp2_with (at_builtin; refine append_crs rfl (.tmp 144) (.tmp 147) 23 rfl w.heap.size Tryd.underlying23 info_cr _ (.slice p l.length c) (.slice (some ⟨w3.heap.size, 0, none⟩) 1 1) l [⟨8, 1, t⟩] rfl rfl OX.out CX.out LX.out BX.out.size ?_; intro v7 w7 ho7 hb7; obtain ⟨p7, c7, rfl⟩ := ho7.form; have O7 : Hid _ := ho7; have B7 : Hid (Below w.heap.size w w7) := BX.out.trans hb7; clear ho7 hb7)
        go_ret3
        exact ⟨B7.out, Or.inr ⟨HF.out, _, p7, c7, m2, by simp; omega, h6, O7.out, ret_pv (by rw [List.length_append]; rfl) rfl⟩⟩
  · have HF : Hid (A = none) := by show A = _; rw [hA2, h1]; rfl
    have B2 : Hid (Below w.heap.size w w2) := hb2
    clear hb2 hA2 h1 TX PA
    go_wp2_with fail
    go_ret3
    exact PO.leafno B2.out HF.out h2 (by omega)
set_option maxHeartbeats 8000000 in
set_option maxRecDepth 100000 in
theorem rparse_k9 (s : ByteArray) (f : Nat) (_hs : s.size ≤ 65536) (_hf : f ≤ 1024) (H : ByteArray) (b a : Nat) (d : Int) (w : World) (_ha : a ≤ s.size) (hd : d + (f + 1 : Nat) = 1025) (WD : Calls Tryd.prog 66 #[.string s, .int .i64 a] w fun e w' => e = .returned (.tuple #[.string H, .int .i64 b]) ∧ w' = w) (_hb : b ≤ s.size) (_hb1 : 1 ≤ b) (A : Option (List Cr × List UInt8)) (hH : H = ⟨#[99, 101, 108, 108]⟩) (hlt : b < s.size) (hsp : (s[b].toNat : Int) = 32) (PA : ∀ (a : Nat) (d : Int) (w : World), a ≤ s.size → d + f = 1025 → Calls Tryd.prog 51 #[.string s, .int .i64 a, .int .i64 d] w fun e w' => PO (rp f (s.data.toList.drop a)) s (f + 1) w e w') (hA : A = rpK (rp f) 9 (s.data.toList.drop b)) :
    Calls Tryd.prog 51 #[.string s, .int .i64 a, .int .i64 d] w fun e w' => PO A s (f + 2) w e w' := by
  have hs := _hs
  have hf := _hf
  have ha := _ha
  have hb := _hb
  have hb1 := _hb1
  have hd0 : 0 ≤ d ∧ d ≤ 1024 := by omega
  have hd1 : d + 1 + f = 1025 := by omega
  have hsl := bsz s
  have hsn : ((s[b].toNat : Int) != 32) = false := by simpa using hsp
  have hnb : ¬ s.size ≤ b := by omega
  have hR : s.data.toList.drop b = 32 :: s.data.toList.drop (b + 1) := by rw [drop_cons' s b hlt, u8_eq (n := 32) (by omega) hsp]; rfl
  obtain ⟨T, hT⟩ : ∃ T, T = s.extract (b + 1) (b + 1 + ptLen (s.data.toList.drop (b + 1))) := ⟨_, rfl⟩
  obtain ⟨b2, hb2⟩ : ∃ b2, b2 = b + 1 + ptLen (s.data.toList.drop (b + 1)) := ⟨_, rfl⟩
  have WD2 := rword_any s (b + 1) w (by omega) (by omega)
  rw [← hT, ← hb2] at WD2
  have hT2 : (⟨((s.data.toList.drop (b + 1)).take (ptLen (s.data.toList.drop (b + 1)))).toArray⟩ : ByteArray) = T := bytes_ext (by rw [hT, ext_mid])
  have hD2 : (s.data.toList.drop (b + 1)).drop (ptLen (s.data.toList.drop (b + 1))) = s.data.toList.drop b2 := by rw [List.drop_drop, hb2]
  have hb3 : b2 ≤ s.size := by have := ptLen_le (s.data.toList.drop (b + 1)); rw [List.length_drop, hsl] at this; omega
  have hb4 : 1 ≤ b2 := by omega
  have hA2 : A = (strip [58, 32] (s.data.toList.drop b2)).bind fun u => (rp f u).map fun y => (y.1 ++ [⟨9, 1, T⟩], y.2) := by
    rw [hA, rpK_R _ (by decide) (by decide) hR]; unfold rpR; rw [if_neg (by decide), if_neg (by decide), if_neg (by decide), if_pos rfl, hT2, hD2]
  obtain ⟨nx, hnx⟩ : ∃ nx, nx = b2 := ⟨_, rfl⟩
  obtain ⟨t, ht⟩ : ∃ t, t = T := ⟨_, rfl⟩
  rw [← hnx, ← ht] at WD2 hA2
  rw [← hnx] at hb3 hb4
  have BG := rbegin_any s ⟨#[58, 32]⟩ nx w hb3 (by omega) (by decide)
  rw [show (⟨#[58, 32]⟩ : ByteArray).data.toList = [58, 32] from rfl] at BG
  have BR : Hid (Below w.heap.size w w) := Below.refl _ _
  clear hA hR hT hb2 hT2 hD2 hnx ht T b2
  subst hH
  cases hc : Lib.hasPrefix (s.data.toList.drop nx) [58, 32] with
  | false =>
    have HF : Hid (A = none) := by show A = _; rw [hA2, strip_if, if_neg (by rw [hc]; simp)]; rfl
    rw [hc] at BG
    clear hA2 PA hc
    go_enter Tryd.func51, Tryd.ntmps51
    go_wp2_with fail
    refine WD.mono ?_
    rintro e w1 ⟨rfl, hw1⟩
    rw [hw1]
    clear hw1 WD w1
    go_wp2_with fail
    refine WD2.mono ?_
    rintro e w2 ⟨rfl, hw2⟩
    rw [hw2]
    clear hw2 w2 WD2
    go_wp2_with fail
    refine BG.mono ?_
    rintro e w4 ⟨rfl, hw4⟩
    rw [hw4]
    clear hw4 w4 BG
    go_wp2_with fail
    go_ret3
    exact PO.no BR.out HF.out
  | true =>
    have hq : strip [58, 32] (s.data.toList.drop nx) = some (s.data.toList.drop (nx + 2)) := by rw [strip_if, if_pos hc, List.drop_drop]; rfl
    have HAS : Hid (A = (rp f (s.data.toList.drop (nx + 2))).map fun y => (y.1 ++ [⟨9, 1, t⟩], y.2)) := by
      show A = _
      rw [hA2, hq]; rfl
    have hnx2 : nx + 2 ≤ s.size := by have := strip_len hq; simp only [List.length_drop, hsl, List.length_cons, List.length_nil] at this; omega
    rw [hc] at BG
    clear hA2 hc hq
    go_enter Tryd.func51, Tryd.ntmps51
    go_wp2_with fail
    refine WD.mono ?_
    rintro e w1 ⟨rfl, hw1⟩
    rw [hw1]
    clear hw1 WD w1
    go_wp2_with fail
    refine WD2.mono ?_
    rintro e w2 ⟨rfl, hw2⟩
    rw [hw2]
    clear hw2 w2 WD2
    go_wp2_with fail
    refine BG.mono ?_
    rintro e w4 ⟨rfl, hw4⟩
    rw [hw4]
    clear hw4 w4 BG
    have HP := PA (nx + 2) (d + 1) w hnx2 hd1
    go_wp2_with fail
    refine HP.mono ?_
    rintro e w3 ⟨hb3', ⟨l, r2, p, c, h4, h5, h6, h7, h8, rfl⟩ | ⟨h4, l, p, c, m2, h5, h6, h8, rfl⟩⟩
    · have O3 : Hid (OwnC w3 w.heap.size (.slice p l.length c) l) := h8.low BR.out.size
      have B3 : Hid (Below w.heap.size w w3) := BR.out.trans (hb3'.mono BR.out.size)
      have h9 := rp_len f _ _ _ h4
      rw [List.length_drop, hsl] at h9
      have HF : Hid (A = some (l ++ [⟨9, 1, t⟩], r2) ∧ s.data.toList.drop (s.size - r2.length) = r2 ∧ l.length + 1 + r2.length ≤ s.size) := ⟨by rw [HAS.out, h4]; rfl, h7, by omega⟩
      obtain ⟨ny, hny⟩ : ∃ ny, ny = s.size - r2.length := ⟨_, rfl⟩
      rw [← hny] at HF ⊢
      have HNY : Hid (ny = s.size - r2.length) := hny
      have hnyb : ny ≤ s.size := by omega
      have hlb : l.length ≤ 65536 := by omega
      clear hny h4 h5 h7 h8 hb3' HP HAS h9
      have OX : Hid (OwnC (w3.alloc (.cells #[.int .i64 9, .int .i64 1, .string t] 55)) w.heap.size (.slice p l.length c) l) := O3.out.below ((Below.refl _ _).alloc (Nat.le_refl _) _)
      have CX : Hid (CS (w3.alloc (.cells #[.int .i64 9, .int .i64 1, .string t] 55)) (.slice (some ⟨w3.heap.size, 0, none⟩) 1 1) [⟨9, 1, t⟩]) := (ownC_one w3 9 1 t).cs
      have BX : Hid (Below w.heap.size w (w3.alloc (.cells #[.int .i64 9, .int .i64 1, .string t] 55))) := B3.out.alloc B3.out.size _
      have LX : Hid ((l.length + [(⟨9, 1, t⟩ : Cr)].length) * 32 ≤ 140737488355328) := by show _ ≤ _; simp; omega
      go_wp2_with (at_builtin; refine append_crs rfl (.tmp 174) (.tmp 177) 23 rfl w.heap.size Tryd.underlying23 info_cr _ (.slice p l.length c) (.slice (some ⟨w3.heap.size, 0, none⟩) 1 1) l [⟨9, 1, t⟩] rfl rfl OX.out CX.out LX.out BX.out.size ?_; intro v7 w7 ho7 hb7; obtain ⟨p7, c7, rfl⟩ := ho7.form; have O7 : Hid _ := ho7; have B7 : Hid (Below w.heap.size w w7) := BX.out.trans hb7; clear ho7 hb7)
      go_ret3
      have hny := HNY.out
      have h10 := HF.out.2.2
      refine ⟨B7.out, Or.inl ⟨_, _, p7, c7, HF.out.1, by simp; omega, by simp, by rw [← hny]; exact HF.out.2.1, O7.out, ret_pv (by rw [List.length_append]; rfl) (by omega)⟩⟩
    · have O3 : Hid (OwnC w3 w.heap.size (.slice p l.length c) l) := h8.low BR.out.size
      have B3 : Hid (Below w.heap.size w w3) := BR.out.trans (hb3'.mono BR.out.size)
      have HF : Hid (A = none) := by show A = none; rw [HAS.out, h4]; rfl
      clear h4 h8 hb3' HP HAS
      have OX : Hid (OwnC (w3.alloc (.cells #[.int .i64 9, .int .i64 1, .string t] 55)) w.heap.size (.slice p l.length c) l) := O3.out.below ((Below.refl _ _).alloc (Nat.le_refl _) _)
      have CX : Hid (CS (w3.alloc (.cells #[.int .i64 9, .int .i64 1, .string t] 55)) (.slice (some ⟨w3.heap.size, 0, none⟩) 1 1) [⟨9, 1, t⟩]) := (ownC_one w3 9 1 t).cs
      have BX : Hid (Below w.heap.size w (w3.alloc (.cells #[.int .i64 9, .int .i64 1, .string t] 55))) := B3.out.alloc B3.out.size _
      have LX : Hid ((l.length + [(⟨9, 1, t⟩ : Cr)].length) * 32 ≤ 140737488355328) := by show _ ≤ _; simp; omega
      go_wp2_with (at_builtin; refine append_crs rfl (.tmp 174) (.tmp 177) 23 rfl w.heap.size Tryd.underlying23 info_cr _ (.slice p l.length c) (.slice (some ⟨w3.heap.size, 0, none⟩) 1 1) l [⟨9, 1, t⟩] rfl rfl OX.out CX.out LX.out BX.out.size ?_; intro v7 w7 ho7 hb7; obtain ⟨p7, c7, rfl⟩ := ho7.form; have O7 : Hid _ := ho7; have B7 : Hid (Below w.heap.size w w7) := BX.out.trans hb7; clear ho7 hb7)
      go_ret3
      exact ⟨B7.out, Or.inr ⟨HF.out, _, p7, c7, m2, by simp; omega, h6, O7.out, ret_pv (by rw [List.length_append]; rfl) rfl⟩⟩
end Go.Proofs.YtaleagkhblokgaaDoor
