/- Values: the reference's parse: numbers without a minus, walked. (Made by mkvs4.py.) -/
import Derived.Test.YtahcllncjpaijaaDoorUnq6
import Derived.Test.YtahcllncjpaijaaDoorVd1
namespace Go.Proofs.YtahcllncjpaijaaDoor
open Go.RowKit

/-- The reference's answer. -/
def PO (w' : World) (a : Nat) (R : Option (List Atm × Nat)) (e : Ending) : Prop :=
  (∃ m x v, R = some (m, x) ∧ e = .returned (.tuple #[v, .int .i64 ((a + x : Nat) : Int), .bool true]) ∧ AS w' v m) ∨ (R = none ∧ ∃ v y, e = .returned (.tuple #[v, .int .i64 y, .bool false]))
theorem one_as (w : World) (x : Atm) : AS (w.alloc (.cells #[.int .i64 x.kind, .int .i64 x.n, .int .i64 x.int, .string x.text] 56)) (.slice (some ⟨w.heap.size, 0, none⟩) 1 1) [x] :=
  Or.inr ⟨w.heap.size, 0, 1, rfl, by simp, Nat.le_refl _, fun k hk j u hu => by
    obtain rfl : k = 0 := by simpa using hk
    rw [Nat.zero_mul, Nat.zero_add]
    rw [cell_of_row _ _ _ _ _ _ (heap_alloc_new _ _), ← Array.getElem?_toList]
    exact hu⟩
theorem po_none {w' : World} {a : Nat} {R : Option (List Atm × Nat)} (h : R = none) (v : Value) (y : Int) : PO w' a R (.returned (.tuple #[v, .int .i64 y, .bool false])) := Or.inr ⟨h, v, y, rfl⟩
theorem po_some {w' : World} {a x : Nat} {R : Option (List Atm × Nat)} {m : List Atm} (h : R = some (m, x)) {v : Value} {y : Int} (hy : y = ((a + x : Nat) : Int)) (hv : AS w' v m) : PO w' a R (.returned (.tuple #[v, .int .i64 y, .bool true])) := Or.inl ⟨m, x, v, h, by rw [hy], hv⟩
theorem extract_toL (s : ByteArray) (a b : Nat) : (s.extract a b).data.toList = (s.data.toList.drop a).take (b - a) := by
  rw [ByteArray.data_extract, Array.toList_extract, List.extract_eq_take_drop]
theorem drop_cons' (s : ByteArray) (k : Nat) (h : k < s.size) : s.data.toList.drop k = s[k] :: s.data.toList.drop (k + 1) := by
  rw [List.drop_eq_getElem_cons (by simpa using h)]; rfl
theorem u8_of {c : UInt8} {n : Nat} (h : n < 256) (e : (c.toNat : Int) = n) : c = UInt8.ofNat n := by
  apply UInt8.toNat_inj.1; simp; omega
set_option maxHeartbeats 4000000 in
set_option maxRecDepth 100000 in
theorem rparse_end (s : ByteArray) (a deep d : Nat) (w : World) (ha : a ≤ s.size) (hd : deep + d = 33) (h : a = s.size ∨ d = 0) :
    Calls Tryd.prog 35 #[.string s, .int .i64 a, .int .i64 deep] w fun e w' => PO w' a (rpV d (s.data.toList.drop a)) e ∧ Below w.heap.size w w' := by
  have HN : Hid (rpV d (s.data.toList.drop a) = none) := by
    show _ = _
    rcases h with h | h
    · rw [List.drop_of_length_le (by simp; omega)]
      cases d with
      | zero => rfl
      | succ d => rw [rpV, if_pos rfl]
    · rw [h]; rfl
  generalize rpV d (s.data.toList.drop a) = R at *
  by_cases h1 : a < s.size
  · obtain rfl : d = 0 := by omega
    obtain rfl : deep = 33 := by omega
    clear h hd
    go_enter Tryd.func35, Tryd.ntmps35
    go_wp2_with fail
    exact bodyPost_ret (v := .tuple #[.slice none 0 0, .int .i64 0, .bool false]) (by simp [results, Tryd.results35, go_sem]) rfl ⟨po_none HN.out _ _, Below.refl _ _⟩
  · obtain rfl : a = s.size := by omega
    clear h hd
    go_enter Tryd.func35, Tryd.ntmps35
    go_wp2_with fail
    exact bodyPost_ret (v := .tuple #[.slice none 0 0, .int .i64 0, .bool false]) (by simp [results, Tryd.results35, go_sem]) rfl ⟨po_none HN.out _ _, Below.refl _ _⟩
set_option maxHeartbeats 8000000 in
set_option maxRecDepth 100000 in
theorem rparse_quo (s : ByteArray) (a deep d : Nat) (w : World) (hs : s.size ≤ 100000) (ha : a < s.size) (hd : deep + d = 32) (hc : (s[a].toNat : Int) = 34) :
    Calls Tryd.prog 35 #[.string s, .int .i64 a, .int .i64 deep] w fun e w' => PO w' a (rpV (d + 1) (s.data.toList.drop a)) e ∧ Below w.heap.size w w' := by
  have hsl : s.data.toList.length = s.size := by simp
  have hcons := drop_cons' s a ha
  have hc' : s[a] = 34 := u8_of (n := 34) (by omega) hc
  have hR : rpV (d + 1) (s.data.toList.drop a) = rpQ (s.data.toList.drop a) := by
    rw [rpV, if_neg (by rw [hcons]; simp), if_pos (by rw [hcons, hc']; rfl)]
  rw [hR]
  obtain ⟨D, hD⟩ : ∃ D, D = a + 1 + sq (s.data.toList.drop (a + 1)) := ⟨_, rfl⟩
  have RS : Hid (∀ k (hk : k < s.size), sq (s.data.toList.drop k) = if s[k] = 34 then 0 else if s[k] = 92 then 2 + sq (s.data.toList.drop (k + 2)) else 1 + sq (s.data.toList.drop (k + 1))) := fun k hk => by
    have := sq_step (l := s.data.toList) (k := k) (by simpa using hk)
    rw [this]; rfl
  have RE : Hid (∀ k, s.size ≤ k → sq (s.data.toList.drop k) = 0) := fun k hk => by
    rw [List.drop_of_length_le (by simpa using hk)]; rfl
  have P0 : Hid (D = a + 1 + sq (s.data.toList.drop (a + 1))) := hD
  have ONO : Hid (s.size ≤ D → rpQ (s.data.toList.drop a) = none) := fun h => by
    unfold rpQ
    rw [if_neg (fun hc => ?_)]
    have h2 := hc.1
    rw [List.drop_drop, List.length_drop, hsl] at h2
    omega
  have OYES : Hid (∀ k, k < s.size → D = k → a + 1 ≤ k → rpQ (s.data.toList.drop a) = if L1.unqB (s.extract a (k + 1)).data.toList = true then some ([⟨2, 0, 0, ⟨(L1.unqT (s.extract a (k + 1)).data.toList).toArray⟩⟩], k + 1 - a) else none) := fun k hk hDk hak => by
    have e1 : sq (s.data.toList.drop (a + 1)) = k - (a + 1) := by omega
    have e2 : (s.extract a (k + 1)).data.toList = (s.data.toList.drop a).take (k - (a + 1) + 2) := by rw [extract_toL]; congr 1; omega
    unfold rpQ
    rw [List.drop_drop, e1, ← e2]
    have e4 : k - (a + 1) < (s.data.toList.drop (a + 1)).length := by rw [List.length_drop, hsl]; omega
    have e5 : k - (a + 1) + 2 = k + 1 - a := by omega
    simp only [e4, true_and, e5]
  clear hD hcons hc' hR hsl
  generalize rpQ (s.data.toList.drop a) = R at *
  go_enter Tryd.func35, Tryd.ntmps35
  go_wp2_with fail
  go_loop [10] (fun v => ∃ k : Nat, a + 1 ≤ k ∧ k ≤ s.size + 1 ∧ v = .int .i64 k ∧ Hid (D = k + sq (s.data.toList.drop k))) (fun v => s.size + 1 - (intOf v).toNat)
  case atStart => exact ⟨a + 1, by omega, by omega, by go_num, P0⟩
  case round =>
    obtain ⟨k, hka, hk, rfl, HK⟩ := hrel
    clear P0
    by_cases hkl : k < s.size
    · have hS := RS.out k hkl
      by_cases h1 : (s[k].toNat : Int) = 34
      · have h1' : s[k] = 34 := u8_of (n := 34) (by omega) h1
        have h1n : ((s[k].toNat : Int) != 34) = false := by simpa using h1
        rw [if_pos h1'] at hS
        have hDk : D = k := by have := HK.out; omega
        have OY := OYES.out k hkl hDk hka
        have UQ := fun w' => L1.refUnquote_any (s.extract a (k + 1)) w' (by simp; omega)
        have HX : Hid (R = if L1.unqB (s.extract a (k + 1)).data.toList = true then some ([⟨2, 0, 0, ⟨(L1.unqT (s.extract a (k + 1)).data.toList).toArray⟩⟩], k + 1 - a) else none) := OY
        clear OY OYES ONO HK hS h1' hDk RS RE
        generalize L1.unqB (s.extract a (k + 1)).data.toList = r at *
        generalize L1.unqT (s.extract a (k + 1)).data.toList = T at *
        go_wp2_with (go_at_call 65; refine (UQ _).mono ?_; rintro e w1 ⟨rfl, hb1⟩; have B1 : Hid (Below w.heap.size w w1) := hb1; clear hb1 UQ)
        cases r with
        | true => exact bodyPost_ret (v := .tuple #[.slice (some ⟨w1.heap.size, 0, none⟩) 1 1, .int .i64 ((k : Int) + 1), .bool true]) (by simp [results, Tryd.results35, go_sem]) rfl ⟨po_some HX.out (by omega) (one_as w1 ⟨2, 0, 0, ⟨T.toArray⟩⟩), B1.out.alloc B1.out.size _⟩
        | false => exact bodyPost_ret (v := .tuple #[.slice (some ⟨w1.heap.size, 0, none⟩) 1 1, .int .i64 ((k : Int) + 1), .bool false]) (by simp [results, Tryd.results35, go_sem]) rfl ⟨po_none HX.out _ _, B1.out.alloc B1.out.size _⟩
      · have h1' : ¬ s[k] = 34 := fun h => h1 (by rw [h]; rfl)
        have h1n : ((s[k].toNat : Int) != 34) = true := by simpa using h1
        rw [if_neg h1'] at hS
        by_cases h2 : (s[k].toNat : Int) = 92
        · have h2' : s[k] = 92 := u8_of (n := 92) (by omega) h2
          have h2n : ((s[k].toNat : Int) == 92) = true := by simpa using h2
          rw [if_pos h2'] at hS
          have HN : Hid (D = k + 2 + sq (s.data.toList.drop (k + 2))) := by show _ = _; rw [HK.out, hS]; omega
          clear HK hS h1' h2'
          go_wp2_with fail
          go_round
          case rel => exact ⟨k + 2, by omega, by omega, by go_num, HN⟩
          case measure => simp [intOf]; omega
        · have h2' : ¬ s[k] = 92 := fun h => h2 (by rw [h]; rfl)
          have h2n : ((s[k].toNat : Int) == 92) = false := by simpa using h2
          rw [if_neg h2'] at hS
          have HN : Hid (D = k + 1 + sq (s.data.toList.drop (k + 1))) := by show _ = _; rw [HK.out, hS]; omega
          clear HK hS h1' h2'
          go_wp2_with fail
          go_round
          case rel => exact ⟨k + 1, by omega, by omega, by go_num, HN⟩
          case measure => simp [intOf]; omega
    · have hno := ONO.out (by have := HK.out; omega)
      have HX : Hid (R = none) := hno
      clear hno HK ONO OYES RS RE
      go_wp2_with fail
      exact bodyPost_ret (v := .tuple #[.slice none 0 0, .int .i64 0, .bool false]) (by simp [results, Tryd.results35, go_sem]) rfl ⟨po_none HX.out _ _, Below.refl _ _⟩
end Go.Proofs.YtahcllncjpaijaaDoor
namespace Go.Proofs.YtahcllncjpaijaaDoor
open Go.RowKit

theorem dLen_step {l : List UInt8} {k : Nat} (hk : k < l.length) : L1.dLen (l.drop k) = if L1.isDg l[k] then L1.dLen (l.drop (k + 1)) + 1 else 0 := by
  rw [List.drop_eq_getElem_cons hk]; rfl
theorem numN_le (l : List UInt8) : 0 ≤ L1.numN l ∧ L1.numN l ≤ 9007199254740992 := by
  unfold L1.numN
  split
  · omega
  · cases e : L1.numGo l 0 with
    | none => simp
    | some m =>
      have h1 := L1.numGo_ge l 0 m (by omega) e
      have h2 := L1.numGo_le l 0 m (by omega) e
      simp at h1 ⊢
      omega
set_option maxHeartbeats 8000000 in
set_option maxRecDepth 100000 in
theorem rparse_neg (s : ByteArray) (a deep d : Nat) (w : World) (hs : s.size ≤ 100000) (ha : a < s.size) (hd : deep + d = 32) (hc : (s[a].toNat : Int) = 45) :
    Calls Tryd.prog 35 #[.string s, .int .i64 a, .int .i64 deep] w fun e w' => PO w' a (rpV (d + 1) (s.data.toList.drop a)) e ∧ Below w.heap.size w w' := by
  have hcons := drop_cons' s a ha
  have hc' : s[a] = 45 := u8_of (n := 45) (by omega) hc
  have hR : rpV (d + 1) (s.data.toList.drop a) = rpN (s.data.toList.drop a) := by
    rw [rpV, if_neg (by rw [hcons]; simp), if_neg (by rw [hcons, hc']; simp), if_neg (by rw [hcons, hc']; simp)]
  rw [hR]
  obtain ⟨D, hD⟩ : ∃ D, D = (a + 1) + L1.dLen (s.data.toList.drop (a + 1)) := ⟨_, rfl⟩
  have RS : Hid (∀ k (hk : k < s.size), L1.dLen (s.data.toList.drop k) = if L1.isDg s[k] then L1.dLen (s.data.toList.drop (k + 1)) + 1 else 0) := fun k hk => by
    have := dLen_step (l := s.data.toList) (k := k) (by simpa using hk)
    rw [this]; rfl
  have RE : Hid (L1.dLen (s.data.toList.drop s.size) = 0) := by show _ = _; rw [List.drop_of_length_le (by simp)]; rfl
  have P0 : Hid (D = (a + 1) + L1.dLen (s.data.toList.drop (a + 1))) := hD
  have OY : Hid (∀ k, k ≤ s.size → D = k → (a + 1) ≤ k → rpN (s.data.toList.drop a) = if L1.numB (s.extract (a + 1) k).data.toList = true ∧ L1.numN (s.extract (a + 1) k).data.toList ≠ 0 then some ([⟨1, 0, -L1.numN (s.extract (a + 1) k).data.toList, ByteArray.empty⟩], k - a) else none) := fun k hk hDk hak => by
    have e1 : L1.dLen (s.data.toList.drop (a + 1)) = k - (a + 1) := by omega
    have e2 : (s.extract (a + 1) k).data.toList = (s.data.toList.drop (a + 1)).take (k - (a + 1)) := extract_toL ..
    unfold rpN
    rw [if_pos (by rw [hcons, hc']; rfl), List.drop_drop, e1, ← e2]
    have e5 : 1 + (k - (a + 1)) = k - a := by omega
    rw [e5]
  clear hD hcons hc' hR
  generalize rpN (s.data.toList.drop a) = R at *
  go_enter Tryd.func35, Tryd.ntmps35
  go_wp2_with fail
  go_loop [10] (fun v => ∃ k : Nat, (a + 1) ≤ k ∧ k ≤ s.size ∧ v = .int .i64 k ∧ Hid (D = k + L1.dLen (s.data.toList.drop k))) (fun v => s.size + 1 - (intOf v).toNat)
  case atStart => exact ⟨(a + 1), by omega, by omega, by go_num, P0⟩
  case round =>
    obtain ⟨k, hka, hk, rfl, HK⟩ := hrel
    clear P0
    by_cases hgo : ∃ h : k < s.size, L1.isDg s[k] = true
    · obtain ⟨hkl, hdg⟩ := hgo
      have hS := RS.out k hkl
      rw [if_pos hdg] at hS
      have h2 : 48 ≤ (s[k].toNat : Int) ∧ (s[k].toNat : Int) ≤ 57 := by simpa [L1.isDg] using hdg
      obtain ⟨h48, h57⟩ := h2
      have HN : Hid (D = k + 1 + L1.dLen (s.data.toList.drop (k + 1))) := by show _ = _; rw [HK.out, hS]; omega
      clear HK hS hdg
      go_wp2_with fail
      go_round
      case rel => exact ⟨k + 1, by omega, by omega, by go_num, HN⟩
      case measure => simp [intOf]; omega
    · have hDk : D = k := by
        have h0 := HK.out
        by_cases hkl : k < s.size
        · have hS := RS.out k hkl
          rw [if_neg (fun h => hgo ⟨hkl, h⟩)] at hS
          omega
        · obtain rfl : k = s.size := by omega
          rw [RE.out] at h0; omega
      have HX : Hid _ := OY.out k hk hDk hka
      have WH : Hid (∀ w', Calls Tryd.prog 66 #[.string (s.extract (a + 1) k), .int .i64 9007199254740992] w' fun e w'' => e = .returned (.tuple #[.int .i64 (L1.numN (s.extract (a + 1) k).data.toList), .bool (L1.numB (s.extract (a + 1) k).data.toList)]) ∧ w'' = w') := fun w' => L1.whole_any _ w' (by simp; unfold maxLen; omega)
      have hnb := numN_le (s.extract (a + 1) k).data.toList
      have hcase : k = s.size ∨ (∃ hk : k < s.size, (s[k].toNat : Int) < 48) ∨ (∃ hk : k < s.size, 48 ≤ (s[k].toNat : Int) ∧ 57 < (s[k].toNat : Int)) := by
        by_cases hkl : k < s.size
        · have hnd : ¬ L1.isDg s[k] = true := fun h => hgo ⟨hkl, h⟩
          have hnd' : ¬ (48 ≤ (s[k].toNat : Int) ∧ (s[k].toNat : Int) ≤ 57) := fun h => hnd (by simpa [L1.isDg] using h)
          by_cases h : (s[k].toNat : Int) < 48
          · exact Or.inr (Or.inl ⟨hkl, h⟩)
          · exact Or.inr (Or.inr ⟨hkl, by omega, by omega⟩)
        · exact Or.inl (by omega)
      clear hgo HK RS RE OY hDk
      generalize L1.numB (s.extract (a + 1) k).data.toList = r at *
      generalize L1.numN (s.extract (a + 1) k).data.toList = v at *
      rcases hcase with rfl | ⟨hkl, h48⟩ | ⟨hkl, h48, h57⟩
      · cases r with
        | false =>
          have HY : Hid (R = none) := by show _ = _; rw [HX.out, if_neg (by simp)]
          clear HX
          go_wp2_with (go_at_call 66; refine (WH.out _).mono ?_; rintro e w1 ⟨rfl, rfl⟩)
          exact bodyPost_ret (v := .tuple #[.slice none 0 0, .int .i64 0, .bool false]) (by simp [results, Tryd.results35, go_sem]) rfl ⟨po_none HY.out _ _, Below.refl _ _⟩
        | true =>
          by_cases hv : v = 0
          · have HY : Hid (R = none) := by show _ = _; rw [HX.out, if_neg (by simp [hv])]
            subst hv
            clear HX
            go_wp2_with (go_at_call 66; refine (WH.out _).mono ?_; rintro e w1 ⟨rfl, rfl⟩)
            exact bodyPost_ret (v := .tuple #[.slice none 0 0, .int .i64 0, .bool false]) (by simp [results, Tryd.results35, go_sem]) rfl ⟨po_none HY.out _ _, Below.refl _ _⟩
          · have HY : Hid (R = some ([⟨1, 0, -v, ByteArray.empty⟩], s.size - a)) := by show _ = _; rw [HX.out, if_pos ⟨rfl, hv⟩]
            have hvb : (v == 0) = false := by simpa using hv
            clear HX
            go_wp2_with (go_at_call 66; refine (WH.out _).mono ?_; rintro e w1 ⟨rfl, rfl⟩)
            exact bodyPost_ret (v := .tuple #[.slice (some ⟨w1.heap.size, 0, none⟩) 1 1, .int .i64 (s.size : Int), .bool true]) (by simp [results, Tryd.results35, go_sem]) rfl ⟨po_some HY.out (by omega) (one_as _ ⟨1, 0, -v, ByteArray.empty⟩), (Below.refl _ _).alloc (Nat.le_refl _) _⟩
      · cases r with
        | false =>
          have HY : Hid (R = none) := by show _ = _; rw [HX.out, if_neg (by simp)]
          clear HX
          go_wp2_with (go_at_call 66; refine (WH.out _).mono ?_; rintro e w1 ⟨rfl, rfl⟩)
          exact bodyPost_ret (v := .tuple #[.slice none 0 0, .int .i64 0, .bool false]) (by simp [results, Tryd.results35, go_sem]) rfl ⟨po_none HY.out _ _, Below.refl _ _⟩
        | true =>
          by_cases hv : v = 0
          · have HY : Hid (R = none) := by show _ = _; rw [HX.out, if_neg (by simp [hv])]
            subst hv
            clear HX
            go_wp2_with (go_at_call 66; refine (WH.out _).mono ?_; rintro e w1 ⟨rfl, rfl⟩)
            exact bodyPost_ret (v := .tuple #[.slice none 0 0, .int .i64 0, .bool false]) (by simp [results, Tryd.results35, go_sem]) rfl ⟨po_none HY.out _ _, Below.refl _ _⟩
          · have HY : Hid (R = some ([⟨1, 0, -v, ByteArray.empty⟩], k - a)) := by show _ = _; rw [HX.out, if_pos ⟨rfl, hv⟩]
            have hvb : (v == 0) = false := by simpa using hv
            clear HX
            go_wp2_with (go_at_call 66; refine (WH.out _).mono ?_; rintro e w1 ⟨rfl, rfl⟩)
            exact bodyPost_ret (v := .tuple #[.slice (some ⟨w1.heap.size, 0, none⟩) 1 1, .int .i64 (k : Int), .bool true]) (by simp [results, Tryd.results35, go_sem]) rfl ⟨po_some HY.out (by omega) (one_as _ ⟨1, 0, -v, ByteArray.empty⟩), (Below.refl _ _).alloc (Nat.le_refl _) _⟩
      · cases r with
        | false =>
          have HY : Hid (R = none) := by show _ = _; rw [HX.out, if_neg (by simp)]
          clear HX
          go_wp2_with (go_at_call 66; refine (WH.out _).mono ?_; rintro e w1 ⟨rfl, rfl⟩)
          exact bodyPost_ret (v := .tuple #[.slice none 0 0, .int .i64 0, .bool false]) (by simp [results, Tryd.results35, go_sem]) rfl ⟨po_none HY.out _ _, Below.refl _ _⟩
        | true =>
          by_cases hv : v = 0
          · have HY : Hid (R = none) := by show _ = _; rw [HX.out, if_neg (by simp [hv])]
            subst hv
            clear HX
            go_wp2_with (go_at_call 66; refine (WH.out _).mono ?_; rintro e w1 ⟨rfl, rfl⟩)
            exact bodyPost_ret (v := .tuple #[.slice none 0 0, .int .i64 0, .bool false]) (by simp [results, Tryd.results35, go_sem]) rfl ⟨po_none HY.out _ _, Below.refl _ _⟩
          · have HY : Hid (R = some ([⟨1, 0, -v, ByteArray.empty⟩], k - a)) := by show _ = _; rw [HX.out, if_pos ⟨rfl, hv⟩]
            have hvb : (v == 0) = false := by simpa using hv
            clear HX
            go_wp2_with (go_at_call 66; refine (WH.out _).mono ?_; rintro e w1 ⟨rfl, rfl⟩)
            exact bodyPost_ret (v := .tuple #[.slice (some ⟨w1.heap.size, 0, none⟩) 1 1, .int .i64 (k : Int), .bool true]) (by simp [results, Tryd.results35, go_sem]) rfl ⟨po_some HY.out (by omega) (one_as _ ⟨1, 0, -v, ByteArray.empty⟩), (Below.refl _ _).alloc (Nat.le_refl _) _⟩
end Go.Proofs.YtahcllncjpaijaaDoor
namespace Go.Proofs.YtahcllncjpaijaaDoor
open Go.RowKit

set_option maxHeartbeats 8000000 in
set_option maxRecDepth 100000 in
theorem rparse_num (s : ByteArray) (a deep d : Nat) (w : World) (hs : s.size ≤ 100000) (ha : a < s.size) (hd : deep + d = 32) (hc1 : ¬ (s[a].toNat : Int) = 34) (hc2 : ¬ (s[a].toNat : Int) = 91) (hc3 : ¬ (s[a].toNat : Int) = 45) :
    Calls Tryd.prog 35 #[.string s, .int .i64 a, .int .i64 deep] w fun e w' => PO w' a (rpV (d + 1) (s.data.toList.drop a)) e ∧ Below w.heap.size w w' := by
  have hcons := drop_cons' s a ha
  have hne : ∀ b : UInt8, ¬ (s[a].toNat : Int) = (b.toNat : Int) → ¬ (s.data.toList.drop a).head? = some b := fun b hb e => by
    rw [hcons] at e
    simp at e
    exact hb (by rw [e])
  have hR : rpV (d + 1) (s.data.toList.drop a) = rpN (s.data.toList.drop a) := by
    rw [rpV, if_neg (by rw [hcons]; simp), if_neg (hne 34 hc1), if_neg (hne 91 hc2)]
  have b1 : ((s[a].toNat : Int) == 34) = false := by simpa using hc1
  have b2 : ((s[a].toNat : Int) == 91) = false := by simpa using hc2
  have b3 : ((s[a].toNat : Int) == 45) = false := by simpa using hc3
  rw [hR]
  obtain ⟨D, hD⟩ : ∃ D, D = a + L1.dLen (s.data.toList.drop a) := ⟨_, rfl⟩
  have RS : Hid (∀ k (hk : k < s.size), L1.dLen (s.data.toList.drop k) = if L1.isDg s[k] then L1.dLen (s.data.toList.drop (k + 1)) + 1 else 0) := fun k hk => by
    have := dLen_step (l := s.data.toList) (k := k) (by simpa using hk)
    rw [this]; rfl
  have RE : Hid (L1.dLen (s.data.toList.drop s.size) = 0) := by show _ = _; rw [List.drop_of_length_le (by simp)]; rfl
  have P0 : Hid (D = a + L1.dLen (s.data.toList.drop a)) := hD
  have OY : Hid (∀ k, k ≤ s.size → D = k → a ≤ k → rpN (s.data.toList.drop a) = if L1.numB (s.extract a k).data.toList = true then some ([⟨1, 0, L1.numN (s.extract a k).data.toList, ByteArray.empty⟩], k - a) else none) := fun k hk hDk hak => by
    have e1 : L1.dLen (s.data.toList.drop a) = k - a := by omega
    have e2 : (s.extract a k).data.toList = (s.data.toList.drop a).take (k - a) := extract_toL ..
    unfold rpN
    rw [if_neg (hne 45 hc3), e1, ← e2]
  clear hD hcons hne hR
  generalize rpN (s.data.toList.drop a) = R at *
  go_enter Tryd.func35, Tryd.ntmps35
  go_wp2_with fail
  go_loop [10] (fun v => ∃ k : Nat, a ≤ k ∧ k ≤ s.size ∧ v = .int .i64 k ∧ Hid (D = k + L1.dLen (s.data.toList.drop k))) (fun v => s.size + 1 - (intOf v).toNat)
  case atStart => exact ⟨a, by omega, by omega, by go_num, P0⟩
  case round =>
    obtain ⟨k, hka, hk, rfl, HK⟩ := hrel
    clear P0
    by_cases hgo : ∃ h : k < s.size, L1.isDg s[k] = true
    · obtain ⟨hkl, hdg⟩ := hgo
      have hS := RS.out k hkl
      rw [if_pos hdg] at hS
      have h2 : 48 ≤ (s[k].toNat : Int) ∧ (s[k].toNat : Int) ≤ 57 := by simpa [L1.isDg] using hdg
      obtain ⟨h48, h57⟩ := h2
      have HN : Hid (D = k + 1 + L1.dLen (s.data.toList.drop (k + 1))) := by show _ = _; rw [HK.out, hS]; omega
      clear HK hS hdg
      go_wp2_with fail
      go_round
      case rel => exact ⟨k + 1, by omega, by omega, by go_num, HN⟩
      case measure => simp [intOf]; omega
    · have hDk : D = k := by
        have h0 := HK.out
        by_cases hkl : k < s.size
        · have hS := RS.out k hkl
          rw [if_neg (fun h => hgo ⟨hkl, h⟩)] at hS
          omega
        · obtain rfl : k = s.size := by omega
          rw [RE.out] at h0; omega
      have HX : Hid _ := OY.out k hk hDk hka
      have WH : Hid (∀ w', Calls Tryd.prog 66 #[.string (s.extract a k), .int .i64 9007199254740992] w' fun e w'' => e = .returned (.tuple #[.int .i64 (L1.numN (s.extract a k).data.toList), .bool (L1.numB (s.extract a k).data.toList)]) ∧ w'' = w') := fun w' => L1.whole_any _ w' (by simp; unfold maxLen; omega)
      have hnb := numN_le (s.extract a k).data.toList
      have hcase : k = s.size ∨ (∃ hk : k < s.size, (s[k].toNat : Int) < 48) ∨ (∃ hk : k < s.size, 48 ≤ (s[k].toNat : Int) ∧ 57 < (s[k].toNat : Int)) := by
        by_cases hkl : k < s.size
        · have hnd : ¬ L1.isDg s[k] = true := fun h => hgo ⟨hkl, h⟩
          have hnd' : ¬ (48 ≤ (s[k].toNat : Int) ∧ (s[k].toNat : Int) ≤ 57) := fun h => hnd (by simpa [L1.isDg] using h)
          by_cases h : (s[k].toNat : Int) < 48
          · exact Or.inr (Or.inl ⟨hkl, h⟩)
          · exact Or.inr (Or.inr ⟨hkl, by omega, by omega⟩)
        · exact Or.inl (by omega)
      clear hgo HK RS RE OY hDk
      generalize L1.numB (s.extract a k).data.toList = r at *
      generalize L1.numN (s.extract a k).data.toList = v at *
      rcases hcase with rfl | ⟨hkl, h48⟩ | ⟨hkl, h48, h57⟩
      · cases r with
        | false =>
          have HY : Hid (R = none) := by show _ = _; rw [HX.out, if_neg (by simp)]
          clear HX
          go_wp2_with (go_at_call 66; refine (WH.out _).mono ?_; rintro e w1 ⟨rfl, rfl⟩)
          exact bodyPost_ret (v := .tuple #[.slice none 0 0, .int .i64 0, .bool false]) (by simp [results, Tryd.results35, go_sem]) rfl ⟨po_none HY.out _ _, Below.refl _ _⟩
        | true =>
          have HY : Hid (R = some ([⟨1, 0, v, ByteArray.empty⟩], s.size - a)) := by show _ = _; rw [HX.out, if_pos rfl]
          clear HX
          go_wp2_with (go_at_call 66; refine (WH.out _).mono ?_; rintro e w1 ⟨rfl, rfl⟩)
          exact bodyPost_ret (v := .tuple #[.slice (some ⟨w1.heap.size, 0, none⟩) 1 1, .int .i64 (s.size : Int), .bool true]) (by simp [results, Tryd.results35, go_sem]) rfl ⟨po_some HY.out (by omega) (one_as _ ⟨1, 0, v, ByteArray.empty⟩), (Below.refl _ _).alloc (Nat.le_refl _) _⟩
      · cases r with
        | false =>
          have HY : Hid (R = none) := by show _ = _; rw [HX.out, if_neg (by simp)]
          clear HX
          go_wp2_with (go_at_call 66; refine (WH.out _).mono ?_; rintro e w1 ⟨rfl, rfl⟩)
          exact bodyPost_ret (v := .tuple #[.slice none 0 0, .int .i64 0, .bool false]) (by simp [results, Tryd.results35, go_sem]) rfl ⟨po_none HY.out _ _, Below.refl _ _⟩
        | true =>
          have HY : Hid (R = some ([⟨1, 0, v, ByteArray.empty⟩], k - a)) := by show _ = _; rw [HX.out, if_pos rfl]
          clear HX
          go_wp2_with (go_at_call 66; refine (WH.out _).mono ?_; rintro e w1 ⟨rfl, rfl⟩)
          exact bodyPost_ret (v := .tuple #[.slice (some ⟨w1.heap.size, 0, none⟩) 1 1, .int .i64 (k : Int), .bool true]) (by simp [results, Tryd.results35, go_sem]) rfl ⟨po_some HY.out (by omega) (one_as _ ⟨1, 0, v, ByteArray.empty⟩), (Below.refl _ _).alloc (Nat.le_refl _) _⟩
      · cases r with
        | false =>
          have HY : Hid (R = none) := by show _ = _; rw [HX.out, if_neg (by simp)]
          clear HX
          go_wp2_with (go_at_call 66; refine (WH.out _).mono ?_; rintro e w1 ⟨rfl, rfl⟩)
          exact bodyPost_ret (v := .tuple #[.slice none 0 0, .int .i64 0, .bool false]) (by simp [results, Tryd.results35, go_sem]) rfl ⟨po_none HY.out _ _, Below.refl _ _⟩
        | true =>
          have HY : Hid (R = some ([⟨1, 0, v, ByteArray.empty⟩], k - a)) := by show _ = _; rw [HX.out, if_pos rfl]
          clear HX
          go_wp2_with (go_at_call 66; refine (WH.out _).mono ?_; rintro e w1 ⟨rfl, rfl⟩)
          exact bodyPost_ret (v := .tuple #[.slice (some ⟨w1.heap.size, 0, none⟩) 1 1, .int .i64 (k : Int), .bool true]) (by simp [results, Tryd.results35, go_sem]) rfl ⟨po_some HY.out (by omega) (one_as _ ⟨1, 0, v, ByteArray.empty⟩), (Below.refl _ _).alloc (Nat.le_refl _) _⟩
end Go.Proofs.YtahcllncjpaijaaDoor
