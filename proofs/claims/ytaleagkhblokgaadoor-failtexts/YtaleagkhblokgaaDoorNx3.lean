/- Failures: the reference's reader: its answer is the program's; a word, what stands ahead. -/
import Derived.Test.YtaleagkhblokgaaDoorNx2
import Derived.Test.YtaleagkhblokgaaDoorUnq6
namespace Go.Proofs.YtaleagkhblokgaaDoor
open Go.RowKit

/-- What the reference reads of a text. -/
def rfA (s : List UInt8) : Option (List Cr) := match rp 1025 s with | some (l, []) => if chk l = 0 then some l else none | _ => none
theorem rfA_some {s : List UInt8} {l : List Cr} (hs : s.length ≤ 65536) (h : rfA s = some l) : psE s = 0 ∧ psL s = l := by
  unfold rfA at h
  split at h
  · rename_i l' hp
    split at h
    · rename_i hc
      injection h with h
      subst h
      obtain ⟨t, ht, he⟩ := rp_back 1025 _ _ _ hp
      rw [List.append_nil] at he
      have e : prV l' = s := by unfold prV; rw [if_pos hc, ← ht, tree_flat, he]
      have := print_parse hc (by rw [e]; exact hs)
      rw [e] at this
      exact ⟨this.2, this.1⟩
    · cases h
  · cases h
theorem rfA_none {s : List UInt8} (hs : s.length ≤ 65536) (h : rfA s = none) : psE s = 2 ∧ psL s = [] := by
  by_cases h0 : psE s = 0
  · exfalso
    obtain ⟨hc, hp⟩ := parse_print h0
    have hf := flat_tree hc
    have hl := (chk_ok hc).1
    have e := rp_there (treeOf (psL s)) 1025 [] (gd_of _ (by rw [hf]; exact chk_crB hc)) (Or.inl rfl) (by rw [hf]; omega) (by rw [hf]; omega)
    have e2 : prF (treeOf (psL s)) = s := by unfold prV at hp; rw [if_pos hc] at hp; exact hp
    rw [List.append_nil, e2, hf] at e
    unfold rfA at h
    rw [e] at h
    simp only [if_pos hc] at h
    cases h
  · refine ⟨?_, parse_none h0⟩
    unfold psE at h0 ⊢
    rw [if_neg (by omega)] at h0 ⊢
    split at h0
    · exact absurd rfl h0
    · rfl
theorem bsz (a : ByteArray) : a.data.toList.length = a.size := by rw [Array.length_toList]; rfl
theorem ext_mid (s : ByteArray) (a n : Nat) : (s.extract a (a + n)).data.toList = (s.data.toList.drop a).take n := by
  rw [ByteArray.data_extract, Array.toList_extract, List.extract_eq_take_drop]
  congr 1; omega
set_option maxHeartbeats 2000000 in
theorem rbegin_any (s p : ByteArray) (a : Nat) (w : World) (ha : a ≤ s.size) (hs : s.size ≤ 100000) (hp : p.size ≤ 10) :
    Calls Tryd.prog 69 #[.string s, .int .i64 a, .string p] w fun e w' => e = .returned (.bool (Lib.hasPrefix (s.data.toList.drop a) p.data.toList)) ∧ w' = w := by
  have HH : Hid (Lib.hasPrefix (s.data.toList.drop a) p.data.toList = (decide (p.size ≤ s.size - a) && decide (s.extract a (a + p.size) = p))) := by
    show _ = _
    rw [Bool.eq_iff_iff]
    unfold Lib.hasPrefix
    rw [List.isPrefixOf_iff_prefix, List.prefix_iff_eq_take, Bool.and_eq_true, decide_eq_true_eq, decide_eq_true_eq]
    have hl : p.data.toList.length = p.size := bsz p
    have hm := ext_mid s a p.size
    have hsl : s.data.toList.length = s.size := bsz s
    rw [hl, ← hm]
    constructor
    · intro h
      refine ⟨?_, (bytes_ext h).symm⟩
      have := congrArg List.length h
      rw [hm, List.length_take, List.length_drop] at this
      omega
    · intro h
      rw [h.2]
  generalize Lib.hasPrefix (s.data.toList.drop a) p.data.toList = r at *
  by_cases h1 : p.size ≤ s.size - a
  · have h2 : (s.size : Int) - (a : Int) ≥ (p.size : Int) := by omega
    have h3 : a + p.size ≤ s.size := by omega
    by_cases h4 : s.extract a (a + p.size) = p
    · go_enter Tryd.func69, Tryd.ntmps69
      go_wp2
      go_ret
      exact ⟨by rw [HH.out, decide_eq_true h1, decide_eq_true h4]; rfl, rfl⟩
    · have h5 : ((s.extract a (a + p.size)).toList == p.toList) = false := by
        rw [beq_eq_false_iff_ne, ByteArray.toList_eq, ByteArray.toList_eq]
        exact fun h => h4 (bytes_ext h)
      go_enter Tryd.func69, Tryd.ntmps69
      go_wp2
      go_ret
      exact ⟨ret_bool (by rw [HH.out, decide_eq_true h1, decide_eq_false h4]; rfl), rfl⟩
  · have h2 : ¬ ((s.size : Int) - (a : Int) ≥ (p.size : Int)) := by omega
    go_enter Tryd.func69, Tryd.ntmps69
    go_wp2
    go_ret
    exact ⟨by rw [HH.out, decide_eq_false h1]; rfl, rfl⟩
set_option maxHeartbeats 4000000 in
theorem rword_any (s : ByteArray) (a : Nat) (w : World) (ha : a ≤ s.size) (hs : s.size ≤ 100000) :
    Calls Tryd.prog 66 #[.string s, .int .i64 a] w fun e w' => e = .returned (.tuple #[.string (s.extract a (a + ptLen (s.data.toList.drop a))), .int .i64 (a + ptLen (s.data.toList.drop a) : Nat)]) ∧ w' = w := by
  have PS : Hid (∀ k (hk : k < s.size), ptLen (s.data.toList.drop k) = if isPt s[k] = true then ptLen (s.data.toList.drop (k + 1)) + 1 else 0) := fun k hk => by
    have := ptLen_step (l := s.data.toList) (k := k) (by simpa using hk)
    rw [this]; rfl
  have PE : Hid (ptLen (s.data.toList.drop s.size) = 0) := by
    show _ = _
    rw [List.drop_of_length_le (by simp)]; rfl
  obtain ⟨n, hn0⟩ : ∃ n, n = a + ptLen (s.data.toList.drop a) := ⟨_, rfl⟩
  have P0 : Hid (n = a + ptLen (s.data.toList.drop a)) := hn0
  rw [← hn0]
  clear hn0
  go_enter Tryd.func66, Tryd.ntmps66
  go_wp2
  go_loop [6] (fun v3 => ∃ k : Nat, a ≤ k ∧ k ≤ s.size ∧ v3 = .int .i64 k ∧ Hid (n = k + ptLen (s.data.toList.drop k))) (fun v3 => s.size - (intOf v3).toNat)
  case atStart => exact ⟨a, Nat.le_refl _, ha, rfl, P0⟩
  case round =>
    obtain ⟨k, hka, hk, rfl, HK⟩ := hrel
    clear P0
    by_cases hlt : k < s.size
    · have hS := PS.out k hlt
      cases hp : isPt s[k] with
      | true =>
        rw [hp, if_pos rfl] at hS
        have HN : Hid (n = (k + 1) + ptLen (s.data.toList.drop (k + 1))) := by show _ = _; rw [HK.out, hS]; omega
        unfold isPt at hp
        simp only [decide_eq_true_eq] at hp
        clear hS HK
        rcases hp with ⟨h1, h2⟩ | ⟨h1, h2⟩ | h1
        · go_wp2
          go_round
          case rel => exact ⟨k + 1, by omega, by omega, by go_num, HN⟩
          case measure => simp [intOf]; omega
        · have h3 : ¬ 97 ≤ (s[k].toNat : Int) := by omega
          go_wp2
          go_round
          case rel => exact ⟨k + 1, by omega, by omega, by go_num, HN⟩
          case measure => simp [intOf]; omega
        · have h3 : ¬ 97 ≤ (s[k].toNat : Int) := by omega
          have h4 : 48 ≤ (s[k].toNat : Int) := by omega
          have h5 : ¬ (s[k].toNat : Int) ≤ 57 := by omega
          have h6 : ((s[k].toNat : Int) == 95) = true := by simpa using h1
          go_wp2
          go_round
          case rel => exact ⟨k + 1, by omega, by omega, by go_num, HN⟩
          case measure => simp [intOf]; omega
      | false =>
        rw [hp] at hS
        simp only [Bool.false_eq_true, if_false] at hS
        have hn : n = k := by have := HK.out; omega
        subst hn
        unfold isPt at hp
        simp only [decide_eq_false_iff_not] at hp
        have h6 : ((s[n].toNat : Int) == 95) = false := by simp; omega
        clear hS HK
        by_cases h1 : 97 ≤ (s[n].toNat : Int)
        · have h2 : ¬ (s[n].toNat : Int) ≤ 122 := by omega
          have h4 : 48 ≤ (s[n].toNat : Int) := by omega
          have h5 : ¬ (s[n].toNat : Int) ≤ 57 := by omega
          clear hp
          go_wp2
          go_ret2
          exact ⟨rfl, rfl⟩
        · by_cases h4 : 48 ≤ (s[n].toNat : Int)
          · have h5 : ¬ (s[n].toNat : Int) ≤ 57 := by omega
            clear hp
            go_wp2
            go_ret2
            exact ⟨rfl, rfl⟩
          · clear hp
            go_wp2
            go_ret2
            exact ⟨rfl, rfl⟩
    · obtain rfl : k = s.size := by omega
      have hn : n = s.size := by have := HK.out; rw [PE.out] at this; omega
      subst hn
      clear HK
      go_wp2
      go_ret2
      exact ⟨rfl, rfl⟩
theorem rq_step {l : List UInt8} {k : Nat} (hk : k < l.length) : rq (l.drop k) = if l[k] = 34 then 0 else if l[k] = 92 then 2 + rq (l.drop (k + 2)) else 1 + rq (l.drop (k + 1)) := by
  rw [List.drop_eq_getElem_cons hk]
  by_cases h2 : k + 1 < l.length
  · rw [List.drop_eq_getElem_cons h2, rq]
  · rw [List.drop_of_length_le (i := k + 1) (by omega), List.drop_of_length_le (i := k + 2) (by omega)]
    simp [rq]
/-- The answer for a quoted text. -/
def TxO (s : ByteArray) (L : List UInt8) (e : Ending) : Prop := (∃ t r, rpt L = some (t, r) ∧ r.length ≤ L.length ∧ e = .returned (.tuple #[.string t, .int .i64 (s.size - r.length : Nat), .bool true])) ∨ (rpt L = none ∧ ∃ (t : ByteArray) (m : Nat), m ≤ 200000 ∧ e = .returned (.tuple #[.string t, .int .i64 m, .bool false]))
theorem rpt_no {L : List UInt8} (h : ¬ (L.head? = some 34 ∧ rq (L.drop 1) < (L.drop 1).length ∧ unqB (L.take (rq (L.drop 1) + 2)) = true)) : rpt L = none := by unfold rpt; rw [if_neg h]
set_option maxHeartbeats 4000000 in
theorem rtext_any (s : ByteArray) (a : Nat) (w : World) (ha : a ≤ s.size) (hs : s.size ≤ 100000) :
    Calls Tryd.prog 68 #[.string s, .int .i64 a] w fun e w' => TxO s (s.data.toList.drop a) e ∧ Below w.heap.size w w' := by
  have hsl := bsz s
  by_cases hlt : a < s.size
  · have hcons : s.data.toList.drop a = s[a] :: s.data.toList.drop (a + 1) := drop_cons' s a hlt
    by_cases h34 : (s[a].toNat : Int) = 34
    · have h34' : s[a] = 34 := u8_eq (n := 34) (by omega) h34
      have hq : ((s[a].toNat : Int) != 34) = false := by simpa using h34
      obtain ⟨D, hD⟩ : ∃ D, D = a + 1 + rq (s.data.toList.drop (a + 1)) := ⟨_, rfl⟩
      have RS : Hid (∀ k (hk : k < s.size), rq (s.data.toList.drop k) = if s[k] = 34 then 0 else if s[k] = 92 then 2 + rq (s.data.toList.drop (k + 2)) else 1 + rq (s.data.toList.drop (k + 1))) := fun k hk => by
        have := rq_step (l := s.data.toList) (k := k) (by simpa using hk)
        rw [this]; rfl
      have RE : Hid (∀ k, s.size ≤ k → rq (s.data.toList.drop k) = 0) := fun k hk => by
        rw [List.drop_of_length_le (by simpa using hk)]; rfl
      have P0 : Hid (D = a + 1 + rq (s.data.toList.drop (a + 1))) := hD
      have ONO : Hid (s.size ≤ D → rpt (s.data.toList.drop a) = none) := fun h => by
        refine rpt_no (fun hc => ?_)
        have h2 := hc.2.1
        rw [List.drop_drop, List.length_drop, hsl] at h2
        omega
      have OYES : Hid (∀ k, k < s.size → D = k → a + 1 ≤ k → rpt (s.data.toList.drop a) = if unqB (s.extract a (k + 1)).data.toList = true then some (⟨(unqT (s.extract a (k + 1)).data.toList).toArray⟩, s.data.toList.drop (k + 1)) else none) := fun k hk hDk hak => by
        have e1 : rq (s.data.toList.drop (a + 1)) = k - (a + 1) := by omega
        have e2 : (s.extract a (k + 1)).data.toList = (s.data.toList.drop a).take (k - (a + 1) + 2) := by
          have := ext_mid s a (k - (a + 1) + 2)
          rw [show a + (k - (a + 1) + 2) = k + 1 by omega] at this
          exact this
        unfold rpt
        rw [List.drop_drop, e1, ← e2]
        have e3 : (s.data.toList.drop a).head? = some 34 := by rw [hcons, h34']; rfl
        have e4 : k - (a + 1) < (s.data.toList.drop (a + 1)).length := by rw [List.length_drop, hsl]; omega
        have e5 : (s.data.toList.drop a).drop (k - (a + 1) + 2) = s.data.toList.drop (k + 1) := by rw [List.drop_drop]; congr 1; omega
        rw [e5]
        simp only [e3, e4, true_and]
      clear hD hcons h34'
      go_enter Tryd.func68, Tryd.ntmps68
      go_wp2
      go_loop [7] (fun v => ∃ k : Nat, a + 1 ≤ k ∧ k ≤ s.size + 1 ∧ v = .int .i64 k ∧ Hid (D = k + rq (s.data.toList.drop k))) (fun v => s.size + 1 - (intOf v).toNat)
      case atStart => exact ⟨a + 1, by omega, by omega, by go_num, P0⟩
      case round =>
        obtain ⟨k, hka, hk, rfl, HK⟩ := hrel
        clear P0
        by_cases hkl : k < s.size
        · have hS := RS.out k hkl
          by_cases h1 : (s[k].toNat : Int) = 34
          · have h1' : s[k] = 34 := u8_eq (n := 34) (by omega) h1
            have h1n : ((s[k].toNat : Int) != 34) = false := by simpa using h1
            rw [if_pos h1'] at hS
            have hDk : D = k := by have := HK.out; omega
            have OY := OYES.out k hkl hDk hka
            have UQ := fun w' => refUnquote_any (s.extract a (k + 1)) w' (by simp; omega)
            have HX : Hid (rpt (s.data.toList.drop a) = if unqB (s.extract a (k + 1)).data.toList = true then some (⟨(unqT (s.extract a (k + 1)).data.toList).toArray⟩, s.data.toList.drop (k + 1)) else none) := OY
            clear OY OYES ONO HK hS h1' hDk RS RE
            generalize unqB (s.extract a (k + 1)).data.toList = r at *
            generalize unqT (s.extract a (k + 1)).data.toList = T at *
            go_wp2_with fail
            refine (UQ _).mono ?_
            rintro e w1 ⟨rfl, hb1⟩
            have B1 : Hid (Below w.heap.size w w1) := hb1
            clear hb1 UQ
            go_wp2
            go_ret3
            refine ⟨?_, B1.out⟩
            cases r with
            | true => exact Or.inl ⟨_, _, HX.out, by simp; omega, ret_qa rfl (by simp; omega) rfl⟩
            | false => exact Or.inr ⟨HX.out, ⟨T.toArray⟩, k + 1, by omega, ret_qa rfl (by omega) rfl⟩
          · have h1' : ¬ s[k] = 34 := fun h => h1 (by rw [h]; rfl)
            have h1n : ((s[k].toNat : Int) != 34) = true := by simpa using h1
            rw [if_neg h1'] at hS
            by_cases h2 : (s[k].toNat : Int) = 92
            · have h2' : s[k] = 92 := u8_eq (n := 92) (by omega) h2
              have h2n : ((s[k].toNat : Int) == 92) = true := by simpa using h2
              rw [if_pos h2'] at hS
              have HN : Hid (D = k + 2 + rq (s.data.toList.drop (k + 2))) := by show _ = _; rw [HK.out, hS]; omega
              clear HK hS h1' h2'
              go_wp2
              go_round
              case rel => exact ⟨k + 2, by omega, by omega, by go_num, HN⟩
              case measure => simp [intOf]; omega
            · have h2' : ¬ s[k] = 92 := fun h => h2 (by rw [h]; rfl)
              have h2n : ((s[k].toNat : Int) == 92) = false := by simpa using h2
              rw [if_neg h2'] at hS
              have HN : Hid (D = k + 1 + rq (s.data.toList.drop (k + 1))) := by show _ = _; rw [HK.out, hS]; omega
              clear HK hS h1' h2'
              go_wp2
              go_round
              case rel => exact ⟨k + 1, by omega, by omega, by go_num, HN⟩
              case measure => simp [intOf]; omega
        · have hno := ONO.out (by have := HK.out; omega)
          have HX : Hid (rpt (s.data.toList.drop a) = none) := hno
          clear hno HK ONO OYES RS RE
          go_wp2
          go_ret3
          exact ⟨Or.inr ⟨HX.out, ByteArray.empty, 0, by omega, rfl⟩, Below.refl _ _⟩
    · have HX : Hid (rpt (s.data.toList.drop a) = none) := by
        refine rpt_no (fun hc => h34 ?_)
        have := hc.1
        rw [hcons] at this
        injection this with this
        rw [this]; rfl
      have hq : ((s[a].toNat : Int) != 34) = true := by simpa using h34
      clear hcons
      go_enter Tryd.func68, Tryd.ntmps68
      go_wp2
      go_ret3
      exact ⟨Or.inr ⟨HX.out, ByteArray.empty, 0, by omega, rfl⟩, Below.refl _ _⟩
  · have HX : Hid (rpt (s.data.toList.drop a) = none) := by
      refine rpt_no (fun hc => ?_)
      have := hc.1
      rw [List.drop_of_length_le (by omega)] at this
      cases this
    go_enter Tryd.func68, Tryd.ntmps68
    go_wp2
    go_ret3
    exact ⟨Or.inr ⟨HX.out, ByteArray.empty, 0, by omega, rfl⟩, Below.refl _ _⟩
end Go.Proofs.YtaleagkhblokgaaDoor
