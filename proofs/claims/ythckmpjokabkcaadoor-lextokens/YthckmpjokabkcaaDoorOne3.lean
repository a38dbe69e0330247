/- The walk of the reference's 'one', the cases of numbers, texts and marks: the token that begins at a place, or its fault. (Made by mkone.py.) -/
import Derived.Test.YthckmpjokabkcaaDoorOne2
namespace Go.Proofs.YthckmpjokabkcaaDoor
open Go.RowKit

set_option maxHeartbeats 1000000 in
theorem refMark_any (t : ByteArray) (w : World) :
    Calls Tryd.prog 46 #[.string t] w fun e w' => e = .returned (.bool (inB mk t)) ∧ w' = w.alloc (.cells mkV 9) := by
  have hl : mk.length ≤ 1000000 := by rw [mk_len]; omega
  have KC : ∀ i, i < mk.length → (w.alloc (.cells mkV 9)).cell? ⟨w.heap.size, 0 + i, none⟩ = some (.string (mk.getD i ByteArray.empty)) := by
    intro i hi
    rw [cell_of_row _ _ _ _ _ _ (heap_alloc_new w _), Nat.zero_add, mkV_at i hi]; simp [hi]
  have IN := in_any mk t w.heap.size 0 14 (w.alloc (.cells mkV 9)) hl KC
  go_enter Tryd.func46, Tryd.ntmps46
  go_wp2_with (go_at_call 30; refine IN.mono ?_; rintro e w' ⟨rfl, rfl⟩)
  go_ret
  exact ⟨rfl, rfl⟩

set_option maxRecDepth 100000 in
set_option maxHeartbeats 8000000 in
theorem one_digit (s : ByteArray) (n : Nat) (w : World) (hs : s.size ≤ 65536) (hn : n < s.size) (h1 : 48 ≤ (s[n].toNat : Int)) (h2 : (s[n].toNat : Int) ≤ 57) :
    Calls Tryd.prog 25 #[.string s, .int .i64 n] w fun e w' => OneP (rn (s.data.toList.drop n)) n e ∧ Below w.heap.size w w' := by
  have FR := fun w1 => from_any s n w1 hs (by omega)
  have e0 : wLen (s.data.toList.drop n) = 0 := by rw [drop_cons s n hn, wLen_cons_neg (isSm_f (by omega))]
  rw [e0] at FR
  clear e0
  have hl := dLen_le (s.data.toList.drop n)
  have hm1 : dLen (s.data.toList.drop n) = 1 + dLen (s.data.toList.drop (n + 1)) := by rw [drop_cons s n hn, dLen_t h1 h2]; omega
  obtain ⟨R, hR⟩ : ∃ R, R = rn (s.data.toList.drop n) := ⟨_, rfl⟩
  rw [← hR]
  have HR : Hid (R = if numB ((s.data.toList.drop n).take (dLen (s.data.toList.drop n))) then ⟨0, 4, numN ((s.data.toList.drop n).take (dLen (s.data.toList.drop n))), [], dLen (s.data.toList.drop n)⟩ else RT.bad 12) := hR
  clear hR
  obtain ⟨m, hm⟩ : ∃ m, m = dLen (s.data.toList.drop n) := ⟨_, rfl⟩
  rw [← hm] at hl HR hm1
  clear hm
  have HM : Hid (m = 1 + dLen (s.data.toList.drop (n + 1))) := hm1
  clear hm1
  have hle : n + m ≤ s.size := by simp at hl; omega
  have hsz : (s.extract n (n + m)).size = m := by rw [ByteArray.size_extract]; omega
  have NU := fun w1 => refNumber_any (s.extract n (n + m)) w1 (by rw [hsz]; unfold maxLen; omega)
  have HE : Hid ((s.extract n (n + m)).data.toList = (s.data.toList.drop n).take m) := by
    show _ = _; rw [extract_toList]; congr 1; omega
  rw [HE.out] at NU
  obtain ⟨nn, hnn⟩ : ∃ nn, nn = numN ((s.data.toList.drop n).take m) := ⟨_, rfl⟩
  obtain ⟨nb, hnb⟩ : ∃ nb, nb = numB ((s.data.toList.drop n).take m) := ⟨_, rfl⟩
  rw [← hnn, ← hnb] at NU HR
  clear hnn hnb HE hl
  have HRF : Hid (nb = false → R = RT.bad 12) := fun h => by rw [HR.out, h]; rfl
  have HRT : Hid (nb = true → R = ⟨0, 4, nn, [], m⟩) := fun h => by rw [HR.out, h]; rfl
  clear HR
  have n36 : ((s[n].toNat : Int) == 36) = false := by simp; omega
  have HNU : Hid _ := NU
  clear NU
  go_enter Tryd.func25, Tryd.ntmps25
  go_wp2_with (first | (go_at_call 44; refine (FR _).mono ?_; rintro e w' ⟨rfl, rfl⟩))
  go_loop [9] (fun i => ∃ k : Nat, 1 ≤ k ∧ n + k ≤ s.size ∧ i = .int .i64 k ∧ Hid (m = k + dLen (s.data.toList.drop (n + k)))) (fun i => s.size - (intOf i).toNat)
  case atStart => exact ⟨1, Nat.le_refl _, by omega, rfl, HM⟩
  case round =>
    obtain ⟨k, hk, hks, rfl, HK⟩ := hrel
    clear HM FR
    by_cases hl2 : n + k < s.size
    · have HD2 : Hid (s.data.toList.drop (n + k) = s[n + k] :: s.data.toList.drop (n + k + 1)) := drop_cons s (n + k) hl2
      have hc2 : (s[n + k].toNat : Int) ≤ 255 := by have := UInt8.toNat_lt s[n + k]; omega
      have hl3 : (n : Int) + (k : Int) < (s.size : Int) := by omega
      by_cases hd : 48 ≤ (s[n + k].toNat : Int) ∧ (s[n + k].toNat : Int) ≤ 57
      · obtain ⟨g1, g2⟩ := hd
        clear HNU
        have fin : ∃ k1 : Nat, 1 ≤ k1 ∧ n + k1 ≤ s.size ∧ Value.int IntKind.i64 ((k : Int) + 1) = .int .i64 k1 ∧ Hid (m = k1 + dLen (s.data.toList.drop (n + k1))) := by
          refine ⟨k + 1, by omega, by omega, by go_num, ?_⟩
          show _ = _
          rw [HK.out, HD2.out, dLen_t g1 g2, Nat.add_assoc n k 1]; omega
        have FIN : Hid _ := fin
        clear fin
        go_wp2
        go_round
        case rel => first | exact FIN.out | ((repeat apply Exists.intro); exact ⟨FIN.out, rfl⟩)
        case measure => simp [intOf]; omega
      · have hkm : m = k := by rw [HK.out, HD2.out, dLen_f hd]; rfl
        subst hkm
        clear HK HD2
        have i2 : (n : Int) ≤ (n : Int) + (m : Int) := by omega
        have i3 : (n : Int) + (m : Int) ≤ (s.size : Int) := by omega
        rcases (by omega : (s[n + m].toNat : Int) < 48 ∨ 57 < (s[n + m].toNat : Int)) with g1 | g1
        all_goals
          clear hd
          cases nb
          · have HR2 : Hid (R = RT.bad 12) := HRF.out (by simp)
            clear HRF HRT
            go_wp2_with (first | (go_at_call 12; refine (HNU.out _).mono ?_; rintro e w' ⟨rfl, rfl⟩))
            refine bodyPost_ret (v := .tuple #[.agg #[.int .i64 0, .int .i64 n, .int .i64 0, .string ⟨#[]⟩], .int .i64 0, .int .i64 12]) (by simp [results, Tryd.results25, go_sem]) rfl ⟨⟨_, _, _, _, _, by rw [HR2.out]; rfl, ?_⟩, ?_⟩
            · intro h; rw [HR2.out] at h; cases h
            · exact ((Below.refl _ _).alloc (Nat.le_refl _) _).alloc (by simp) _
          · have HR2 : Hid (R = ⟨0, 4, nn, [], m⟩) := HRT.out (by simp)
            clear HRF HRT
            go_wp2_with (first | (go_at_call 12; refine (HNU.out _).mono ?_; rintro e w' ⟨rfl, rfl⟩))
            refine bodyPost_ret (v := .tuple #[.agg #[.int .i64 4, .int .i64 n, .int .i64 nn, .string ⟨#[]⟩], .int .i64 ((n : Int) + (m : Int)), .int .i64 0]) (by simp [results, Tryd.results25, go_sem]) rfl ⟨⟨_, _, _, _, _, by rw [HR2.out], ?_⟩, ?_⟩
            · intro _; rw [HR2.out]; exact ⟨rfl, rfl, rfl, rfl, by go_num⟩
            · exact ((Below.refl _ _).alloc (Nat.le_refl _) _).alloc (by simp) _
    · have hkm : m = k := by rw [HK.out, drop_end s (n + k) (by omega)]; rfl
      subst hkm
      clear HK
      have hl3 : ¬ (n : Int) + (m : Int) < (s.size : Int) := by omega
      have i2 : (n : Int) ≤ (n : Int) + (m : Int) := by omega
      have i3 : (n : Int) + (m : Int) ≤ (s.size : Int) := by omega
      cases nb
      · have HR2 : Hid (R = RT.bad 12) := HRF.out (by simp)
        clear HRF HRT
        go_wp2_with (first | (go_at_call 12; refine (HNU.out _).mono ?_; rintro e w' ⟨rfl, rfl⟩))
        refine bodyPost_ret (v := .tuple #[.agg #[.int .i64 0, .int .i64 n, .int .i64 0, .string ⟨#[]⟩], .int .i64 0, .int .i64 12]) (by simp [results, Tryd.results25, go_sem]) rfl ⟨⟨_, _, _, _, _, by rw [HR2.out]; rfl, ?_⟩, ?_⟩
        · intro h; rw [HR2.out] at h; cases h
        · exact ((Below.refl _ _).alloc (Nat.le_refl _) _).alloc (by simp) _
      · have HR2 : Hid (R = ⟨0, 4, nn, [], m⟩) := HRT.out (by simp)
        clear HRF HRT
        go_wp2_with (first | (go_at_call 12; refine (HNU.out _).mono ?_; rintro e w' ⟨rfl, rfl⟩))
        refine bodyPost_ret (v := .tuple #[.agg #[.int .i64 4, .int .i64 n, .int .i64 nn, .string ⟨#[]⟩], .int .i64 ((n : Int) + (m : Int)), .int .i64 0]) (by simp [results, Tryd.results25, go_sem]) rfl ⟨⟨_, _, _, _, _, by rw [HR2.out], ?_⟩, ?_⟩
        · intro _; rw [HR2.out]; exact ⟨rfl, rfl, rfl, rfl, by go_num⟩
        · exact ((Below.refl _ _).alloc (Nat.le_refl _) _).alloc (by simp) _

set_option maxRecDepth 100000 in
set_option maxHeartbeats 8000000 in
theorem one_text (s : ByteArray) (n : Nat) (w : World) (hs : s.size ≤ 65536) (hn : n < s.size) (h34 : (s[n].toNat : Int) = 34) :
    Calls Tryd.prog 25 #[.string s, .int .i64 n] w fun e w' => OneP (rq (s.data.toList.drop n)) n e ∧ Below w.heap.size w w' := by
  have FR := fun w1 => from_any s n w1 hs (by omega)
  have e0 : wLen (s.data.toList.drop n) = 0 := by rw [drop_cons s n hn, wLen_cons_neg (isSm_f (by omega))]
  rw [e0] at FR
  clear e0
  have QA := fun w1 => quoted_any s n w1 (by omega) hn h34
  have HF : Hid _ := @rq_f s.data.toList n
  have HT : Hid _ := @rq_t s.data.toList n
  have HG : Hid _ := @qa_ge s.data.toList n
  obtain ⟨R, hR⟩ : ∃ R, R = rq (s.data.toList.drop n) := ⟨_, rfl⟩
  rw [← hR] at HF HT
  rw [← hR]
  obtain ⟨Q, hQ⟩ : ∃ Q, Q = qa s.data.toList n := ⟨_, rfl⟩
  rw [← hQ] at HF HT HG QA
  clear hR hQ
  obtain ⟨t, en, ok⟩ := Q
  simp only at HF HT HG QA
  have HQA : Hid _ := QA
  clear QA
  cases ok
  · have HR2 : Hid (R = RT.bad 11) := HF.out rfl
    clear HF HT HG
    go_enter Tryd.func25, Tryd.ntmps25
    go_wp2_with (first | (go_at_call 44; refine (FR _).mono ?_; rintro e w' ⟨rfl, rfl⟩) | (go_at_call 45; refine (HQA.out _).mono ?_; rintro e w2 ⟨rfl, hb2⟩; obtain ⟨hc2, hf2⟩ := oldCells hb2; have hz2 := hb2.size; have g0 := hc2 w.heap.size 0 (by simp; omega); have g1 := hc2 w.heap.size 1 (by simp; omega); have g2 := hc2 w.heap.size 2 (by simp; omega); have g3 := hc2 w.heap.size 3 (by simp; omega)))
    refine bodyPost_ret (v := .tuple #[.agg #[.int .i64 0, .int .i64 n, .int .i64 0, .string ⟨#[]⟩], .int .i64 0, .int .i64 11]) (by simp [results, Tryd.results25, go_sem, g0, g1, g2, g3]) rfl ⟨⟨_, _, _, _, _, by rw [HR2.out]; rfl, ?_⟩, ?_⟩
    · intro h; rw [HR2.out] at h; cases h
    · exact (((((((Below.refl _ _).alloc (Nat.le_refl _) _).alloc (by simp) _).trans (hb2.mono (by simp; omega))).setCell (Nat.le_refl _) _).setCell (Nat.le_refl _) _).setCell (Nat.le_refl _) _).setCell (Nat.le_refl _) _
  · have hge := HG.out rfl
    by_cases h4 : 4096 < t.length
    · have HR2 : Hid (R = RT.bad 3) := by show _ = _; rw [HT.out rfl, if_pos h4]
      have h4' : (4096 : Int) < ((ByteArray.mk t.toArray).size : Int) := by show (4096 : Int) < ((t.toArray.size : Nat) : Int); simp; omega
      clear HF HT HG
      go_enter Tryd.func25, Tryd.ntmps25
      go_wp2_with (first | (go_at_call 44; refine (FR _).mono ?_; rintro e w' ⟨rfl, rfl⟩) | (go_at_call 45; refine (HQA.out _).mono ?_; rintro e w2 ⟨rfl, hb2⟩; obtain ⟨hc2, hf2⟩ := oldCells hb2; have hz2 := hb2.size; have g0 := hc2 w.heap.size 0 (by simp; omega); have g1 := hc2 w.heap.size 1 (by simp; omega); have g2 := hc2 w.heap.size 2 (by simp; omega); have g3 := hc2 w.heap.size 3 (by simp; omega)))
      refine bodyPost_ret (v := .tuple #[.agg #[.int .i64 0, .int .i64 n, .int .i64 0, .string ⟨#[]⟩], .int .i64 0, .int .i64 3]) (by simp [results, Tryd.results25, go_sem, g0, g1, g2, g3]) rfl ⟨⟨_, _, _, _, _, by rw [HR2.out]; rfl, ?_⟩, ?_⟩
      · intro h; rw [HR2.out] at h; cases h
      · exact (((((((Below.refl _ _).alloc (Nat.le_refl _) _).alloc (by simp) _).trans (hb2.mono (by simp; omega))).setCell (Nat.le_refl _) _).setCell (Nat.le_refl _) _).setCell (Nat.le_refl _) _).setCell (Nat.le_refl _) _
    · have HR2 : Hid (R = ⟨0, 5, 0, t, en - n⟩) := by show _ = _; rw [HT.out rfl, if_neg h4]
      have h4' : ¬ (4096 : Int) < ((ByteArray.mk t.toArray).size : Int) := by show ¬ (4096 : Int) < ((t.toArray.size : Nat) : Int); simp; omega
      clear HF HT HG
      go_enter Tryd.func25, Tryd.ntmps25
      go_wp2_with (first | (go_at_call 44; refine (FR _).mono ?_; rintro e w' ⟨rfl, rfl⟩) | (go_at_call 45; refine (HQA.out _).mono ?_; rintro e w2 ⟨rfl, hb2⟩; obtain ⟨hc2, hf2⟩ := oldCells hb2; have hz2 := hb2.size; have g0 := hc2 w.heap.size 0 (by simp; omega); have g1 := hc2 w.heap.size 1 (by simp; omega); have g2 := hc2 w.heap.size 2 (by simp; omega); have g3 := hc2 w.heap.size 3 (by simp; omega)))
      refine bodyPost_ret (v := .tuple #[.agg #[.int .i64 5, .int .i64 n, .int .i64 0, .string ⟨t.toArray⟩], .int .i64 (en : Int), .int .i64 0]) (by simp [results, Tryd.results25, go_sem, g0, g1, g2, g3]) rfl ⟨⟨_, _, _, _, _, by rw [HR2.out], ?_⟩, ?_⟩
      · intro _; rw [HR2.out]; exact ⟨rfl, rfl, rfl, rfl, by simp; omega⟩
      · exact (((((((((Below.refl _ _).alloc (Nat.le_refl _) _).alloc (by simp) _).trans (hb2.mono (by simp; omega))).setCell (by simp) _).setCell (by simp) _).setCell (Nat.le_refl _) _).setCell (Nat.le_refl _) _).setCell (Nat.le_refl _) _).setCell (Nat.le_refl _) _
end Go.Proofs.YthckmpjokabkcaaDoor
