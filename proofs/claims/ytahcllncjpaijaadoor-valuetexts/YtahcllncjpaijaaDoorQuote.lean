/- The walks of lex.Quote and of its reference: both give the text quoted. Asked: the quoted text has room in memory. -/
import Derived.Test.YtahcllncjpaijaaDoorPlain3
namespace Go.Proofs.YtahcllncjpaijaaDoor
open Go.RowKit

theorem ret_bool' {a b : Bool} (h : a = b) : Ending.returned (.bool a) = .returned (.bool b) := by rw [h]
theorem ret_str {a b : List UInt8} (h : a = b) : Ending.returned (.string ⟨a.toArray⟩) = .returned (.string ⟨b.toArray⟩) := by rw [h]
/-- Does a byte stand for itself within quotes? -/
def plB (c : Int) : Bool := decide (32 ≤ c ∧ c ≤ 126 ∧ c ≠ 34 ∧ c ≠ 92)
set_option maxHeartbeats 400000 in
theorem isPlain_any (c : Int) (w : World) : Calls Tryd.prog 95 #[.int .u8 c] w fun e w' => e = .returned (.bool (plB c)) ∧ w' = w := by
  have HP : Hid (plB c = decide (32 ≤ c ∧ c ≤ 126 ∧ c ≠ 34 ∧ c ≠ 92)) := rfl
  go_enter Tryd.func95, Tryd.ntmps95
  go_wp2
  all_goals
    go_ret
    refine ⟨ret_bool' ?_, rfl⟩
    rw [HP.out, Bool.eq_iff_iff]
    simp
    try omega
theorem isPlain_t (c : Int) (w : World) (h : plB c = true) : Calls Tryd.prog 95 #[.int .u8 c] w fun e w' => e = .returned (.bool true) ∧ w' = w := h ▸ isPlain_any c w
theorem isPlain_f (c : Int) (w : World) (h : plB c = false) : Calls Tryd.prog 95 #[.int .u8 c] w fun e w' => e = .returned (.bool false) ∧ w' = w := h ▸ isPlain_any c w

set_option maxHeartbeats 2000000 in
theorem appendQuoted_any (s : ByteArray) (v : Value) (bs : List UInt8) (base : Nat) (w : World) (hown : Own w base v bs) (hbase : base ≤ w.heap.size) (hs : bs.length + 4 * s.size + 2 ≤ 140737488355328) :
    Calls Tryd.prog 82 #[v, .string s] w fun e w' => ∃ g cap, e = .returned (.slice (some ⟨g, 0, none⟩) (bs ++ quo s.data.toList).length cap) ∧ Own w' base (.slice (some ⟨g, 0, none⟩) (bs ++ quo s.data.toList).length cap) (bs ++ quo s.data.toList) ∧ Below base w w' := by
  go_enter Tryd.func82, Tryd.ntmps82
  go_wp2_with (at_builtin; refine append_own_bytes rfl (.tmp 7) (.tmp 8) 79 rfl base Tryd.underlying79 info_u8 _ _ _ v bs [34] _ rfl hown rfl rfl (by simp; omega) hbase ?_; intro v1 w1 ho1 hb1 hz1 hv1)
  go_loopw [0, 12] (fun x i wr => ∃ k : Nat, k ≤ s.size ∧ i = .int .i64 k ∧ Own wr base x (bs ++ [34] ++ (s.data.toList.take k).flatMap qB) ∧ Below base w wr ∧ base ≤ wr.heap.size) (fun _ i _ => s.size - (intOf i).toNat)
  case atStart => exact ⟨0, Nat.zero_le _, rfl, by simpa using ho1, hb1, by omega⟩
  case round =>
    obtain ⟨k, hk, rfl, ho, hb, hz⟩ := hrel
    by_cases hlt : k < s.size
    · have HS : Hid ((s.data.toList.take (k + 1)).flatMap qB = (s.data.toList.take k).flatMap qB ++ qB s[k]) := qBs_snoc s k hlt
      have hc : (s[k].toNat : Int) ≤ 255 := by have := UInt8.toNat_lt s[k]; omega
      obtain ⟨L, hL⟩ : ∃ L, L = bs ++ [34] ++ (s.data.toList.take k).flatMap qB := ⟨_, rfl⟩
      rw [← hL] at ho
      have hl : L.length ≤ bs.length + 1 + 4 * k := by
        have := qBs_len (s.data.toList.take k); rw [hL]; simp at this ⊢; omega
      have HN : Hid (L ++ qB s[k] = bs ++ [34] ++ (s.data.toList.take (k + 1)).flatMap qB) := by
        show _ = _; rw [HS.out, hL]; simp
      clear HS hL
      by_cases hesc : (s[k].toNat : Int) = 34 ∨ (s[k].toNat : Int) = 92
      · rcases hesc with hesc | hesc
        · have HQ : Hid (qB s[k] = [92] ++ [34]) := qB_34 hesc
          go_wp2_with (first
            | (at_builtin; refine append_own_bytes rfl (.tmp 29) (.tmp 30) 79 rfl base Tryd.underlying79 info_u8 _ _ _ _ L [92] _ rfl ho rfl rfl (by simp; omega) hz ?_; intro v2 w2 ho2 hb2 hz2 hv2)
            | (at_builtin; refine append_own_bytes rfl (.tmp 32) (.tmp 34) 79 rfl base Tryd.underlying79 info_u8 _ _ _ _ (L ++ [92]) [34] _ rfl ho2 rfl rfl (by simp; omega) (by omega) ?_; intro v3 w3 ho3 hb3 hz3 hv3))
          go_roundw
          case rel => exact ⟨k + 1, by omega, by go_num, by rw [← HN.out, HQ.out, ← List.append_assoc]; exact ho3, (hb.trans hb2).trans hb3, by omega⟩
          case measure => simp [intOf]; omega
        · have HQ : Hid (qB s[k] = [92] ++ [92]) := qB_92 hesc
          go_wp2_with (first
            | (at_builtin; refine append_own_bytes rfl (.tmp 29) (.tmp 30) 79 rfl base Tryd.underlying79 info_u8 _ _ _ _ L [92] _ rfl ho rfl rfl (by simp; omega) hz ?_; intro v2 w2 ho2 hb2 hz2 hv2)
            | (at_builtin; refine append_own_bytes rfl (.tmp 32) (.tmp 34) 79 rfl base Tryd.underlying79 info_u8 _ _ _ _ (L ++ [92]) [92] _ rfl ho2 rfl rfl (by simp; omega) (by omega) ?_; intro v3 w3 ho3 hb3 hz3 hv3))
          go_roundw
          case rel => exact ⟨k + 1, by omega, by go_num, by rw [← HN.out, HQ.out, ← List.append_assoc]; exact ho3, (hb.trans hb2).trans hb3, by omega⟩
          case measure => simp [intOf]; omega
      · have hesc1 : ((s[k].toNat : Int) == 34) = false := by simp; omega
        have hesc2 : ((s[k].toNat : Int) == 92) = false := by simp; omega
        by_cases hpl : 32 ≤ (s[k].toNat : Int) ∧ (s[k].toNat : Int) ≤ 126
        · obtain ⟨hp1, hp2⟩ := hpl
          have HQ : Hid (qB s[k] = [s[k]]) := qB_plain (fun h => hesc (Or.inl h)) (fun h => hesc (Or.inr h)) hp1 hp2
          have hpb : plB (s[k].toNat : Int) = true := by simp only [plB, decide_eq_true_eq]; omega
          clear hesc
          go_wp2_with (first
            | (at_builtin; refine append_own_bytes rfl (.tmp 32) (.tmp 34) 79 rfl base Tryd.underlying79 info_u8 _ _ _ _ L [s[k]] _ rfl ho rfl rfl (by simp; omega) (by omega) ?_; intro v3 w3 ho3 hb3 hz3 hv3)
            | (go_at_call 95; refine (isPlain_t _ _ hpb).mono ?_; rintro e w' ⟨rfl, rfl⟩))
          go_roundw
          case rel => exact ⟨k + 1, by omega, by go_num, by rw [← HN.out, HQ.out]; exact ho3, hb.trans hb3, by omega⟩
          case measure => simp [intOf]; omega
        · have hpb : plB (s[k].toNat : Int) = false := by simp only [plB, decide_eq_false_iff_not]; omega
          by_cases hnl : (s[k].toNat : Int) = 10
          · have HQ : Hid (qB s[k] = [92, 110]) := qB_nl hnl
            clear hesc
            go_wp2_with (first
              | (at_builtin; refine append_own_bytes rfl (.tmp 36) (.tmp 37) 79 rfl base Tryd.underlying79 info_u8 _ _ _ _ L [92, 110] _ rfl ho rfl rfl (by simp; omega) (by omega) ?_; intro v3 w3 ho3 hb3 hz3 hv3)
              | (go_at_call 95; refine (isPlain_f _ _ (by first | exact hpb | decide)).mono ?_; rintro e w' ⟨rfl, rfl⟩))
            go_roundw
            case rel => exact ⟨k + 1, by omega, by go_num, by rw [← HN.out, HQ.out]; exact ho3, hb.trans hb3, by omega⟩
            case measure => simp [intOf]; omega
          · have HQ : Hid (qB s[k] = [92, 120, hexD (s[k].toNat / 16), hexD (s[k].toNat % 16)]) := qB_hex hnl (by omega)
            have hnl2 : ((s[k].toNat : Int) == 10) = false := by simpa using hnl
            clear hesc
            go_wp2_with (go_at_call 95; refine (isPlain_f _ _ hpb).mono ?_; rintro e w' ⟨rfl, rfl⟩)
            have hx1 : 0 ≤ (s[k].toNat : Int) / 16 ∧ (s[k].toNat : Int) / 16 < 16 := by omega
            have hx2 : 0 ≤ (s[k].toNat : Int) % 16 ∧ (s[k].toNat : Int) % 16 < 16 := by omega
            have ha := and15 s[k]
            go_region_law (refine step_own_bytes (by rfl) (.tmp 39) (.tmp 46) 79 (by rfl) base Tryd.underlying79 info_u8 w' _ _ _ (by rfl) _ L [92, 120, hexD (s[k].toNat / 16), hexD (s[k].toNat % 16)] _ (by rfl) ho (by rfl) (cells4 (hexAt _ _ (by omega) _) (hexAt _ _ (by omega) _)) (by simp) (by simp; omega) hz ?_; intro g cap w3 ho3 hb3 hz3)
            all_goals go_wp2
            all_goals
              go_roundw
              case rel => exact ⟨k + 1, by omega, by go_num, by rw [← HN.out, HQ.out]; rw [List.length_append] at ho3; exact ho3, hb.trans hb3, by omega⟩
              case measure => simp [intOf]; omega
    · go_wp2_with (first
        | (at_builtin; refine append_own_bytes rfl (.tmp 49) (.tmp 50) 79 rfl base Tryd.underlying79 info_u8 _ _ _ _ _ [34] _ rfl ho rfl rfl (by have := qBs_len (s.data.toList.take k); simp at this ⊢; omega) (by omega) ?_; intro v3 w3 ho3 hb3 hz3 hv3))
      have e : bs ++ [34] ++ (s.data.toList.take k).flatMap qB ++ [34] = bs ++ quo s.data.toList := by rw [List.take_of_length_le (by simp; omega)]; simp [quo]
      rw [e] at ho3 hv3
      obtain ⟨g, cap, rfl⟩ := hv3 (by simp)
      go_ret
      exact ⟨g, cap, rfl, ho3, hb.trans hb3⟩

set_option maxHeartbeats 1000000 in
theorem quote_any (s : ByteArray) (w : World) (hs : 4 * s.size + 2 ≤ 140737488355328) :
    Calls Tryd.prog 57 #[.string s] w fun e w' => e = .returned (.string ⟨(quo s.data.toList).toArray⟩) ∧ Below w.heap.size w w' := by
  obtain ⟨i0, hi0, hz0, hz1, hz2⟩ := info_parts info_u8
  go_enter Tryd.func57, Tryd.ntmps57
  go_wp2_with (first
    | (at_make; refine wpList_make_own _ rfl (.const (.int .i64 0)) (.tmp 5) 79 rfl w.heap.size 5 i0 (.int .u8 0) 1 Tryd.underlying79 hi0 hz0 hz1 .i64 .i64 _ (s.size + 2) rfl rfl (by omega) (by rw [hz2]; omega) (by unfold maxLen; omega) (Nat.le_refl _) ?_; intro w1 ho1 hg1)
    | (go_at_call 82; refine (appendQuoted_any s _ [] w.heap.size _ ho1 hg1.size (by simp; omega)).mono ?_; rintro e w2 ⟨g, cap, rfl, ho2, hb2⟩)
    | (refine wpList_own_string rfl (.tmp 8) 79 9 rfl w.heap.size _ _ rfl ho2 Tryd.underlying79 Tryd.underlying5 Tryd.underlying9 ?_))
  go_ret
  exact ⟨rfl, ((Below.refl _ _).grown hg1 (Nat.le_refl _) (fun _ h => by cases h)).trans hb2⟩

set_option maxHeartbeats 2000000 in
theorem refQuote_any (s : ByteArray) (w : World) (hs : 4 * s.size + 2 ≤ 140737488355328) :
    Calls Tryd.prog 60 #[.string s] w fun e w' => e = .returned (.string ⟨(quo s.data.toList).toArray⟩) ∧ Below w.heap.size w w' := by
  obtain ⟨base, hbase⟩ : ∃ base, base = w.heap.size := ⟨_, rfl⟩
  have HB : Hid (base = w.heap.size) := hbase
  have ho0 : Own (w.alloc (.cells #[.int .u8 34] 5)) base (.slice (some ⟨w.heap.size, 0, none⟩) 1 1) [34] := by
    refine ⟨rfl, Or.inr ⟨w.heap.size, 1, #[.int .u8 34], rfl, by omega, heap_alloc_new w _, Nat.le_refl _, by unfold maxLen; omega, rfl, rfl⟩⟩
  have hb0 : Below base w (w.alloc (.cells #[.int .u8 34] 5)) := (Below.refl _ _).alloc (by omega) _
  have hz0 : base ≤ (w.alloc (.cells #[.int .u8 34] 5)).heap.size := by simp; omega
  clear hbase
  go_enter Tryd.func60, Tryd.ntmps60
  go_wp2
  go_loopw [4, 5] (fun x i wr => ∃ k : Nat, k ≤ s.size ∧ i = .int .i64 k ∧ Own wr base x ([34] ++ (s.data.toList.take k).flatMap qB) ∧ Below base w wr ∧ base ≤ wr.heap.size) (fun _ i _ => s.size - (intOf i).toNat)
  case atStart => exact ⟨0, Nat.zero_le _, rfl, ho0, hb0, hz0⟩
  case round =>
    obtain ⟨k, hk, rfl, ho, hb, hz⟩ := hrel
    clear ho0 hb0 hz0
    by_cases hlt : k < s.size
    · have HS : Hid ((s.data.toList.take (k + 1)).flatMap qB = (s.data.toList.take k).flatMap qB ++ qB s[k]) := qBs_snoc s k hlt
      have hc : (s[k].toNat : Int) ≤ 255 := by have := UInt8.toNat_lt s[k]; omega
      obtain ⟨L, hL⟩ : ∃ L, L = [34] ++ (s.data.toList.take k).flatMap qB := ⟨_, rfl⟩
      rw [← hL] at ho
      have hl : L.length ≤ 1 + 4 * k := by
        have := qBs_len (s.data.toList.take k); rw [hL]; simp at this ⊢; omega
      have HN : Hid (L ++ qB s[k] = [34] ++ (s.data.toList.take (k + 1)).flatMap qB) := by
        show _ = _; rw [HS.out, hL]; simp
      clear HS hL
      by_cases hesc : (s[k].toNat : Int) = 34 ∨ (s[k].toNat : Int) = 92
      · rcases hesc with hesc | hesc
        · have HQ : Hid (qB s[k] = [92, 34]) := qB_34 hesc
          go_wp2_with (first
            | (at_builtin; refine append_own_bytes rfl (.tmp 28) (.tmp 30) 79 rfl base Tryd.underlying79 info_u8 _ _ _ _ L [92, 34] _ rfl ho rfl rfl (by simp; omega) hz ?_; intro v2 w2 ho2 hb2 hz2 hv2))
          go_roundw
          case rel => exact ⟨k + 1, by omega, by go_num, by rw [← HN.out, HQ.out]; exact ho2, hb.trans hb2, by omega⟩
          case measure => simp [intOf]; omega
        · have HQ : Hid (qB s[k] = [92, 92]) := qB_92 hesc
          go_wp2_with (first
            | (at_builtin; refine append_own_bytes rfl (.tmp 28) (.tmp 30) 79 rfl base Tryd.underlying79 info_u8 _ _ _ _ L [92, 92] _ rfl ho rfl rfl (by simp; omega) hz ?_; intro v2 w2 ho2 hb2 hz2 hv2))
          go_roundw
          case rel => exact ⟨k + 1, by omega, by go_num, by rw [← HN.out, HQ.out]; exact ho2, hb.trans hb2, by omega⟩
          case measure => simp [intOf]; omega
      · have hesc1 : ((s[k].toNat : Int) == 34) = false := by simp; omega
        have hesc2 : ((s[k].toNat : Int) == 92) = false := by simp; omega
        by_cases hpl : 32 ≤ (s[k].toNat : Int) ∧ (s[k].toNat : Int) ≤ 126
        · obtain ⟨hp1, hp2⟩ := hpl
          have HQ : Hid (qB s[k] = [s[k]]) := qB_plain (fun h => hesc (Or.inl h)) (fun h => hesc (Or.inr h)) hp1 hp2
          have hnl2 : ((s[k].toNat : Int) == 10) = false := by simp; omega
          clear hesc
          go_wp2_with (first
            | (at_builtin; refine append_own_bytes rfl (.tmp 17) (.tmp 19) 79 rfl base Tryd.underlying79 info_u8 _ _ _ _ L [s[k]] _ rfl ho rfl rfl (by simp; omega) (by omega) ?_; intro v3 w3 ho3 hb3 hz3 hv3))
          go_roundw
          case rel => exact ⟨k + 1, by omega, by go_num, by rw [← HN.out, HQ.out]; exact ho3, hb.trans hb3, by omega⟩
          case measure => simp [intOf]; omega
        · by_cases hnl : (s[k].toNat : Int) = 10
          · have HQ : Hid (qB s[k] = [92, 110]) := qB_nl hnl
            clear hesc
            go_wp2_with (first
              | (at_builtin; refine append_own_bytes rfl (.tmp 35) (.tmp 36) 79 rfl base Tryd.underlying79 info_u8 _ _ _ _ L [92, 110] _ rfl ho rfl rfl (by simp; omega) (by omega) ?_; intro v3 w3 ho3 hb3 hz3 hv3))
            go_roundw
            case rel => exact ⟨k + 1, by omega, by go_num, by rw [← HN.out, HQ.out]; exact ho3, hb.trans hb3, by omega⟩
            case measure => simp [intOf]; omega
          · have HQ : Hid (qB s[k] = [92, 120, hexD (s[k].toNat / 16), hexD (s[k].toNat % 16)]) := qB_hex hnl (by omega)
            have hnl2 : ((s[k].toNat : Int) == 10) = false := by simpa using hnl
            clear hesc
            have hx1 : 0 ≤ (s[k].toNat : Int) / 16 ∧ (s[k].toNat : Int) / 16 < 16 := by omega
            have hx2 : 0 ≤ (s[k].toNat : Int) % 16 ∧ (s[k].toNat : Int) % 16 < 16 := by omega
            have hx3 := wrap_u8 ((s[k].toNat : Int) / 16) (by omega) (by omega)
            have hx4 := wrap_u8 ((s[k].toNat : Int) % 16) (by omega) (by omega)
            have hx5 : (s[k].toNat : Int).tmod 16 = (s[k].toNat : Int) % 16 := Int.tmod_eq_emod_of_nonneg (by omega)
            rcases (by omega : (s[k].toNat : Int) < 32 ∨ 126 < (s[k].toNat : Int)) with hc1 | hc1
            all_goals
              go_wp2
              go_region_law (refine step_own_bytes (by rfl) (.tmp 45) (.tmp 54) 79 (by rfl) base Tryd.underlying79 info_u8 wr _ _ _ (by rfl) _ L [92, 120, hexD (s[k].toNat / 16), hexD (s[k].toNat % 16)] _ (by rfl) ho (by rfl) (cells4 (hexAt _ _ (by omega) _) (hexAt _ _ (by omega) _)) (by simp) (by simp; omega) hz ?_; intro g cap w3 ho3 hb3 hz3)
              all_goals go_wp2
              all_goals
                go_roundw
                case rel => exact ⟨k + 1, by omega, by go_num, by rw [← HN.out, HQ.out]; rw [List.length_append] at ho3; exact ho3, hb.trans hb3, by omega⟩
                case measure => simp [intOf]; omega
    · go_wp2_with (first
        | (at_builtin; refine append_own_bytes rfl (.tmp 56) (.tmp 57) 79 rfl base Tryd.underlying79 info_u8 _ _ _ _ _ [34] _ rfl ho rfl rfl (by have := qBs_len (s.data.toList.take k); simp at this ⊢; omega) (by omega) ?_; intro v3 w3 ho3 hb3 hz3 hv3)
        | (refine wpList_own_string rfl (.tmp 58) 79 9 rfl base _ _ rfl ho3 Tryd.underlying79 Tryd.underlying5 Tryd.underlying9 ?_))
      have e : [34] ++ (s.data.toList.take k).flatMap qB ++ [34] = quo s.data.toList := by rw [List.take_of_length_le (by simp; omega)]; simp [quo]
      go_ret
      refine ⟨ret_str ?_, by rw [← HB.out]; exact hb.trans hb3⟩
      rw [← e]; rfl
end Go.Proofs.YtahcllncjpaijaaDoor
