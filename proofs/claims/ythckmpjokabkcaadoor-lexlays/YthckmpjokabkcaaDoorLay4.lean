/- The walk of the reference's Lay: the text of tokens, or the fault. -/
import Derived.Test.YthckmpjokabkcaaDoorLay3
namespace Go.Proofs.YthckmpjokabkcaaDoor
open Go.RowKit

theorem str36 (tx : List UInt8) : (ByteArray.mk #[36] ++ ByteArray.mk tx.toArray).data.toList = 36 :: tx := by simp
theorem str36_size (tx : List UInt8) : (ByteArray.mk #[36] ++ ByteArray.mk tx.toArray).size = tx.length + 1 := by
  have : (ByteArray.mk #[36] ++ ByteArray.mk tx.toArray).data.toList.length = tx.length + 1 := by rw [str36]; rfl
  simp [ByteArray.size] at this ⊢

theorem mkl (D : List UInt8) : (ByteArray.mk D.toArray).data.toList = D := by simp
theorem mkz (D : List UInt8) : (ByteArray.mk D.toArray).size = D.length := by simp [ByteArray.size]

set_option maxRecDepth 100000 in
set_option maxHeartbeats 8000000 in
theorem refLay_any (l : List Tok) (ao : Option Addr) (c : Nat) (w : World) (hs : ∀ t ∈ l, t.text.length ≤ maxLen) (hmax : l.length ≤ maxLen) (hv : SeesT w ao l) :
    Calls Tryd.prog 18 #[.slice ao l.length c] w fun e w' => e = .returned (.tuple #[.string ⟨(layRes l).1.toArray⟩, .int .i64 (layRes l).2]) ∧ Below w.heap.size w w' := by
  have HV : Hid _ := hv
  have HS : Hid _ := hs
  have HR1 : Hid _ := @layRes_many l
  have HR2 : Hid _ := @layRes_bad l
  have HR3 : Hid _ := @layRes_ok l
  obtain ⟨R, hR⟩ : ∃ R, R = layRes l := ⟨_, rfl⟩
  rw [← hR] at HR1 HR2 HR3 ⊢
  clear hR hv hs
  unfold maxLen at hmax
  by_cases hbig : 8192 < l.length
  · have hbig' : (8192 : Int) < (l.length : Int) := by omega
    have HR : Hid _ := HR1.out hbig
    clear HR1 HR2 HR3 HV HS
    go_enter Tryd.func18, Tryd.ntmps18
    go_wp2
    refine bodyPost_ret (v := .tuple #[.string ⟨R.1.toArray⟩, .int .i64 R.2]) (by rw [HR.out]; simp [results, Tryd.results18, go_sem]) rfl ⟨rfl, Below.refl _ _⟩
  · have hbig' : (l.length : Int) ≤ 8192 := by omega
    clear HR1
    have HO0 : Hid (Own (w.alloc (.cells #[] 5)) w.heap.size (.slice (some ⟨w.heap.size, 0, none⟩) 0 0) (layL (l.take 0))) := by
      refine ⟨rfl, Or.inr ⟨w.heap.size, 0, #[], rfl, Nat.le_refl _, heap_alloc_new w _, Nat.le_refl _, by unfold maxLen; omega, rfl, rfl⟩⟩
    have HB0 : Hid (Below w.heap.size w (w.alloc (.cells #[] 5))) := (Below.refl _ _).alloc (Nat.le_refl _) _
    go_enter Tryd.func18, Tryd.ntmps18
    go_wp2
    go_loopw [4, 5] (fun v i wr => ∃ (k : Nat) (v2 : Value) (w2 : World), v2 = v ∧ w2 = wr ∧ k ≤ l.length ∧ i = .int .i64 k ∧ Hid (∀ t ∈ l.take k, told t = true) ∧ Hid (Own w2 w.heap.size v2 (layL (l.take k))) ∧ Hid (Below w.heap.size w w2)) (fun _ i _ => l.length - (intOf i).toNat)
    case atStart => exact ⟨0, _, _, rfl, rfl, Nat.zero_le _, rfl, by intro t ht; simp at ht, HO0, HB0⟩
    case round =>
      clear HO0 HB0
      obtain ⟨k, v, wr, rfl, rfl, hkl, rfl, HT, HO, HB⟩ := hrel
      by_cases hlt : k < l.length
      · have hlt' : (k : Int) < (l.length : Int) := by omega
        rcases HV.out with h0 | ⟨g, o, rfl, hg, hT⟩
        · exfalso; rw [h0] at hlt; simp at hlt
        have hzr := HB.out.size
        obtain ⟨a0, a1, a2, a3⟩ := hT.below HB.out hg k hlt
        have ht0 := @told_take l k hlt HT.out
        have hbad := HR2.out hbig hlt
        have hll : (layL (l.take k)).length ≤ 163848192 := by
          have := layL_len (l := l.take k) HT.out
          rw [List.length_take] at this
          omega
        have hone : k = 0 → layL (l.take (k + 1)) = layL (l.take k) ++ layT l[k] := by
          intro e; subst e
          rw [tok_take hlt]; simp [layL_one]; rfl
        have hmore : ¬ k = 0 → layL (l.take (k + 1)) = layL (l.take k) ++ [32] ++ layT l[k] := by
          intro e
          rw [tok_take hlt]
          refine layL_snoc ?_ _
          intro e2
          have := congrArg List.length e2
          rw [List.length_take, List.length_nil] at this; omega
        rw [told_get] at ht0 hbad
        have hts : (ByteArray.mk l[k].text.toArray).size ≤ maxLen := by have := HS.out l[k] (List.getElem_mem hlt); simpa [ByteArray.size] using this
        have HSN : Hid _ := hone
        have HSM : Hid _ := hmore
        generalize l[k] = t at a0 a1 a2 a3 ht0 hbad hts HSN HSM
        obtain ⟨tk, tp, tn, tx⟩ := t
        simp only at a0 a1 a2 a3 ht0 hbad hts
        have hb1 : Below w.heap.size w (wr.alloc (.cells #[.int .i64 tk, .int .i64 tp, .int .i64 tn, .string ⟨tx.toArray⟩] 30)) := HB.out.alloc hzr _
        have RA := right_any tk tp tn ⟨tx.toArray⟩ (wr.alloc (.cells #[.int .i64 tk, .int .i64 tp, .int .i64 tn, .string ⟨tx.toArray⟩] 30)) hts
        have hsz := @told_size tk tn ⟨tx.toArray⟩
        have HB1 : Hid _ := hb1
        have HBAD : Hid _ := hbad
        have HT0 : Hid _ := ht0
        have HVB : Hid (some wr.heap.size ≠ v.ownBlock) := Own.block_lt HO.out (Nat.le_refl _)
        clear hb1 hbad ht0 hT HT hone hmore
        generalize toldB tk tn ⟨tx.toArray⟩ = b at *
        cases b
        · have HRB : Hid (R = ([], 5)) := HBAD.out rfl
          clear HBAD HT0 HR2 HR3 hsz HSN HSM
          go_wp2_with (go_at_call 34; refine RA.mono ?_; rintro e w2 ⟨rfl, hb2⟩)
          refine bodyPost_ret (v := .tuple #[.string ⟨R.1.toArray⟩, .int .i64 R.2]) (by rw [HRB.out]; simp [results, Tryd.results18, go_sem]) rfl ⟨rfl, HB1.out.trans (hb2.mono (by simp; omega))⟩
        · have HTT : Hid (∀ t ∈ l.take (k + 1), told t = true) := HT0.out rfl
          obtain ⟨htz, htn⟩ := hsz rfl
          have htx : tx.length ≤ 4096 := by simpa [ByteArray.size] using htz
          clear HBAD HT0 HR2 HR3 hsz
          have HC : Hid (∀ w2, Below (wr.heap.size + 1) (wr.alloc (.cells #[.int .i64 tk, .int .i64 tp, .int .i64 tn, .string ⟨tx.toArray⟩] 30)) w2 → w2.cell? ⟨wr.heap.size, 0, none⟩ = some (.int .i64 tk) ∧ w2.cell? ⟨wr.heap.size, 2, none⟩ = some (.int .i64 tn) ∧ w2.cell? ⟨wr.heap.size, 3, none⟩ = some (.string ⟨tx.toArray⟩)) := by
            intro w2 hb2
            refine ⟨?_, ?_, ?_⟩
            · exact (hb2.cell (p := ⟨wr.heap.size, 0, none⟩) (by simp)).trans ((cell_of_row _ _ _ _ _ _ (heap_alloc_new wr _)).trans rfl)
            · exact (hb2.cell (p := ⟨wr.heap.size, 2, none⟩) (by simp)).trans ((cell_of_row _ _ _ _ _ _ (heap_alloc_new wr _)).trans rfl)
            · exact (hb2.cell (p := ⟨wr.heap.size, 3, none⟩) (by simp)).trans ((cell_of_row _ _ _ _ _ _ (heap_alloc_new wr _)).trans rfl)
          have HOA : Hid (Own (wr.alloc (.cells #[.int .i64 tk, .int .i64 tp, .int .i64 tn, .string ⟨tx.toArray⟩] 30)) w.heap.size v (layL (l.take k))) := Own.alloc HO.out _
          clear HO
          by_cases hk0 : k = 0
          · have HS1 : Hid (layL (l.take (k + 1)) = layL (l.take k) ++ layT ⟨tk, tp, tn, tx⟩) := HSN.out hk0
            clear HSN HSM
            subst hk0
            simp only [Nat.zero_mul, Nat.add_zero] at a0 a1 a2 a3
            by_cases e3 : tk = 3
            · subst e3
              have HLT : Hid (layT ⟨3, tp, tn, tx⟩ = 36 :: tx) := by show _ = _; simp [layT]
              clear htn
              go_wp2_with (first
                | (go_at_call 34; refine RA.mono ?_; rintro e w2 ⟨rfl, hb2⟩; have hz2 := hb2.size; have ho2 : Own w2 w.heap.size v (layL (l.take 0)) := Own.below HOA.out hb2; have hx2 := HC.out w2 (hb2.mono (by simp)); have c0 := hx2.1; have c2 := hx2.2.1; have c3 := hx2.2.2; clear hx2)
                | (at_builtin; refine append_str_any rfl (.tmp 37) (.tmp 40) 43 9 rfl w.heap.size Tryd.underlying43 Tryd.underlying9 info_u8 v (layL (l.take 0)) rfl ho2 _ rfl (by rw [str36_size]; omega) (by simp at hz2; omega) ?_; intro v4 w4 ho4 hb4 hz4; rw [str36] at ho4))
              go_roundw
              case rel => exact ⟨0 + 1, _, _, rfl, rfl, by omega, by go_num, HTT, by rw [HS1.out, HLT.out]; exact ho4, (HB1.out.trans (hb2.mono (by simp; omega))).trans hb4⟩
              case measure => simp [intOf]; omega
            have n3 : (tk == 3) = false := by simpa using e3
            by_cases e4 : tk = 4
            · subst e4
              obtain ⟨hn0, hn1⟩ := htn rfl
              obtain ⟨u, hu⟩ : ∃ u : Nat, tn = (u : Int) := ⟨tn.toNat, by omega⟩
              subst hu
              obtain ⟨D, hD⟩ : ∃ D, D = Lib.decDigits u := ⟨_, rfl⟩
              have HLT : Hid (layT ⟨4, tp, u, tx⟩ = D) := by show _ = _; simp [layT]; rw [Lib.itoa_nonneg, hD]
              have ITA : Hid (∀ w1, Calls Tryd.prog 35 #[.int .i64 (u : Int)] w1 fun e w' => e = .returned (.string ⟨D.toArray⟩) ∧ Below w1.heap.size w1 w') := fun w1 => by rw [hD]; exact itoa_any u w1 (by omega)
              have hDn : D.length ≤ 21 := by
                have := Lib.itoa_length_le (u : Int) (by omega) (by omega)
                rw [Lib.itoa_nonneg, ← hD] at this; exact this
              clear htn hD n3 e3
              go_wp2_with (first
                | (go_at_call 34; refine RA.mono ?_; rintro e w2 ⟨rfl, hb2⟩; have hz2 := hb2.size; have ho2 : Own w2 w.heap.size v (layL (l.take 0)) := Own.below HOA.out hb2; have hx2 := HC.out w2 (hb2.mono (by simp)); have c0 := hx2.1; have c2 := hx2.2.1; have c3 := hx2.2.2; clear hx2)
                | (go_at_call 35; refine (ITA.out _).mono ?_; rintro e w5 ⟨rfl, hb5⟩; have hz5 := hb5.size)
                | (at_builtin; refine append_str_any rfl (.tmp 44) (.tmp 47) 43 9 rfl w.heap.size Tryd.underlying43 Tryd.underlying9 info_u8 v (layL (l.take 0)) rfl (Own.below ho2 hb5) ⟨D.toArray⟩ rfl (by rw [mkz]; omega) (by simp at hz2; omega) ?_; intro v4 w4 ho4 hb4 hz4; rw [mkl] at ho4))
              go_roundw
              case rel => exact ⟨0 + 1, _, _, rfl, rfl, by omega, by go_num, HTT, by rw [HS1.out, HLT.out]; exact ho4, (HB1.out.trans (hb2.mono (by simp; omega))).trans ((hb5.mono (by simp at hz2; omega)).trans hb4)⟩
              case measure => simp [intOf]; omega
            have n4 : (tk == 4) = false := by simpa using e4
            by_cases e5 : tk = 5
            · subst e5
              obtain ⟨D, hD⟩ : ∃ D, D = quo tx := ⟨_, rfl⟩
              have HLT : Hid (layT ⟨5, tp, tn, tx⟩ = D) := by show _ = _; rw [hD]; simp [layT]
              have QU : Hid (∀ w1, Calls Tryd.prog 36 #[.string ⟨tx.toArray⟩] w1 fun e w' => e = .returned (.string ⟨D.toArray⟩) ∧ Below w1.heap.size w1 w') := fun w1 => by
                have := refQuote_any ⟨tx.toArray⟩ w1 (by omega)
                rw [show (ByteArray.mk tx.toArray).data.toList = tx by simp, ← hD] at this; exact this
              have hDn : D.length ≤ 20000 := by rw [hD]; have := quo_len tx; omega
              clear htn hD n3 e3 n4 e4
              go_wp2_with (first
                | (go_at_call 34; refine RA.mono ?_; rintro e w2 ⟨rfl, hb2⟩; have hz2 := hb2.size; have ho2 : Own w2 w.heap.size v (layL (l.take 0)) := Own.below HOA.out hb2; have hx2 := HC.out w2 (hb2.mono (by simp)); have c0 := hx2.1; have c2 := hx2.2.1; have c3 := hx2.2.2; clear hx2)
                | (go_at_call 36; refine (QU.out _).mono ?_; rintro e w5 ⟨rfl, hb5⟩; have hz5 := hb5.size)
                | (at_builtin; refine append_str_any rfl (.tmp 51) (.tmp 54) 43 9 rfl w.heap.size Tryd.underlying43 Tryd.underlying9 info_u8 v (layL (l.take 0)) rfl (Own.below ho2 hb5) ⟨D.toArray⟩ rfl (by rw [mkz]; omega) (by simp at hz2; omega) ?_; intro v4 w4 ho4 hb4 hz4; rw [mkl] at ho4))
              go_roundw
              case rel => exact ⟨0 + 1, _, _, rfl, rfl, by omega, by go_num, HTT, by rw [HS1.out, HLT.out]; exact ho4, (HB1.out.trans (hb2.mono (by simp; omega))).trans ((hb5.mono (by simp at hz2; omega)).trans hb4)⟩
              case measure => simp [intOf]; omega
            have n5 : (tk == 5) = false := by simpa using e5
            have HLT : Hid (layT ⟨tk, tp, tn, tx⟩ = tx) := by show _ = _; simp [layT, e3, e4, e5]
            clear htn e3 e4 e5
            go_wp2_with (first
              | (go_at_call 34; refine RA.mono ?_; rintro e w2 ⟨rfl, hb2⟩; have hz2 := hb2.size; have ho2 : Own w2 w.heap.size v (layL (l.take 0)) := Own.below HOA.out hb2; have hx2 := HC.out w2 (hb2.mono (by simp)); have c0 := hx2.1; have c2 := hx2.2.1; have c3 := hx2.2.2; clear hx2)
              | (at_builtin; refine append_str_any rfl (.tmp 31) (.tmp 33) 43 9 rfl w.heap.size Tryd.underlying43 Tryd.underlying9 info_u8 v (layL (l.take 0)) rfl ho2 ⟨tx.toArray⟩ rfl (by rw [mkz]; omega) (by simp at hz2; omega) ?_; intro v4 w4 ho4 hb4 hz4; rw [mkl] at ho4))
            go_roundw
            case rel => exact ⟨0 + 1, _, _, rfl, rfl, by omega, by go_num, HTT, by rw [HS1.out, HLT.out]; exact ho4, (HB1.out.trans (hb2.mono (by simp; omega))).trans hb4⟩
            case measure => simp [intOf]; omega
          · have HS1 : Hid (layL (l.take (k + 1)) = layL (l.take k) ++ [32] ++ layT ⟨tk, tp, tn, tx⟩) := HSM.out hk0
            clear HSN HSM
            have hk0' : (0 : Int) < (k : Int) := by omega
            by_cases e3 : tk = 3
            · subst e3
              have HLT : Hid (layT ⟨3, tp, tn, tx⟩ = 36 :: tx) := by show _ = _; simp [layT]
              clear htn
              go_wp2_with (first
                | (go_at_call 34; refine RA.mono ?_; rintro e w2 ⟨rfl, hb2⟩; have hz2 := hb2.size; have ho2 : Own w2 w.heap.size v (layL (l.take k)) := Own.below HOA.out hb2; have hx2 := HC.out w2 (hb2.mono (by simp)); have c0 := hx2.1; have c2 := hx2.2.1; have c3 := hx2.2.2; clear hx2)
                | (at_builtin; refine append_bytes_keep rfl (.tmp 26) (.tmp 27) 43 rfl w.heap.size Tryd.underlying43 info_u8 _ _ _ v (layL (l.take k)) [32] _ rfl ho2 w2.heap.size rfl rfl rfl (by simp; omega) (by simp at hz2; omega) ?_; intro v3 w3 ho3 hb3 hz3 hk3; have hkp : w3.heap[wr.heap.size]? = _ := hk3 wr.heap.size (by simp at hz2; omega) HVB.out; have d0 := (World.cell?_of_block (a := ⟨wr.heap.size, 0, none⟩) hkp).trans c0; have d2 := (World.cell?_of_block (a := ⟨wr.heap.size, 2, none⟩) hkp).trans c2; have d3 := (World.cell?_of_block (a := ⟨wr.heap.size, 3, none⟩) hkp).trans c3; clear hkp hk3)
                | (at_builtin; refine append_str_any rfl (.tmp 37) (.tmp 40) 43 9 rfl w.heap.size Tryd.underlying43 Tryd.underlying9 info_u8 v3 (layL (l.take k) ++ [32]) rfl ho3 _ rfl (by rw [List.length_append, List.length_singleton, str36_size]; omega) (by simp at hz2; omega) ?_; intro v4 w4 ho4 hb4 hz4; rw [str36] at ho4))
              go_roundw
              case rel => exact ⟨k + 1, _, _, rfl, rfl, by omega, by go_num, HTT, by rw [HS1.out, HLT.out]; exact ho4, ((HB1.out.trans (hb2.mono (by simp; omega))).trans hb3).trans hb4⟩
              case measure => simp [intOf]; omega
            have n3 : (tk == 3) = false := by simpa using e3
            by_cases e4 : tk = 4
            · subst e4
              obtain ⟨hn0, hn1⟩ := htn rfl
              obtain ⟨u, hu⟩ : ∃ u : Nat, tn = (u : Int) := ⟨tn.toNat, by omega⟩
              subst hu
              obtain ⟨D, hD⟩ : ∃ D, D = Lib.decDigits u := ⟨_, rfl⟩
              have HLT : Hid (layT ⟨4, tp, u, tx⟩ = D) := by show _ = _; simp [layT]; rw [Lib.itoa_nonneg, hD]
              have ITA : Hid (∀ w1, Calls Tryd.prog 35 #[.int .i64 (u : Int)] w1 fun e w' => e = .returned (.string ⟨D.toArray⟩) ∧ Below w1.heap.size w1 w') := fun w1 => by rw [hD]; exact itoa_any u w1 (by omega)
              have hDn : D.length ≤ 21 := by
                have := Lib.itoa_length_le (u : Int) (by omega) (by omega)
                rw [Lib.itoa_nonneg, ← hD] at this; exact this
              clear htn hD n3 e3
              go_wp2_with (first
                | (go_at_call 34; refine RA.mono ?_; rintro e w2 ⟨rfl, hb2⟩; have hz2 := hb2.size; have ho2 : Own w2 w.heap.size v (layL (l.take k)) := Own.below HOA.out hb2; have hx2 := HC.out w2 (hb2.mono (by simp)); have c0 := hx2.1; have c2 := hx2.2.1; have c3 := hx2.2.2; clear hx2)
                | (at_builtin; refine append_bytes_keep rfl (.tmp 26) (.tmp 27) 43 rfl w.heap.size Tryd.underlying43 info_u8 _ _ _ v (layL (l.take k)) [32] _ rfl ho2 w2.heap.size rfl rfl rfl (by simp; omega) (by simp at hz2; omega) ?_; intro v3 w3 ho3 hb3 hz3 hk3; have hkp : w3.heap[wr.heap.size]? = _ := hk3 wr.heap.size (by simp at hz2; omega) HVB.out; have d0 := (World.cell?_of_block (a := ⟨wr.heap.size, 0, none⟩) hkp).trans c0; have d2 := (World.cell?_of_block (a := ⟨wr.heap.size, 2, none⟩) hkp).trans c2; have d3 := (World.cell?_of_block (a := ⟨wr.heap.size, 3, none⟩) hkp).trans c3; clear hkp hk3)
                | (go_at_call 35; refine (ITA.out _).mono ?_; rintro e w5 ⟨rfl, hb5⟩; have hz5 := hb5.size)
                | (at_builtin; refine append_str_any rfl (.tmp 44) (.tmp 47) 43 9 rfl w.heap.size Tryd.underlying43 Tryd.underlying9 info_u8 v3 (layL (l.take k) ++ [32]) rfl (Own.below ho3 hb5) ⟨D.toArray⟩ rfl (by rw [List.length_append, List.length_singleton, mkz]; omega) (by simp at hz2; omega) ?_; intro v4 w4 ho4 hb4 hz4; rw [mkl] at ho4))
              go_roundw
              case rel => exact ⟨k + 1, _, _, rfl, rfl, by omega, by go_num, HTT, by rw [HS1.out, HLT.out]; exact ho4, ((HB1.out.trans (hb2.mono (by simp; omega))).trans hb3).trans ((hb5.mono (by simp at hz2; omega)).trans hb4)⟩
              case measure => simp [intOf]; omega
            have n4 : (tk == 4) = false := by simpa using e4
            by_cases e5 : tk = 5
            · subst e5
              obtain ⟨D, hD⟩ : ∃ D, D = quo tx := ⟨_, rfl⟩
              have HLT : Hid (layT ⟨5, tp, tn, tx⟩ = D) := by show _ = _; rw [hD]; simp [layT]
              have QU : Hid (∀ w1, Calls Tryd.prog 36 #[.string ⟨tx.toArray⟩] w1 fun e w' => e = .returned (.string ⟨D.toArray⟩) ∧ Below w1.heap.size w1 w') := fun w1 => by
                have := refQuote_any ⟨tx.toArray⟩ w1 (by omega)
                rw [show (ByteArray.mk tx.toArray).data.toList = tx by simp, ← hD] at this; exact this
              have hDn : D.length ≤ 20000 := by rw [hD]; have := quo_len tx; omega
              clear htn hD n3 e3 n4 e4
              go_wp2_with (first
                | (go_at_call 34; refine RA.mono ?_; rintro e w2 ⟨rfl, hb2⟩; have hz2 := hb2.size; have ho2 : Own w2 w.heap.size v (layL (l.take k)) := Own.below HOA.out hb2; have hx2 := HC.out w2 (hb2.mono (by simp)); have c0 := hx2.1; have c2 := hx2.2.1; have c3 := hx2.2.2; clear hx2)
                | (at_builtin; refine append_bytes_keep rfl (.tmp 26) (.tmp 27) 43 rfl w.heap.size Tryd.underlying43 info_u8 _ _ _ v (layL (l.take k)) [32] _ rfl ho2 w2.heap.size rfl rfl rfl (by simp; omega) (by simp at hz2; omega) ?_; intro v3 w3 ho3 hb3 hz3 hk3; have hkp : w3.heap[wr.heap.size]? = _ := hk3 wr.heap.size (by simp at hz2; omega) HVB.out; have d0 := (World.cell?_of_block (a := ⟨wr.heap.size, 0, none⟩) hkp).trans c0; have d2 := (World.cell?_of_block (a := ⟨wr.heap.size, 2, none⟩) hkp).trans c2; have d3 := (World.cell?_of_block (a := ⟨wr.heap.size, 3, none⟩) hkp).trans c3; clear hkp hk3)
                | (go_at_call 36; refine (QU.out _).mono ?_; rintro e w5 ⟨rfl, hb5⟩; have hz5 := hb5.size)
                | (at_builtin; refine append_str_any rfl (.tmp 51) (.tmp 54) 43 9 rfl w.heap.size Tryd.underlying43 Tryd.underlying9 info_u8 v3 (layL (l.take k) ++ [32]) rfl (Own.below ho3 hb5) ⟨D.toArray⟩ rfl (by rw [List.length_append, List.length_singleton, mkz]; omega) (by simp at hz2; omega) ?_; intro v4 w4 ho4 hb4 hz4; rw [mkl] at ho4))
              go_roundw
              case rel => exact ⟨k + 1, _, _, rfl, rfl, by omega, by go_num, HTT, by rw [HS1.out, HLT.out]; exact ho4, ((HB1.out.trans (hb2.mono (by simp; omega))).trans hb3).trans ((hb5.mono (by simp at hz2; omega)).trans hb4)⟩
              case measure => simp [intOf]; omega
            have n5 : (tk == 5) = false := by simpa using e5
            have HLT : Hid (layT ⟨tk, tp, tn, tx⟩ = tx) := by show _ = _; simp [layT, e3, e4, e5]
            clear htn e3 e4 e5
            go_wp2_with (first
              | (go_at_call 34; refine RA.mono ?_; rintro e w2 ⟨rfl, hb2⟩; have hz2 := hb2.size; have ho2 : Own w2 w.heap.size v (layL (l.take k)) := Own.below HOA.out hb2; have hx2 := HC.out w2 (hb2.mono (by simp)); have c0 := hx2.1; have c2 := hx2.2.1; have c3 := hx2.2.2; clear hx2)
              | (at_builtin; refine append_bytes_keep rfl (.tmp 26) (.tmp 27) 43 rfl w.heap.size Tryd.underlying43 info_u8 _ _ _ v (layL (l.take k)) [32] _ rfl ho2 w2.heap.size rfl rfl rfl (by simp; omega) (by simp at hz2; omega) ?_; intro v3 w3 ho3 hb3 hz3 hk3; have hkp : w3.heap[wr.heap.size]? = _ := hk3 wr.heap.size (by simp at hz2; omega) HVB.out; have d0 := (World.cell?_of_block (a := ⟨wr.heap.size, 0, none⟩) hkp).trans c0; have d2 := (World.cell?_of_block (a := ⟨wr.heap.size, 2, none⟩) hkp).trans c2; have d3 := (World.cell?_of_block (a := ⟨wr.heap.size, 3, none⟩) hkp).trans c3; clear hkp hk3)
              | (at_builtin; refine append_str_any rfl (.tmp 31) (.tmp 33) 43 9 rfl w.heap.size Tryd.underlying43 Tryd.underlying9 info_u8 v3 (layL (l.take k) ++ [32]) rfl ho3 ⟨tx.toArray⟩ rfl (by rw [List.length_append, List.length_singleton, mkz]; omega) (by simp at hz2; omega) ?_; intro v4 w4 ho4 hb4 hz4; rw [mkl] at ho4))
            go_roundw
            case rel => exact ⟨k + 1, _, _, rfl, rfl, by omega, by go_num, HTT, by rw [HS1.out, HLT.out]; exact ho4, ((HB1.out.trans (hb2.mono (by simp; omega))).trans hb3).trans hb4⟩
            case measure => simp [intOf]; omega
      · have hkk : k = l.length := by omega
        subst hkk
        have HO2 : Hid (Own wr w.heap.size v (layL l)) := by have := HO.out; rw [List.take_length] at this; exact this
        have HALL : ∀ t ∈ l, told t = true := by have := HT.out; rw [List.take_length] at this; exact this
        have HR : Hid _ := HR3.out hbig HALL
        clear HR2 HR3 HT HALL HO
        go_wp2_with (refine wpList_own_string rfl (.tmp 56) 43 9 rfl w.heap.size _ _ rfl HO2.out Tryd.underlying43 Tryd.underlying5 Tryd.underlying9 ?_)
        refine bodyPost_ret (v := .tuple #[.string ⟨R.1.toArray⟩, .int .i64 R.2]) (by rw [HR.out]; simp [results, Tryd.results18, go_sem]) rfl ⟨rfl, HB.out⟩
end Go.Proofs.YthckmpjokabkcaaDoor
