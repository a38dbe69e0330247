/- The walk of the law LexBlank: it answers true for every two texts, the keywords and the marks lying in their variables. -/
import Derived.Test.YthckmpjokabkcaaDoorWorks
import Derived.Test.YthckmpjokabkcaaDoorIns
import Derived.Test.YthckmpjokabkcaaDoorNow
import Derived.Test.YthckmpjokabkcaaDoorStrApp
namespace Go.Proofs.YthckmpjokabkcaaDoor
open Go.RowKit

theorem tkRes_fault (l : List UInt8) : ((tkRes l).2.1 = 0 ∧ (tkRes l).2.2 = 0) ∨ ((tkRes l).2.2 ≠ 0 ∧ (tkRes l).1 = []) := by
  unfold tkRes
  split
  · exact Or.inr ⟨by simp, rfl⟩
  · split
    · rename_i h; exact Or.inr ⟨h, rfl⟩
    · exact Or.inl ⟨rfl, rfl⟩
theorem tkRes_short {l : List UInt8} {T : List Tok} (h : tkRes l = (T, 0, 0)) : l.length ≤ 65536 := by
  unfold tkRes at h
  split at h
  · simp at h
  · omega
theorem zt_of_np {M L : List Tok} (h : M.map np = L.map np) : M.map zt = L.map zt := by
  have e : ∀ l : List Tok, l.map zt = (l.map np).map fun x => (⟨x.1, 0, x.2.1, x.2.2⟩ : Tok) := by
    intro l; rw [List.map_map]; rfl
  rw [e, e, h]
/-- The law's question of the tokens without their places, asked of two rows. -/
theorem tokensZt {M L : List Tok} (h : M.map zt = L.map zt) (hl : L.length ≤ 100000) {w : World} {b1 b2 : Nat} {v1 v2 : Value} (h1 : OwnT w b1 v1 (M.map zt)) (h2 : OwnT w b2 v2 (L.map zt)) :
    Calls Tryd.prog 10 #[v1, v2] w fun e w' => e = .returned (.bool true) ∧ ∃ n, w' = w.drewN n := by
  rw [h] at h1
  by_cases hn : L.map zt = []
  · rw [hn] at h1 h2
    obtain ⟨a1, c1, rfl⟩ := h1.form
    obtain ⟨a2, c2, rfl⟩ := h2.form
    refine (tokensNil_any _ _ _ _ _).mono ?_
    rintro e w' ⟨rfl, rfl⟩
    exact ⟨rfl, 0, rfl⟩
  · obtain ⟨g1, c1, rfl, _, _⟩ := h1.block hn
    obtain ⟨g2, c2, rfl, _, _⟩ := h2.block hn
    exact tokensEq_any (L.map zt) g1 0 c1 g2 0 c2 w (by simpa using hl) h1.at h2.at
theorem nowhere_own {L : List Tok} {w : World} {b : Nat} {v : Value} (hl : L.length ≤ 100000) (h : OwnT w b v L) :
    Calls Tryd.prog 20 #[v] w fun e w' => ∃ v', e = .returned v' ∧ OwnT w' w.heap.size v' (L.map zt) ∧ Below w.heap.size w w' := by
  rcases h.2 with ⟨rfl, h0⟩ | ⟨g, cap, cur, rfl, hb, hc, _⟩
  · have : L = [] := List.length_eq_zero_iff.1 h0
    subst this
    exact nowhere_none w
  · refine nowhere_some L g 0 cap w (by omega) h.at ?_
    by_cases hlt : g < w.heap.size
    · exact hlt
    · rw [Array.getElem?_eq_none (by omega)] at hc; cases hc
/-- What holds at the head of each round. -/
def BI (s B : List UInt8) (L : List Tok) (base : Nat) (w0 : World) (v a i : Value) (wr : World) : Prop :=
  ∃ (k p g cap : Nat) (acc : List UInt8), k ≤ L.length ∧ p ≤ s.length ∧ i = .int .i64 k ∧ a = .int .i64 p ∧ v = .slice (some ⟨g, 0, none⟩) acc.length cap ∧ Own wr base (.slice (some ⟨g, 0, none⟩) acc.length cap) acc ∧ acc.length ≤ 65536 ∧ Below base w0 wr ∧ base ≤ wr.heap.size ∧ Hid (ins B s 0 L = acc ++ ins B s p (L.drop k)) ∧ Hid (Asc s.length p (L.drop k))

set_option maxRecDepth 100000 in
set_option maxHeartbeats 8000000 in
theorem lexBlank_any (s blank : ByteArray) (w : World) (hmax : s.size ≤ maxLen) (hbl : blank.size ≤ 140737488355328) (hk : KeysAt w) (hm : MarksAt w) :
    Calls Tryd.prog 7 #[.string s, .string blank] w fun e w' => e = .returned (.bool true) ∧ Below w.heap.size w w' := by
  have WK := works_any w hk hm
  have TA := fun w1 hk1 hm1 => tokens_any s w1 hmax hk1 hm1
  have HTA : Hid _ := TA
  have HK : Hid _ := hk
  have HM : Hid _ := hm
  have HF : Hid _ := tkRes_fault s.data.toList
  have HAS : Hid _ := tkRes_asc s.data.toList
  have HSH : Hid _ := @tkRes_short s.data.toList
  have HIN : Hid _ := @ins_res s.data.toList blank.data.toList
  have hlen := tkRes_len s.data.toList
  obtain ⟨X, hX⟩ : ∃ X, X = tkRes s.data.toList := ⟨_, rfl⟩
  rw [← hX] at HTA HF HAS HSH HIN hlen
  clear hX TA hk hm
  obtain ⟨L, fa, fc⟩ := X
  simp only at HTA HF HAS hlen
  go_enter Tryd.func7, Tryd.ntmps7
  go_wp2_with fail
  refine WK.mono ?_
  rintro e w1 ⟨rfl, hb1⟩
  clear WK
  have hz1 := hb1.size
  go_wp2
  go_loop [5] (fun i => ∃ k : Nat, k ≤ blank.size ∧ i = .int .i64 k ∧ Hid (∀ j (h : j < blank.size), j < k → (blank[j].toNat : Int) = 10 ∨ (blank[j].toNat : Int) = 9 ∨ (blank[j].toNat : Int) = 13 ∨ (blank[j].toNat : Int) = 32)) (fun i => blank.size - (intOf i).toNat)
  case atStart => exact ⟨0, Nat.zero_le _, rfl, fun j _ h => absurd h (Nat.not_lt_zero _)⟩
  case round =>
    obtain ⟨k, hk, rfl, HB⟩ := hrel
    by_cases hlt : k < blank.size
    · have hlt' : (k : Int) < (blank.size : Int) := by omega
      have hc : (blank[k].toNat : Int) ≤ 255 := by have := UInt8.toNat_lt blank[k]; omega
      clear HTA HIN HSH HAS HF HK HM
      by_cases h9 : (blank[k].toNat : Int) = 10 ∨ (blank[k].toNat : Int) = 9 ∨ (blank[k].toNat : Int) = 13 ∨ (blank[k].toNat : Int) = 32
      · have FIN : ∃ k' : Nat, k' ≤ blank.size ∧ Value.int .i64 ((k : Int) + 1) = .int .i64 k' ∧ Hid (∀ j (h : j < blank.size), j < k' → (blank[j].toNat : Int) = 10 ∨ (blank[j].toNat : Int) = 9 ∨ (blank[j].toNat : Int) = 13 ∨ (blank[j].toNat : Int) = 32) := by
          refine ⟨k + 1, by omega, by go_num, fun j hj hjk => ?_⟩
          rcases Nat.lt_or_ge j k with h | h
          · exact HB.out j hj h
          · have : j = k := by omega
            subst this; exact h9
        have HFIN : Hid _ := FIN
        clear FIN HB
        rcases h9 with g | g | g | g
        all_goals
          go_wp2
          go_round
          case rel => first | exact HFIN.out | ((repeat apply Exists.intro); exact ⟨HFIN.out, rfl⟩)
          case measure => simp [intOf]; omega
      · have b9 : ((blank[k].toNat : Int) != 9) = true := by simp; omega
        have b10 : ((blank[k].toNat : Int) != 10) = true := by simp; omega
        have b13 : ((blank[k].toNat : Int) != 13) = true := by simp; omega
        have b32 : ((blank[k].toNat : Int) != 32) = true := by simp; omega
        clear h9 HB
        go_wp2
        go_ret
        exact ⟨rfl, hb1⟩
    · have HBL : Hid (∀ b ∈ blank.data.toList, (b.toNat : Int) = 10 ∨ (b.toNat : Int) = 9 ∨ (b.toNat : Int) = 13 ∨ (b.toNat : Int) = 32) := by
        intro b hb
        obtain ⟨j, hj, rfl⟩ := List.getElem_of_mem hb
        have hj2 : j < blank.size := by simpa using hj
        exact HB.out j hj2 (by omega)
      clear HB
      go_wp2_with fail
      refine (HTA.out _ (KeysAt.below HK.out hb1) (MarksAt.below HM.out hb1)).mono ?_
      rintro e w2 ⟨v2, rfl, ho2, hb2⟩
      have hz2 := hb2.size
      have bel2 : Hid (Below w.heap.size w w2) := hb1.trans (hb2.mono (by omega))
      rcases HF.out with ⟨f0, f1⟩ | ⟨f1, f2⟩
      · subst f0 f1
        have hsh : s.data.toList.length ≤ 65536 := HSH.out rfl
        have hsl : s.data.toList.length = s.size := by simp
        have hbl2 : blank.data.toList.length = blank.size := by simp
        have HIN2 : Hid _ := HIN.out HBL.out rfl
        have ho3 : Own ((w2.alloc (.cells #[.int .i64 0, .int .i64 0] 25)).alloc (.cells #[] 5)) (w2.heap.size + 1) (.slice (some ⟨w2.heap.size + 1, 0, none⟩) 0 0) [] := by
          refine ⟨rfl, Or.inr ⟨w2.heap.size + 1, 0, #[], rfl, Nat.le_refl _, ?_, Nat.le_refl _, by unfold maxLen; omega, rfl, rfl⟩⟩
          have := heap_alloc_new (w2.alloc (.cells #[.int .i64 0, .int .i64 0] 25)) (.cells #[] 5)
          simpa using this
        have hb3 : Below (w2.heap.size + 1) (w2.alloc faultB) ((w2.alloc (.cells #[.int .i64 0, .int .i64 0] 25)).alloc (.cells #[] 5)) := (Below.refl _ _).alloc (by simp) _
        have hbi : BI s.data.toList blank.data.toList L (w2.heap.size + 1) (w2.alloc faultB) (.slice (some ⟨w2.heap.size + 1, 0, none⟩) 0 0) (.int .i64 0) (.int .i64 0) ((w2.alloc (.cells #[.int .i64 0, .int .i64 0] 25)).alloc (.cells #[] 5)) :=
          ⟨0, 0, w2.heap.size + 1, 0, [], Nat.zero_le _, Nat.zero_le _, rfl, rfl, rfl, ho3, by simp, hb3, by simp, by show _ = _; simp, HAS.out⟩
        have HBI : Hid _ := hbi
        clear hbi ho3 hb3 HIN HSH HAS HTA HF HBL
        obtain ⟨a2, c2, rfl⟩ := ho2.form
        have HO2 : Hid (OwnT w2 (w1.heap.size + 1) (.slice a2 L.length c2) L) := ho2
        clear ho2
        go_wp2
        go_loopw [9, 10, 11] (fun v a i wr => BI s.data.toList blank.data.toList L (w2.heap.size + 1) (w2.alloc faultB) v a i wr) (fun _ _ i _ => L.length - (intOf i).toNat)
        case atStart => exact HBI.out
        case round =>
          clear HBI
          obtain ⟨k, p, g, cap, acc, hkl, hps, rfl, rfl, rfl, ho, hal, hb, hz, HE, HA⟩ := hrel
          rename_i wr
          obtain ⟨c0, c1, f0, f1⟩ := faultCells w2 hb
          have hb23 : Below w2.heap.size w2 wr := ((Below.refl _ _).alloc (Nat.le_refl _) _).trans (hb.mono (by omega))
          by_cases hkt : k < L.length
          · have hkt' : (k : Int) < (L.length : Int) := by omega
            obtain ⟨g2, c2', hv2, hg2, hg2'⟩ := HO2.out.block (by intro e; rw [e] at hkt; simp at hkt)
            cases hv2
            have t2 : TokAt wr g2 0 L := HO2.out.at.below hb23 hg2'
            have HA2 : Hid (Asc s.data.toList.length p (L[k] :: L.drop (k + 1))) := by
              have := HA.out
              rw [List.drop_eq_getElem_cons hkt] at this; exact this
            obtain ⟨q, hq, hpq, hqs, HA3⟩ := HA2.out
            have HE2 : Hid (ins blank.data.toList s.data.toList 0 L = acc ++ (s.data.toList.drop p).take (q - p) ++ blank.data.toList ++ ins blank.data.toList s.data.toList q (L.drop (k + 1))) := by
              show _ = _
              rw [HE.out, List.drop_eq_getElem_cons hkt]
              simp only [ins]
              rw [hq, Int.toNat_natCast]
              simp only [List.append_assoc]
            have a1 : wr.cell? ⟨g2, k * 4 + 1, none⟩ = some (.int .i64 (q : Int)) := by
              have := (t2 k hkt).2.1
              rw [hq] at this
              simpa using this
            have hqs' : (q : Int) < (s.size : Int) := by omega
            have hqs2 : (q : Int) ≤ (s.size : Int) := by omega
            have hpq' : (p : Int) ≤ (q : Int) := by omega
            have HA4 : Hid (Asc s.data.toList.length q (L.drop (k + 1))) := HA3
            obtain ⟨X, hX⟩ : ∃ X, X = (s.data.toList.drop p).take (q - p) := ⟨_, rfl⟩
            have hXl : X.length ≤ 65536 := by rw [hX]; simp; omega
            have HXE : Hid ((s.extract p q).data.toList = X) := by show _ = _; rw [hX]; exact extract_toList s p q
            rw [← hX] at HE2
            obtain ⟨acc1, hacc1⟩ : ∃ acc1, acc ++ X = acc1 := ⟨_, rfl⟩
            obtain ⟨acc2, hacc2⟩ : ∃ acc2, acc1 ++ blank.data.toList = acc2 := ⟨_, rfl⟩
            rw [hacc1, hacc2] at HE2
            have hl1 : acc1.length ≤ 131072 := by rw [← hacc1]; simp; omega
            clear HA2 HA3 hX HE HA t2 hq
            by_cases hN : 65536 < acc2.length
            · have hN' : (65536 : Int) < (acc2.length : Int) := by omega
              go_wp2_with (first
                | (at_builtin; refine append_str rfl (.tmp 73) (.tmp 81) 43 9 rfl (w2.heap.size + 1) Tryd.underlying43 Tryd.underlying9 info_u8 g cap acc X acc1 hacc1 rfl ho (s.extract p q) rfl HXE.out (by omega) hz ?_; intro g3 cap3 w3 ho3 hb3 hz3)
                | (at_builtin; refine append_str rfl (.tmp 83) (.tmp 84) 43 9 rfl (w2.heap.size + 1) Tryd.underlying43 Tryd.underlying9 info_u8 g3 cap3 acc1 blank.data.toList acc2 hacc2 rfl ho3 blank rfl rfl (by omega) (by omega) ?_; intro g4 cap4 w4 ho4 hb4 hz4; have a4 : w4.cell? ⟨g2, k * 4 + 1, none⟩ = some (.int .i64 (q : Int)) := by rw [(hb3.trans hb4).cell (p := ⟨g2, k * 4 + 1, none⟩) (by simp; omega)]; exact a1))
              go_ret
              exact ⟨rfl, bel2.out.trans ((hb23.mono (by omega)).trans ((hb3.trans hb4).mono (by omega)))⟩
            · have hN' : (acc2.length : Int) ≤ 65536 := by omega
              go_wp2_with (first
                | (at_builtin; refine append_str rfl (.tmp 73) (.tmp 81) 43 9 rfl (w2.heap.size + 1) Tryd.underlying43 Tryd.underlying9 info_u8 g cap acc X acc1 hacc1 rfl ho (s.extract p q) rfl HXE.out (by omega) hz ?_; intro g3 cap3 w3 ho3 hb3 hz3)
                | (at_builtin; refine append_str rfl (.tmp 83) (.tmp 84) 43 9 rfl (w2.heap.size + 1) Tryd.underlying43 Tryd.underlying9 info_u8 g3 cap3 acc1 blank.data.toList acc2 hacc2 rfl ho3 blank rfl rfl (by omega) (by omega) ?_; intro g4 cap4 w4 ho4 hb4 hz4; have a4 : w4.cell? ⟨g2, k * 4 + 1, none⟩ = some (.int .i64 (q : Int)) := by rw [(hb3.trans hb4).cell (p := ⟨g2, k * 4 + 1, none⟩) (by simp; omega)]; exact a1))
              go_roundw
              case rel => exact ⟨k + 1, q, g4, cap4, acc2, by omega, by omega, by go_num, rfl, rfl, ho4, by omega, hb.trans (hb3.trans hb4), by omega, HE2, HA4⟩
              case measure => simp [intOf]; omega
          · have hkL : L.length ≤ k := by omega
            have hps' : (p : Int) ≤ (s.size : Int) := by omega
            obtain ⟨X, hX⟩ : ∃ X, X = s.data.toList.drop p := ⟨_, rfl⟩
            have hXl : X.length ≤ 65536 := by rw [hX]; simp; omega
            have HXE : Hid ((s.extract p s.size).data.toList = X) := by
              show _ = _
              rw [hX, extract_toList, List.take_of_length_le (by simp)]
            obtain ⟨acc1, hacc1⟩ : ∃ acc1, acc ++ X = acc1 := ⟨_, rfl⟩
            have HE2 : Hid (ins blank.data.toList s.data.toList 0 L = acc1) := by
              show _ = _
              rw [HE.out, List.drop_eq_nil_iff.2 hkL, ← hacc1, hX]; rfl
            have hl1 : acc1.length ≤ 131072 := by rw [← hacc1]; simp; omega
            clear HE HA hX
            by_cases hN : 65536 < acc1.length
            · have hN' : (65536 : Int) < (acc1.length : Int) := by omega
              go_wp2_with (at_builtin; refine append_str rfl (.tmp 94) (.tmp 97) 43 9 rfl (w2.heap.size + 1) Tryd.underlying43 Tryd.underlying9 info_u8 g cap acc X acc1 hacc1 rfl ho (s.extract p s.size) rfl HXE.out (by omega) hz ?_; intro g3 cap3 w3 ho3 hb3 hz3)
              go_ret
              exact ⟨rfl, bel2.out.trans ((hb23.mono (by omega)).trans (hb3.mono (by omega)))⟩
            · have hN' : (acc1.length : Int) ≤ 65536 := by omega
              obtain ⟨M, hM, hMn⟩ := HIN2.out (by rw [HE2.out]; omega)
              rw [HE2.out] at hM
              have hMl : M.length = L.length := by have := congrArg List.length hMn; simpa using this
              have HZ : Hid _ := zt_of_np hMn
              have T2 : ∀ w1, KeysAt w1 → MarksAt w1 → Calls Tryd.prog 8 #[.string ⟨acc1.toArray⟩] w1 fun e w' => ∃ v, e = .returned (.tuple #[v, .agg #[.int .i64 0, .int .i64 0]]) ∧ OwnT w' (w1.heap.size + 1) v M ∧ Below w1.heap.size w1 w' := by
                intro w1 hk1 hm1
                have := tokens_any ⟨acc1.toArray⟩ w1 (by show acc1.toArray.size ≤ maxLen; unfold maxLen; simp; omega) hk1 hm1
                rw [show (ByteArray.mk acc1.toArray).data.toList = acc1 by simp, hM] at this
                exact this
              have HT2 : Hid _ := T2
              clear T2 hM hMn HE2 HIN2
              go_wp2_with (first
                | (at_builtin; refine append_str rfl (.tmp 94) (.tmp 97) 43 9 rfl (w2.heap.size + 1) Tryd.underlying43 Tryd.underlying9 info_u8 g cap acc X acc1 hacc1 rfl ho (s.extract p s.size) rfl HXE.out (by omega) hz ?_; intro g3 cap3 w3 ho3 hb3 hz3)
                | (refine wpList_own_string rfl (.tmp 103) 43 9 rfl (w2.heap.size + 1) _ _ rfl ho3 Tryd.underlying43 Tryd.underlying5 Tryd.underlying9 ?_))
              have b23 : Below w2.heap.size w2 w3 := hb23.trans (hb3.mono (by omega))
              have b03 : Below w.heap.size w w3 := bel2.out.trans (b23.mono (by omega))
              refine (HT2.out _ (KeysAt.below HK.out b03) (MarksAt.below HM.out b03)).mono ?_
              rintro e w5 ⟨v5, rfl, ho5, hb5⟩
              have hz5 := hb5.size
              obtain ⟨c0, c1, f0, f1⟩ := faultCells w2 ((hb.trans hb3).trans (hb5.mono (by omega)))
              have HO5 : Hid (OwnT w5 (w3.heap.size + 1) v5 M) := ho5
              have B25 : Hid (Below w2.heap.size w2 w5) := b23.trans (hb5.mono (by omega))
              clear ho5 hb5 HT2 ho ho3 hb hb3 hb23
              go_wp2_with fail
              have b26 : Hid (Below w2.heap.size w2 ((w5.setCell ⟨w2.heap.size, 0, none⟩ (.int .i64 0)).setCell ⟨w2.heap.size, 1, none⟩ (.int .i64 0))) := (B25.out.setCell (Nat.le_refl _) _).setCell (Nat.le_refl _) _
              have hz6 : ((w5.setCell ⟨w2.heap.size, 0, none⟩ (.int .i64 0)).setCell ⟨w2.heap.size, 1, none⟩ (.int .i64 0)).heap.size = w5.heap.size := by simp [World.setCell]
              have o6 := ownT_setCell (ownT_setCell HO5.out (a := ⟨w2.heap.size, 0, none⟩) (by simp; omega) (.int .i64 0)) (a := ⟨w2.heap.size, 1, none⟩) (by simp; omega) (.int .i64 0)
              refine (nowhere_own (by omega) o6).mono ?_
              rintro e w7 ⟨v7, rfl, ho7, hb7⟩
              go_wp2_with fail
              refine (nowhere_own (by omega) ((HO2.out.below b26.out).below hb7)).mono ?_
              rintro e w8 ⟨v8, rfl, ho8, hb8⟩
              go_wp2_with fail
              refine (tokensZt HZ.out (by omega) (ho7.below hb8) ho8).mono ?_
              rintro e w9 ⟨rfl, n9, rfl⟩
              go_wp2
              go_ret
              have hz7 := hb7.size
              refine ⟨rfl, below_drewN ?_ n9⟩
              exact (bel2.out.trans (b26.out.mono (by omega))).trans ((hb7.mono (by omega)).trans (hb8.mono (by omega)))
      · subst f2
        obtain ⟨a2, c2, rfl⟩ := ho2.form
        have f1' : (fc == 0) = false := by simpa using f1
        clear HTA HIN HSH HAS
        go_wp2
        go_ret
        exact ⟨rfl, bel2.out.alloc (by omega) _⟩
end Go.Proofs.YthckmpjokabkcaaDoor
