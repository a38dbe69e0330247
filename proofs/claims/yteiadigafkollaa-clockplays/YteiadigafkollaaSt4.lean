/- sort.partialInsertionSort over a queue's address. -/
import Derived.Test.YteiadigafkollaaRw3
import Derived.Sort.WalkA6
namespace Go.Proofs.Yteiadigafkollaa
open Go.RowKit Go.Sort Go.Shelf

theorem shiftDown_size : ∀ (j : Nat) (d : Array Tm), (shiftDown tlt j d).size = d.size
  | 0, d => rfl
  | j + 1, d => by
    rw [shiftDown]; split
    · rfl
    · rw [shiftDown_size j, size_swp]
theorem shiftUp_size (b m : Nat) : ∀ (j : Nat) (d : Array Tm), b - j ≤ m → (shiftUp tlt b j d).size = d.size := by
  induction m with
  | zero => intro j d h; rw [shiftUp, if_neg (by omega)]
  | succ m ih =>
    intro j d h
    rw [shiftUp]; split
    · split
      · rfl
      · rw [ih _ _ (by omega), size_swp]
    · rfl

set_option maxHeartbeats 32000000 in
set_option maxRecDepth 100000 in
theorem partial_q (w : World) (qb qo X cap : Nat) (d : Array Tm) (h : QAt w qb qo X cap d) (a b : Nat) (hab : a < b) (hb : b ≤ d.size) (hm : d.size ≤ 1000000000000) (x y : Int) (hx : x = a) (hy : y = b) :
    Calls Try.prog 62 #[.iface 74 (.pointer (some ⟨qb, qo, none⟩)), .int .i64 x, .int .i64 y] w fun e w' => e = .returned (.bool (partialInsertionSort tlt d a b).2) ∧ QAt w' qb qo X cap (partialInsertionSort tlt d a b).1 ∧ Keep X w w' := by
  subst hx hy
  have HQ : Hid _ := h
  clear h
  go_enter Try.func62, Try.ntmps62
  go_wp2
  go_loopw [7, 8] (fun s7 s8 wr => ∃ (i s : Nat) (dk : Array Tm), s7 = .int .i64 i ∧ s8 = .int .i64 s ∧ a < i ∧ i ≤ b ∧ s ≤ 5 ∧ dk.size = d.size ∧ Hid (QAt wr qb qo X cap dk) ∧ Hid (Keep X w wr) ∧ Hid (partialIns tlt a b (5 - s) i dk = partialIns tlt a b 5 (a + 1) d)) (fun _ s8 _ => (5 - intOf s8).toNat)
  case atStart => exact ⟨a + 1, 0, d, by go_num, rfl, by omega, by omega, by omega, rfl, HQ, Keep.refl _ _, rfl⟩
  case round =>
    obtain ⟨i, s, dk, rfl, rfl, hai, hib, hs5, hs, HK, HW, HE⟩ := hrel
    by_cases h5 : s < 5
    · have h5z : (s : Int) < 5 := by omega
      go_wp2
      go_loopw [7] (fun v7 wr => ∃ (i' : Nat), v7 = .int .i64 i' ∧ i ≤ i' ∧ i' ≤ b ∧ Hid (QAt wr qb qo X cap dk) ∧ Hid (Keep X w wr) ∧ Hid (scanSorted tlt dk b i' = scanSorted tlt dk b i)) (fun v7 _ => b - (intOf v7).toNat)
      case atStart => exact ⟨i, rfl, Nat.le_refl _, hib, HK, HW, rfl⟩
      case round =>
        obtain ⟨k, rfl, hik, hkb, K1, W1, E1⟩ := hrel
        rename_i wr1
        have eL := ent_less
        have eS := ent_swap
        have mL := inv_less K1.out.head
        have mS := fun n => inv_swap (K1.out.drewN n).head
        simp only [hs] at mL mS
        by_cases hkl : k < b
        · have hne : ((k : Int) == (b : Int)) = false := by simp; omega
          cases hl : tlt dk[k]! dk[k - 1]! with
          | false =>
            go_wp2_with (go_at_fn 92; refine (K1.out.lessB hs k (k - 1) (by omega) (by omega) (by omega) (by omega) hl).mono ?_; rintro e w' ⟨rfl, n, rfl⟩)
            go_roundw
            case rel => exact ⟨k + 1, by go_num, by omega, by omega, K1.out.drewN _, W1.out.drewN _, by show _ = _; rw [← E1.out]; exact (scanSorted_go tlt dk b k hkl hl).symm⟩
            case measure => simp [intOf]; omega
          | true =>
            have HS : Hid (scanSorted tlt dk b i = k) := by show _ = _; rw [← E1.out]; exact scanSorted_stop tlt dk b k (Or.inr hl)
            by_cases h50 : (b : Int) - a < 50
            · go_wp2_with (go_at_fn 92; refine (K1.out.lessB hs k (k - 1) (by omega) (by omega) (by omega) (by omega) hl).mono ?_; rintro e w' ⟨rfl, n, rfl⟩)
              go_ret
              have e := pi_short tlt a b s i dk h5 (by rw [HS.out]; omega) (by omega)
              unfold partialInsertionSort
              rw [← HE.out, e]
              exact ⟨rfl, K1.out.drewN _, W1.out.drewN _⟩
            · have HG' : Hid (partialIns tlt a b (5 - (s + 1)) k (fixUp tlt b k (fixDown tlt a k (swp dk k (k - 1)))) = partialIns tlt a b 5 (a + 1) d) := by
                show _ = _; rw [← HE.out]; exact (pi_go tlt a b s i k dk h5 HS.out (by omega) (by omega)).symm
              --HOLE
              obtain ⟨d0, hd0⟩ : ∃ d0, d0 = swp dk k (k - 1) := ⟨_, rfl⟩
              have hs2 : d0.size = d.size := by rw [hd0, size_swp]; exact hs
              have S2 := fun n => (K1.out.drewN n).swapC hs k (k - 1) (by omega) (by omega) (x := (k : Int)) (y := (k : Int) - 1) rfl (by omega)
              simp only [← hd0] at S2
              have HG : Hid (partialIns tlt a b (5 - (s + 1)) k (fixUp tlt b k (fixDown tlt a k d0)) = partialIns tlt a b 5 (a + 1) d) := by show _ = _; rw [hd0]; exact HG'.out
              clear hd0 HG'
              by_cases hdn : 2 ≤ (k : Int) - a
              · go_wp2_with (first | (go_at_fn 92; refine (K1.out.lessB hs k (k - 1) (by omega) (by omega) (by omega) (by omega) hl).mono ?_; rintro e w' ⟨rfl, n, rfl⟩) | (go_at_fn 93; refine (S2 _).mono ?_; rintro e w2 ⟨rfl, Q2, K2⟩))
                have W2 : Hid (Keep X w w2) := (W1.out.drewN _).trans K2
                clear K2 mL mS S2
                go_loopw [9] (fun v9 wr => ∃ (j : Nat) (dj : Array Tm), v9 = .int .i64 j ∧ j < k ∧ dj.size = d.size ∧ Hid (QAt wr qb qo X cap dj) ∧ Hid (Keep X w wr) ∧ Hid (shiftDown tlt j dj = shiftDown tlt (k - 1) d0)) (fun v9 _ => (intOf v9).toNat)
                case atStart => exact ⟨k - 1, d0, by congr 1; omega, by omega, hs2, Q2, W2, rfl⟩
                case round =>
                  obtain ⟨j3, d3, rfl, hj3, hs3, K3, W3, E3⟩ := hrel
                  rename_i wr3
                  have mL3 := inv_less K3.out.head
                  have mS3 := fun n => inv_swap (K3.out.drewN n).head
                  simp only [hs3] at mL3 mS3
                  by_cases hj1 : 1 ≤ (j3 : Int)
                  · cases hl3 : tlt d3[j3]! d3[j3 - 1]! with
                    | true =>
                      go_wp2_with (first | (go_at_fn 92; refine (K3.out.lessB hs3 j3 (j3 - 1) (by omega) (by omega) (by omega) (by omega) hl3).mono ?_; rintro e w' ⟨rfl, n3, rfl⟩) | (go_at_fn 93; refine ((K3.out.drewN _).swapC hs3 j3 (j3 - 1) (by omega) (by omega) (by omega) (by omega)).mono ?_; rintro e w5 ⟨rfl, Q5, K5⟩))
                      go_roundw
                      case rel => exact ⟨j3 - 1, swp d3 j3 (j3 - 1), by congr 1; omega, by omega, by rw [size_swp]; exact hs3, Q5, (W3.out.drewN _).trans K5, by show _ = _; rw [← E3.out]; exact (shiftDown_go tlt j3 d3 (by omega) hl3).symm⟩
                      case measure => simp [intOf]; omega
                    | false =>
                      have FD : Hid (fixDown tlt a k d0 = d3) := by show _ = _; unfold fixDown; rw [if_pos (by omega), ← E3.out]; exact shiftDown_stop tlt j3 d3 (Or.inr hl3)
                      by_cases hux : 2 ≤ (b : Int) - k
                      · go_wp2_with (first | (go_at_fn 92; refine (K3.out.lessB hs3 j3 (j3 - 1) (by omega) (by omega) (by omega) (by omega) hl3).mono ?_; rintro e w' ⟨rfl, n3, rfl⟩) | fail)
                        go_loopw [10] (fun v10 wr => ∃ (j : Nat) (dj : Array Tm), v10 = .int .i64 j ∧ k < j ∧ j ≤ b ∧ dj.size = d.size ∧ Hid (QAt wr qb qo X cap dj) ∧ Hid (Keep X w wr) ∧ Hid (shiftUp tlt b j dj = shiftUp tlt b (k + 1) d3)) (fun v10 _ => b - (intOf v10).toNat)
                        case atStart => exact ⟨k + 1, d3, by go_num, by omega, by omega, hs3, (K3.out.drewN _), (W3.out.drewN _), rfl⟩
                        case round =>
                          obtain ⟨j, dj, rfl, hkj, hjb, hsj, K4, W4, E4⟩ := hrel
                          rename_i wr4
                          have mL4 := inv_less K4.out.head
                          have mS4 := fun n => inv_swap (K4.out.drewN n).head
                          simp only [hsj] at mL4 mS4
                          have FIN : Hid (∀ w3 (e : Int), e = (s : Int) + 1 → shiftUp tlt b j dj = dj → QAt w3 qb qo X cap dj → Keep X w w3 → ∃ (i' s' : Nat) (dk' : Array Tm), Value.int .i64 (k : Int) = .int .i64 i' ∧ Value.int .i64 e = .int .i64 s' ∧ a < i' ∧ i' ≤ b ∧ s' ≤ 5 ∧ dk'.size = d.size ∧ Hid (QAt w3 qb qo X cap dk') ∧ Hid (Keep X w w3) ∧ Hid (partialIns tlt a b (5 - s') i' dk' = partialIns tlt a b 5 (a + 1) d)) := fun w3 e he hst q1 q2 =>
                            ⟨k, s + 1, dj, rfl, by rw [he]; go_num, by omega, by omega, by omega, hsj, q1, q2, by show _ = _; rw [← HG.out, FD.out]; unfold fixUp; rw [if_pos (by omega), ← E4.out, hst]⟩
                          by_cases hjl : j < b
                          · cases hl4 : tlt dj[j]! dj[j - 1]! with
                            | true =>
                              go_wp2_with (first | (go_at_fn 92; refine (K4.out.lessB hsj j (j - 1) (by omega) (by omega) (by omega) (by omega) hl4).mono ?_; rintro e w' ⟨rfl, n4, rfl⟩) | (go_at_fn 93; refine ((K4.out.drewN _).swapC hsj j (j - 1) (by omega) (by omega) (by omega) (by omega)).mono ?_; rintro e w5 ⟨rfl, Q5, K5⟩))
                              go_roundw
                              case rel => exact ⟨j + 1, swp dj j (j - 1), by go_num, by omega, by omega, by rw [size_swp]; exact hsj, Q5, (W4.out.drewN _).trans K5, by show _ = _; rw [← E4.out]; exact (shiftUp_go tlt b j dj hjl hl4).symm⟩
                              case measure => simp [intOf]; omega
                            | false =>
                              go_wp2_with (first | (go_at_fn 92; refine (K4.out.lessB hsj j (j - 1) (by omega) (by omega) (by omega) (by omega) hl4).mono ?_; rintro e w' ⟨rfl, n4, rfl⟩))
                              go_roundw
                              case rel => exact FIN.out _ _ rfl (shiftUp_stop tlt b j dj (Or.inr hl4)) (K4.out.drewN _) (W4.out.drewN _)
                              case measure => simp [intOf]; omega
                          · go_wp2
                            go_roundw
                            case rel => exact FIN.out _ _ rfl (shiftUp_stop tlt b j dj (Or.inl hjl)) K4.out W4.out
                            case measure => simp [intOf]; omega
                      · go_wp2_with (first | (go_at_fn 92; refine (K3.out.lessB hs3 j3 (j3 - 1) (by omega) (by omega) (by omega) (by omega) hl3).mono ?_; rintro e w' ⟨rfl, n3, rfl⟩) | fail)
                        go_roundw
                        case rel => exact ⟨k, s + 1, d3, rfl, by go_num, by omega, by omega, by omega, hs3, (K3.out.drewN _), (W3.out.drewN _), by show _ = _; rw [← HG.out, FD.out]; unfold fixUp; rw [if_neg (by omega)]⟩
                        case measure => simp [intOf]; omega
                  · have FD : Hid (fixDown tlt a k d0 = d3) := by show _ = _; unfold fixDown; rw [if_pos (by omega), ← E3.out]; exact shiftDown_stop tlt j3 d3 (Or.inl (by omega))
                    by_cases huy : 2 ≤ (b : Int) - k
                    · go_wp2
                      go_loopw [10] (fun v10 wr => ∃ (j : Nat) (dj : Array Tm), v10 = .int .i64 j ∧ k < j ∧ j ≤ b ∧ dj.size = d.size ∧ Hid (QAt wr qb qo X cap dj) ∧ Hid (Keep X w wr) ∧ Hid (shiftUp tlt b j dj = shiftUp tlt b (k + 1) d3)) (fun v10 _ => b - (intOf v10).toNat)
                      case atStart => exact ⟨k + 1, d3, by go_num, by omega, by omega, hs3, K3.out, W3.out, rfl⟩
                      case round =>
                        obtain ⟨j, dj, rfl, hkj, hjb, hsj, K4, W4, E4⟩ := hrel
                        rename_i wr4
                        have mL4 := inv_less K4.out.head
                        have mS4 := fun n => inv_swap (K4.out.drewN n).head
                        simp only [hsj] at mL4 mS4
                        have FIN : Hid (∀ w3 (e : Int), e = (s : Int) + 1 → shiftUp tlt b j dj = dj → QAt w3 qb qo X cap dj → Keep X w w3 → ∃ (i' s' : Nat) (dk' : Array Tm), Value.int .i64 (k : Int) = .int .i64 i' ∧ Value.int .i64 e = .int .i64 s' ∧ a < i' ∧ i' ≤ b ∧ s' ≤ 5 ∧ dk'.size = d.size ∧ Hid (QAt w3 qb qo X cap dk') ∧ Hid (Keep X w w3) ∧ Hid (partialIns tlt a b (5 - s') i' dk' = partialIns tlt a b 5 (a + 1) d)) := fun w3 e he hst q1 q2 =>
                          ⟨k, s + 1, dj, rfl, by rw [he]; go_num, by omega, by omega, by omega, hsj, q1, q2, by show _ = _; rw [← HG.out, FD.out]; unfold fixUp; rw [if_pos (by omega), ← E4.out, hst]⟩
                        by_cases hjl : j < b
                        · cases hl4 : tlt dj[j]! dj[j - 1]! with
                          | true =>
                            go_wp2_with (first | (go_at_fn 92; refine (K4.out.lessB hsj j (j - 1) (by omega) (by omega) (by omega) (by omega) hl4).mono ?_; rintro e w' ⟨rfl, n4, rfl⟩) | (go_at_fn 93; refine ((K4.out.drewN _).swapC hsj j (j - 1) (by omega) (by omega) (by omega) (by omega)).mono ?_; rintro e w5 ⟨rfl, Q5, K5⟩))
                            go_roundw
                            case rel => exact ⟨j + 1, swp dj j (j - 1), by go_num, by omega, by omega, by rw [size_swp]; exact hsj, Q5, (W4.out.drewN _).trans K5, by show _ = _; rw [← E4.out]; exact (shiftUp_go tlt b j dj hjl hl4).symm⟩
                            case measure => simp [intOf]; omega
                          | false =>
                            go_wp2_with (first | (go_at_fn 92; refine (K4.out.lessB hsj j (j - 1) (by omega) (by omega) (by omega) (by omega) hl4).mono ?_; rintro e w' ⟨rfl, n4, rfl⟩))
                            go_roundw
                            case rel => exact FIN.out _ _ rfl (shiftUp_stop tlt b j dj (Or.inr hl4)) (K4.out.drewN _) (W4.out.drewN _)
                            case measure => simp [intOf]; omega
                        · go_wp2
                          go_roundw
                          case rel => exact FIN.out _ _ rfl (shiftUp_stop tlt b j dj (Or.inl hjl)) K4.out W4.out
                          case measure => simp [intOf]; omega
                    · go_wp2
                      go_roundw
                      case rel => exact ⟨k, s + 1, d3, rfl, by go_num, by omega, by omega, by omega, hs3, K3.out, W3.out, by show _ = _; rw [← HG.out, FD.out]; unfold fixUp; rw [if_neg (by omega)]⟩
                      case measure => simp [intOf]; omega
              · have FD : Hid (fixDown tlt a k d0 = d0) := by show _ = _; unfold fixDown; rw [if_neg (by omega)]
                by_cases huz : 2 ≤ (b : Int) - k
                · go_wp2_with (first | (go_at_fn 92; refine (K1.out.lessB hs k (k - 1) (by omega) (by omega) (by omega) (by omega) hl).mono ?_; rintro e w' ⟨rfl, n, rfl⟩) | (go_at_fn 93; refine (S2 _).mono ?_; rintro e w2 ⟨rfl, Q2, K2⟩) | fail)
                  go_loopw [10] (fun v10 wr => ∃ (j : Nat) (dj : Array Tm), v10 = .int .i64 j ∧ k < j ∧ j ≤ b ∧ dj.size = d.size ∧ Hid (QAt wr qb qo X cap dj) ∧ Hid (Keep X w wr) ∧ Hid (shiftUp tlt b j dj = shiftUp tlt b (k + 1) d0)) (fun v10 _ => b - (intOf v10).toNat)
                  case atStart => exact ⟨k + 1, d0, by go_num, by omega, by omega, hs2, Q2, ((W1.out.drewN _).trans K2), rfl⟩
                  case round =>
                    obtain ⟨j, dj, rfl, hkj, hjb, hsj, K4, W4, E4⟩ := hrel
                    rename_i wr4
                    have mL4 := inv_less K4.out.head
                    have mS4 := fun n => inv_swap (K4.out.drewN n).head
                    simp only [hsj] at mL4 mS4
                    have FIN : Hid (∀ w3 (e : Int), e = (s : Int) + 1 → shiftUp tlt b j dj = dj → QAt w3 qb qo X cap dj → Keep X w w3 → ∃ (i' s' : Nat) (dk' : Array Tm), Value.int .i64 (k : Int) = .int .i64 i' ∧ Value.int .i64 e = .int .i64 s' ∧ a < i' ∧ i' ≤ b ∧ s' ≤ 5 ∧ dk'.size = d.size ∧ Hid (QAt w3 qb qo X cap dk') ∧ Hid (Keep X w w3) ∧ Hid (partialIns tlt a b (5 - s') i' dk' = partialIns tlt a b 5 (a + 1) d)) := fun w3 e he hst q1 q2 =>
                      ⟨k, s + 1, dj, rfl, by rw [he]; go_num, by omega, by omega, by omega, hsj, q1, q2, by show _ = _; rw [← HG.out, FD.out]; unfold fixUp; rw [if_pos (by omega), ← E4.out, hst]⟩
                    by_cases hjl : j < b
                    · cases hl4 : tlt dj[j]! dj[j - 1]! with
                      | true =>
                        go_wp2_with (first | (go_at_fn 92; refine (K4.out.lessB hsj j (j - 1) (by omega) (by omega) (by omega) (by omega) hl4).mono ?_; rintro e w' ⟨rfl, n4, rfl⟩) | (go_at_fn 93; refine ((K4.out.drewN _).swapC hsj j (j - 1) (by omega) (by omega) (by omega) (by omega)).mono ?_; rintro e w5 ⟨rfl, Q5, K5⟩))
                        go_roundw
                        case rel => exact ⟨j + 1, swp dj j (j - 1), by go_num, by omega, by omega, by rw [size_swp]; exact hsj, Q5, (W4.out.drewN _).trans K5, by show _ = _; rw [← E4.out]; exact (shiftUp_go tlt b j dj hjl hl4).symm⟩
                        case measure => simp [intOf]; omega
                      | false =>
                        go_wp2_with (first | (go_at_fn 92; refine (K4.out.lessB hsj j (j - 1) (by omega) (by omega) (by omega) (by omega) hl4).mono ?_; rintro e w' ⟨rfl, n4, rfl⟩))
                        go_roundw
                        case rel => exact FIN.out _ _ rfl (shiftUp_stop tlt b j dj (Or.inr hl4)) (K4.out.drewN _) (W4.out.drewN _)
                        case measure => simp [intOf]; omega
                    · go_wp2
                      go_roundw
                      case rel => exact FIN.out _ _ rfl (shiftUp_stop tlt b j dj (Or.inl hjl)) K4.out W4.out
                      case measure => simp [intOf]; omega
                · exfalso; omega
              --END
        · have hkb' : k = b := by omega
          subst hkb'
          go_wp2
          go_ret
          have e := pi_true tlt a k s i dk h5 (by rw [← E1.out]; exact scanSorted_stop tlt dk k k (Or.inl (by omega)))
          unfold partialInsertionSort
          rw [← HE.out, e]
          exact ⟨rfl, K1.out, W1.out⟩
    · have hs0 : s = 5 := by omega
      subst hs0
      go_wp2
      go_ret
      unfold partialInsertionSort
      rw [← HE.out]
      exact ⟨rfl, HK.out, HW.out⟩
end Go.Proofs.Yteiadigafkollaa
