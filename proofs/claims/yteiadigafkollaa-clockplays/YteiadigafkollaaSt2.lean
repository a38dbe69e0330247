/- sort.siftDown and sort.heapSort over a queue's address. -/
import Derived.Test.YteiadigafkollaaRw3
import Derived.Sort.WalkB3
namespace Go.Proofs.Yteiadigafkollaa
open Go.RowKit Go.Sort Go.Shelf

set_option maxHeartbeats 8000000 in
set_option maxRecDepth 100000 in
theorem sift_q (w : World) (qb qo X cap : Nat) (d : Array Tm) (h : QAt w qb qo X cap d) (lo hi F : Nat) (hlo : lo ≤ hi) (hb : F + hi ≤ d.size) (hm : d.size ≤ 1000000000000) (x y z : Int) (hx : x = lo) (hy : y = hi) (hz : z = F) :
    Calls Try.prog 68 #[.iface 74 (.pointer (some ⟨qb, qo, none⟩)), .int .i64 x, .int .i64 y, .int .i64 z] w fun e w' => e = .returned (.tuple #[]) ∧ QAt w' qb qo X cap (siftDown tlt hi F lo d) ∧ Keep X w w' := by
  subst hx hy hz
  have HQ : Hid _ := h
  clear h
  go_enter Try.func68, Try.ntmps68
  go_wp2
  go_loopw [8] (fun v8 wr => ∃ (k : Nat) (dk : Array Tm), v8 = .int .i64 k ∧ k ≤ hi ∧ dk.size = d.size ∧ Hid (QAt wr qb qo X cap dk) ∧ Hid (Keep X w wr) ∧ Hid (siftDown tlt hi F k dk = siftDown tlt hi F lo d)) (fun v8 _ => hi - (intOf v8).toNat)
  case atStart => exact ⟨lo, d, rfl, hlo, rfl, HQ, Keep.refl _ _, rfl⟩
  case round =>
    obtain ⟨k, dk, rfl, hk, hs, HK, HW, HE⟩ := hrel
    rename_i wr
    have eL := ent_less
    have eS := ent_swap
    have mL := inv_less HK.out.head
    have mL1 := fun n => inv_less (HK.out.drewN n).head
    have mS := fun n => inv_swap (HK.out.drewN n).head
    simp only [hs] at mL mL1 mS
    by_cases hc : 2 * k + 1 < hi
    · have hc1 : ¬ ((hi : Int) ≤ 2 * (k : Int) + 1) := by omega
      by_cases hr : 2 * k + 2 < hi
      · have hr1 : 2 * (k : Int) + 1 + 1 < (hi : Int) := by omega
        cases hL : tlt dk[F + (2 * k + 1)]! dk[F + (2 * k + 2)]! with
        | true =>
          cases hG : tlt dk[F + k]! dk[F + (2 * k + 2)]! with
          | false =>
            go_wp2_with (first | (go_at_fn 92; refine (HK.out.lessB hs (F + (2 * k + 1)) (F + (2 * k + 2)) (by omega) (by omega) (by omega) (by omega) hL).mono ?_; rintro e w' ⟨rfl, n1, rfl⟩) | (go_at_fn 92; refine ((HK.out.drewN _).lessB hs (F + k) (F + (2 * k + 2)) (by omega) (by omega) (by omega) (by omega) hG).mono ?_; rintro e w' ⟨rfl, n2, rfl⟩))
            first | go_end0 | ((try simp only [Exit.inBlock, Exit.then]); refine bodyPost_ret (results_none rfl _ _ _) rfl ?_)
            refine ⟨rfl, ?_, (HW.out.drewN _)⟩
            rw [← HE.out, sd_right_stop tlt dk hr hL hG]; exact (HK.out.drewN _)
          | true =>
            go_wp2_with (first | (go_at_fn 92; refine (HK.out.lessB hs (F + (2 * k + 1)) (F + (2 * k + 2)) (by omega) (by omega) (by omega) (by omega) hL).mono ?_; rintro e w' ⟨rfl, n1, rfl⟩) | (go_at_fn 92; refine ((HK.out.drewN _).lessB hs (F + k) (F + (2 * k + 2)) (by omega) (by omega) (by omega) (by omega) hG).mono ?_; rintro e w' ⟨rfl, n2, rfl⟩) | (go_at_fn 93; refine ((HK.out.drewN _).swapC hs (F + k) (F + (2 * k + 2)) (by omega) (by omega) (by omega) (by omega)).mono ?_; rintro e w' ⟨rfl, HQ2, HK2⟩))
            go_roundw
            case rel => exact ⟨2 * k + 2, swp dk (F + k) (F + (2 * k + 2)), by first | rfl | go_num, by omega, by rw [size_swp]; exact hs, HQ2, (HW.out.drewN _).trans HK2, by show _ = _; rw [← HE.out, sd_right_go tlt dk hr hL hG]⟩
            case measure => simp [intOf]; omega
        | false =>
          cases hG : tlt dk[F + k]! dk[F + (2 * k + 1)]! with
          | false =>
            go_wp2_with (first | (go_at_fn 92; refine (HK.out.lessB hs (F + (2 * k + 1)) (F + (2 * k + 2)) (by omega) (by omega) (by omega) (by omega) hL).mono ?_; rintro e w' ⟨rfl, n1, rfl⟩) | (go_at_fn 92; refine ((HK.out.drewN _).lessB hs (F + k) (F + (2 * k + 1)) (by omega) (by omega) (by omega) (by omega) hG).mono ?_; rintro e w' ⟨rfl, n2, rfl⟩))
            first | go_end0 | ((try simp only [Exit.inBlock, Exit.then]); refine bodyPost_ret (results_none rfl _ _ _) rfl ?_)
            refine ⟨rfl, ?_, (HW.out.drewN _)⟩
            rw [← HE.out, sd_left_stop tlt dk hc (fun _ => hL) hG]; exact (HK.out.drewN _)
          | true =>
            go_wp2_with (first | (go_at_fn 92; refine (HK.out.lessB hs (F + (2 * k + 1)) (F + (2 * k + 2)) (by omega) (by omega) (by omega) (by omega) hL).mono ?_; rintro e w' ⟨rfl, n1, rfl⟩) | (go_at_fn 92; refine ((HK.out.drewN _).lessB hs (F + k) (F + (2 * k + 1)) (by omega) (by omega) (by omega) (by omega) hG).mono ?_; rintro e w' ⟨rfl, n2, rfl⟩) | (go_at_fn 93; refine ((HK.out.drewN _).swapC hs (F + k) (F + (2 * k + 1)) (by omega) (by omega) (by omega) (by omega)).mono ?_; rintro e w' ⟨rfl, HQ2, HK2⟩))
            go_roundw
            case rel => exact ⟨2 * k + 1, swp dk (F + k) (F + (2 * k + 1)), by first | rfl | go_num, by omega, by rw [size_swp]; exact hs, HQ2, (HW.out.drewN _).trans HK2, by show _ = _; rw [← HE.out, sd_left_go tlt dk hc (fun _ => hL) hG]⟩
            case measure => simp [intOf]; omega
      · have hr1 : ¬ 2 * (k : Int) + 1 + 1 < (hi : Int) := by omega
        cases hG : tlt dk[F + k]! dk[F + (2 * k + 1)]! with
        | false =>
          go_wp2_with (first | (go_at_fn 92; refine (HK.out.lessB hs (F + k) (F + (2 * k + 1)) (by omega) (by omega) (by omega) (by omega) hG).mono ?_; rintro e w' ⟨rfl, n2, rfl⟩))
          first | go_end0 | ((try simp only [Exit.inBlock, Exit.then]); refine bodyPost_ret (results_none rfl _ _ _) rfl ?_)
          refine ⟨rfl, ?_, (HW.out.drewN _)⟩
          rw [← HE.out, sd_left_stop tlt dk hc (fun h => absurd h hr) hG]; exact (HK.out.drewN _)
        | true =>
          go_wp2_with (first | (go_at_fn 92; refine (HK.out.lessB hs (F + k) (F + (2 * k + 1)) (by omega) (by omega) (by omega) (by omega) hG).mono ?_; rintro e w' ⟨rfl, n2, rfl⟩) | (go_at_fn 93; refine ((HK.out.drewN _).swapC hs (F + k) (F + (2 * k + 1)) (by omega) (by omega) (by omega) (by omega)).mono ?_; rintro e w' ⟨rfl, HQ2, HK2⟩))
          go_roundw
          case rel => exact ⟨2 * k + 1, swp dk (F + k) (F + (2 * k + 1)), by first | rfl | go_num, by omega, by rw [size_swp]; exact hs, HQ2, (HW.out.drewN _).trans HK2, by show _ = _; rw [← HE.out, sd_left_go tlt dk hc (fun h => absurd h hr) hG]⟩
          case measure => simp [intOf]; omega
    · have hc1 : (hi : Int) ≤ 2 * (k : Int) + 1 := by omega
      go_wp2
      first | go_end0 | ((try simp only [Exit.inBlock, Exit.then]); refine bodyPost_ret (results_none rfl _ _ _) rfl ?_)
      refine ⟨rfl, ?_, HW.out⟩
      rw [← HE.out, sd_end tlt dk (by omega)]; exact HK.out

theorem sift_size (hi F : Nat) (m : Nat) : ∀ (k : Nat) (d : Array Tm), hi - k ≤ m → (siftDown tlt hi F k d).size = d.size := by
  induction m with
  | zero => intro k d hk; rw [sd_end tlt d (by omega)]
  | succ m ih =>
    intro k d hk
    rw [siftDown]
    split
    · rfl
    · split
      · split
        · rfl
        · split
          · rw [ih _ _ (by omega), size_swp]
          · rfl
      · split
        · rfl
        · rw [ih _ _ (by omega), size_swp]
set_option maxHeartbeats 8000000 in
set_option maxRecDepth 100000 in
theorem heapSort_q (w : World) (qb qo X cap : Nat) (d : Array Tm) (h : QAt w qb qo X cap d) (a b : Nat) (hab : a < b) (hb : b ≤ d.size) (hm : d.size ≤ 1000000000000) (x y : Int) (hx : x = a) (hy : y = b) :
    Calls Try.prog 58 #[.iface 74 (.pointer (some ⟨qb, qo, none⟩)), .int .i64 x, .int .i64 y] w fun e w' => e = .returned (.tuple #[]) ∧ QAt w' qb qo X cap (heapSort tlt d a b) ∧ Keep X w w' := by
  subst hx hy
  have HQ : Hid _ := h
  clear h
  go_enter Try.func58, Try.ntmps58
  go_wp2
  go_loopw [9] (fun v9 wr => ∃ (k : Nat) (dk : Array Tm), v9 = .int .i64 ((k : Int) - 1) ∧ k ≤ b - a ∧ dk.size = d.size ∧ Hid (QAt wr qb qo X cap dk) ∧ Hid (Keep X w wr) ∧ Hid (heapBuild tlt (b - a) a k dk = heapBuild tlt (b - a) a ((b - a - 1) / 2 + 1) d)) (fun v9 _ => (intOf v9 + 1).toNat)
  case atStart => exact ⟨(b - a - 1) / 2 + 1, d, by congr 1; omega, by omega, rfl, HQ, Keep.refl _ _, rfl⟩
  case round =>
    obtain ⟨k, dk, rfl, hk, hs, HK, HW, HE⟩ := hrel
    rename_i wr
    by_cases hlt : 0 < k
    · have hz : (0 : Int) ≤ (k : Int) - 1 := by omega
      go_wp2_with (go_at_call 68; refine (sift_q _ _ _ _ _ _ HK.out (k - 1) (b - a) a (by omega) (by omega) (by omega) _ _ _ (by omega) (by omega) rfl).mono ?_; rintro e w' ⟨rfl, HQ3, HK3⟩)
      go_roundw
      case rel => exact ⟨k - 1, siftDown tlt (b - a) a (k - 1) dk, by congr 1; omega, by omega, by rw [sift_size _ _ _ _ _ (Nat.le_refl _)]; exact hs, HQ3, HW.out.trans HK3, by show _ = _; rw [← HE.out]; conv => rhs; rw [show k = (k - 1) + 1 by omega, heapBuild]⟩
      case measure => simp [intOf]; omega
    · have HE2 : Hid (dk = heapBuild tlt (b - a) a ((b - a - 1) / 2 + 1) d) := by
        have e := HE.out
        rw [show k = 0 by omega, heapBuild] at e
        exact e
      have hz : ¬ (0 : Int) ≤ (k : Int) - 1 := by omega
      clear HE
      go_wp2
      go_loopw [10] (fun v10 wr2 => ∃ (m : Nat) (dm : Array Tm), v10 = .int .i64 ((m : Int) - 1) ∧ m ≤ b - a ∧ dm.size = d.size ∧ Hid (QAt wr2 qb qo X cap dm) ∧ Hid (Keep X w wr2) ∧ Hid (heapPop tlt a m dm = heapPop tlt a (b - a) dk)) (fun v10 _ => (intOf v10 + 1).toNat)
      case atStart => exact ⟨b - a, dk, by congr 1; omega, Nat.le_refl _, hs, HK, HW, rfl⟩
      case round =>
        obtain ⟨m, dm, rfl, hmm, hsm, HK2, HW2, HE3⟩ := hrel
        rename_i wr2
        by_cases hlt : 0 < m
        · have hz : (0 : Int) ≤ (m : Int) - 1 := by omega
          have eS := ent_swap
          have mS := inv_swap HK2.out.head
          simp only [hsm] at mS
          go_wp2_with (first | (go_at_fn 93; refine (HK2.out.swapC hsm a (a + (m - 1)) (by omega) (by omega) (by omega) (by omega)).mono ?_; rintro e w' ⟨rfl, HQ3, HK3⟩) | (go_at_call 68; refine (sift_q _ _ _ _ _ _ HQ3 0 (m - 1) a (by omega) (by rw [size_swp]; omega) (by rw [size_swp]; omega) _ _ _ (by omega) (by omega) rfl).mono ?_; rintro e w' ⟨rfl, HQ4, HK4⟩))
          go_roundw
          case rel => exact ⟨m - 1, siftDown tlt (m - 1) a 0 (swp dm a (a + (m - 1))), by congr 1; omega, by omega, by rw [sift_size _ _ _ _ _ (Nat.le_refl _), size_swp]; exact hsm, HQ4, (HW2.out.trans HK3).trans HK4, by show _ = _; rw [← HE3.out]; conv => rhs; rw [show m = (m - 1) + 1 by omega, heapPop]⟩
          case measure => simp [intOf]; omega
        · have hz2 : ¬ (0 : Int) ≤ (m : Int) - 1 := by omega
          go_wp2
          go_end0
          refine ⟨rfl, ?_, HW2.out⟩
          have e := HE3.out
          rw [show m = 0 by omega, heapPop] at e
          unfold heapSort; rw [← HE2.out, ← e]; exact HK2.out
end Go.Proofs.Yteiadigafkollaa
