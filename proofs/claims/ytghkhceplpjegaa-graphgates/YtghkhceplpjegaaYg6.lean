/- Graph: heap.down. -/
import Derived.Test.YtghkhceplpjegaaYg5
namespace Go.Proofs.Ytghkhceplpjegaa.Hq
open Go.RowKit Go.Sort Go.Shelf

theorem QAt.lessB {w : World} {qb qo X cap : Nat} {d : Array Nat} (h : QAt w qb qo X cap d) {N : Nat} (hN : d.size = N) (i j : Nat) (hi : i < N) (hj : j < N) {x y : Int} (hx : x = i) (hy : y = j) {b : Bool} (hb : nlt d[i]! d[j]! = b) :
    Calls Try.prog 130 #[.slice (some ⟨X, 0, none⟩) N cap, .int .i64 x, .int .i64 y] w fun e w' => e = .returned (.bool b) ∧ ∃ n, w' = w.drewN n := by
  subst hb; exact h.less hN i j hi hj hx hy
theorem kid_right {n i : Nat} {d : Array Nat} (h : 2 * i + 2 < n) (hl : nlt d[2 * i + 2]! d[2 * i + 1]! = true) : kid nlt n i d = 2 * i + 2 := by unfold kid; rw [if_pos (by simp [h, hl])]
theorem kid_left {n i : Nat} {d : Array Nat} (hl : nlt d[2 * i + 2]! d[2 * i + 1]! = false) : kid nlt n i d = 2 * i + 1 := by unfold kid; rw [if_neg (by simp [hl])]
theorem kid_one {n i : Nat} {d : Array Nat} (h : ¬ 2 * i + 2 < n) : kid nlt n i d = 2 * i + 1 := by unfold kid; rw [if_neg (by simp [h])]

set_option maxHeartbeats 8000000 in
set_option maxRecDepth 100000 in
theorem down_any (w : World) (qb qo X cap : Nat) (d : Array Nat) (h : QAt w qb qo X cap d) (i n : Nat) (hn : n ≤ d.size) (hi : i ≤ n) (hm : d.size ≤ 1000000000000) (x y : Int) (hx : x = i) (hy : y = n) :
    Calls Try.prog 77 #[.iface 80 (.pointer (some ⟨qb, qo, none⟩)), .int .i64 x, .int .i64 y] w fun e w' => e = .returned (.bool (decide (i < (hDown nlt n i d).1))) ∧ QAt w' qb qo X cap (hDown nlt n i d).2 ∧ Keep X w w' := by
  subst hx hy
  have HQ : Hid _ := h
  clear h
  go_enter Try.func77, Try.ntmps77
  go_wp2
  go_loopw [7] (fun vj wr => ∃ (k : Nat) (dk : Array Nat), vj = .int .i64 k ∧ k ≤ n ∧ dk.size = d.size ∧ Hid (QAt wr qb qo X cap dk) ∧ Hid (Keep X w wr) ∧ Hid (hDown nlt n k dk = hDown nlt n i d)) (fun vj _ => n - (intOf vj).toNat)
  case atStart => exact ⟨i, d, rfl, hi, rfl, HQ, Keep.refl _ _, rfl⟩
  case round =>
    obtain ⟨k, dk, rfl, hk, hs, HK, HW, HE⟩ := hrel
    rename_i wr
    have eL := ent_less
    have eS := ent_swap
    have mL := inv_less HK.out.head
    have mL1 := fun n => inv_less (HK.out.drewN n).head
    have mS := fun n => inv_swap (HK.out.drewN n).head
    simp only [hs] at mL mL1 mS
    by_cases hc : 2 * k + 1 < n
    · have hc1 : ¬ ((n : Int) ≤ 2 * (k : Int) + 1) := by omega
      have hc0 : ¬ (2 * (k : Int) + 1 < 0) := by omega
      by_cases hr : 2 * k + 2 < n
      · have hr1 : 2 * (k : Int) + 1 + 1 < (n : Int) := by omega
        cases hL : nlt dk[2 * k + 2]! dk[2 * k + 1]! with
        | true =>
          have hK := kid_right (n := n) hr hL
          cases hG : nlt dk[2 * k + 2]! dk[k]! with
          | false =>
            go_wp2_with (first | (go_at_fn 130; refine (HK.out.lessB hs (2 * k + 2) (2 * k + 1) (by omega) (by omega) (by omega) (by omega) hL).mono ?_; rintro e w' ⟨rfl, n1, rfl⟩) | (go_at_fn 130; refine ((HK.out.drewN _).lessB hs (2 * k + 2) k (by omega) (by omega) (by omega) (by omega) hG).mono ?_; rintro e w' ⟨rfl, n2, rfl⟩))
            go_ret
            refine ⟨ret_bool ?_, ?_, (HW.out.drewN _)⟩
            · rw [← HE.out, hDown_stop (by rw [hK]; exact hG)]; try (congr 1; simp)
            · rw [← HE.out, hDown_stop (by rw [hK]; exact hG)]; exact (HK.out.drewN _)
          | true =>
            go_wp2_with (first | (go_at_fn 130; refine (HK.out.lessB hs (2 * k + 2) (2 * k + 1) (by omega) (by omega) (by omega) (by omega) hL).mono ?_; rintro e w' ⟨rfl, n1, rfl⟩) | (go_at_fn 130; refine ((HK.out.drewN _).lessB hs (2 * k + 2) k (by omega) (by omega) (by omega) (by omega) hG).mono ?_; rintro e w' ⟨rfl, n2, rfl⟩) | (go_at_fn 131; refine ((HK.out.drewN _).swapC hs k (2 * k + 2) (by omega) (by omega) (by omega) (by omega)).mono ?_; rintro e w' ⟨rfl, HQ2, HK2⟩))
            go_roundw
            case rel => exact ⟨2 * k + 2, swp dk k (2 * k + 2), by first | rfl | go_num, by omega, by rw [size_swp]; exact hs, HQ2, (HW.out.drewN _).trans HK2, by show _ = _; rw [← HE.out, hDown_go hc (by rw [hK]; exact hG), hK]⟩
            case measure => simp [intOf]; omega
        | false =>
          have hK := kid_left (n := n) hL
          cases hG : nlt dk[2 * k + 1]! dk[k]! with
          | false =>
            go_wp2_with (first | (go_at_fn 130; refine (HK.out.lessB hs (2 * k + 2) (2 * k + 1) (by omega) (by omega) (by omega) (by omega) hL).mono ?_; rintro e w' ⟨rfl, n1, rfl⟩) | (go_at_fn 130; refine ((HK.out.drewN _).lessB hs (2 * k + 1) k (by omega) (by omega) (by omega) (by omega) hG).mono ?_; rintro e w' ⟨rfl, n2, rfl⟩))
            go_ret
            refine ⟨ret_bool ?_, ?_, (HW.out.drewN _)⟩
            · rw [← HE.out, hDown_stop (by rw [hK]; exact hG)]; try (congr 1; simp)
            · rw [← HE.out, hDown_stop (by rw [hK]; exact hG)]; exact (HK.out.drewN _)
          | true =>
            go_wp2_with (first | (go_at_fn 130; refine (HK.out.lessB hs (2 * k + 2) (2 * k + 1) (by omega) (by omega) (by omega) (by omega) hL).mono ?_; rintro e w' ⟨rfl, n1, rfl⟩) | (go_at_fn 130; refine ((HK.out.drewN _).lessB hs (2 * k + 1) k (by omega) (by omega) (by omega) (by omega) hG).mono ?_; rintro e w' ⟨rfl, n2, rfl⟩) | (go_at_fn 131; refine ((HK.out.drewN _).swapC hs k (2 * k + 1) (by omega) (by omega) (by omega) (by omega)).mono ?_; rintro e w' ⟨rfl, HQ2, HK2⟩))
            go_roundw
            case rel => exact ⟨2 * k + 1, swp dk k (2 * k + 1), by first | rfl | go_num, by omega, by rw [size_swp]; exact hs, HQ2, (HW.out.drewN _).trans HK2, by show _ = _; rw [← HE.out, hDown_go hc (by rw [hK]; exact hG), hK]⟩
            case measure => simp [intOf]; omega
      · have hr1 : ¬ 2 * (k : Int) + 1 + 1 < (n : Int) := by omega
        have hK := kid_one (d := dk) hr
        cases hG : nlt dk[2 * k + 1]! dk[k]! with
        | false =>
          go_wp2_with (first | (go_at_fn 130; refine (HK.out.lessB hs (2 * k + 1) k (by omega) (by omega) (by omega) (by omega) hG).mono ?_; rintro e w' ⟨rfl, n2, rfl⟩))
          go_ret
          refine ⟨ret_bool ?_, ?_, (HW.out.drewN _)⟩
          · rw [← HE.out, hDown_stop (by rw [hK]; exact hG)]; try (congr 1; simp)
          · rw [← HE.out, hDown_stop (by rw [hK]; exact hG)]; exact (HK.out.drewN _)
        | true =>
          go_wp2_with (first | (go_at_fn 130; refine (HK.out.lessB hs (2 * k + 1) k (by omega) (by omega) (by omega) (by omega) hG).mono ?_; rintro e w' ⟨rfl, n2, rfl⟩) | (go_at_fn 131; refine ((HK.out.drewN _).swapC hs k (2 * k + 1) (by omega) (by omega) (by omega) (by omega)).mono ?_; rintro e w' ⟨rfl, HQ2, HK2⟩))
          go_roundw
          case rel => exact ⟨2 * k + 1, swp dk k (2 * k + 1), by first | rfl | go_num, by omega, by rw [size_swp]; exact hs, HQ2, (HW.out.drewN _).trans HK2, by show _ = _; rw [← HE.out, hDown_go hc (by rw [hK]; exact hG), hK]⟩
          case measure => simp [intOf]; omega
    · have hc1 : (n : Int) ≤ 2 * (k : Int) + 1 := by omega
      go_wp2
      go_ret
      refine ⟨ret_bool ?_, ?_, HW.out⟩
      · rw [← HE.out, hDown_end (by omega)]; try (congr 1; simp)
      · rw [← HE.out, hDown_end (by omega)]; exact HK.out
end Go.Proofs.Ytghkhceplpjegaa.Hq
