/- sort.insertionSort and sort.reverseRange over a queue's address. -/
import Derived.Test.YteiadigafkollaaRw3
import Derived.Sort.WalkA6
import Derived.Deep.LoopGhost
namespace Go.Proofs.Yteiadigafkollaa
open Go.RowKit Go.Sort Go.Shelf

set_option maxHeartbeats 4000000 in
set_option maxRecDepth 100000 in
theorem insertion_q (w : World) (qb qo X cap : Nat) (d : Array Tm) (h : QAt w qb qo X cap d) (a b : Nat) (hab : a ≤ b) (hb : b ≤ d.size) (hm : d.size ≤ 1000000000000) (x y : Int) (hx : x = a) (hy : y = b) :
    Calls Try.prog 57 #[.iface 74 (.pointer (some ⟨qb, qo, none⟩)), .int .i64 x, .int .i64 y] w fun e w' => e = .returned (.tuple #[]) ∧ QAt w' qb qo X cap (Sort.insertionSort tlt d a b) ∧ Keep X w w' := by
  subst hx hy
  have HQ : Hid _ := h
  clear h
  go_enter Try.func57, Try.ntmps57
  go_wp2
  go_loopw [6] (fun vi wr => ∃ (i : Nat) (dk : Array Tm), vi = .int .i64 i ∧ a < i ∧ i ≤ b + 1 ∧ dk.size = d.size ∧ Hid (QAt wr qb qo X cap dk) ∧ Hid (Keep X w wr) ∧ Hid (insOuter tlt a b i dk = insOuter tlt a b (a + 1) d)) (fun vi _ => b + 1 - (intOf vi).toNat)
  case atStart => exact ⟨a + 1, d, by go_num, by omega, by omega, rfl, HQ, Keep.refl _ _, rfl⟩
  case round =>
    obtain ⟨i, dk, rfl, hai, hib, hs, HK, HW, HO⟩ := hrel
    by_cases hlt : i < b
    · go_wp2
      go_loopw [7] (fun vj wr2 => ∃ (j : Nat) (dj : Array Tm), vj = .int .i64 j ∧ a ≤ j ∧ j ≤ i ∧ dj.size = d.size ∧ Hid (QAt wr2 qb qo X cap dj) ∧ Hid (Keep X w wr2) ∧ Hid (insInner tlt a j dj = insInner tlt a i dk)) (fun vj _ => (intOf vj).toNat)
      case atStart => exact ⟨i, dk, rfl, by omega, Nat.le_refl _, hs, HK, HW, rfl⟩
      case round =>
        obtain ⟨j, dj, rfl, haj, hji, hsj, HK2, HW2, HI⟩ := hrel
        rename_i wr2
        have eL := ent_less
        have eS := ent_swap
        have mL := inv_less HK2.out.head
        have mS := fun n => inv_swap (HK2.out.drewN n).head
        simp only [hsj] at mL mS
        have OUT : Hid (∀ w3, (j ≤ a ∨ tlt dj[j]! dj[j - 1]! = false) → QAt w3 qb qo X cap dj → Keep X w w3 → ∃ (i' : Nat) (dk' : Array Tm), Value.int .i64 ((i : Int) + 1) = .int .i64 i' ∧ a < i' ∧ i' ≤ b + 1 ∧ dk'.size = d.size ∧ Hid (QAt w3 qb qo X cap dk') ∧ Hid (Keep X w w3) ∧ Hid (insOuter tlt a b i' dk' = insOuter tlt a b (a + 1) d)) := fun w3 hst q1 q2 =>
          ⟨i + 1, dj, by go_num, by omega, by omega, hsj, q1, q2, by show _ = _; rw [← HO.out, insOuter_go _ _ _ _ _ hlt, ← HI.out, insInner_stop _ _ _ _ hst]⟩
        by_cases hja : a < j
        · cases hl : tlt dj[j]! dj[j - 1]! with
          | true =>
            go_wp2_with (first | (go_at_fn 92; refine (HK2.out.lessB hsj j (j - 1) (by omega) (by omega) (by omega) (by omega) hl).mono ?_; rintro e w' ⟨rfl, n, rfl⟩) | (go_at_fn 93; refine ((HK2.out.drewN _).swapC hsj j (j - 1) (by omega) (by omega) (by omega) (by omega)).mono ?_; rintro e w' ⟨rfl, HQ3, HK3⟩))
            go_roundw
            case rel =>
              exact ⟨j - 1, swp dj j (j - 1), by congr 1 <;> omega, by omega, by omega, by rw [size_swp]; exact hsj, HQ3, (HW2.out.drewN _).trans HK3, by show _ = _; rw [← HI.out, insInner_go tlt a j dj hja hl]⟩
            case measure => simp [intOf]; omega
          | false =>
            go_wp2_with (go_at_fn 92; refine (HK2.out.lessB hsj j (j - 1) (by omega) (by omega) (by omega) (by omega) hl).mono ?_; rintro e w' ⟨rfl, n, rfl⟩)
            go_roundw
            case rel => exact OUT.out _ (Or.inr hl) (HK2.out.drewN n) (HW2.out.drewN n)
            case measure => simp [intOf]; omega
        · go_wp2
          go_roundw
          case rel => exact OUT.out _ (Or.inl (by omega)) HK2.out HW2.out
          case measure => simp [intOf]; omega
    · go_wp2
      go_end0
      refine ⟨rfl, ?_, HW.out⟩
      unfold Sort.insertionSort; rw [← HO.out, insOuter_stop _ _ _ _ _ hlt]; exact HK.out

set_option maxHeartbeats 4000000 in
set_option maxRecDepth 100000 in
theorem reverse_q (w : World) (qb qo X cap : Nat) (d : Array Tm) (h : QAt w qb qo X cap d) (a b : Nat) (hab : a < b) (hb : b ≤ d.size) (hm : d.size ≤ 1000000000000) (x y : Int) (hx : x = a) (hy : y = b) :
    Calls Try.prog 61 #[.iface 74 (.pointer (some ⟨qb, qo, none⟩)), .int .i64 x, .int .i64 y] w fun e w' => e = .returned (.tuple #[]) ∧ QAt w' qb qo X cap (reverseRange d a b) ∧ Keep X w w' := by
  subst hx hy
  have HQ : Hid _ := h
  clear h
  go_enter Try.func61, Try.ntmps61
  go_wp2
  go_loopw [6, 7] (fun s6 s7 wr => ∃ (i j : Nat) (dk : Array Tm), s6 = .int .i64 i ∧ s7 = .int .i64 j ∧ i ≤ j + 1 ∧ j < b ∧ dk.size = d.size ∧ Hid (QAt wr qb qo X cap dk) ∧ Hid (Keep X w wr) ∧ Hid (reverseLoop i j dk = reverseLoop a (b - 1) d)) (fun _ s7 _ => (intOf s7).toNat)
  case atStart => exact ⟨a, b - 1, d, rfl, by congr 1; omega, by omega, by omega, rfl, HQ, Keep.refl _ _, rfl⟩
  case round =>
    obtain ⟨i, j, dk, rfl, rfl, hij, hjb, hs, HK, HW, HE⟩ := hrel
    rename_i wr
    by_cases hlt : i < j
    · have eS := ent_swap
      have mS := inv_swap HK.out.head
      simp only [hs] at mS
      go_wp2_with (go_at_fn 93; refine (HK.out.swapC hs i j (by omega) (by omega) rfl rfl).mono ?_; rintro e w' ⟨rfl, HQ3, HK3⟩)
      go_roundw
      case rel => exact ⟨i + 1, j - 1, swp dk i j, by go_num, by congr 1; omega, by omega, by omega, by rw [size_swp]; exact hs, HQ3, HW.out.trans HK3, by show _ = _; rw [← HE.out]; conv => rhs; rw [reverseLoop, if_pos hlt]⟩
      case measure => simp [intOf]; omega
    · go_wp2
      go_end0
      refine ⟨rfl, ?_, HW.out⟩
      have e := HE.out
      rw [reverseLoop, if_neg hlt] at e
      unfold reverseRange; rw [← e]; exact HK.out
end Go.Proofs.Yteiadigafkollaa
