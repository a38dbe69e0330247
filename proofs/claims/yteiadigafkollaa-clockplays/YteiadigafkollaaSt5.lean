/- sort.partitionEqual over a queue's address. -/
import Derived.Test.YteiadigafkollaaRw3
import Derived.Sort.WalkC4
namespace Go.Proofs.Yteiadigafkollaa
open Go.RowKit Go.Sort Go.Shelf

set_option maxHeartbeats 16000000 in
set_option maxRecDepth 100000 in
theorem partEq_q (w : World) (qb qo X cap : Nat) (d : Array Tm) (h : QAt w qb qo X cap d) (a b pv : Nat) (hap : a ≤ pv) (hpb : pv < b) (hb : b ≤ d.size) (hm : d.size ≤ 1000000000000) (x y z : Int) (hx : x = a) (hy : y = b) (hz : z = pv) :
    Calls Try.prog 63 #[.iface 74 (.pointer (some ⟨qb, qo, none⟩)), .int .i64 x, .int .i64 y, .int .i64 z] w fun e w' => e = .returned (.int .i64 (partitionEqual tlt d a b pv).1) ∧ QAt w' qb qo X cap (partitionEqual tlt d a b pv).2 ∧ Keep X w w' := by
  subst hx hy hz
  have eS := ent_swap
  have mS := inv_swap h.head
  have S := h.swapC rfl a pv (by omega) (by omega) (x := a) (y := pv) rfl rfl
  clear h
  go_enter Try.func63, Try.ntmps63
  go_wp2_with (go_at_fn 93; refine S.mono ?_; rintro e w1 ⟨rfl, HQ1, HK1⟩)
  clear S mS
  go_loopw [9, 10] (fun s9 s10 wr => ∃ (i j : Nat) (dk : Array Tm), s9 = .int .i64 i ∧ s10 = .int .i64 j ∧ a < i ∧ i ≤ j + 1 ∧ j < b ∧ dk.size = d.size ∧ Hid (QAt wr qb qo X cap dk) ∧ Hid (Keep X w wr) ∧ Hid (partEqLoop tlt a i j dk = partEqLoop tlt a (a + 1) (b - 1) (swp d a pv))) (fun s9 s10 _ => (intOf s10 + 1 - intOf s9).toNat)
  case atStart => exact ⟨a + 1, b - 1, swp d a pv, by go_num, by congr 1; omega, by omega, by omega, by omega, size_swp _ _ _, HQ1, HK1, rfl⟩
  case round =>
    obtain ⟨i, j, dk, rfl, rfl, hai, hij, hjb, hs, HK, HW, HE⟩ := hrel
    clear HQ1 HK1
    go_wp2
    go_loopw [9] (fun v9 wr => ∃ (i' : Nat), v9 = .int .i64 i' ∧ i ≤ i' ∧ i' ≤ j + 1 ∧ Hid (QAt wr qb qo X cap dk) ∧ Hid (Keep X w wr) ∧ Hid (scanUp (fun x => !tlt dk[a]! x) dk (j) i' = scanUp (fun x => !tlt dk[a]! x) dk (j) (i))) (fun v9 _ => j + 1 - (intOf v9).toNat)
    case atStart => exact ⟨i, by first | rfl | go_num, Nat.le_refl _, by omega, HK, HW, rfl⟩
    case round =>
      obtain ⟨iu, rfl, hiua, hiub, Ku, Wu, Eu⟩ := hrel
      rename_i wru
      have eL := ent_less
      have eS := ent_swap
      have mLu := inv_less Ku.out.head
      simp only [hs] at mLu
      by_cases hcu : iu ≤ j
      · cases hlu : tlt dk[a]! dk[iu]! with
        | false =>
          go_wp2_with ((go_at_fn 92; refine (Ku.out.lessB hs (a) (iu) (by omega) (by omega) (by omega) (by omega) hlu).mono ?_; rintro e w' ⟨rfl, nu, rfl⟩))
          go_roundw
          case rel => exact ⟨iu + 1, by go_num, by omega, by omega, Ku.out.drewN _, Wu.out.drewN _, by show _ = _; rw [← Eu.out]; exact (scanUp_go _ _ _ _ hcu (by simp [hlu])).symm⟩
          case measure => simp [intOf]; omega
        | true =>
          have Iu : Hid (iu = scanUp (fun x => !tlt dk[a]! x) dk (j) (i)) := by show _ = _; rw [← Eu.out]; exact (scanUp_end _ _ _ _ (Or.inr (by simp [hlu]))).symm
          go_wp2_with ((go_at_fn 92; refine (Ku.out.lessB hs (a) (iu) (by omega) (by omega) (by omega) (by omega) hlu).mono ?_; rintro e w' ⟨rfl, nu, rfl⟩))
          go_loopw [10] (fun v10 wr => ∃ (j' : Nat), v10 = .int .i64 j' ∧ iu ≤ j' + 1 ∧ j' ≤ j ∧ Hid (QAt wr qb qo X cap dk) ∧ Hid (Keep X w wr) ∧ Hid (scanDown (fun x => tlt dk[a]! x) dk iu j' = scanDown (fun x => tlt dk[a]! x) dk iu (j))) (fun v10 _ => (intOf v10).toNat)
          case atStart => exact ⟨j, by first | rfl | go_num | (congr 1; omega), by omega, Nat.le_refl _, (Ku.out.drewN nu), (Wu.out.drewN nu), rfl⟩
          case round =>
            obtain ⟨jud, rfl, hjuda, hjudb, Kud, Wud, Eud⟩ := hrel
            rename_i wrud
            have mLud := inv_less Kud.out.head
            have mSud := inv_swap Kud.out.head
            have mTud := fun n => inv_swap (Kud.out.drewN n).head
            simp only [hs] at mLud mSud mTud
            by_cases hcud : iu ≤ jud
            · cases hlud : tlt dk[a]! dk[jud]! with
              | true =>
                go_wp2_with ((go_at_fn 92; refine (Kud.out.lessB hs (a) (jud) (by omega) (by omega) (by omega) (by omega) hlud).mono ?_; rintro e w' ⟨rfl, nud, rfl⟩))
                go_roundw
                case rel => exact ⟨jud - 1, by congr 1; omega, by omega, by omega, Kud.out.drewN _, Wud.out.drewN _, by show _ = _; rw [← Eud.out]; exact (scanDown_go _ _ _ _ hcud (by omega) (by simp [hlud])).symm⟩
                case measure => simp [intOf]; omega
              | false =>
                have Jud : Hid (jud = scanDown (fun x => tlt dk[a]! x) dk iu (j)) := by show _ = _; rw [← Eud.out]; exact (scanDown_end _ _ _ _ (Or.inr (by simp [hlud]))).symm
                have hlt' := scans_lt tlt a i j dk (by omega) Iu.out Jud.out hcud
                go_wp2_with (first | (go_at_fn 92; refine (Kud.out.lessB hs (a) (jud) (by omega) (by omega) (by omega) (by omega) hlud).mono ?_; rintro e w' ⟨rfl, nud, rfl⟩) | (go_at_fn 93; refine ((Kud.out.drewN _).swapC hs iu jud (by omega) (by omega) rfl rfl).mono ?_; rintro e w' ⟨rfl, HQ2, HK2⟩))
                go_roundw
                case rel => exact ⟨iu + 1, jud - 1, swp dk iu jud, by go_num, by congr 1; omega, by omega, by omega, by omega, by rw [size_swp]; exact hs, HQ2, (Wud.out.drewN _).trans HK2, by show _ = _; rw [← HE.out]; exact (partEq_go tlt a i j dk Iu.out Jud.out (by omega)).symm⟩
                case measure => simp [intOf]; omega
            · have Jud : Hid (jud = scanDown (fun x => tlt dk[a]! x) dk iu (j)) := by show _ = _; rw [← Eud.out]; exact (scanDown_end _ _ _ _ (Or.inl hcud)).symm
              go_wp2
              go_ret
              have e := partEq_break tlt a i j dk Iu.out Jud.out (by omega)
              unfold partitionEqual
              rw [← HE.out, e]
              exact ⟨rfl, Kud.out, Wud.out⟩
      · have Iu : Hid (iu = scanUp (fun x => !tlt dk[a]! x) dk (j) (i)) := by show _ = _; rw [← Eu.out]; exact (scanUp_end _ _ _ _ (Or.inl hcu)).symm
        go_wp2
        go_loopw [10] (fun v10 wr => ∃ (j' : Nat), v10 = .int .i64 j' ∧ iu ≤ j' + 1 ∧ j' ≤ j ∧ Hid (QAt wr qb qo X cap dk) ∧ Hid (Keep X w wr) ∧ Hid (scanDown (fun x => tlt dk[a]! x) dk iu j' = scanDown (fun x => tlt dk[a]! x) dk iu (j))) (fun v10 _ => (intOf v10).toNat)
        case atStart => exact ⟨j, by first | rfl | go_num | (congr 1; omega), by omega, Nat.le_refl _, Ku.out, Wu.out, rfl⟩
        case round =>
          obtain ⟨jud, rfl, hjuda, hjudb, Kud, Wud, Eud⟩ := hrel
          rename_i wrud
          have mLud := inv_less Kud.out.head
          have mSud := inv_swap Kud.out.head
          have mTud := fun n => inv_swap (Kud.out.drewN n).head
          simp only [hs] at mLud mSud mTud
          by_cases hcud : iu ≤ jud
          · exfalso; omega
          · have Jud : Hid (jud = scanDown (fun x => tlt dk[a]! x) dk iu (j)) := by show _ = _; rw [← Eud.out]; exact (scanDown_end _ _ _ _ (Or.inl hcud)).symm
            go_wp2
            go_ret
            have e := partEq_break tlt a i j dk Iu.out Jud.out (by omega)
            unfold partitionEqual
            rw [← HE.out, e]
            exact ⟨rfl, Kud.out, Wud.out⟩
end Go.Proofs.Yteiadigafkollaa
