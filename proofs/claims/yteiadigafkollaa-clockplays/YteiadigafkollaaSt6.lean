/- sort.partition over a queue's address. -/
import Derived.Test.YteiadigafkollaaRw3
import Derived.Sort.WalkC4
namespace Go.Proofs.Yteiadigafkollaa
open Go.RowKit Go.Sort Go.Shelf

set_option maxHeartbeats 32000000 in
set_option maxRecDepth 100000 in
theorem part_q (w : World) (qb qo X cap : Nat) (d : Array Tm) (h : QAt w qb qo X cap d) (a b pv : Nat) (hap : a ≤ pv) (hpb : pv < b) (hb : b ≤ d.size) (hm : d.size ≤ 1000000000000) (x y z : Int) (hx : x = a) (hy : y = b) (hz : z = pv) :
    Calls Try.prog 64 #[.iface 74 (.pointer (some ⟨qb, qo, none⟩)), .int .i64 x, .int .i64 y, .int .i64 z] w fun e w' => e = .returned (.tuple #[.int .i64 (partition tlt d a b pv).1, .bool (partition tlt d a b pv).2.1]) ∧ QAt w' qb qo X cap (partition tlt d a b pv).2.2 ∧ Keep X w w' := by
  subst hx hy hz
  have eS := ent_swap
  have mS := inv_swap h.head
  have S := h.swapC rfl a pv (by omega) (by omega) (x := a) (y := pv) rfl rfl
  obtain ⟨d1, hd1⟩ : ∃ d1, d1 = swp d a pv := ⟨_, rfl⟩
  have h1 : d1.size = d.size := by rw [hd1, size_swp]
  rw [← hd1] at S
  have HD : Hid (d1 = swp d a pv) := hd1
  clear h hd1
  go_enter Try.func64, Try.ntmps64
  go_wp2_with (go_at_fn 93; refine S.mono ?_; rintro e w1 ⟨rfl, HQ1, HK1⟩)
  clear S mS
  go_loopw [10] (fun v9 wr => ∃ (i' : Nat), v9 = .int .i64 i' ∧ (a + 1) ≤ i' ∧ i' ≤ (b - 1) + 1 ∧ Hid (QAt wr qb qo X cap d1) ∧ Hid (Keep X w wr) ∧ Hid (scanUp (fun x => tlt x d1[a]!) d1 ((b - 1)) i' = scanUp (fun x => tlt x d1[a]!) d1 ((b - 1)) ((a + 1)))) (fun v9 _ => (b - 1) + 1 - (intOf v9).toNat)
  case atStart => exact ⟨(a + 1), by first | rfl | go_num, Nat.le_refl _, by omega, HQ1, HK1, rfl⟩
  case round =>
    obtain ⟨ip, rfl, hipa, hipb, Kp, Wp, Ep⟩ := hrel
    rename_i wrp
    have eL := ent_less
    have eS := ent_swap
    have mLp := inv_less Kp.out.head
    simp only [h1] at mLp
    by_cases hcp : ip ≤ (b - 1)
    · cases hlp : tlt d1[ip]! d1[a]! with
      | true =>
        go_wp2_with ((go_at_fn 92; refine (Kp.out.lessB h1 (ip) (a) (by omega) (by omega) (by omega) (by omega) hlp).mono ?_; rintro e w' ⟨rfl, np, rfl⟩))
        go_roundw
        case rel => exact ⟨ip + 1, by go_num, by omega, by omega, Kp.out.drewN _, Wp.out.drewN _, by show _ = _; rw [← Ep.out]; exact (scanUp_go _ _ _ _ hcp (by simp [hlp])).symm⟩
        case measure => simp [intOf]; omega
      | false =>
        have Ip : Hid (ip = scanUp (fun x => tlt x d1[a]!) d1 ((b - 1)) ((a + 1))) := by show _ = _; rw [← Ep.out]; exact (scanUp_end _ _ _ _ (Or.inr (by simp [hlp]))).symm
        go_wp2_with ((go_at_fn 92; refine (Kp.out.lessB h1 (ip) (a) (by omega) (by omega) (by omega) (by omega) hlp).mono ?_; rintro e w' ⟨rfl, np, rfl⟩))
        go_loopw [11] (fun v10 wr => ∃ (j' : Nat), v10 = .int .i64 j' ∧ ip ≤ j' + 1 ∧ j' ≤ (b - 1) ∧ Hid (QAt wr qb qo X cap d1) ∧ Hid (Keep X w wr) ∧ Hid (scanDown (fun x => !tlt x d1[a]!) d1 ip j' = scanDown (fun x => !tlt x d1[a]!) d1 ip ((b - 1)))) (fun v10 _ => (intOf v10).toNat)
        case atStart => exact ⟨(b - 1), by first | rfl | go_num | (congr 1; omega), by omega, Nat.le_refl _, (Kp.out.drewN np), (Wp.out.drewN np), rfl⟩
        case round =>
          obtain ⟨jpd, rfl, hjpda, hjpdb, Kpd, Wpd, Epd⟩ := hrel
          rename_i wrpd
          have mLpd := inv_less Kpd.out.head
          have mSpd := inv_swap Kpd.out.head
          have mTpd := fun n => inv_swap (Kpd.out.drewN n).head
          simp only [h1] at mLpd mSpd mTpd
          by_cases hcpd : ip ≤ jpd
          · cases hlpd : tlt d1[jpd]! d1[a]! with
            | false =>
              go_wp2_with ((go_at_fn 92; refine (Kpd.out.lessB h1 (jpd) (a) (by omega) (by omega) (by omega) (by omega) hlpd).mono ?_; rintro e w' ⟨rfl, npd, rfl⟩))
              go_roundw
              case rel => exact ⟨jpd - 1, by congr 1; omega, by omega, by omega, Kpd.out.drewN _, Wpd.out.drewN _, by show _ = _; rw [← Epd.out]; exact (scanDown_go _ _ _ _ hcpd (by omega) (by simp [hlpd])).symm⟩
              case measure => simp [intOf]; omega
            | true =>
              have Jpd : Hid (jpd = scanDown (fun x => !tlt x d1[a]!) d1 ip ((b - 1))) := by show _ = _; rw [← Epd.out]; exact (scanDown_end _ _ _ _ (Or.inr (by simp [hlpd]))).symm
              have hlt' := part_scans_lt tlt a (a + 1) (b - 1) d1 (by omega) Ip.out Jpd.out hcpd
              have HP : Hid (partition tlt d a b pv = ((partLoop tlt a (ip + 1) (jpd - 1) (swp d1 ip jpd)).1, false, swp (partLoop tlt a (ip + 1) (jpd - 1) (swp d1 ip jpd)).2 (partLoop tlt a (ip + 1) (jpd - 1) (swp d1 ip jpd)).1 a)) := part_first_go tlt d a b pv rfl rfl HD.out Ip.out Jpd.out (by omega)
              go_wp2_with (first | (go_at_fn 92; refine (Kpd.out.lessB h1 (jpd) (a) (by omega) (by omega) (by omega) (by omega) hlpd).mono ?_; rintro e w' ⟨rfl, npd, rfl⟩) | (go_at_fn 93; refine ((Kpd.out.drewN _).swapC h1 ip jpd (by omega) (by omega) rfl rfl).mono ?_; rintro e w' ⟨rfl, HQ2, HK2⟩))
              have HW2 : Hid (Keep X w w') := (Wpd.out.drewN _).trans HK2
              go_loopw [10, 11] (fun s9 s10 wr => ∃ (i j : Nat) (dk : Array Tm), s9 = .int .i64 i ∧ s10 = .int .i64 j ∧ a < i ∧ i ≤ j + 1 ∧ j < b ∧ dk.size = d.size ∧ Hid (QAt wr qb qo X cap dk) ∧ Hid (Keep X w wr) ∧ Hid (partLoop tlt a i j dk = partLoop tlt a (ip + 1) (jpd - 1) (swp d1 ip jpd))) (fun s9 s10 _ => (intOf s10 + 1 - intOf s9).toNat)
              case atStart => exact ⟨ip + 1, jpd - 1, swp d1 ip jpd, by go_num, by congr 1; omega, by omega, by omega, by omega, by rw [size_swp]; exact h1, HQ2, HW2, rfl⟩
              case round =>
                obtain ⟨i, j, dk, rfl, rfl, hai, hij, hjb, hs, HK, HW, HE⟩ := hrel
                clear HQ2 HK2 HW2 mLp mLpd mSpd mTpd
                go_wp2
                go_loopw [10] (fun v9 wr => ∃ (i' : Nat), v9 = .int .i64 i' ∧ i ≤ i' ∧ i' ≤ j + 1 ∧ Hid (QAt wr qb qo X cap dk) ∧ Hid (Keep X w wr) ∧ Hid (scanUp (fun x => tlt x dk[a]!) dk (j) i' = scanUp (fun x => tlt x dk[a]!) dk (j) (i))) (fun v9 _ => j + 1 - (intOf v9).toNat)
                case atStart => exact ⟨i, by first | rfl | go_num, Nat.le_refl _, by omega, HK, HW, rfl⟩
                case round =>
                  obtain ⟨ig, rfl, higa, higb, Kg, Wg, Eg⟩ := hrel
                  rename_i wrg
                  have eL := ent_less
                  have eS := ent_swap
                  have mLg := inv_less Kg.out.head
                  simp only [hs] at mLg
                  by_cases hcg : ig ≤ j
                  · cases hlg : tlt dk[ig]! dk[a]! with
                    | true =>
                      go_wp2_with ((go_at_fn 92; refine (Kg.out.lessB hs (ig) (a) (by omega) (by omega) (by omega) (by omega) hlg).mono ?_; rintro e w' ⟨rfl, ng, rfl⟩))
                      go_roundw
                      case rel => exact ⟨ig + 1, by go_num, by omega, by omega, Kg.out.drewN _, Wg.out.drewN _, by show _ = _; rw [← Eg.out]; exact (scanUp_go _ _ _ _ hcg (by simp [hlg])).symm⟩
                      case measure => simp [intOf]; omega
                    | false =>
                      have Ig : Hid (ig = scanUp (fun x => tlt x dk[a]!) dk (j) (i)) := by show _ = _; rw [← Eg.out]; exact (scanUp_end _ _ _ _ (Or.inr (by simp [hlg]))).symm
                      go_wp2_with ((go_at_fn 92; refine (Kg.out.lessB hs (ig) (a) (by omega) (by omega) (by omega) (by omega) hlg).mono ?_; rintro e w' ⟨rfl, ng, rfl⟩))
                      go_loopw [11] (fun v10 wr => ∃ (j' : Nat), v10 = .int .i64 j' ∧ ig ≤ j' + 1 ∧ j' ≤ j ∧ Hid (QAt wr qb qo X cap dk) ∧ Hid (Keep X w wr) ∧ Hid (scanDown (fun x => !tlt x dk[a]!) dk ig j' = scanDown (fun x => !tlt x dk[a]!) dk ig (j))) (fun v10 _ => (intOf v10).toNat)
                      case atStart => exact ⟨j, by first | rfl | go_num | (congr 1; omega), by omega, Nat.le_refl _, (Kg.out.drewN ng), (Wg.out.drewN ng), rfl⟩
                      case round =>
                        obtain ⟨jgd, rfl, hjgda, hjgdb, Kgd, Wgd, Egd⟩ := hrel
                        rename_i wrgd
                        have mLgd := inv_less Kgd.out.head
                        have mSgd := inv_swap Kgd.out.head
                        have mTgd := fun n => inv_swap (Kgd.out.drewN n).head
                        simp only [hs] at mLgd mSgd mTgd
                        by_cases hcgd : ig ≤ jgd
                        · cases hlgd : tlt dk[jgd]! dk[a]! with
                          | false =>
                            go_wp2_with ((go_at_fn 92; refine (Kgd.out.lessB hs (jgd) (a) (by omega) (by omega) (by omega) (by omega) hlgd).mono ?_; rintro e w' ⟨rfl, ngd, rfl⟩))
                            go_roundw
                            case rel => exact ⟨jgd - 1, by congr 1; omega, by omega, by omega, Kgd.out.drewN _, Wgd.out.drewN _, by show _ = _; rw [← Egd.out]; exact (scanDown_go _ _ _ _ hcgd (by omega) (by simp [hlgd])).symm⟩
                            case measure => simp [intOf]; omega
                          | true =>
                            have Jgd : Hid (jgd = scanDown (fun x => !tlt x dk[a]!) dk ig (j)) := by show _ = _; rw [← Egd.out]; exact (scanDown_end _ _ _ _ (Or.inr (by simp [hlgd]))).symm
                            have hlt' := part_scans_lt tlt a i j dk (by omega) Ig.out Jgd.out hcgd
                            go_wp2_with (first | (go_at_fn 92; refine (Kgd.out.lessB hs (jgd) (a) (by omega) (by omega) (by omega) (by omega) hlgd).mono ?_; rintro e w' ⟨rfl, ngd, rfl⟩) | (go_at_fn 93; refine ((Kgd.out.drewN _).swapC hs ig jgd (by omega) (by omega) rfl rfl).mono ?_; rintro e w' ⟨rfl, HQ2, HK2⟩))
                            go_roundw
                            case rel => exact ⟨ig + 1, jgd - 1, swp dk ig jgd, by go_num, by congr 1; omega, by omega, by omega, by omega, by rw [size_swp]; exact hs, HQ2, (Wgd.out.drewN _).trans HK2, by show _ = _; rw [← HE.out]; exact (part_go tlt a i j dk Ig.out Jgd.out (by omega)).symm⟩
                            case measure => simp [intOf]; omega
                        · have Jgd : Hid (jgd = scanDown (fun x => !tlt x dk[a]!) dk ig (j)) := by show _ = _; rw [← Egd.out]; exact (scanDown_end _ _ _ _ (Or.inl hcgd)).symm
                          have e := part_break tlt a i j dk Ig.out Jgd.out (by omega)
                          have HP' : Hid (partition tlt d a b pv = (jgd, false, swp dk jgd a)) := by show _ = _; rw [HP.out, ← HE.out, e]
                          clear e
                          go_wp2_with (first | (go_at_fn 93; refine (Kgd.out.swapC hs jgd a (by omega) (by omega) rfl rfl).mono ?_; rintro e w' ⟨rfl, HQ2, HK2⟩))
                          go_ret2
                          rw [HP'.out]
                          exact ⟨rfl, HQ2, Wgd.out.trans HK2⟩
                  · have Ig : Hid (ig = scanUp (fun x => tlt x dk[a]!) dk (j) (i)) := by show _ = _; rw [← Eg.out]; exact (scanUp_end _ _ _ _ (Or.inl hcg)).symm
                    go_wp2
                    go_loopw [11] (fun v10 wr => ∃ (j' : Nat), v10 = .int .i64 j' ∧ ig ≤ j' + 1 ∧ j' ≤ j ∧ Hid (QAt wr qb qo X cap dk) ∧ Hid (Keep X w wr) ∧ Hid (scanDown (fun x => !tlt x dk[a]!) dk ig j' = scanDown (fun x => !tlt x dk[a]!) dk ig (j))) (fun v10 _ => (intOf v10).toNat)
                    case atStart => exact ⟨j, by first | rfl | go_num | (congr 1; omega), by omega, Nat.le_refl _, Kg.out, Wg.out, rfl⟩
                    case round =>
                      obtain ⟨jgd, rfl, hjgda, hjgdb, Kgd, Wgd, Egd⟩ := hrel
                      rename_i wrgd
                      have mLgd := inv_less Kgd.out.head
                      have mSgd := inv_swap Kgd.out.head
                      have mTgd := fun n => inv_swap (Kgd.out.drewN n).head
                      simp only [hs] at mLgd mSgd mTgd
                      by_cases hcgd : ig ≤ jgd
                      · exfalso; omega
                      · have Jgd : Hid (jgd = scanDown (fun x => !tlt x dk[a]!) dk ig (j)) := by show _ = _; rw [← Egd.out]; exact (scanDown_end _ _ _ _ (Or.inl hcgd)).symm
                        have e := part_break tlt a i j dk Ig.out Jgd.out (by omega)
                        have HP' : Hid (partition tlt d a b pv = (jgd, false, swp dk jgd a)) := by show _ = _; rw [HP.out, ← HE.out, e]
                        clear e
                        go_wp2_with (first | (go_at_fn 93; refine (Kgd.out.swapC hs jgd a (by omega) (by omega) rfl rfl).mono ?_; rintro e w' ⟨rfl, HQ2, HK2⟩))
                        go_ret2
                        rw [HP'.out]
                        exact ⟨rfl, HQ2, Wgd.out.trans HK2⟩
          · have Jpd : Hid (jpd = scanDown (fun x => !tlt x d1[a]!) d1 ip ((b - 1))) := by show _ = _; rw [← Epd.out]; exact (scanDown_end _ _ _ _ (Or.inl hcpd)).symm
            have HP' : Hid (partition tlt d a b pv = (jpd, true, swp d1 jpd a)) := part_first_break tlt d a b pv rfl rfl HD.out Ip.out Jpd.out (by omega)
            go_wp2_with (first | (go_at_fn 93; refine (Kpd.out.swapC h1 jpd a (by omega) (by omega) rfl rfl).mono ?_; rintro e w' ⟨rfl, HQ2, HK2⟩))
            go_ret2
            rw [HP'.out]
            exact ⟨rfl, HQ2, Wpd.out.trans HK2⟩
    · have Ip : Hid (ip = scanUp (fun x => tlt x d1[a]!) d1 ((b - 1)) ((a + 1))) := by show _ = _; rw [← Ep.out]; exact (scanUp_end _ _ _ _ (Or.inl hcp)).symm
      go_wp2
      go_loopw [11] (fun v10 wr => ∃ (j' : Nat), v10 = .int .i64 j' ∧ ip ≤ j' + 1 ∧ j' ≤ (b - 1) ∧ Hid (QAt wr qb qo X cap d1) ∧ Hid (Keep X w wr) ∧ Hid (scanDown (fun x => !tlt x d1[a]!) d1 ip j' = scanDown (fun x => !tlt x d1[a]!) d1 ip ((b - 1)))) (fun v10 _ => (intOf v10).toNat)
      case atStart => exact ⟨(b - 1), by first | rfl | go_num | (congr 1; omega), by omega, Nat.le_refl _, Kp.out, Wp.out, rfl⟩
      case round =>
        obtain ⟨jpd, rfl, hjpda, hjpdb, Kpd, Wpd, Epd⟩ := hrel
        rename_i wrpd
        have mLpd := inv_less Kpd.out.head
        have mSpd := inv_swap Kpd.out.head
        have mTpd := fun n => inv_swap (Kpd.out.drewN n).head
        simp only [h1] at mLpd mSpd mTpd
        by_cases hcpd : ip ≤ jpd
        · exfalso; omega
        · have Jpd : Hid (jpd = scanDown (fun x => !tlt x d1[a]!) d1 ip ((b - 1))) := by show _ = _; rw [← Epd.out]; exact (scanDown_end _ _ _ _ (Or.inl hcpd)).symm
          have HP' : Hid (partition tlt d a b pv = (jpd, true, swp d1 jpd a)) := part_first_break tlt d a b pv rfl rfl HD.out Ip.out Jpd.out (by omega)
          go_wp2_with (first | (go_at_fn 93; refine (Kpd.out.swapC h1 jpd a (by omega) (by omega) rfl rfl).mono ?_; rintro e w' ⟨rfl, HQ2, HK2⟩))
          go_ret2
          rw [HP'.out]
          exact ⟨rfl, HQ2, Wpd.out.trans HK2⟩
end Go.Proofs.Yteiadigafkollaa
