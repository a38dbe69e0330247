/- The walk of the reference's 'from': how many bytes of a word begin at a place. -/
import Derived.Test.YthckmpjokabkcaaDoorTok5
namespace Go.Proofs.YthckmpjokabkcaaDoor
open Go.RowKit

set_option maxHeartbeats 2000000 in
theorem from_any (s : ByteArray) (n : Nat) (w : World) (hs : s.size ≤ 65536) (hn : n ≤ s.size) :
    Calls Tryd.prog 44 #[.string s, .int .i64 n] w fun e w' => e = .returned (.int .i64 (wLen (s.data.toList.drop n) : Nat)) ∧ w' = w := by
  obtain ⟨E, hE⟩ : ∃ E, E = wLen (s.data.toList.drop n) := ⟨_, rfl⟩
  rw [← hE]
  have HE : Hid (E = wLen (s.data.toList.drop n)) := hE
  clear hE
  by_cases hlt : n < s.size
  · have HD : Hid (s.data.toList.drop n = s[n] :: s.data.toList.drop (n + 1)) := drop_cons s n hlt
    have hnn : ¬ s.size ≤ n := by omega
    have hc : (s[n].toNat : Int) ≤ 255 := by have := UInt8.toNat_lt s[n]; omega
    by_cases hsm : 97 ≤ (s[n].toNat : Int) ∧ (s[n].toNat : Int) ≤ 122
    · obtain ⟨h1, h2⟩ := hsm
      have HE2 : Hid (E = 1 + ptLen (s.data.toList.drop (n + 1))) := by show _ = _; rw [HE.out, HD.out, wLen_cons_pos (isSm_t h1 h2)]; omega
      clear HE HD
      go_enter Tryd.func44, Tryd.ntmps44
      go_wp2
      go_loop [5] (fun i => ∃ k : Nat, 1 ≤ k ∧ n + k ≤ s.size ∧ i = .int .i64 k ∧ Hid (E = k + ptLen (s.data.toList.drop (n + k)))) (fun i => s.size - (intOf i).toNat)
      case atStart => exact ⟨1, Nat.le_refl _, by omega, rfl, HE2⟩
      case round =>
        obtain ⟨k, hk, hks, rfl, HR⟩ := hrel
        clear HE2
        by_cases hl2 : n + k < s.size
        · have HD2 : Hid (s.data.toList.drop (n + k) = s[n + k] :: s.data.toList.drop (n + k + 1)) := drop_cons s (n + k) hl2
          have hc2 : (s[n + k].toNat : Int) ≤ 255 := by have := UInt8.toNat_lt s[n + k]; omega
          have hl3 : (n : Int) + (k : Int) < (s.size : Int) := by omega
          by_cases hp : (97 ≤ (s[n + k].toNat : Int) ∧ (s[n + k].toNat : Int) ≤ 122) ∨ (48 ≤ (s[n + k].toNat : Int) ∧ (s[n + k].toNat : Int) ≤ 57) ∨ (s[n + k].toNat : Int) = 95
          · have HP : Hid (isPt s[n + k] = true) := isPt_t hp
            have fin : ∃ k1 : Nat, 1 ≤ k1 ∧ n + k1 ≤ s.size ∧ Value.int IntKind.i64 ((k : Int) + 1) = .int .i64 k1 ∧ Hid (E = k1 + ptLen (s.data.toList.drop (n + k1))) := by
              refine ⟨k + 1, by omega, by omega, by go_num, ?_⟩
              show _ = _
              rw [HR.out, HD2.out, ptLen_cons_pos HP.out, Nat.add_assoc n k 1]; omega
            have FIN : Hid _ := fin
            clear fin
            rcases hp with ⟨g1, g2⟩ | ⟨g1, g2⟩ | g1
            all_goals
              go_wp2
              go_round
              case rel => exact FIN.out
              case measure => simp [intOf]; omega
          · have HP : Hid (isPt s[n + k] = false) := isPt_f hp
            have hEk : E = k := by rw [HR.out, HD2.out, ptLen_cons_neg HP.out]; rfl
            subst hEk
            have a3b : ((s[n + E].toNat : Int) == 95) = false := by simp; omega
            rcases (by omega : 122 < (s[n + E].toNat : Int) ∨ (57 < (s[n + E].toNat : Int) ∧ (s[n + E].toNat : Int) < 97) ∨ (s[n + E].toNat : Int) < 48) with g1 | ⟨g1, g2⟩ | g1
            · have c1 : ¬ (s[n + E].toNat : Int) ≤ 122 := by omega
              have c2 : ¬ (s[n + E].toNat : Int) ≤ 57 := by omega
              clear hp
              go_wp2
              go_ret
              exact ⟨rfl, rfl⟩
            · have c1 : ¬ 97 ≤ (s[n + E].toNat : Int) := by omega
              have c2 : ¬ (s[n + E].toNat : Int) ≤ 57 := by omega
              clear hp
              go_wp2
              go_ret
              exact ⟨rfl, rfl⟩
            · have c1 : ¬ 97 ≤ (s[n + E].toNat : Int) := by omega
              have c2 : ¬ 48 ≤ (s[n + E].toNat : Int) := by omega
              clear hp
              go_wp2
              go_ret
              exact ⟨rfl, rfl⟩
        · have hEk : E = k := by rw [HR.out, drop_end s (n + k) (by omega)]; rfl
          subst hEk
          have hl3 : ¬ (n : Int) + (E : Int) < (s.size : Int) := by omega
          go_wp2
          go_ret
          exact ⟨rfl, rfl⟩
    · have hE0 : E = 0 := by rw [HE.out, HD.out, wLen_cons_neg (isSm_f hsm)]
      subst hE0
      rcases (by omega : (s[n].toNat : Int) < 97 ∨ 122 < (s[n].toNat : Int)) with g1 | g1
      all_goals
        clear hsm
        go_enter Tryd.func44, Tryd.ntmps44
        go_wp2
        go_ret
        exact ⟨rfl, rfl⟩
  · have hE0 : E = 0 := by rw [HE.out, drop_end s n (by omega)]; rfl
    subst hE0
    have hnn : s.size ≤ n := by omega
    go_enter Tryd.func44, Tryd.ntmps44
    go_wp2
    go_ret
    exact ⟨rfl, rfl⟩
end Go.Proofs.YthckmpjokabkcaaDoor
