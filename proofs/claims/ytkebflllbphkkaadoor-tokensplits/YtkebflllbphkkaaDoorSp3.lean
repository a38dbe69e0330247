/- Sorting: rotation; insertion. -/
import Derived.Test.YtkebflllbphkkaaDoorSp2
import Derived.Test.YtkebflllbphkkaaDoorSr1
namespace Go.Proofs.YtkebflllbphkkaaDoor
open Go.RowKit

set_option maxHeartbeats 8000000 in
set_option maxRecDepth 100000 in
theorem rotate_any {cap : Nat} (N : Nat) (w0 w : World) (g n fn : Nat) (cp : Array Value) (D : List Int) (a m b : Nat) (h : SD cap N w0 w g n D) (ham : a < m) (hmb : m < b) (hb : b ≤ n) (hn : n ≤ 100000) :
    Calls Tryd.prog 81 #[.slice (some ⟨g, 0, none⟩) n cap, .int .i64 a, .int .i64 m, .int .i64 b, .func (.func fn) #[] cp] w fun e w' => e = .returned (.tuple #[]) ∧ ∃ E, SD cap N w0 w' g n E ∧ (∀ k, gD E k = rotV D a m b k) ∧ Rel a b D E := by
  have hln := h.ln
  have SW : Hid (∀ (W : World) (E : List Int) (a b t : Nat), SD cap N w0 W g n E → a + t ≤ b → b + t ≤ n → Calls Tryd.prog 84 #[.slice (some ⟨g, 0, none⟩) n cap, .int .i64 a, .int .i64 b, .int .i64 t, .func (.func fn) #[] cp] W fun e w' => e = .returned (.tuple #[]) ∧ ∃ F, SD cap N w0 w' g n F ∧ SwR E F a b t ∧ Rel a (b + t) E F) := fun W E a b t h1 h2 h3 => swapRange_any N w0 W g n fn cp E a b t h1 h2 h3 hn
  have H0 : Hid (SD cap N w0 w g n D ∧ (∀ k, rotV D (m - (m - a)) m (m + (b - m)) k = rotV D a m b k) ∧ Rel a b D D) := ⟨h, fun k => by rw [show m - (m - a) = a by omega, show m + (b - m) = b by omega], Rel.refl _ _ _⟩
  obtain ⟨i0, hi0⟩ : ∃ i0, i0 = m - a := ⟨_, rfl⟩
  obtain ⟨j0, hj0⟩ : ∃ j0, j0 = b - m := ⟨_, rfl⟩
  rw [← hi0, ← hj0] at H0
  clear h
  go_enter Tryd.func81, Tryd.ntmps81
  go_wp2_with fail
  go_loopw [10, 11] (fun v10 v11 wr => ∃ (i j : Nat) (E : List Int) (wk : World), v10 = .int .i64 i ∧ v11 = .int .i64 j ∧ wk = wr ∧ 1 ≤ i ∧ 1 ≤ j ∧ a + i ≤ m ∧ m + j ≤ b ∧ Hid (SD cap N w0 wk g n E ∧ (∀ k, rotV E (m - i) m (m + j) k = rotV D a m b k) ∧ Rel a b D E)) (fun v10 v11 _ => (intOf v10).toNat + (intOf v11).toNat)
  case atStart => exact ⟨i0, j0, D, _, by go_num, by go_num, rfl, by omega, by omega, by omega, by omega, H0⟩
  case round =>
    obtain ⟨i, j, E, wr, rfl, rfl, rfl, hi, hj, him, hjb, HS⟩ := hrel
    clear H0 hi0 hj0
    by_cases hij : i = j
    · subst hij
      obtain ⟨s1, s2, s3⟩ := HS.out
      have F1 : Hid (∀ F, SwR E F (m - i) m i → Rel (m - i) (m + i) E F → (∀ k, gD F k = rotV D a m b k) ∧ Rel a b D F) := fun F q1 q2 => ⟨fun k => (rot_end q1 (by omega) k).trans (s2 k), s3.trans (q2.wide (by omega) (by omega))⟩
      obtain ⟨mi, hmi⟩ : ∃ mi, mi = m - i := ⟨_, rfl⟩
      rw [← hmi] at F1
      have C1 : Hid (Calls Tryd.prog 84 #[.slice (some ⟨g, 0, none⟩) n cap, .int .i64 (mi : Nat), .int .i64 (m : Nat), .int .i64 (i : Nat), .func (.func fn) #[] cp] wr fun e w' => e = .returned (.tuple #[]) ∧ ∃ F, SD cap N w0 w' g n F ∧ SwR E F mi m i ∧ Rel mi (m + i) E F) := SW.out wr E mi m i s1 (by omega) (by omega)
      have hmi2 : (m : Int) - (i : Int) = (mi : Int) := by omega
      clear SW HS s1 s2 s3 hmi
      go_wp2_with (go_at_call 84; refine C1.out.mono ?_; rintro e w1 ⟨rfl, F, q1, q2, q3⟩; have Q1 : Hid _ := q1; have Q2 : Hid _ := F1.out F q2 q3; clear q1 q2 q3)
      go_end0
      exact ⟨rfl, F, Q1.out, Q2.out⟩
    · by_cases hgt : j < i
      · obtain ⟨s1, s2, s3⟩ := HS.out
        have F1 : Hid (∀ F, SwR E F (m - i) m j → Rel (m - i) (m + j) E F → (∀ k, rotV F (m - (i - j)) m (m + j) k = rotV D a m b k) ∧ Rel a b D F) := fun F q1 q2 => ⟨fun k => (rot_left q1 hgt (by omega) k).trans (s2 k), s3.trans (q2.wide (by omega) (by omega))⟩
        obtain ⟨mi, hmi⟩ : ∃ mi, mi = m - i := ⟨_, rfl⟩
        rw [← hmi] at F1
        have C1 : Hid (Calls Tryd.prog 84 #[.slice (some ⟨g, 0, none⟩) n cap, .int .i64 (mi : Nat), .int .i64 (m : Nat), .int .i64 (j : Nat), .func (.func fn) #[] cp] wr fun e w' => e = .returned (.tuple #[]) ∧ ∃ F, SD cap N w0 w' g n F ∧ SwR E F mi m j ∧ Rel mi (m + j) E F) := SW.out wr E mi m j s1 (by omega) (by omega)
        have hmi2 : (m : Int) - (i : Int) = (mi : Int) := by omega
        obtain ⟨ij, hij2⟩ : ∃ ij, ij = i - j := ⟨_, rfl⟩
        rw [← hij2] at F1
        have hijb : ((i : Int) != (j : Int)) = true := by simpa using fun e => hij (by omega)
        have HM : Hid (ij = i - j) := hij2
        clear SW HS s1 s2 s3 hmi hij2
        go_wp2_with (go_at_call 84; refine C1.out.mono ?_; rintro e w1 ⟨rfl, F, q1, q2, q3⟩; have Q1 : Hid _ := q1; have Q2 : Hid _ := F1.out F q2 q3; clear q1 q2 q3)
        go_roundw
        case rel => have := HM.out; exact ⟨ij, j, F, _, by go_num, rfl, rfl, by omega, by omega, by omega, by omega, ⟨Q1.out, Q2.out⟩⟩
        case measure => have := HM.out; simp [intOf]; omega
      · obtain ⟨s1, s2, s3⟩ := HS.out
        have F1 : Hid (∀ F, SwR E F (m - i) (m + j - i) i → Rel (m - i) (m + j - i + i) E F → (∀ k, rotV F (m - i) m (m + (j - i)) k = rotV D a m b k) ∧ Rel a b D F) := fun F q1 q2 => ⟨fun k => (rot_right q1 (by omega) (by omega) k).trans (s2 k), s3.trans (q2.wide (by omega) (by omega))⟩
        obtain ⟨mi, hmi⟩ : ∃ mi, mi = m - i := ⟨_, rfl⟩
        obtain ⟨mj, hmj⟩ : ∃ mj, mj = m + j - i := ⟨_, rfl⟩
        obtain ⟨ji, hji⟩ : ∃ ji, ji = j - i := ⟨_, rfl⟩
        have C1 : Hid (Calls Tryd.prog 84 #[.slice (some ⟨g, 0, none⟩) n cap, .int .i64 (mi : Nat), .int .i64 (mj : Nat), .int .i64 (i : Nat), .func (.func fn) #[] cp] wr fun e w' => e = .returned (.tuple #[]) ∧ ∃ F, SD cap N w0 w' g n F ∧ SwR E F mi mj i ∧ Rel mi (mj + i) E F) := SW.out wr E mi mj i s1 (by omega) (by omega)
        rw [← hmj, ← hji] at F1
        have hmi2 : (m : Int) - (i : Int) = (mi : Int) := by omega
        have hmj2 : (m : Int) + (j : Int) - (i : Int) = (mj : Int) := by omega
        have hijb : ((i : Int) != (j : Int)) = true := by simpa using fun e => hij (by omega)
        rw [← hmi] at F1
        have HM : Hid (ji = j - i) := hji
        have HM2 : Hid (mi = m - i) := hmi
        clear SW HS s1 s2 s3 hmi hmj hji
        go_wp2_with (go_at_call 84; refine C1.out.mono ?_; rintro e w1 ⟨rfl, F, q1, q2, q3⟩; have Q1 : Hid _ := q1; have Q2 : Hid _ := F1.out F q2 q3; clear q1 q2 q3)
        go_roundw
        case rel => have := HM.out; exact ⟨i, ji, F, _, rfl, by go_num, rfl, by omega, by omega, by omega, by omega, ⟨Q1.out, by rw [← HM2.out]; exact Q2.out⟩⟩
        case measure => have := HM.out; simp [intOf]; omega
set_option maxHeartbeats 8000000 in
set_option maxRecDepth 100000 in
theorem insertion_any {cap : Nat} (N : Nat) (w0 w : World) (g n fn : Nat) (cp : Array Value) (c : Int → Int → Int) (D : List Int) (a b : Nat) (C : CmpOk N w0 g fn cp c) (h : SD cap N w0 w g n D) (hab : a ≤ b) (hb : b ≤ n) (hn : n ≤ 100000) :
    Calls Tryd.prog 75 #[.slice (some ⟨g, 0, none⟩) n cap, .int .i64 a, .int .i64 b, .func (.func fn) #[] cp] w fun e w' => e = .returned (.tuple #[]) ∧ ∃ E, SD cap N w0 w' g n E ∧ Run c E a b ∧ RelT c a b D E := by
  have hln := h.ln
  have hen := C.en
  have HC : Hid (CmpOk N w0 g fn cp c) := C
  have H0 : Hid (SD cap N w0 w g n D ∧ Run c D a (a + 1) ∧ RelT c a b D D) := ⟨h, Run.short c D (by omega), RelT.refl _ _ _ _⟩
  clear h C
  go_enter Tryd.func75, Tryd.ntmps75
  go_wp2_with fail
  go_loopw [8] (fun v8 wr => ∃ (i : Nat) (E : List Int) (wk : World), v8 = .int .i64 i ∧ wk = wr ∧ a + 1 ≤ i ∧ (i ≤ b ∨ i = a + 1) ∧ Hid (SD cap N w0 wk g n E ∧ Run c E a i ∧ RelT c a b D E)) (fun v8 _ => b - (intOf v8).toNat)
  case atStart => exact ⟨a + 1, D, _, by go_num, rfl, by omega, Or.inr rfl, H0⟩
  case round =>
    obtain ⟨i, E, wr, rfl, rfl, hai, hib, HS⟩ := hrel
    clear H0
    by_cases hlt : i < b
    · have I0 : Hid (SD cap N w0 wr g n E ∧ Ins c E a i i ∧ RelT c a b D E) := ⟨HS.out.1, Ins.start HS.out.2.1, HS.out.2.2⟩
      clear HS
      go_wp2_with fail
      go_loopw [9] (fun v9 wr2 => ∃ (j : Nat) (F : List Int) (wk : World), v9 = .int .i64 j ∧ wk = wr2 ∧ a ≤ j ∧ j ≤ i ∧ Hid (SD cap N w0 wk g n F ∧ Ins c F a i j ∧ RelT c a b D F)) (fun v9 _ => (intOf v9).toNat)
      case atStart => exact ⟨i, E, _, rfl, rfl, by omega, by omega, I0⟩
      case round =>
        obtain ⟨j, F, wq, rfl, rfl, haj, hji, HF⟩ := hrel
        clear I0
        by_cases hja : a < j
        · obtain ⟨jm, hjm⟩ : ∃ jm, j = jm + 1 := ⟨j - 1, by omega⟩
          obtain ⟨s1, s2, s3⟩ := HF.out
          obtain ⟨x1, f1⟩ := s1.at (k := j) (by omega)
          obtain ⟨x2, f2⟩ := s1.at (k := jm) (by omega)
          have CL : Hid (∀ W, Below wq.heap.size wq W → Calls Tryd.prog fn (#[.int .i64 (gD F j), .int .i64 (gD F jm)] ++ cp) W fun e w' => e = .returned (.int .i64 (c (gD F j) (gD F jm))) ∧ SD cap N w0 w' g n F) := fun W b => (s1.below b).cmp HC.out (by omega) (by omega)
          have hfl := s1.ln
          have SW : Hid (∀ W, SD cap N w0 W g n F → SD cap N w0 ((W.setCell ⟨g, j, none⟩ (.int .i64 (gD F jm))).setCell ⟨g, jm, none⟩ (.int .i64 (gD F j))) g n (swp F j jm)) := fun W hs => hs.swap (by omega) (by omega)
          have ST : Hid (c (gD F j) (gD F jm) < 0 → Ins c (swp F j jm) a i jm ∧ RelT c a b D (swp F j jm)) := fun hc => by
            have q0 := s2.step hja hji (by omega) (by rw [show j - 1 = jm by omega]; exact hc)
            rw [show j - 1 = jm by omega] at q0
            have q1 := s3.dn (k := jm) (by have := s3.len; omega) (by omega) (by omega) (by rw [← hjm]; exact hc)
            rw [← hjm] at q1
            exact ⟨q0, q1⟩
          have EN : Hid (¬ c (gD F j) (gD F jm) < 0 → Run c F a (i + 1)) := fun hc => s2.fin HC.out.od haj hji (Or.inr (by rw [show j - 1 = jm by omega]; exact hc))
          have R3 : Hid (RelT c a b D F) := s3
          have AT : Hid (∀ W, SD cap N w0 W g n F → (W.cell? ⟨g, j, none⟩ = some (.int .i64 (gD F j)) ∧ W.frozen? ⟨g, j, none⟩ = false) ∧ (W.cell? ⟨g, jm, none⟩ = some (.int .i64 (gD F jm)) ∧ W.frozen? ⟨g, jm, none⟩ = false)) := fun W hs => ⟨hs.at (by omega), hs.at (by omega)⟩
          have hcb := HC.out.bd (gD F j) (gD F jm)
          have hj1 : (j : Int) - 1 = (jm : Int) := by omega
          have hj2 : IntKind.i64.wrap (jm : Int) = (jm : Int) := by rw [IntKind.wrap_i64]; omega
          have hj3 : (0 : Int) ≤ (j : Int) := by omega
          have hj4 : (j : Int) < (n : Int) := by omega
          have hj5 : (0 : Int) ≤ (jm : Int) := by omega
          have hj6 : (jm : Int) < (n : Int) := by omega
          have hj7 : (a : Int) < (j : Int) := by omega
          have HJ : Hid (j = jm + 1) := hjm
          generalize gD F j = xj at *
          generalize gD F jm = xm at *
          generalize hcc : c xj xm = cc at *
          clear s1 s2 s3 HF hcc hjm
          by_cases hc : cc < 0
          · go_wp2_with fail
            go_region_held3 (fun w' => w'.cell? ⟨g, j, none⟩ = some (.int .i64 xj) ∧ w'.cell? ⟨g, jm, none⟩ = some (.int .i64 xm)) (go_keep) ((refine (CL.out _ (by first | exact (Below.refl _ _).drew | exact Below.refl _ _)).mono ?_; rintro e w1 ⟨rfl, q1⟩; have Q1 : Hid _ := q1; obtain ⟨⟨u1, u2⟩, u3, u4⟩ := AT.out _ q1; clear q1))
            have hne : j ≠ jm := by have := HJ.out; omega
            have N1 : Hid _ := SW.out _ Q1.out
            have N2 : Hid _ := ST.out hc
            clear x1 f1 x2 f2 CL AT EN
            go_wp2_with fail
            go_region
            all_goals
              go_wp2_with fail
              go_roundw
              case rel => have := HJ.out; exact ⟨jm, _, _, by go_num, rfl, by omega, by omega, ⟨N1.out.drew, N2.out.1, N2.out.2⟩⟩
              case measure => have := HJ.out; simp [intOf]; omega
          · have E1 : Hid _ := EN.out hc
            clear f1 f2 EN SW ST
            go_wp2_with fail
            go_region_held3 (fun w' => w'.cell? ⟨g, j, none⟩ = some (.int .i64 xj) ∧ w'.cell? ⟨g, jm, none⟩ = some (.int .i64 xm)) (go_keep) ((refine (CL.out _ (by first | exact (Below.refl _ _).drew | exact Below.refl _ _)).mono ?_; rintro e w1 ⟨rfl, q1⟩; have Q1 : Hid _ := q1; obtain ⟨⟨u1, u2⟩, u3, u4⟩ := AT.out _ q1; clear q1))
            go_wp2_with fail
            go_roundw
            case rel => exact ⟨i + 1, F, _, by go_num, rfl, by omega, by omega, ⟨Q1.out, E1.out, R3.out⟩⟩
            case measure => simp [intOf]; omega
        · obtain rfl : j = a := by omega
          have E1 : Hid (SD cap N w0 wq g n F ∧ Run c F j (i + 1) ∧ RelT c j b D F) := ⟨HF.out.1, HF.out.2.1.fin HC.out.od (Nat.le_refl _) hji (Or.inl rfl), HF.out.2.2⟩
          have hdd : decide ((j : Int) < (j : Int)) = false := by simp
          clear HF
          go_wp2_with fail
          go_quiet (fail)
          go_wp2_with fail
          go_roundw
          case rel => exact ⟨i + 1, F, _, by go_num, rfl, by omega, by omega, ⟨E1.out.1.below (below_drewN (Below.refl _ _) _), E1.out.2⟩⟩
          case measure => simp [intOf]; omega
    · have E1 : Hid (SD cap N w0 wr g n E ∧ Run c E a b ∧ RelT c a b D E) := ⟨HS.out.1, HS.out.2.1.sub (Nat.le_refl _) (by omega), HS.out.2.2⟩
      clear HS
      go_wp2_with fail
      go_end0
      exact ⟨rfl, E, E1.out⟩
end Go.Proofs.YtkebflllbphkkaaDoor
