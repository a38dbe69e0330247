/- Sorting, plain: what a symmetric merge comes to. -/
import Derived.Test.YtahcllncjpaijabDoorSo3
import Derived.Deep.Cut
import Derived.Deep.CutRange
import Derived.Deep.DeepCutAuto
import Derived.Test.YtahcllncjpaijabDoorSo1
namespace Go.Proofs.YtahcllncjpaijabDoor
open Go.RowKit

set_option maxHeartbeats 8000000 in
set_option maxRecDepth 100000 in
theorem symA_any (N : Nat) (w0 w : World) (g n fn : Nat) (cp : Array Value) (c : Int → Int → Int) (D : List Int) (a m b : Nat) (C : CmpOk N w0 g fn cp c) (h : SD N w0 w g n D) (ham : m = a + 1) (hmb : m < b) (hb : b ≤ n) (hn : n ≤ 100000) (hr : Run c D m b) :
    Calls Tryd.prog 61 #[.slice (some ⟨g, 0, none⟩) n n, .int .i64 a, .int .i64 m, .int .i64 b, .func (.func fn) #[] cp] w fun e w' => e = .returned (.tuple #[]) ∧ ∃ E, SD N w0 w' g n E ∧ Run c E a b ∧ Rel a b D E := by
  have hln := h.ln
  have hen := C.en
  have HC : Hid (CmpOk N w0 g fn cp c) := C
  have HR : Hid (Run c D (a + 1) b) := by rw [ham] at hr; exact hr
  have H0 : Hid (SD N w0 w g n D) := h
  have hma : (m : Int) - (a : Int) = 1 := by omega
  have HA : Hid (m = a + 1) := ham
  have ham2 : a < m := by omega
  clear h C hr ham
  go_enter Tryd.func61, Tryd.ntmps61
  go_wp2_with fail
  go_loopw [10, 11] (fun v10 v11 wr => ∃ (i j : Nat) (wk : World), v10 = .int .i64 i ∧ v11 = .int .i64 j ∧ wk = wr ∧ m ≤ i ∧ i ≤ j ∧ j ≤ b ∧ Hid (SD N w0 wk g n D ∧ (m < i → c (gD D (i - 1)) (gD D a) < 0) ∧ (j < b → NL (c (gD D j) (gD D a))))) (fun v10 v11 _ => (intOf v11).toNat - (intOf v10).toNat)
  case atStart => exact ⟨m, b, _, rfl, rfl, rfl, by omega, by omega, by omega, ⟨H0.out, fun h => by omega, fun h => by omega⟩⟩
  case round =>
    obtain ⟨i, j, wr, rfl, rfl, rfl, hmi, hij, hjb, HS⟩ := hrel
    clear H0
    by_cases hlt : i < j
    · obtain ⟨s1, s2, s3⟩ := HS.out
      obtain ⟨q, hq⟩ : ∃ q, q = (i + j) / 2 := ⟨_, rfl⟩
      have hq1 : i ≤ q := by omega
      have hq2 : q < j := by omega
      have hq3 : ((i : Int) + (j : Int)) / 2 = (q : Int) := by omega
      obtain ⟨x1, f1⟩ := s1.at (k := q) (by omega)
      obtain ⟨x2, f2⟩ := s1.at (k := a) (by omega)
      have CL : Hid (∀ W, Below wr.heap.size wr W → Calls Tryd.prog fn (#[.int .i64 (gD D q), .int .i64 (gD D a)] ++ cp) W fun e w' => e = .returned (.int .i64 (c (gD D q) (gD D a))) ∧ SD N w0 w' g n D) := fun W b => (s1.below b).cmp HC.out (by omega) (by omega)
      have AT : Hid (∀ W, SD N w0 W g n D → (W.cell? ⟨g, q, none⟩ = some (.int .i64 (gD D q)) ∧ W.frozen? ⟨g, q, none⟩ = false) ∧ (W.cell? ⟨g, a, none⟩ = some (.int .i64 (gD D a)) ∧ W.frozen? ⟨g, a, none⟩ = false)) := fun W hs => ⟨hs.at (by omega), hs.at (by omega)⟩
      have hcb := HC.out.bd (gD D q) (gD D a)
      have k1 : (0 : Int) ≤ (q : Int) := by omega
      have k2 : (q : Int) < (n : Int) := by omega
      have k3 : (0 : Int) ≤ (a : Int) := by omega
      have k4 : (a : Int) < (n : Int) := by omega
      have U1 : Hid (c (gD D q) (gD D a) < 0 → (m < q + 1 → c (gD D (q + 1 - 1)) (gD D a) < 0) ∧ (j < b → NL (c (gD D j) (gD D a)))) := fun hc => ⟨fun _ => by rw [Nat.add_sub_cancel]; exact hc, s3⟩
      have U2 : Hid (NL (c (gD D q) (gD D a)) → (m < i → c (gD D (i - 1)) (gD D a) < 0) ∧ (q < b → NL (c (gD D q) (gD D a)))) := fun hc => ⟨s2, fun _ => hc⟩
      obtain ⟨vx, hvx⟩ : ∃ vx, vx = gD D q := ⟨_, rfl⟩
      obtain ⟨vy, hvy⟩ : ∃ vy, vy = gD D a := ⟨_, rfl⟩
      obtain ⟨cc, hcc⟩ : ∃ cc, cc = c vx vy := ⟨_, rfl⟩
      rw [← hvx] at x1
      rw [← hvy] at x2
      rw [← hvx, ← hvy, ← hcc] at hcb
      simp only [← hvx, ← hvy, ← hcc] at CL AT
      have HV : Hid (cc = c (gD D q) (gD D a)) := by show _ = _; rw [hcc, hvx, hvy]
      clear s1 s2 s3 HS hq hvx hvy hcc
      by_cases hc : cc < 0
      · have V1 : Hid ((m < q + 1 → c (gD D (q + 1 - 1)) (gD D a) < 0) ∧ (j < b → NL (c (gD D j) (gD D a)))) := U1.out (by rw [← HV.out]; exact hc)
        go_wp2_with fail
        go_region_held3 (fun w' => w'.cell? ⟨g, q, none⟩ = some (.int .i64 vx) ∧ w'.cell? ⟨g, a, none⟩ = some (.int .i64 vy)) (go_keep) ((refine (CL.out _ (by first | exact (Below.refl _ _).drew | exact Below.refl _ _)).mono ?_; rintro e w1 ⟨rfl, q1⟩; have Q1 : Hid _ := q1; obtain ⟨⟨u1, u2⟩, u3, u4⟩ := AT.out _ q1; clear q1))
        go_wp2_with fail
        go_roundw
        case rel => exact ⟨q + 1, j, _, by go_num, rfl, rfl, by omega, by omega, by omega, ⟨Q1.out, V1.out⟩⟩
        case measure => simp [intOf]; omega
      · have V1 : Hid ((m < i → c (gD D (i - 1)) (gD D a) < 0) ∧ (q < b → NL (c (gD D q) (gD D a)))) := U2.out (by rw [← HV.out]; exact hc)
        go_wp2_with fail
        go_region_held3 (fun w' => w'.cell? ⟨g, q, none⟩ = some (.int .i64 vx) ∧ w'.cell? ⟨g, a, none⟩ = some (.int .i64 vy)) (go_keep) ((refine (CL.out _ (by first | exact (Below.refl _ _).drew | exact Below.refl _ _)).mono ?_; rintro e w1 ⟨rfl, q1⟩; have Q1 : Hid _ := q1; obtain ⟨⟨u1, u2⟩, u3, u4⟩ := AT.out _ q1; clear q1))
        go_wp2_with fail
        go_roundw
        case rel => exact ⟨i, q, _, rfl, rfl, rfl, by omega, by omega, by omega, ⟨Q1.out, V1.out⟩⟩
        case measure => simp [intOf]; omega
    · obtain rfl : j = i := by omega
      obtain ⟨s1, s2, s3⟩ := HS.out
      have M0 : Hid (SD N w0 wr g n D ∧ Mv D D a a ∧ Rel a b D D) := ⟨s1, Mv.start D a, Rel.refl _ _ _⟩
      have FIN : Hid (∀ E, Mv D E a (j - 1) → Run c E a b) := fun E hE => hE.run HC.out.od HR.out (by have := HA.out; omega) hjb (fun h => s2 (by have := HA.out; omega)) s3
      clear HS s1 s2 s3
      go_wp2_with fail
      go_loopw [13] (fun v13 wr => ∃ (k : Nat) (E : List Int) (wk : World), v13 = .int .i64 k ∧ wk = wr ∧ a ≤ k ∧ k + 1 ≤ j ∧ Hid (SD N w0 wk g n E ∧ Mv D E a k ∧ Rel a b D E)) (fun v13 _ => j - (intOf v13).toNat)
      case atStart => exact ⟨a, D, _, rfl, rfl, by omega, by omega, M0⟩
      case round =>
        obtain ⟨k, E, wq, rfl, rfl, hak, hkj, HE⟩ := hrel
        clear M0
        by_cases hk : k + 1 < j
        · obtain ⟨s1, s2, s3⟩ := HE.out
          obtain ⟨x1, f1⟩ := s1.at (k := k) (by omega)
          obtain ⟨x2, f2⟩ := s1.at (k := k + 1) (by omega)
          have hel := s1.ln
          have N1 : Hid (SD N w0 ((wq.setCell ⟨g, k, none⟩ (.int .i64 (gD E (k + 1)))).setCell ⟨g, k + 1, none⟩ (.int .i64 (gD E k))) g n (swp E k (k + 1)) ∧ Mv D (swp E k (k + 1)) a (k + 1) ∧ Rel a b D (swp E k (k + 1))) := ⟨s1.swap (by omega) (by omega), s2.step (by omega) (by omega), s3.swap (by omega) (by omega) (by omega)⟩
          generalize gD E k = va at *
          generalize gD E (k + 1) = vb at *
          have hne : k ≠ k + 1 := by omega
          clear s1 s2 s3 HE
          go_wp2_with fail
          go_region
          all_goals
            go_wp2_with fail
            go_roundw
            case rel => exact ⟨k + 1, _, _, by go_num, rfl, by omega, by omega, ⟨N1.out.1.drew, N1.out.2⟩⟩
            case measure => simp [intOf]; omega
        · obtain ⟨s1, s2, s3⟩ := HE.out
          obtain rfl : j = k + 1 := by omega
          have R1 : Hid (SD N w0 wq g n E ∧ Run c E a b ∧ Rel a b D E) := ⟨s1, FIN.out E s2, s3⟩
          clear s1 s2 s3 HE FIN
          go_wp2_with fail
          exact bodyPost_ret (v := .tuple #[]) (by simp [results, Tryd.results61, go_sem]) rfl ⟨rfl, E, R1.out⟩
end Go.Proofs.YtahcllncjpaijabDoor
namespace Go.Proofs.YtahcllncjpaijabDoor
open Go.RowKit

set_option maxHeartbeats 8000000 in
set_option maxRecDepth 100000 in
theorem symB_any (N : Nat) (w0 w : World) (g n fn : Nat) (cp : Array Value) (c : Int → Int → Int) (D : List Int) (a m b : Nat) (C : CmpOk N w0 g fn cp c) (h : SD N w0 w g n D) (ham : a + 1 < m) (hmb : b = m + 1) (hb : b ≤ n) (hn : n ≤ 100000) (hr : Run c D a m) :
    Calls Tryd.prog 61 #[.slice (some ⟨g, 0, none⟩) n n, .int .i64 a, .int .i64 m, .int .i64 b, .func (.func fn) #[] cp] w fun e w' => e = .returned (.tuple #[]) ∧ ∃ E, SD N w0 w' g n E ∧ Run c E a b ∧ Rel a b D E := by
  have hln := h.ln
  have hen := C.en
  have HC : Hid (CmpOk N w0 g fn cp c) := C
  have HR : Hid (Run c D a m) := hr
  have H0 : Hid (SD N w0 w g n D) := h
  have hma : (((m : Int) - (a : Int)) == 1) = false := by simp; omega
  have hma2 : ¬ ((m : Int) - (a : Int)) = 1 := by omega
  have hbm : (b : Int) - (m : Int) = 1 := by omega
  have HA : Hid (b = m + 1) := hmb
  have hmb2 : m < b := by omega
  clear h C hr hmb
  go_enter Tryd.func61, Tryd.ntmps61
  go_wp2_with fail
  go_loopw [14, 15] (fun v14 v15 wr => ∃ (i j : Nat) (wk : World), v14 = .int .i64 i ∧ v15 = .int .i64 j ∧ wk = wr ∧ a ≤ i ∧ i ≤ j ∧ j ≤ m ∧ Hid (SD N w0 wk g n D ∧ (a < i → NL (c (gD D m) (gD D (i - 1)))) ∧ (j < m → c (gD D m) (gD D j) < 0))) (fun v14 v15 _ => (intOf v15).toNat - (intOf v14).toNat)
  case atStart => exact ⟨a, m, _, rfl, rfl, rfl, by omega, by omega, by omega, ⟨H0.out, fun h => by omega, fun h => by omega⟩⟩
  case round =>
    obtain ⟨i, j, wr, rfl, rfl, rfl, hmi, hij, hjb, HS⟩ := hrel
    clear H0
    by_cases hlt : i < j
    · obtain ⟨s1, s2, s3⟩ := HS.out
      obtain ⟨q, hq⟩ : ∃ q, q = (i + j) / 2 := ⟨_, rfl⟩
      have hq1 : i ≤ q := by omega
      have hq2 : q < j := by omega
      have hq3 : ((i : Int) + (j : Int)) / 2 = (q : Int) := by omega
      obtain ⟨x1, f1⟩ := s1.at (k := m) (by omega)
      obtain ⟨x2, f2⟩ := s1.at (k := q) (by omega)
      have CL : Hid (∀ W, Below wr.heap.size wr W → Calls Tryd.prog fn (#[.int .i64 (gD D m), .int .i64 (gD D q)] ++ cp) W fun e w' => e = .returned (.int .i64 (c (gD D m) (gD D q))) ∧ SD N w0 w' g n D) := fun W b => (s1.below b).cmp HC.out (by omega) (by omega)
      have AT : Hid (∀ W, SD N w0 W g n D → (W.cell? ⟨g, m, none⟩ = some (.int .i64 (gD D m)) ∧ W.frozen? ⟨g, m, none⟩ = false) ∧ (W.cell? ⟨g, q, none⟩ = some (.int .i64 (gD D q)) ∧ W.frozen? ⟨g, q, none⟩ = false)) := fun W hs => ⟨hs.at (by omega), hs.at (by omega)⟩
      have hcb := HC.out.bd (gD D m) (gD D q)
      have k1 : (0 : Int) ≤ (m : Int) := by omega
      have k2 : (m : Int) < (n : Int) := by omega
      have k3 : (0 : Int) ≤ (q : Int) := by omega
      have k4 : (q : Int) < (n : Int) := by omega
      have U1 : Hid (NL (c (gD D m) (gD D q)) → (a < q + 1 → NL (c (gD D m) (gD D (q + 1 - 1)))) ∧ (j < m → c (gD D m) (gD D j) < 0)) := fun hc => ⟨fun _ => by rw [Nat.add_sub_cancel]; exact hc, s3⟩
      have U2 : Hid (c (gD D m) (gD D q) < 0 → (a < i → NL (c (gD D m) (gD D (i - 1)))) ∧ (q < m → c (gD D m) (gD D q) < 0)) := fun hc => ⟨s2, fun _ => hc⟩
      obtain ⟨vx, hvx⟩ : ∃ vx, vx = gD D m := ⟨_, rfl⟩
      obtain ⟨vy, hvy⟩ : ∃ vy, vy = gD D q := ⟨_, rfl⟩
      obtain ⟨cc, hcc⟩ : ∃ cc, cc = c vx vy := ⟨_, rfl⟩
      rw [← hvx] at x1
      rw [← hvy] at x2
      rw [← hvx, ← hvy, ← hcc] at hcb
      simp only [← hvx, ← hvy, ← hcc] at CL AT
      have HV : Hid (cc = c (gD D m) (gD D q)) := by show _ = _; rw [hcc, hvx, hvy]
      clear s1 s2 s3 HS hq hvx hvy hcc
      by_cases hc : cc < 0
      · have V1 : Hid ((a < i → NL (c (gD D m) (gD D (i - 1)))) ∧ (q < m → c (gD D m) (gD D q) < 0)) := U2.out (by rw [← HV.out]; exact hc)
        go_wp2_with fail
        go_region_held3 (fun w' => w'.cell? ⟨g, m, none⟩ = some (.int .i64 vx) ∧ w'.cell? ⟨g, q, none⟩ = some (.int .i64 vy)) (go_keep) ((refine (CL.out _ (by first | exact (Below.refl _ _).drew | exact Below.refl _ _)).mono ?_; rintro e w1 ⟨rfl, q1⟩; have Q1 : Hid _ := q1; obtain ⟨⟨u1, u2⟩, u3, u4⟩ := AT.out _ q1; clear q1))
        go_wp2_with fail
        go_roundw
        case rel => exact ⟨i, q, _, rfl, rfl, rfl, by omega, by omega, by omega, ⟨Q1.out, V1.out⟩⟩
        case measure => simp [intOf]; omega
      · have hc2 : (0 : Int) ≤ cc := by omega
        have hc3 : decide (cc < 0) = false := by simpa using hc
        have V1 : Hid ((a < q + 1 → NL (c (gD D m) (gD D (q + 1 - 1)))) ∧ (j < m → c (gD D m) (gD D j) < 0)) := U1.out (by rw [← HV.out]; exact hc)
        go_wp2_with fail
        go_region_held3 (fun w' => w'.cell? ⟨g, m, none⟩ = some (.int .i64 vx) ∧ w'.cell? ⟨g, q, none⟩ = some (.int .i64 vy)) (go_keep) ((refine (CL.out _ (by first | exact (Below.refl _ _).drew | exact Below.refl _ _)).mono ?_; rintro e w1 ⟨rfl, q1⟩; have Q1 : Hid _ := q1; obtain ⟨⟨u1, u2⟩, u3, u4⟩ := AT.out _ q1; clear q1))
        go_wp2_with fail
        go_roundw
        case rel => exact ⟨q + 1, j, _, by go_num, rfl, rfl, by omega, by omega, by omega, ⟨Q1.out, V1.out⟩⟩
        case measure => simp [intOf]; omega
    · obtain rfl : j = i := by omega
      obtain ⟨s1, s2, s3⟩ := HS.out
      have M0 : Hid (SD N w0 wr g n D ∧ Md D D m m ∧ Rel a b D D) := ⟨s1, Md.start D m, Rel.refl _ _ _⟩
      have FIN : Hid (∀ E, Md D E j m → Run c E a b) := fun E hE => by rw [HA.out]; exact hE.run HC.out.od HR.out hmi hjb s2 s3
      clear HS s1 s2 s3
      go_wp2_with fail
      go_loopw [17] (fun v17 wr => ∃ (k : Nat) (E : List Int) (wk : World), v17 = .int .i64 k ∧ wk = wr ∧ j ≤ k ∧ k ≤ m ∧ Hid (SD N w0 wk g n E ∧ Md D E k m ∧ Rel a b D E)) (fun v17 _ => (intOf v17).toNat)
      case atStart => exact ⟨m, D, _, rfl, rfl, by omega, by omega, M0⟩
      case round =>
        obtain ⟨k, E, wq, rfl, rfl, hak, hkj, HE⟩ := hrel
        clear M0
        by_cases hk : j < k
        · obtain ⟨k', rfl⟩ : ∃ k', k = k' + 1 := ⟨k - 1, by omega⟩
          obtain ⟨s1, s2, s3⟩ := HE.out
          obtain ⟨x1, f1⟩ := s1.at (k := k' + 1) (by omega)
          obtain ⟨x2, f2⟩ := s1.at (k := k') (by omega)
          have hel := s1.ln
          have N1 : Hid (SD N w0 ((wq.setCell ⟨g, k' + 1, none⟩ (.int .i64 (gD E k'))).setCell ⟨g, k', none⟩ (.int .i64 (gD E (k' + 1)))) g n (swp E (k' + 1) k') ∧ Md D (swp E (k' + 1) k') k' m ∧ Rel a b D (swp E (k' + 1) k')) := ⟨s1.swap (by omega) (by omega), by have := s2.step (by omega) (by omega) (by omega); rw [Nat.add_sub_cancel] at this; exact this, s3.swap (by omega) (by omega) (by omega)⟩
          generalize gD E (k' + 1) = va at *
          generalize gD E k' = vb at *
          have hne : k' + 1 ≠ k' := by omega
          clear s1 s2 s3 HE
          go_wp2_with fail
          go_region
          all_goals
            go_wp2_with fail
            go_roundw
            case rel => exact ⟨k', _, _, by go_num, rfl, by omega, by omega, ⟨N1.out.1.drew, N1.out.2⟩⟩
            case measure => simp [intOf]
        · obtain ⟨s1, s2, s3⟩ := HE.out
          obtain rfl : k = j := by omega
          have R1 : Hid (SD N w0 wq g n E ∧ Run c E a b ∧ Rel a b D E) := ⟨s1, FIN.out E s2, s3⟩
          clear s1 s2 s3 HE FIN
          go_wp2_with fail
          exact bodyPost_ret (v := .tuple #[]) (by simp [results, Tryd.results61, go_sem]) rfl ⟨rfl, E, R1.out⟩
end Go.Proofs.YtahcllncjpaijabDoor
namespace Go.Proofs.YtahcllncjpaijabDoor

theorem cut_runs {c : Int → Int → Int} (O : OrdC c) {D E : List Int} {a m b st en mid : Nat} (hr1 : Run c D a m) (hr2 : Run c D m b) (ha : a ≤ st) (hm : st ≤ m) (he : m ≤ en) (hb : en ≤ b) (hs : st + en = mid + m)
    (f1 : a < st → en < b → c (gD D (st - 1)) (gD D en) ≤ 0) (f2 : st < m → m < en → c (gD D (en - 1)) (gD D st) ≤ 0) (hE : ∀ k, gD E k = rotV D st m en k) :
    Run c E a st ∧ Run c E st mid ∧ Run c E mid en ∧ Run c E en b ∧ ∀ i j, a ≤ i → i < mid → mid ≤ j → j < b → c (gD E i) (gD E j) ≤ 0 := by
  have e0 : ∀ k, k < st → gD E k = gD D k := fun k hk => by rw [hE, rotV, if_neg (by omega), if_neg (by omega)]
  have e1 : ∀ k, st ≤ k → k < mid → gD E k = gD D (k + (m - st)) := fun k h1 h2 => by rw [hE, rotV, if_pos (by omega)]
  have e2 : ∀ k, mid ≤ k → k < en → gD E k = gD D (k - (en - m)) := fun k h1 h2 => by rw [hE, rotV, if_neg (by omega), if_pos (by omega)]
  have e3 : ∀ k, en ≤ k → gD E k = gD D k := fun k hk => by rw [hE, rotV, if_neg (by omega), if_neg (by omega)]
  refine ⟨fun i j h1 h2 h3 => ?_, fun i j h1 h2 h3 => ?_, fun i j h1 h2 h3 => ?_, fun i j h1 h2 h3 => ?_, fun i j h1 h2 h3 h4 => ?_⟩
  · rw [e0 i (by omega), e0 j h3]; exact hr1 _ _ h1 h2 (by omega)
  · rw [e1 i h1 (by omega), e1 j (by omega) h3]; exact hr2 _ _ (by omega) (by omega) (by omega)
  · rw [e2 i h1 (by omega), e2 j (by omega) h3]; exact hr1 _ _ (by omega) (by omega) (by omega)
  · rw [e3 i h1, e3 j (by omega)]; exact hr2 _ _ (by omega) h2 h3
  · by_cases i1 : i < st
    · rw [e0 i i1]
      by_cases j1 : j < en
      · rw [e2 j h3 j1]; exact hr1.le O h1 (by omega) (by omega)
      · rw [e3 j (by omega)]
        exact O.tr _ _ _ (hr1.le O h1 (show i ≤ st - 1 by omega) (by omega)) (O.tr _ _ _ (f1 (by omega) (by omega)) (hr2.le O (by omega) (by omega) h4))
    · rw [e1 i (by omega) h2]
      by_cases j1 : j < en
      · rw [e2 j h3 j1]
        exact O.tr _ _ _ (hr2.le O (by omega) (show i + (m - st) ≤ en - 1 by omega) (by omega)) (O.tr _ _ _ (f2 (by omega) (by omega)) (hr1.le O (by omega) (by omega) (by omega)))
      · rw [e3 j (by omega)]; exact hr2.le O (by omega) (by omega) h4
theorem merge_join {c : Int → Int → Int} {E F G : List Int} {a mid b : Nat} (h1 : Rel a mid E F) (r1 : Run c F a mid) (h2 : Rel mid b F G) (r2 : Run c G mid b) (ham : a ≤ mid) (hmb : mid ≤ b)
    (hx : ∀ i j, a ≤ i → i < mid → mid ≤ j → j < b → c (gD E i) (gD E j) ≤ 0) : Run c G a b ∧ Rel a b E G := by
  refine ⟨fun i j hi hij hj => ?_, (h1.wide (Nat.le_refl _) hmb).trans (h2.wide ham (Nat.le_refl _))⟩
  by_cases j1 : j < mid
  · rw [h2.out i (by omega), h2.out j (by omega)]; exact r1 i j hi hij j1
  · by_cases i1 : i < mid
    · rw [h2.out i (by omega)]
      obtain ⟨i', q1, q2, q3⟩ := h1.inn i hi i1
      obtain ⟨j', p1, p2, p3⟩ := h2.inn j (by omega) hj
      rw [q3, p3, h1.out j' (by omega)]
      exact hx i' j' q1 q2 p1 p2
    · exact r2 i j (by omega) hij hj
theorem rot_none {D : List Int} {st m en : Nat} (h : st = m ∨ m = en) (k : Nat) : gD D k = rotV D st m en k := by
  unfold rotV
  rcases h with rfl | rfl
  · by_cases h1 : st ≤ k ∧ k < st + (en - st)
    · rw [if_pos h1, Nat.sub_self, Nat.add_zero]
    · rw [if_neg h1, if_neg (by omega)]
  · rw [if_neg (by omega)]
    by_cases h1 : st + (m - m) ≤ k ∧ k < m
    · rw [if_pos h1, Nat.sub_self, Nat.sub_zero]
    · rw [if_neg h1]
end Go.Proofs.YtahcllncjpaijabDoor
