/- Sorting: a symmetric merge, the second run of one member. (Made by mkso4.py.) -/
import Derived.Test.YtkebflllbphkkaaDoorSp3
import Derived.Deep.Cut
import Derived.Deep.CutRange
import Derived.Deep.DeepCutAuto
namespace Go.Proofs.YtkebflllbphkkaaDoor
open Go.RowKit

set_option maxHeartbeats 8000000 in
set_option maxRecDepth 100000 in
theorem symB_any {cap : Nat} (N : Nat) (w0 w : World) (g n fn : Nat) (cp : Array Value) (c : Int → Int → Int) (D : List Int) (a m b : Nat) (C : CmpOk N w0 g fn cp c) (h : SD cap N w0 w g n D) (ham : a + 1 < m) (hmb : b = m + 1) (hb : b ≤ n) (hn : n ≤ 100000) (hr : Run c D a m) :
    Calls Tryd.prog 76 #[.slice (some ⟨g, 0, none⟩) n cap, .int .i64 a, .int .i64 m, .int .i64 b, .func (.func fn) #[] cp] w fun e w' => e = .returned (.tuple #[]) ∧ ∃ E, SD cap N w0 w' g n E ∧ Run c E a b ∧ RelT c a b D E := by
  have hln := h.ln
  have hen := C.en
  have HC : Hid (CmpOk N w0 g fn cp c) := C
  have HR : Hid (Run c D a m) := hr
  have H0 : Hid (SD cap N w0 w g n D) := h
  have hma : (((m : Int) - (a : Int)) == 1) = false := by simp; omega
  have hma2 : ¬ ((m : Int) - (a : Int)) = 1 := by omega
  have hbm : (b : Int) - (m : Int) = 1 := by omega
  have HA : Hid (b = m + 1) := hmb
  have hmb2 : m < b := by omega
  clear h C hr hmb
  go_enter Tryd.func76, Tryd.ntmps76
  go_wp2_with fail
  go_loopw [14, 15] (fun v14 v15 wr => ∃ (i j : Nat) (wk : World), v14 = .int .i64 i ∧ v15 = .int .i64 j ∧ wk = wr ∧ a ≤ i ∧ i ≤ j ∧ j ≤ m ∧ Hid (SD cap N w0 wk g n D ∧ (a < i → NL (c (gD D m) (gD D (i - 1)))) ∧ (j < m → c (gD D m) (gD D j) < 0))) (fun v14 v15 _ => (intOf v15).toNat - (intOf v14).toNat)
  case atStart => exact ⟨a, m, _, rfl, rfl, rfl, by omega, by omega, by omega, ⟨H0.out, fun h => by omega, fun h => by omega⟩⟩
  case round =>
    obtain ⟨i, j, wr, rfl, rfl, rfl, hmi, hij, hjb, HS⟩ := hrel
    clear H0
    by_cases hlt : i < j
    · obtain ⟨s1, s2, s3⟩ := HS.out
      obtain ⟨q, hq⟩ : ∃ q, q = (i + j) / 2 := ⟨_, rfl⟩
      have hq1 : i ≤ q := by omega
      have hq2 : q < j := by omega
      have hq3 : ((i : Int) + (j : Int)) / 2 = (q : Int) := by omega
      obtain ⟨x1, f1⟩ := s1.at (k := m) (by omega)
      obtain ⟨x2, f2⟩ := s1.at (k := q) (by omega)
      have CL : Hid (∀ W, Below wr.heap.size wr W → Calls Tryd.prog fn (#[.int .i64 (gD D m), .int .i64 (gD D q)] ++ cp) W fun e w' => e = .returned (.int .i64 (c (gD D m) (gD D q))) ∧ SD cap N w0 w' g n D) := fun W b => (s1.below b).cmp HC.out (by omega) (by omega)
      have AT : Hid (∀ W, SD cap N w0 W g n D → (W.cell? ⟨g, m, none⟩ = some (.int .i64 (gD D m)) ∧ W.frozen? ⟨g, m, none⟩ = false) ∧ (W.cell? ⟨g, q, none⟩ = some (.int .i64 (gD D q)) ∧ W.frozen? ⟨g, q, none⟩ = false)) := fun W hs => ⟨hs.at (by omega), hs.at (by omega)⟩
      have hcb := HC.out.bd (gD D m) (gD D q)
      have k1 : (0 : Int) ≤ (m : Int) := by omega
      have k2 : (m : Int) < (n : Int) := by omega
      have k3 : (0 : Int) ≤ (q : Int) := by omega
      have k4 : (q : Int) < (n : Int) := by omega
      have U1 : Hid (NL (c (gD D m) (gD D q)) → (a < q + 1 → NL (c (gD D m) (gD D (q + 1 - 1)))) ∧ (j < m → c (gD D m) (gD D j) < 0)) := fun hc => ⟨fun _ => by rw [Nat.add_sub_cancel]; exact hc, s3⟩
      have U2 : Hid (c (gD D m) (gD D q) < 0 → (a < i → NL (c (gD D m) (gD D (i - 1)))) ∧ (q < m → c (gD D m) (gD D q) < 0)) := fun hc => ⟨s2, fun _ => hc⟩
      obtain ⟨vx, hvx⟩ : ∃ vx, vx = gD D m := ⟨_, rfl⟩
      obtain ⟨vy, hvy⟩ : ∃ vy, vy = gD D q := ⟨_, rfl⟩
      obtain ⟨cc, hcc⟩ : ∃ cc, cc = c vx vy := ⟨_, rfl⟩
      rw [← hvx] at x1
      rw [← hvy] at x2
      rw [← hvx, ← hvy, ← hcc] at hcb
      simp only [← hvx, ← hvy, ← hcc] at CL AT
      have HV : Hid (cc = c (gD D m) (gD D q)) := by show _ = _; rw [hcc, hvx, hvy]
      clear s1 s2 s3 HS hq hvx hvy hcc
      by_cases hc : cc < 0
      · have V1 : Hid ((a < i → NL (c (gD D m) (gD D (i - 1)))) ∧ (q < m → c (gD D m) (gD D q) < 0)) := U2.out (by rw [← HV.out]; exact hc)
        go_wp2_with fail
        go_region_held3 (fun w' => w'.cell? ⟨g, m, none⟩ = some (.int .i64 vx) ∧ w'.cell? ⟨g, q, none⟩ = some (.int .i64 vy)) (go_keep) ((refine (CL.out _ (by first | exact (Below.refl _ _).drew | exact Below.refl _ _)).mono ?_; rintro e w1 ⟨rfl, q1⟩; have Q1 : Hid _ := q1; obtain ⟨⟨u1, u2⟩, u3, u4⟩ := AT.out _ q1; clear q1))
        go_wp2_with fail
        go_roundw
        case rel => exact ⟨i, q, _, rfl, rfl, rfl, by omega, by omega, by omega, ⟨Q1.out, V1.out⟩⟩
        case measure => simp [intOf]; omega
      · have hc2 : (0 : Int) ≤ cc := by omega
        have hc3 : decide (cc < 0) = false := by simpa using hc
        have V1 : Hid ((a < q + 1 → NL (c (gD D m) (gD D (q + 1 - 1)))) ∧ (j < m → c (gD D m) (gD D j) < 0)) := U1.out (by rw [← HV.out]; exact hc)
        go_wp2_with fail
        go_region_held3 (fun w' => w'.cell? ⟨g, m, none⟩ = some (.int .i64 vx) ∧ w'.cell? ⟨g, q, none⟩ = some (.int .i64 vy)) (go_keep) ((refine (CL.out _ (by first | exact (Below.refl _ _).drew | exact Below.refl _ _)).mono ?_; rintro e w1 ⟨rfl, q1⟩; have Q1 : Hid _ := q1; obtain ⟨⟨u1, u2⟩, u3, u4⟩ := AT.out _ q1; clear q1))
        go_wp2_with fail
        go_roundw
        case rel => exact ⟨q + 1, j, _, by go_num, rfl, rfl, by omega, by omega, by omega, ⟨Q1.out, V1.out⟩⟩
        case measure => simp [intOf]; omega
    · obtain rfl : j = i := by omega
      obtain ⟨s1, s2, s3⟩ := HS.out
      have M0 : Hid (SD cap N w0 wr g n D ∧ Md D D m m ∧ RelT c a b D D) := ⟨s1, Md.start D m, RelT.refl _ _ _ _⟩
      have FIN : Hid (∀ E, Md D E j m → Run c E a b) := fun E hE => by rw [HA.out]; exact hE.run HC.out.od HR.out hmi hjb s2 s3
      have FX : Hid (∀ q, j ≤ q → q < m → c (gD D m) (gD D q) < 0) := fun q h1 h2 => HC.out.od.lt (HC.out.od.refl _) (s3 (by omega)) (HR.out.le HC.out.od hmi h1 h2)
      clear HS s1 s2 s3
      go_wp2_with fail
      go_loopw [17] (fun v17 wr => ∃ (k : Nat) (E : List Int) (wk : World), v17 = .int .i64 k ∧ wk = wr ∧ j ≤ k ∧ k ≤ m ∧ Hid (SD cap N w0 wk g n E ∧ Md D E k m ∧ RelT c a b D E)) (fun v17 _ => (intOf v17).toNat)
      case atStart => exact ⟨m, D, _, rfl, rfl, by omega, by omega, M0⟩
      case round =>
        obtain ⟨k, E, wq, rfl, rfl, hak, hkj, HE⟩ := hrel
        clear M0
        by_cases hk : j < k
        · obtain ⟨k', rfl⟩ : ∃ k', k = k' + 1 := ⟨k - 1, by omega⟩
          obtain ⟨s1, s2, s3⟩ := HE.out
          obtain ⟨x1, f1⟩ := s1.at (k := k' + 1) (by omega)
          obtain ⟨x2, f2⟩ := s1.at (k := k') (by omega)
          have hel := s1.ln
          have N1 : Hid (SD cap N w0 ((wq.setCell ⟨g, k' + 1, none⟩ (.int .i64 (gD E k'))).setCell ⟨g, k', none⟩ (.int .i64 (gD E (k' + 1)))) g n (swp E (k' + 1) k') ∧ Md D (swp E (k' + 1) k') k' m ∧ RelT c a b D (swp E (k' + 1) k')) := ⟨s1.swap (by omega) (by omega), by have := s2.step (by omega) (by omega) (by omega); rw [Nat.add_sub_cancel] at this; exact this, s3.dn (by have := s3.len; omega) (by omega) (by omega) (by rw [s2 (k' + 1), s2 k', if_neg (by omega), if_pos rfl, if_neg (by omega), if_neg (by omega)]; exact FX.out k' (by omega) (by omega))⟩
          generalize gD E (k' + 1) = va at *
          generalize gD E k' = vb at *
          have hne : k' + 1 ≠ k' := by omega
          clear s1 s2 s3 HE
          go_wp2_with fail
          go_region
          all_goals
            go_wp2_with fail
            go_roundw
            case rel => exact ⟨k', _, _, by go_num, rfl, by omega, by omega, ⟨N1.out.1.drew, N1.out.2⟩⟩
            case measure => simp [intOf]
        · obtain ⟨s1, s2, s3⟩ := HE.out
          obtain rfl : k = j := by omega
          have R1 : Hid (SD cap N w0 wq g n E ∧ Run c E a b ∧ RelT c a b D E) := ⟨s1, FIN.out E s2, s3⟩
          clear s1 s2 s3 HE FIN FX
          go_wp2_with fail
          exact bodyPost_ret (v := .tuple #[]) (by simp [results, Tryd.results76, go_sem]) rfl ⟨rfl, E, R1.out⟩
end Go.Proofs.YtkebflllbphkkaaDoor
