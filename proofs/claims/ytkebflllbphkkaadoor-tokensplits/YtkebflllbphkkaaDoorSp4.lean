/- Sorting: a symmetric merge, the first run of one member. (Made by mkso4.py.) -/
import Derived.Test.YtkebflllbphkkaaDoorSp3
import Derived.Deep.Cut
import Derived.Deep.CutRange
import Derived.Deep.DeepCutAuto
namespace Go.Proofs.YtkebflllbphkkaaDoor
open Go.RowKit

set_option maxHeartbeats 8000000 in
set_option maxRecDepth 100000 in
theorem symA_any {cap : Nat} (N : Nat) (w0 w : World) (g n fn : Nat) (cp : Array Value) (c : Int → Int → Int) (D : List Int) (a m b : Nat) (C : CmpOk N w0 g fn cp c) (h : SD cap N w0 w g n D) (ham : m = a + 1) (hmb : m < b) (hb : b ≤ n) (hn : n ≤ 100000) (hr : Run c D m b) :
    Calls Tryd.prog 76 #[.slice (some ⟨g, 0, none⟩) n cap, .int .i64 a, .int .i64 m, .int .i64 b, .func (.func fn) #[] cp] w fun e w' => e = .returned (.tuple #[]) ∧ ∃ E, SD cap N w0 w' g n E ∧ Run c E a b ∧ RelT c a b D E := by
  have hln := h.ln
  have hen := C.en
  have HC : Hid (CmpOk N w0 g fn cp c) := C
  have HR : Hid (Run c D (a + 1) b) := by rw [ham] at hr; exact hr
  have H0 : Hid (SD cap N w0 w g n D) := h
  have hma : (m : Int) - (a : Int) = 1 := by omega
  have HA : Hid (m = a + 1) := ham
  have ham2 : a < m := by omega
  clear h C hr ham
  go_enter Tryd.func76, Tryd.ntmps76
  go_wp2_with fail
  go_loopw [10, 11] (fun v10 v11 wr => ∃ (i j : Nat) (wk : World), v10 = .int .i64 i ∧ v11 = .int .i64 j ∧ wk = wr ∧ m ≤ i ∧ i ≤ j ∧ j ≤ b ∧ Hid (SD cap N w0 wk g n D ∧ (m < i → c (gD D (i - 1)) (gD D a) < 0) ∧ (j < b → NL (c (gD D j) (gD D a))))) (fun v10 v11 _ => (intOf v11).toNat - (intOf v10).toNat)
  case atStart => exact ⟨m, b, _, rfl, rfl, rfl, by omega, by omega, by omega, ⟨H0.out, fun h => by omega, fun h => by omega⟩⟩
  case round =>
    obtain ⟨i, j, wr, rfl, rfl, rfl, hmi, hij, hjb, HS⟩ := hrel
    clear H0
    by_cases hlt : i < j
    · obtain ⟨s1, s2, s3⟩ := HS.out
      obtain ⟨q, hq⟩ : ∃ q, q = (i + j) / 2 := ⟨_, rfl⟩
      have hq1 : i ≤ q := by omega
      have hq2 : q < j := by omega
      have hq3 : ((i : Int) + (j : Int)) / 2 = (q : Int) := by omega
      obtain ⟨x1, f1⟩ := s1.at (k := q) (by omega)
      obtain ⟨x2, f2⟩ := s1.at (k := a) (by omega)
      have CL : Hid (∀ W, Below wr.heap.size wr W → Calls Tryd.prog fn (#[.int .i64 (gD D q), .int .i64 (gD D a)] ++ cp) W fun e w' => e = .returned (.int .i64 (c (gD D q) (gD D a))) ∧ SD cap N w0 w' g n D) := fun W b => (s1.below b).cmp HC.out (by omega) (by omega)
      have AT : Hid (∀ W, SD cap N w0 W g n D → (W.cell? ⟨g, q, none⟩ = some (.int .i64 (gD D q)) ∧ W.frozen? ⟨g, q, none⟩ = false) ∧ (W.cell? ⟨g, a, none⟩ = some (.int .i64 (gD D a)) ∧ W.frozen? ⟨g, a, none⟩ = false)) := fun W hs => ⟨hs.at (by omega), hs.at (by omega)⟩
      have hcb := HC.out.bd (gD D q) (gD D a)
      have k1 : (0 : Int) ≤ (q : Int) := by omega
      have k2 : (q : Int) < (n : Int) := by omega
      have k3 : (0 : Int) ≤ (a : Int) := by omega
      have k4 : (a : Int) < (n : Int) := by omega
      have U1 : Hid (c (gD D q) (gD D a) < 0 → (m < q + 1 → c (gD D (q + 1 - 1)) (gD D a) < 0) ∧ (j < b → NL (c (gD D j) (gD D a)))) := fun hc => ⟨fun _ => by rw [Nat.add_sub_cancel]; exact hc, s3⟩
      have U2 : Hid (NL (c (gD D q) (gD D a)) → (m < i → c (gD D (i - 1)) (gD D a) < 0) ∧ (q < b → NL (c (gD D q) (gD D a)))) := fun hc => ⟨s2, fun _ => hc⟩
      obtain ⟨vx, hvx⟩ : ∃ vx, vx = gD D q := ⟨_, rfl⟩
      obtain ⟨vy, hvy⟩ : ∃ vy, vy = gD D a := ⟨_, rfl⟩
      obtain ⟨cc, hcc⟩ : ∃ cc, cc = c vx vy := ⟨_, rfl⟩
      rw [← hvx] at x1
      rw [← hvy] at x2
      rw [← hvx, ← hvy, ← hcc] at hcb
      simp only [← hvx, ← hvy, ← hcc] at CL AT
      have HV : Hid (cc = c (gD D q) (gD D a)) := by show _ = _; rw [hcc, hvx, hvy]
      clear s1 s2 s3 HS hq hvx hvy hcc
      by_cases hc : cc < 0
      · have V1 : Hid ((m < q + 1 → c (gD D (q + 1 - 1)) (gD D a) < 0) ∧ (j < b → NL (c (gD D j) (gD D a)))) := U1.out (by rw [← HV.out]; exact hc)
        go_wp2_with fail
        go_region_held3 (fun w' => w'.cell? ⟨g, q, none⟩ = some (.int .i64 vx) ∧ w'.cell? ⟨g, a, none⟩ = some (.int .i64 vy)) (go_keep) ((refine (CL.out _ (by first | exact (Below.refl _ _).drew | exact Below.refl _ _)).mono ?_; rintro e w1 ⟨rfl, q1⟩; have Q1 : Hid _ := q1; obtain ⟨⟨u1, u2⟩, u3, u4⟩ := AT.out _ q1; clear q1))
        go_wp2_with fail
        go_roundw
        case rel => exact ⟨q + 1, j, _, by go_num, rfl, rfl, by omega, by omega, by omega, ⟨Q1.out, V1.out⟩⟩
        case measure => simp [intOf]; omega
      · have V1 : Hid ((m < i → c (gD D (i - 1)) (gD D a) < 0) ∧ (q < b → NL (c (gD D q) (gD D a)))) := U2.out (by rw [← HV.out]; exact hc)
        go_wp2_with fail
        go_region_held3 (fun w' => w'.cell? ⟨g, q, none⟩ = some (.int .i64 vx) ∧ w'.cell? ⟨g, a, none⟩ = some (.int .i64 vy)) (go_keep) ((refine (CL.out _ (by first | exact (Below.refl _ _).drew | exact Below.refl _ _)).mono ?_; rintro e w1 ⟨rfl, q1⟩; have Q1 : Hid _ := q1; obtain ⟨⟨u1, u2⟩, u3, u4⟩ := AT.out _ q1; clear q1))
        go_wp2_with fail
        go_roundw
        case rel => exact ⟨i, q, _, rfl, rfl, rfl, by omega, by omega, by omega, ⟨Q1.out, V1.out⟩⟩
        case measure => simp [intOf]; omega
    · obtain rfl : j = i := by omega
      obtain ⟨s1, s2, s3⟩ := HS.out
      have M0 : Hid (SD cap N w0 wr g n D ∧ Mv D D a a ∧ RelT c a b D D) := ⟨s1, Mv.start D a, RelT.refl _ _ _ _⟩
      have FIN : Hid (∀ E, Mv D E a (j - 1) → Run c E a b) := fun E hE => hE.run HC.out.od HR.out (by have := HA.out; omega) hjb (fun h => s2 (by have := HA.out; omega)) s3
      have FX : Hid (∀ q, a + 1 ≤ q → q < j → c (gD D q) (gD D a) < 0) := fun q h1 h2 => HC.out.od.lt (HR.out.le HC.out.od h1 (show q ≤ j - 1 by omega) (by omega)) (s2 (by have := HA.out; omega)) (HC.out.od.refl _)
      clear HS s1 s2 s3
      go_wp2_with fail
      go_loopw [13] (fun v13 wr => ∃ (k : Nat) (E : List Int) (wk : World), v13 = .int .i64 k ∧ wk = wr ∧ a ≤ k ∧ k + 1 ≤ j ∧ Hid (SD cap N w0 wk g n E ∧ Mv D E a k ∧ RelT c a b D E)) (fun v13 _ => j - (intOf v13).toNat)
      case atStart => exact ⟨a, D, _, rfl, rfl, by omega, by omega, M0⟩
      case round =>
        obtain ⟨k, E, wq, rfl, rfl, hak, hkj, HE⟩ := hrel
        clear M0
        by_cases hk : k + 1 < j
        · obtain ⟨s1, s2, s3⟩ := HE.out
          obtain ⟨x1, f1⟩ := s1.at (k := k) (by omega)
          obtain ⟨x2, f2⟩ := s1.at (k := k + 1) (by omega)
          have hel := s1.ln
          have N1 : Hid (SD cap N w0 ((wq.setCell ⟨g, k, none⟩ (.int .i64 (gD E (k + 1)))).setCell ⟨g, k + 1, none⟩ (.int .i64 (gD E k))) g n (swp E k (k + 1)) ∧ Mv D (swp E k (k + 1)) a (k + 1) ∧ RelT c a b D (swp E k (k + 1))) := ⟨s1.swap (by omega) (by omega), s2.step (by omega) (by omega), s3.up (by have := s3.len; omega) (by omega) (by omega) (by rw [s2 (k + 1), s2 k, if_neg (by omega), if_neg (by omega), if_neg (by omega), if_pos rfl]; exact FX.out (k + 1) (by omega) hk)⟩
          generalize gD E k = va at *
          generalize gD E (k + 1) = vb at *
          have hne : k ≠ k + 1 := by omega
          clear s1 s2 s3 HE
          go_wp2_with fail
          go_region
          all_goals
            go_wp2_with fail
            go_roundw
            case rel => exact ⟨k + 1, _, _, by go_num, rfl, by omega, by omega, ⟨N1.out.1.drew, N1.out.2⟩⟩
            case measure => simp [intOf]; omega
        · obtain ⟨s1, s2, s3⟩ := HE.out
          obtain rfl : j = k + 1 := by omega
          have R1 : Hid (SD cap N w0 wq g n E ∧ Run c E a b ∧ RelT c a b D E) := ⟨s1, FIN.out E s2, s3⟩
          clear s1 s2 s3 HE FIN FX
          go_wp2_with fail
          exact bodyPost_ret (v := .tuple #[]) (by simp [results, Tryd.results76, go_sem]) rfl ⟨rfl, E, R1.out⟩
end Go.Proofs.YtkebflllbphkkaaDoor
