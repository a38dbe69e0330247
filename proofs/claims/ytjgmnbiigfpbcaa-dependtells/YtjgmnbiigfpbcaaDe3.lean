/- Depend: a web under calls. -/
import Derived.Test.YtjgmnbiigfpbcaaDd2
import Derived.Test.YtjgmnbiigfpbcaaDo1
namespace Go.Proofs.Ytjgmnbiigfpbcaa
open Go.RowKit

theorem box3c {w : World} {B : Nat} {a b c : Value} {t : TypeId} (h : w.heap[B]? = some (.cells #[a, b, c] t)) : w.cell? ⟨B, 0, none⟩ = some a ∧ w.cell? ⟨B, 1, none⟩ = some b ∧ w.cell? ⟨B, 2, none⟩ = some c :=
  ⟨cell_of_row _ _ _ _ _ _ h, cell_of_row _ _ _ _ _ _ h, cell_of_row _ _ _ _ _ _ h⟩
set_option maxRecDepth 100000 in
set_option maxHeartbeats 16000000 in
theorem played_any (v : Value) (L : List Ca) (w : World) (hl : GS KCa w v L) (hn : L.length ≤ 140737488355328) : Calls Try.prog 16 #[v] w fun e w' => ∃ b X, e = .returned (.pointer (some ⟨b, 0, none⟩)) ∧ PW w w' b X L.length := by
  obtain ⟨p, c, hv⟩ := hl.form
  subst hv
  have HL := hid hl
  have N0 := hid (new_pw w)
  obtain ⟨n, hnn⟩ : ∃ n, n = L.length := ⟨_, rfl⟩
  rw [← hnn] at hn ⊢
  have HN := hid hnn
  clear hl hnn
  go_enter Try.func16, Try.ntmps16
  go_wp2_with (go_at_call 10; refine N0.out.mono ?_; rintro e w1 ⟨rfl, h1⟩; have P1 := hid h1; clear h1)
  go_loopw [3, 9] (fun v3 v9 wr => ∃ (k b : Nat) (X : Wb) (wk : World), k ≤ n ∧ v9 = .int .i64 k ∧ v3 = .pointer (some ⟨b, 0, none⟩) ∧ wk = wr ∧ Hid (PW w wk b X k)) (fun _ v9 _ => n - (intOf v9).toNat)
  case atStart => exact ⟨0, _, webO, _, Nat.zero_le _, rfl, rfl, rfl, P1⟩
  case round =>
    obtain ⟨k, b, X, wr, hk, rfl, rfl, rfl, HP⟩ := hrel
    clear P1 N0
    by_cases hlt : k < n
    · have hkL : k < L.length := by have := HN.out; omega
      obtain ⟨Y, o, e1, hY, c0, c1, c2⟩ := (HL.out.below HP.out.bl).atCa hkL
      subst e1
      generalize L[k] = x at *
      have hbl := HP.out.lt
      have hYn : ¬ Y = wr.heap.size := by omega
      have AM := hid (fun w' => among_any x.k 6 (by omega) w')
      have am1 := amF_bd x.k 6 (by omega)
      generalize amF x.k 6 = am at *
      obtain ⟨k0, t, c⟩ := x
      simp only at c0 c1 c2 AM
      have PA := hid (fun ob => HP.out.below (bal wr ob))
      have E0 := hid (fun (W : World) (h : PW w W b X k) => begin_pw h (by omega) t c)
      have E1 := hid (fun (W : World) (h : PW w W b X k) => end_pw h t)
      have E2 := hid (fun (W : World) (h : PW w W b X k) => ask_pw h t c)
      have E3 := hid (fun (W : World) (h : PW w W b X k) => wait_pw h (by omega) t c)
      have E4 := hid (fun (W : World) (h : PW w W b X k) => wake_pw h t)
      have E5 := hid (fun (W : World) (h : PW w W b X k) => clone_pw h)
      have hc : am = 0 ∨ am = 1 ∨ am = 2 ∨ am = 3 ∨ am = 4 ∨ am = 5 := by omega
      clear HL HP am1
      rcases hc with rfl | rfl | rfl | rfl | rfl | rfl
      · go_wp2_with (first | (go_at_call 19; refine (AM.out _).mono ?_; rintro e w' ⟨rfl, hw⟩; rw [hw]; clear hw) | (go_at_call 25; refine (E0.out _ (PA.out _)).mono ?_; rintro e w2 ⟨rfl, h2, _⟩; have P2 := hid h2; clear h2))
        go_roundw
        case rel => exact ⟨k + 1, _, _, _, by omega, by go_num, rfl, rfl, P2⟩
        case measure => simp [intOf]; omega
      · go_wp2_with (first | (go_at_call 19; refine (AM.out _).mono ?_; rintro e w' ⟨rfl, hw⟩; rw [hw]; clear hw) | (go_at_call 26; refine (E1.out _ (PA.out _)).mono ?_; rintro e w2 ⟨q, cc, rfl, _, h2, _⟩; have P2 := hid h2; clear h2))
        go_roundw
        case rel => exact ⟨k + 1, _, _, _, by omega, by go_num, rfl, rfl, P2.out.up (by omega)⟩
        case measure => simp [intOf]; omega
      · go_wp2_with (first | (go_at_call 19; refine (AM.out _).mono ?_; rintro e w' ⟨rfl, hw⟩; rw [hw]; clear hw) | (go_at_call 21; refine (E2.out _ (PA.out _)).mono ?_; rintro e w2 ⟨q, cc, rfl, _, h2, _⟩; have P2 := hid h2; clear h2))
        go_roundw
        case rel => exact ⟨k + 1, _, _, _, by omega, by go_num, rfl, rfl, P2.out.up (by omega)⟩
        case measure => simp [intOf]; omega
      · go_wp2_with (first | (go_at_call 19; refine (AM.out _).mono ?_; rintro e w' ⟨rfl, hw⟩; rw [hw]; clear hw) | (go_at_call 22; refine (E3.out _ (PA.out _)).mono ?_; rintro e w2 ⟨q, cc, rfl, _, h2, _⟩; have P2 := hid h2; clear h2))
        go_roundw
        case rel => exact ⟨k + 1, _, _, _, by omega, by go_num, rfl, rfl, P2⟩
        case measure => simp [intOf]; omega
      · go_wp2_with (first | (go_at_call 19; refine (AM.out _).mono ?_; rintro e w' ⟨rfl, hw⟩; rw [hw]; clear hw) | (go_at_call 27; refine (E4.out _ (PA.out _)).mono ?_; rintro e w2 ⟨rfl, h2, _⟩; have P2 := hid h2; clear h2))
        go_roundw
        case rel => exact ⟨k + 1, _, _, _, by omega, by go_num, rfl, rfl, P2.out.up (by omega)⟩
        case measure => simp [intOf]; omega
      · go_wp2_with (first | (go_at_call 19; refine (AM.out _).mono ?_; rintro e w' ⟨rfl, hw⟩; rw [hw]; clear hw) | (go_at_call 33; refine (E5.out _ (PA.out _)).mono ?_; rintro e w2 ⟨rfl, h2, _⟩; have P2 := hid h2; clear h2))
        go_roundw
        case rel => exact ⟨k + 1, _, _, _, by omega, by go_num, rfl, rfl, by have h9 := P2.out; rw [alloc_size] at h9; exact h9.up (by omega)⟩
        case measure => simp [intOf]; omega
    · go_wp2
      go_ret
      exact ⟨b, X, rfl, HP.out.up hk⟩
end Go.Proofs.Ytjgmnbiigfpbcaa
