/- Tokens, the laws: among, texts, fails. -/
import Derived.Test.YtkebflllbphkkaaDoorTc1
namespace Go.Proofs.YtkebflllbphkkaaDoor
open Go.RowKit

/-- A number below. -/
def AmR (e : Ending) (n : Int) : Prop := ∃ r : Int, e = .returned (.int .i64 r) ∧ 0 ≤ r ∧ r < n
theorem am_bd (x n : Int) (hn : 1 ≤ n) : -n < x.tmod n ∧ x.tmod n < n := by
  have h1 := Int.tmod_lt_of_pos x (b := n) (by omega)
  have h2 : -n < x.tmod n := by
    have := Int.tmod_lt_of_pos (-x) (b := n) (by omega)
    rw [Int.neg_tmod] at this
    omega
  exact ⟨h2, h1⟩
set_option maxHeartbeats 2000000 in
theorem among_any (x n : Int) (w : World) (hn : 1 ≤ n) (hn2 : n ≤ 1048576) :
    Calls Tryd.prog 11 #[.int .i64 x, .int .i64 n] w fun e w' => AmR e n ∧ w' = w := by
  obtain ⟨h1, h2⟩ := am_bd x n hn
  have hz : ¬ n = 0 := by omega
  have hz1 : (n == 0) = false := by simpa using hz
  have FIN : Hid (∀ r, r = (x.tmod n + n) % n → AmR (.returned (.int .i64 r)) n) := fun r hr => ⟨r, rfl, by rw [hr]; exact Int.emod_nonneg _ (by omega), by rw [hr]; exact Int.emod_lt_of_pos _ (by omega)⟩
  go_enter Tryd.func11, Tryd.ntmps11
  go_wp2
  go_ret
  exact ⟨FIN.out _ rfl, rfl⟩
set_option maxHeartbeats 4000000 in
theorem texts_same (w : World) (v1 v2 : Value) (P : List ByteArray) (h1 : GS KS w v1 P) (h2 : GS KS w v2 P) (hl : P.length ≤ 100000000000000000) :
    Calls Tryd.prog 16 #[v1, v2] w fun e w' => e = .returned (.bool true) ∧ ∃ n, w' = w.drewN n := by
  obtain ⟨p1, c1, rfl⟩ := h1.form
  obtain ⟨p2, c2, rfl⟩ := h2.form
  have A1 : Hid (GS KS w (.slice p1 P.length c1) P) := h1
  have A2 : Hid (GS KS w (.slice p2 P.length c2) P) := h2
  clear h1 h2
  go_enter Tryd.func16, Tryd.ntmps16
  go_wp2
  go_loopw [13] (fun i wr => ∃ k n : Nat, k ≤ P.length ∧ i = .int .i64 k ∧ wr = w.drewN n) (fun i _ => P.length - (intOf i).toNat)
  case atStart => exact ⟨0, 0, Nat.zero_le _, rfl, rfl⟩
  case round =>
    obtain ⟨k, n, hk, rfl, rfl⟩ := hrel
    by_cases hlt : k < P.length
    · obtain ⟨X1, o1, rfl, a1⟩ := A1.out.atS hlt
      obtain ⟨X2, o2, rfl, a2⟩ := A2.out.atS hlt
      generalize P[k] = y at *
      go_wp2
      go_quiet (fail)
      go_wp2
      all_goals
        go_roundw
        case rel => exact ⟨k + 1, _, by omega, by go_num, rfl⟩
        case measure => simp [intOf]; omega
    · go_wp2
      go_ret
      exact ⟨rfl, n, rfl⟩
set_option maxHeartbeats 4000000 in
theorem fails_same (w : World) (v1 v2 : Value) (l : List Cr) (h1 : CS w v1 l) (h2 : CS w v2 l) (hl : l.length ≤ 100000000000000000) :
    Calls Tryd.prog 18 #[v1, v2] w fun e w' => e = .returned (.bool true) ∧ ∃ n, w' = w.drewN n := by
  obtain ⟨p1, c1, rfl⟩ := h1.form
  obtain ⟨p2, c2, rfl⟩ := h2.form
  have A1 : Hid (CS w (.slice p1 l.length c1) l) := h1
  have A2 : Hid (CS w (.slice p2 l.length c2) l) := h2
  clear h1 h2
  go_enter Tryd.func18, Tryd.ntmps18
  go_wp2
  go_loopw [13] (fun v5 wr => ∃ (k m : Nat), v5 = .int .i64 k ∧ k ≤ l.length ∧ wr = w.drewN m) (fun v5 _ => l.length - (intOf v5).toNat)
  case atStart => exact ⟨0, 0, rfl, Nat.zero_le _, rfl⟩
  case round =>
    obtain ⟨k, m, rfl, hk, rfl⟩ := hrel
    by_cases hlt : k < l.length
    · obtain ⟨X1, o1, e1, x1, x2, x3⟩ := A1.out.at hlt
      obtain rfl : p1 = some ⟨X1, o1, none⟩ := e1
      obtain ⟨X2, o2, e2, y1, y2, y3⟩ := A2.out.at hlt
      obtain rfl : p2 = some ⟨X2, o2, none⟩ := e2
      obtain ⟨f, hf⟩ : ∃ f, f = l[k] := ⟨_, rfl⟩
      rw [← hf] at x1 x2 x3 y1 y2 y3
      clear hf
      go_wp2
      go_quiet (fail)
      go_wp2
      all_goals
        go_roundw
        case rel => exact ⟨k + 1, _, by go_num, by omega, rfl⟩
        case measure => simp [intOf]; omega
    · go_wp2
      go_ret
      exact ⟨rfl, m, rfl⟩
end Go.Proofs.YtkebflllbphkkaaDoor
