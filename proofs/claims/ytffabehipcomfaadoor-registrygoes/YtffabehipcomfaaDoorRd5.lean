/- Registry, the statements: spoil, among. -/
import Derived.Test.YtffabehipcomfaaDoorRd4
namespace Go.Proofs.YtffabehipcomfaaDoor
open Go.RowKit Go.Maps

/-- A block of rows of operations, all else as it was. -/
structure SPo (w : World) (g c : Nat) (wk : World) : Prop where
  b : ∃ cur : Array Value, wk.heap[g]? = some (.cells cur 71 (0, 0)) ∧ cur.size = c * 4
  k : But (fun x => x = g) w wk
theorem SPo.four {w wk : World} {g c i : Nat} (h : SPo w g c wk) (hi : i < c) (x0 x1 x2 x3 : Value) : (∃ u0 u1 u2 u3, wk.cell? ⟨g, i * 4, none⟩ = some u0 ∧ wk.cell? ⟨g, i * 4 + 1, none⟩ = some u1 ∧ wk.cell? ⟨g, i * 4 + 2, none⟩ = some u2 ∧ wk.cell? ⟨g, i * 4 + 3, none⟩ = some u3) ∧ (∀ o, wk.frozen? ⟨g, o, none⟩ = false) ∧ SPo w g c ((((wk.setCell ⟨g, i * 4, none⟩ x0).setCell ⟨g, i * 4 + 1, none⟩ x1).setCell ⟨g, i * 4 + 2, none⟩ x2).setCell ⟨g, i * 4 + 3, none⟩ x3) := by
  obtain ⟨⟨cur, hb, hz⟩, hk⟩ := h
  have e : ∀ j, j < c * 4 → ∃ u, wk.cell? ⟨g, j, none⟩ = some u := fun j hj => ⟨cur[j]'(by omega), by rw [cell_of_row _ _ _ _ _ _ hb, Array.getElem?_eq_getElem]⟩
  obtain ⟨u0, e0⟩ := e (i * 4) (by omega)
  obtain ⟨u1, e1⟩ := e (i * 4 + 1) (by omega)
  obtain ⟨u2, e2⟩ := e (i * 4 + 2) (by omega)
  obtain ⟨u3, e3⟩ := e (i * 4 + 3) (by omega)
  refine ⟨⟨u0, u1, u2, u3, e0, e1, e2, e3⟩, (fun o => by simp [World.frozen?, hb]), ⟨⟨_, heap_setCell_same _ g _ _ _ x3 (heap_setCell_same _ g _ _ _ x2 (heap_setCell_same _ g _ _ _ x1 (heap_setCell_same _ g _ _ _ x0 hb))), by simp [hz]⟩, ?_⟩⟩
  have f : ∀ (W : World) (o : Nat) (v : Value) y, y ≠ g → (W.setCell ⟨g, o, none⟩ v).heap[y]? = W.heap[y]? := fun W o v y hy => Below.heap_setCell _ _ _ _ hy
  refine ⟨hk.os, hk.tape, hk.output, by have := hk.size; simp; omega, fun y hy hn => ?_⟩
  rw [f _ _ _ _ hn, f _ _ _ _ hn, f _ _ _ _ hn, f _ _ _ _ hn]
  exact hk.block y hy hn
set_option maxHeartbeats 8000000 in
theorem spoil_own (g n c : Nat) (M : List Opn) (w : World) (base : Nat) (h : OwnG KO w base (.slice (some ⟨g, 0, none⟩) n c) M) : Calls Tryd.prog 20 #[.slice (some ⟨g, 0, none⟩) n c] w fun e w' => e = .returned (.tuple #[]) ∧ But (fun x => x = g) w w' := by
  have H0 : n ≤ c ∧ c ≤ maxLen ∧ SPo w g c w := by
    rcases h.2 with ⟨e, _⟩ | ⟨g', cap, cur, e, _, hb, h1, h2, h3, _⟩
    · cases e
    · injection e with e1 e2 e3
      injection e1 with e1
      injection e1 with e1
      subst e1 e2 e3
      exact ⟨h1, h2, ⟨cur, hb, h3⟩, But.refl _ _⟩
  obtain ⟨h1, h2, S0⟩ := H0
  have HS := hidr S0
  unfold maxLen at h2
  clear h S0
  go_enter Tryd.func20, Tryd.ntmps20
  go_wp2_with fail
  go_loopw [2] (fun v2 wr => ∃ (k : Nat) (wk : World), v2 = .int .i64 k ∧ wk = wr ∧ k ≤ c ∧ Hid (SPo w g c wk)) (fun v2 _ => c - (intOf v2).toNat)
  case atStart => exact ⟨0, _, rfl, rfl, Nat.zero_le _, HS⟩
  case round =>
    obtain ⟨k, wr, rfl, rfl, hk, HK⟩ := hrel
    clear HS
    by_cases hlt : k < c
    · obtain ⟨⟨u0, u1, u2, u3, e0, e1, e2, e3⟩, fz, hs⟩ := HK.out.four hlt (.int .i64 (-7)) (.int .i64 0) (.int .i64 0) (.string ByteArray.empty)
      have HS2 := hidr hs
      clear hs
      go_wp2_with fail
      go_roundw
      case rel => exact ⟨k + 1, _, by go_num, rfl, by omega, HS2⟩
      case measure => simp [intOf]; omega
    · obtain rfl : k = c := by omega
      have F := hidr HK.out.k
      go_wp2_with fail
      go_end0
      exact ⟨rfl, F.out⟩
/-- Whatever slice of the call's own. -/
theorem spoil_any (v : Value) (M : List Opn) (w : World) (base : Nat) (h : OwnG KO w base v M) (hb : base ≤ w.heap.size) : Calls Tryd.prog 20 #[v] w fun e w' => e = .returned (.tuple #[]) ∧ Below base w w' := by
  rcases h.2 with ⟨rfl, e0⟩ | ⟨g, cap, cur, rfl, hg, _⟩
  · have Z : Hid (Below base w w) := Below.refl _ _
    clear h
    go_enter Tryd.func20, Tryd.ntmps20
    go_wp2_with fail
    go_loopw [2] (fun v2 wr => v2 = .int .i64 0 ∧ wr = w) (fun _ _ => 0)
    case atStart => exact ⟨rfl, rfl⟩
    case round =>
      obtain ⟨rfl, rfl⟩ := hrel
      go_wp2_with fail
      go_end0
      exact ⟨rfl, Z.out⟩
  · refine (spoil_own g _ cap M w base h).mono ?_
    rintro e w' ⟨rfl, b⟩
    exact ⟨rfl, b.os, b.tape, b.output, b.size, fun x hx => b.block x (by omega) (by omega)⟩
def amF (n : Int) : Int := (n % 18446744073709551616) % 6
theorem amF_bd (n : Int) : 0 ≤ amF n ∧ amF n < 6 := by unfold amF; omega
set_option maxHeartbeats 2000000 in
theorem among_any (x : Int) (w : World) : Calls Tryd.prog 18 #[.int .i64 x, .int .i64 6] w fun e w' => e = .returned (.int .i64 (amF x)) ∧ w' = w := by
  have HA : Hid (amF x = (x % 18446744073709551616) % 6) := rfl
  generalize amF x = r at *
  go_enter Tryd.func18, Tryd.ntmps18
  go_wp2
  go_ret
  refine ⟨ret_int ?_, rfl⟩
  rw [HA.out]
  have h1 : IntKind.u64.wrap x = x % 18446744073709551616 := by simp [IntKind.wrap, IntKind.bits, IntKind.signed]
  have h2 : (x % 18446744073709551616).tmod 6 = (x % 18446744073709551616) % 6 := Int.tmod_eq_emod_of_nonneg (Int.emod_nonneg _ (by decide))
  rw [h1, h2]
  unfold wrap64
  omega
end Go.Proofs.YtffabehipcomfaaDoor
