/- Depend: twice as far; the least in circles. -/
import Derived.Test.YtjgmnbiigfpbcaaDc2
import Derived.Test.YtjgmnbiigfpbcaaDa4
namespace Go.Proofs.Ytjgmnbiigfpbcaa
open Go.RowKit

theorem GS.slot {w : World} {p : Option Addr} {n cap : Nat} {l : List Int} (h : GS KI w (.slice p n cap) l) (hl : 0 < l.length) : ∃ Y o, p = some ⟨Y, o, none⟩ ∧ Y < w.heap.size ∧ ∀ k (hk : k < l.length), w.cell? ⟨Y, o + k, none⟩ = some (.int .i64 l[k]) := by
  obtain ⟨Y, o, h1, hY, _⟩ := GS.at h hl
  refine ⟨Y, o, h1, hY, fun k hk => ?_⟩
  obtain ⟨Y2, o2, h3, h4⟩ := h.atI hk
  rw [h1] at h3
  injection h3 with h3
  injection h3 with h5 h6 _
  subst h5 h6
  exact h4
theorem set_getD {l : List Int} {k : Nat} (hk : k < l.length) (x : Int) (j : Nat) : (l.set k x).getD j 0 = if j = k then x else l.getD j 0 := by
  by_cases e : j = k
  · subst e; simp [List.getD, hk]
  · simp [List.getD, e, List.getElem?_set_ne (Ne.symm e)]
set_option maxHeartbeats 8000000 in
theorem twice_any (M : List Int) (hr : rlB M = true) (hn : M.length ≤ 4096) (p : Option Addr) (c : Nat) (w : World) (h : GS KI w (.slice p M.length c) M) : Calls Try.prog 53 #[.slice p M.length c] w fun e w' => ∃ g, e = .returned (.slice (some ⟨g, 0, none⟩) M.length M.length) ∧ OwnG KI w' w.heap.size (.slice (some ⟨g, 0, none⟩) M.length M.length) (twL M) ∧ Below w.heap.size w w' := by
  have HG := hid h
  have HR := hid hr
  clear h hr
  go_enter Try.func53, Try.ntmps53
  go_wp2_with (refine make_g KI KI_ok 0 rfl rfl w rfl (.tmp 7) (.tmp 7) 35 rfl Try.underlying35 M.length rfl rfl (by omega) (by decide) ?_; intro w1 ho1 hb1; have O1 := hid ho1; have B1 := hid hb1; clear ho1 hb1)
  have hnl : w.heap.size < w1.heap.size := (O1.out.lt (g := w.heap.size) rfl).2
  obtain ⟨g0, hg0⟩ : ∃ g0, g0 = w.heap.size := ⟨_, rfl⟩
  rw [← hg0] at O1 hnl ⊢
  have HZ := hid hg0
  clear hg0
  obtain ⟨n, hnn⟩ : ∃ n, n = M.length := ⟨_, rfl⟩
  rw [← hnn] at hn O1 ⊢
  have HN := hid hnn
  clear hnn
  go_loopw [11] (fun v11 wr => ∃ (k : Nat) (S : List Int) (wk : World), k ≤ n ∧ v11 = .int .i64 k ∧ wk = wr ∧ Hid (S.length = n) ∧ Hid (∀ j, j < k → S.getD j 0 = twA M j) ∧ Hid (OwnG KI wk g0 (.slice (some ⟨g0, 0, none⟩) n n) S) ∧ Hid (Below g0 w wk)) (fun v11 _ => n - (intOf v11).toNat)
  case atStart => exact ⟨0, List.replicate n 0, _, Nat.zero_le _, rfl, rfl, List.length_replicate, fun j hj => absurd hj (Nat.not_lt_zero _), O1, by rw [HZ.out]; exact B1.out⟩
  case round =>
    obtain ⟨k, S, wr, hk, rfl, rfl, HS, HV, HO, HB⟩ := hrel
    by_cases hlt : k < n
    · have hlM : k < M.length := by have := HN.out; omega
      have HGr : GS KI wr (.slice p M.length c) M := HG.out.below (by rw [← HZ.out]; exact HB.out)
      obtain ⟨Y, o, e1, hY, hcell⟩ := (HG.out).slot (by omega : 0 < M.length)
      subst e1
      have hYg : ¬ Y = g0 := by have := HZ.out; omega
      have hcw : ∀ j (hj : j < M.length), wr.cell? ⟨Y, o + j, none⟩ = some (.int .i64 M[j]) := fun j hj => (HB.out.cell (p := ⟨Y, o + j, none⟩) (by have := HZ.out; show Y < g0; omega)).trans (hcell j hj)
      have ck := hcw k hlM
      obtain ⟨X0, o0, eX, d0⟩ := (HO.out.gs KI_ok.len).atI (k := k) (by have := HS.out; omega)
      injection eX with eX
      injection eX with eX1 eX2 _
      subst eX1 eX2
      rw [Nat.zero_add] at d0
      have f0 := own_frozen HO.out
      obtain ⟨s0, hs0⟩ : ∃ s0, s0 = S[k]'(by have := HS.out; omega) := ⟨_, rfl⟩
      rw [← hs0] at d0
      have O2 := hid (HO.out.set1 (k := k) rfl KI_ok.len (-1 : Int) _ rfl)
      have B2 : Hid (Below g0 w (wr.setCell ⟨g0, k, none⟩ (.int .i64 (-1)))) := HB.out.setCell (Nat.le_refl _) _
      have LS : Hid (∀ x : Int, (S.set k x).length = n) := fun x => by rw [List.length_set]; exact HS.out
      have VS : Hid (∀ x : Int, x = twA M k → ∀ j, j < k + 1 → (S.set k x).getD j 0 = twA M j) := fun x hx j hj => by
        rw [set_getD (by have := HS.out; omega)]
        by_cases e : j = k
        · rw [if_pos e, hx, e]
        · rw [if_neg e]; exact HV.out j (by omega)
      by_cases hneg : M[k] < 0
      · have TW := hid (twA_no hlM hneg)
        have hx : M[k] = -1 := by have := (rlB_at HR.out hlM).1; omega
        rw [hx] at ck
        clear hcell hcw hs0 HGr hneg hx
        go_wp2
        go_roundw
        case rel => exact ⟨k + 1, S.set k (-1), _, by omega, by go_num, rfl, LS.out _, VS.out _ TW.out.symm, O2, B2⟩
        case measure => simp [intOf]; omega
      · obtain ⟨j, hj⟩ : ∃ j : Nat, M[k] = (j : Int) := ⟨M[k].toNat, by omega⟩
        have hjl : j < M.length := by have := (rlB_at HR.out hlM).2; omega
        have TW := hid (twA_yes HR.out hlM hj hjl)
        have cj := hcw j hjl
        rw [hj] at ck
        obtain ⟨y, hy⟩ : ∃ y, y = M[j] := ⟨_, rfl⟩
        rw [← hy] at cj TW
        have O3 := hid (O2.out.set1 (k := k) rfl KI_ok.len y _ rfl)
        have B3 : Hid (Below g0 w ((wr.setCell ⟨g0, k, none⟩ (.int .i64 (-1))).setCell ⟨g0, k, none⟩ (.int .i64 y))) := B2.out.setCell (Nat.le_refl _) _
        have hjn : (j : Int) < n := by have := HN.out; omega
        have hjm : ((j : Int) != -1) = true := by simp
        have SS : Hid (((S.set k (-1)).set k y) = S.set k y) := List.set_set ..
        clear hcell hcw hs0 HGr hneg hy hj
        go_wp2
        go_roundw
        case rel => exact ⟨k + 1, S.set k y, _, by omega, by go_num, rfl, LS.out _, VS.out _ TW.out.symm, by rw [← SS.out]; exact O3.out, B3⟩
        case measure => simp [intOf]; omega
    · have hkn : k = n := by omega
      have EQ : Hid (S = twL M) := by
        show _ = _
        apply List.ext_getElem (by rw [twL_len, HS.out, HN.out])
        intro j h1 h2
        have hj : j < M.length := by rw [twL_len] at h2; exact h2
        rw [twL_at hj, ← HV.out j (by have := HN.out; omega)]
        simp [List.getD, h1]
      clear hkn
      go_wp2
      go_ret
      rw [← HN.out, ← HZ.out, ← EQ.out]
      exact ⟨g0, rfl, HO.out, HB.out⟩
/-- Rows of numbers that read as a list, with their length. -/
theorem GS.len_eq {w : World} {p : Option Addr} {n c : Nat} {l : List Int} (h : GS KI w (.slice p n c) l) : n = l.length := by
  obtain ⟨_, _, e⟩ := h.form
  injection e
end Go.Proofs.Ytjgmnbiigfpbcaa
