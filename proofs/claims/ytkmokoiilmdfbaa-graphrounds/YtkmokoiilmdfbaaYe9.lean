/- Graph: nearest. -/
import Derived.Test.YtkmokoiilmdfbaaYe7
import Derived.Test.YtkmokoiilmdfbaaYe8
namespace Go.Proofs.Ytkmokoiilmdfbaa
open Go.RowKit

theorem far_at {w : World} {p : Option Addr} {n cap N : Nat} {F : Nat → Int} (h : GS KI w (.slice p n cap) ((List.range N).map F)) {y : Nat} (hy : y < N) : ∃ X o, p = some ⟨X, o, none⟩ ∧ w.cell? ⟨X, o + y, none⟩ = some (.int .i64 (F y)) := by
  obtain ⟨X, o, e, hc⟩ := h.atI (k := y) (by simpa using hy)
  refine ⟨X, o, e, ?_⟩
  rw [hc]
  simp
set_option maxRecDepth 100000 in
set_option maxHeartbeats 8000000 in
theorem nearest_any (w : World) (N : Nat) (v u : Value) (l : List Nat) (F : Nat → Int) (hv : GS KI w v (nI l)) (hu : GS KI w u ((List.range N).map F)) (hl : ∀ y ∈ l, y < N) (hll : l.length ≤ 4096) (_hN : N ≤ 4096) (lo : ∀ y, F y = -1 ∨ 0 ≤ F y) : Calls Try.prog 55 #[v, u] w fun e w' => e = .returned (.int .i64 (nrL F l)) ∧ Below w.heap.size w w' := by
  obtain ⟨p, c, rfl⟩ := hv.form
  obtain ⟨pu, cu, rfl⟩ := hu.form
  rw [nI_len]
  rw [List.length_map, List.length_range]
  have A1 := hid (fun w' (hb : Below w.heap.size w w') j (hj : j < (nI l).length) => GS.atI (hv.below hb) hj)
  have A2 := hid (fun w' (hb : Below w.heap.size w w') y (hy : y < N) => far_at (hu.below hb) hy)
  have IX := hid (fun j (hj : j < l.length) => nI_at hj)
  have LN := hid hl
  have LO := hid lo
  have NS := hid (fun j (hj : j < l.length) => (congrArg (nrL F) (List.take_succ_eq_append_getElem hj)).trans (nrL_snoc F (l.take j) l[j]))
  obtain ⟨m, hm⟩ : ∃ m, m = l.length := ⟨_, rfl⟩
  rw [← hm] at hll ⊢
  have M1 : Hid (l.length = m) := hm.symm
  have B0 := hid (Below.refl w.heap.size w)
  have FIN : Hid (∀ j, j = m → nrL F (l.take j) = nrL F l) := fun j hj => by rw [hj, ← M1.out, List.take_length]
  clear hv hu hl lo hm
  go_enter Try.func55, Try.ntmps55
  go_wp2_with fail
  go_loopw [5, 10] (fun v5 v10 wr => ∃ (j : Nat) (b : Int) (wk : World), v10 = .int .i64 j ∧ v5 = .int .i64 b ∧ wk = wr ∧ j ≤ m ∧ Hid (b = nrL F (l.take j)) ∧ Hid (Below w.heap.size w wk)) (fun _ v10 _ => m - (intOf v10).toNat)
  case atStart => exact ⟨0, -1, _, rfl, rfl, rfl, Nat.zero_le _, rfl, B0⟩
  case round =>
    obtain ⟨j, b, wr, rfl, rfl, rfl, hj, HB, HW⟩ := hrel
    clear B0
    by_cases hlt : j < m
    · have j1 : j < l.length := by rw [M1.out]; exact hlt
      obtain ⟨X, o, e1, c1⟩ := A1.out wr HW.out j (by rw [nI_len]; exact j1)
      rw [IX.out j j1] at c1
      have hji : (j : Int) < (m : Nat) := by omega
      have hy : l[j] < N := LN.out _ (List.getElem_mem j1)
      obtain ⟨Y, o2, e2, c2⟩ := A2.out wr HW.out l[j] hy
      have N1 := hid (NS.out j j1)
      have W2 := hid (fun nq => bl3 HW.out (drew_below wr nq))
      have BI : Hid (b = -1 ∨ ∃ b' : Nat, b = b' ∧ b' < N ∧ 0 ≤ F b') := by
        rcases nrL_is F (l.take j) with ⟨q1, _⟩ | ⟨b', q1, q2, q3, _⟩
        · exact Or.inl (HB.out.trans q1)
        · exact Or.inr ⟨b', HB.out.trans q1, LN.out _ (List.mem_of_mem_take q2), q3⟩
      rw [← HB.out] at N1
      generalize l[j] = y at *
      subst e1 e2
      clear j1 HB
      have hyi : (y : Int) < (N : Nat) := by omega
      rcases LO.out y with hF | hF
      · have R1 : Hid (b = nrL F (l.take (j + 1))) := by show _ = _; rw [N1.out]; unfold nr1; rw [if_neg (by omega)]
        rw [hF] at c2
        clear hF BI N1
        go_wp2_with fail
        go_quiet (fail)
        go_wp2_with fail
        all_goals
          go_roundw
          case rel => exact ⟨j + 1, b, _, by go_num, rfl, rfl, by omega, R1, W2.out _⟩
          case measure => simp [intOf]; omega
      · have hF1 : ¬ F y = -1 := by omega
        have hFb : (F y != -1) = true := by simp [hF1]
        rcases BI.out with rfl | ⟨b', rfl, hb', hFb'⟩
        · have R1 : Hid ((y : Int) = nrL F (l.take (j + 1))) := by show _ = _; rw [N1.out]; unfold nr1; rw [if_pos ⟨hF, Or.inl (by omega)⟩]
          clear BI N1
          generalize F y = fy at *
          go_wp2_with fail
          go_quiet (fail)
          go_wp2_with fail
          all_goals
            go_roundw
            case rel => exact ⟨j + 1, (y : Int), _, by go_num, rfl, rfl, by omega, R1, W2.out _⟩
            case measure => simp [intOf]; omega
        · obtain ⟨Y3, o3, e3, c3⟩ := A2.out wr HW.out b' hb'
          injection e3 with e3
          injection e3 with e3 e4 _
          subst e3 e4
          have hb1 : ((b' : Int) == -1) = false := by simp
          have hb2 : ¬ (b' : Int) = -1 := by omega
          have hbi : (b' : Int) < (N : Nat) := by omega
          by_cases hlt2 : F y < F b'
          · have R1 : Hid ((y : Int) = nrL F (l.take (j + 1))) := by show _ = _; rw [N1.out]; unfold nr1; rw [if_pos ⟨hF, Or.inr (by simpa using hlt2)⟩]
            clear BI N1
            generalize F y = fy at *
            generalize F b' = fb at *
            have hd : decide (fy < fb) = true := by simp [hlt2]
            go_wp2_with fail
            go_quiet (fail)
            go_wp2_with fail
            all_goals
              go_roundw
              case rel => exact ⟨j + 1, (y : Int), _, by go_num, rfl, rfl, by omega, R1, W2.out _⟩
              case measure => simp [intOf]; omega
          · have R1 : Hid ((b' : Int) = nrL F (l.take (j + 1))) := by
              show _ = _
              rw [N1.out]
              unfold nr1
              rw [if_neg (fun q => hlt2 (by simpa using q.2.resolve_left (by omega)))]
            clear BI N1
            generalize F y = fy at *
            generalize F b' = fb at *
            have hd : decide (fy < fb) = false := by simp [hlt2]
            go_wp2_with fail
            go_quiet (fail)
            go_wp2_with fail
            all_goals
              go_roundw
              case rel => exact ⟨j + 1, (b' : Int), _, by go_num, rfl, rfl, by omega, R1, W2.out _⟩
              case measure => simp [intOf]; omega
    · have hji : ¬ (j : Int) < (m : Nat) := by omega
      have HF := hid (HB.out.trans (FIN.out j (by omega)))
      go_wp2_with fail
      go_ret
      exact ⟨ret_i HF.out, HW.out⟩
end Go.Proofs.Ytkmokoiilmdfbaa
