/- Depend: the law DependRound. -/
import Derived.Test.YtjgmnbiigfpbcaaDd2
namespace Go.Proofs.Ytjgmnbiigfpbcaa
open Go.RowKit

theorem mod_step {k n : Nat} (hk : k < n) : ∃ j : Nat, j = (k + 1) % n ∧ j < n ∧ ((k : Int) + 1).tmod n = j := by
  refine ⟨_, rfl, Nat.mod_lt _ (by omega), ?_⟩
  rw [Int.tmod_eq_emod_of_nonneg (by omega)]
  push_cast
  rfl
theorem itn_end_neg {o : Option Nat} (h : o = none) : ¬ (0 : Int) ≤ eO o := by rw [h]; decide
set_option maxRecDepth 100000 in
set_option maxHeartbeats 16000000 in
theorem dependRound_any (v : Value) (L : List Int) (w : World) (hl : GS KI w v L) (hsz : L.length * 8 ≤ 140737488355328) : Calls Try.prog 8 #[v] w fun e w' => e = .returned (.bool true) ∧ Below w.heap.size w w' := by
  obtain ⟨p, c, hv⟩ := hl.form
  subst hv
  have WK := hid (works_any w)
  have HL := hid hl
  have LB : Hid ((([] : List Int).length + L.length) * KI.B ≤ 140737488355328) := by show (0 + L.length) * 8 ≤ _; omega
  have CF : Hid (∀ (W : World) (q : Option Addr) (cc : Nat), GS KI W (.slice q L.length cc) L → Calls Try.prog 13 #[.slice q L.length cc] W fun e w' => ∃ R q cc, e = .returned (.tuple #[.slice q R.length cc, .int .i64 (cirE L)]) ∧ OwnG KI w' W.heap.size (.slice q R.length cc) (nI R) ∧ CirO L R ∧ Below W.heap.size W w') := fun W q cc k => circleF_any L q cc W k (by omega)
  have OF : Hid (∀ (W : World) (b : Nat) (u : Value), OwnG KI W b u ([] ++ L) → ∃ q cc, u = .slice q L.length cc ∧ GS KI W (.slice q L.length cc) L) := fun W b u ho => by
    rw [List.nil_append] at ho
    obtain ⟨q, cc, e, _⟩ := ho.form
    subst e
    exact ⟨q, cc, rfl, ho.gs KI_ok.len⟩
  clear hl
  go_enter Try.func8, Try.ntmps8
  go_upto_region 4 with (first | (go_at_call 9; refine WK.out.mono ?_; rintro e w1 ⟨rfl, hb1⟩; have B1 := hid hb1; clear hb1) | (at_builtin; refine append_gs KI KI_ok rfl (.tmp 12) (.tmp 13) 35 rfl w1.heap.size Try.underlying35 _ _ _ [] L rfl rfl (OwnG.empty KI w1) (HL.out.below (bl3 B1.out (bal _ _))) LB.out (by simp) ?_; intro u w2 ho2 hb2 hk2; clear hk2; obtain ⟨q2, c2, rfl, hg2⟩ := OF.out _ _ _ ho2; have G2 := hid hg2; have B2 : Hid (Below w1.heap.size w1 w2) := (bal w1 _).trans hb2; clear ho2 hb2 hg2) | (go_at_call 13; refine (CF.out _ _ _ G2.out).mono ?_; rintro e w3 ⟨R, q3, c3, rfl, ho3, hO, hb3⟩; have O3 := hid ho3; have HO := hid hO; have B3 := hid (bl3 (bl3 B1.out B2.out) hb3); clear ho3 hO hb3))
  clear WK LB CF OF G2
  by_cases he : cirE L = 0
  · obtain ⟨hr, hn, hC⟩ := HO.out.1 he
    have HR := hid hr
    have HC := hid hC
    rw [he]
    have HLw := hid (HL.out.below B3.out)
    clear hr hC HO he
    by_cases hRe : R = []
    · have NC : Hid (∀ i, i < L.length → itn (fL L) (L.length + 1) i = none) := fun i hi => no_cyc_end HR.out (by
        rcases HC.out with ⟨_, h⟩ | ⟨m, hm, hw⟩
        · exact h
        · exact absurd hRe hw.ne) hi
      subst hRe
      have hZ : ([] : List Nat).length = 0 := rfl
      rw [hZ]
      clear O3 HC hZ
      obtain ⟨n, hnn⟩ : ∃ n, n = L.length := ⟨_, rfl⟩
      rw [← hnn] at hn ⊢
      have HN := hid hnn
      clear hnn
      go_wp2
      go_loop [69] (fun v69 => ∃ k : Nat, k ≤ n ∧ v69 = .int .i64 k) (fun v69 => n - (intOf v69).toNat)
      case atStart => exact ⟨0, Nat.zero_le _, rfl⟩
      case round =>
        obtain ⟨k, hk, rfl⟩ := hrel
        by_cases hlt : k < n
        · go_wp2
          go_loop [7, 8] (fun v7 v8 => ∃ m : Nat, m ≤ n + 1 ∧ v8 = .int .i64 m ∧ v7 = .int .i64 (eO (itn (fL L) m k))) (fun _ v8 => n + 1 - (intOf v8).toNat)
          case atStart => exact ⟨0, by omega, rfl, rfl⟩
          case round =>
            obtain ⟨m, hm, rfl, rfl⟩ := hrel
            by_cases hmn : m ≤ n
            · cases hx : itn (fL L) m k with
              | none =>
                have h0 : eO (none : Option Nat) = -1 := rfl
                rw [h0]
                have hmi : (m : Int) ≤ n := by omega
                clear hx h0
                go_wp2
                go_round
                case rel => exact ⟨k + 1, by omega, by go_num⟩
                case measure => simp [intOf]; omega
              | some j =>
                have h0 : eO (some j) = (j : Int) := rfl
                rw [h0]
                have hkL : k < L.length := by have := HN.out; omega
                have hj : j < L.length := (fL_bd HR.out).steps m k j hkL hx
                obtain ⟨Y, o, e1, hcx⟩ := HLw.out.atI hj
                have E : Hid (L[j] = eO (itn (fL L) (m + 1) k)) := by
                  show _ = _
                  rw [it_last, hx]
                  show _ = eO (fL L j)
                  rw [fL_at hj, eO_oI (rlB_at HR.out hj).1]
                subst e1
                generalize L[j] = y at *
                have hji : (j : Int) < n := by have := HN.out; omega
                have hmi : (m : Int) ≤ n := by omega
                clear hx h0
                go_wp2
                go_round
                case rel => exact ⟨m + 1, by omega, by go_num, by rw [E.out]⟩
                case measure => simp [intOf]; omega
            · have hm2 : m = n + 1 := by omega
              have hx : itn (fL L) m k = none := by rw [hm2, HN.out]; exact NC.out k (by have := HN.out; omega)
              rw [hx]
              have h0 : eO (none : Option Nat) = -1 := rfl
              rw [h0]
              have hmi : ¬ (m : Int) ≤ n := by omega
              clear hx h0 hm2
              go_wp2
              go_round
              case rel => exact ⟨k + 1, by omega, by go_num⟩
              case measure => simp [intOf]; omega
        · go_wp2
          go_ret
          exact ⟨rfl, B3.out⟩
    · have hpos : 0 < R.length := List.length_pos_iff.2 hRe
      have hRl : R.length ≤ 4096 := by have := HC.out.len HR.out; omega
      obtain ⟨g, hg⟩ : ∃ g, q3 = some ⟨g, 0, none⟩ := let ⟨g, h, _⟩ := own_at O3.out hpos; ⟨g, h⟩
      subst hg
      have FA : Hid (∀ k, k < R.length → ∃ (j x x0 y : Nat) (Y o : Nat), ((k : Int) + 1).tmod R.length = j ∧ j < R.length ∧ x0 ≤ x ∧ x < L.length ∧ p = some ⟨Y, o, none⟩ ∧ ∀ W, Below w3.heap.size w3 W → W.cell? ⟨g, k, none⟩ = some (.int .i64 x) ∧ W.cell? ⟨g, 0, none⟩ = some (.int .i64 x0) ∧ W.cell? ⟨g, j, none⟩ = some (.int .i64 y) ∧ W.cell? ⟨Y, o + x, none⟩ = some (.int .i64 y)) := fun k hk => by
        obtain ⟨j, hj1, hj2, hj3⟩ := mod_step hk
        obtain ⟨x, hx1, hx2, hx3, hx4⟩ := HC.out.round HR.out hk
        obtain ⟨Y, o, e1, hcL⟩ := HLw.out.atI hx3
        have at_ : ∀ i (hi : i < R.length), w3.cell? ⟨g, i, none⟩ = some (.int .i64 R[i]) := fun i hi => by
          obtain ⟨g2, e2, hc⟩ := own_at O3.out hi
          injection e2 with e2
          injection e2 with e2 _ _
          subst e2
          exact hc
        refine ⟨j, x, R[0], R[j], Y, o, hj3, hj2, hx2, hx3, e1, fun W hb => ⟨?_, ?_, ?_, ?_⟩⟩
        · have := at_ k hk; rw [hx1] at this
          exact (hb.cell (p := ⟨g, k, none⟩) (block_lt_of_cell this)).trans this
        · exact (hb.cell (p := ⟨g, 0, none⟩) (block_lt_of_cell (at_ 0 hpos))).trans (at_ 0 hpos)
        · exact (hb.cell (p := ⟨g, j, none⟩) (block_lt_of_cell (at_ j hj2))).trans (at_ j hj2)
        · rw [hx4] at hcL
          have hcL2 : w3.cell? ⟨Y, o + x, none⟩ = some (.int .i64 R[j]) := by
            rw [hcL]; subst hj1; rfl
          exact (hb.cell (p := ⟨Y, o + x, none⟩) (block_lt_of_cell hcL2)).trans hcL2
      clear O3 HC HLw hRe
      obtain ⟨n, hnn⟩ : ∃ n, n = L.length := ⟨_, rfl⟩
      rw [← hnn] at hn FA ⊢
      generalize R.length = rl at *
      have hp2 : (0 : Int) < rl := by omega
      clear hnn
      go_wp2
      go_loopw [28] (fun v28 wr => ∃ (k : Nat) (wk : World), k ≤ rl ∧ v28 = .int .i64 k ∧ wk = wr ∧ Hid (Below w3.heap.size w3 wk)) (fun v28 _ => rl - (intOf v28).toNat)
      case atStart => exact ⟨0, _, Nat.zero_le _, rfl, rfl, Below.refl _ _⟩
      case round =>
        obtain ⟨k, wr, hk, rfl, rfl, HB⟩ := hrel
        by_cases hlt : k < rl
        · obtain ⟨j, x, x0, y, Y, o, hj, hjl, hx0, hxn, e1, hW⟩ := FA.out k hlt
          obtain ⟨c1, c2, c3, c4⟩ := hW wr HB.out
          subst e1
          have hki : (k : Int) < rl := by omega
          have hji : (j : Int) < rl := by omega
          have hxi : (x : Int) < n := by omega
          have hd1 : ¬ (x : Int) < x0 := by omega
          have hd2 : ¬ (n : Int) ≤ x := by omega
          have hd1' : ¬ x < x0 := by omega
          have hd2' : ¬ n ≤ x := by omega
          have hd1b : decide (x < x0) = false := by simpa using hd1'
          have hd2b : decide (n ≤ x) = false := by simpa using hd2'
          have hy : ((y : Int) != y) = false := by simp
          have hrz : ¬ (rl : Int) = 0 := by omega
          have hrm : ¬ (rl : Int) = -1 := by omega
          clear hW
          go_wp2
          go_quiet (fail)
          go_wp2
          go_roundw
          case rel => exact ⟨k + 1, _, by omega, by go_num, rfl, bl3 HB.out (drew_below _ _)⟩
          case measure => simp [intOf]; omega
        · go_wp2
          go_ret
          exact ⟨rfl, bl3 B3.out HB.out⟩
  · have hR : R = [] := HO.out.2 he
    subst hR
    have hz : ([] : List Nat).length = 0 := rfl
    rw [hz]
    have hb : (cirE L != 0) = true := by simpa using he
    generalize cirE L = e at *
    clear HO O3 hz
    go_wp2
    go_ret
    exact ⟨rfl, B3.out⟩
end Go.Proofs.Ytjgmnbiigfpbcaa
