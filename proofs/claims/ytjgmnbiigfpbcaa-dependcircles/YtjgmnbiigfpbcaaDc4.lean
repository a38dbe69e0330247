/- Depend: the least in circles. -/
import Derived.Test.YtjgmnbiigfpbcaaDc3
namespace Go.Proofs.Ytjgmnbiigfpbcaa
open Go.RowKit

theorem lsI_take (n : Int) (F : List Int) {k : Nat} (hk : k < F.length) : lsI n (F.take (k + 1)) = if F[k] = -1 then lsI n (F.take k) else min (lsI n (F.take k)) F[k] := by
  rw [List.take_succ_eq_append_getElem hk, lsI_snoc]
theorem lsI_lo (n : Int) (hn : 0 ≤ n) {F : List Int} (hF : ∀ x ∈ F, -1 ≤ x) : 0 ≤ lsI n F := by
  obtain ⟨_, _, h | ⟨h1, h2⟩⟩ := lsI_spec n F
  · omega
  · have := hF _ h1; omega
set_option maxHeartbeats 8000000 in
theorem least_any (L : List Int) (hr : rlB L = true) (hn : L.length ≤ 4096) (p : Option Addr) (c : Nat) (w : World) (h : GS KI w (.slice p L.length c) L) : Calls Try.prog 38 #[.slice p L.length c] w fun e w' => ∃ N, L.length ≤ N ∧ e = .returned (.tuple #[.int .i64 (lsI L.length (farL L N)), .bool (decide (lsI L.length (farL L N) < L.length))]) ∧ Below w.heap.size w w' := by
  have HG := hid h
  have HR := hid hr
  obtain ⟨n, hnn⟩ : ∃ n, n = L.length := ⟨_, rfl⟩
  rw [← hnn] at hn ⊢
  have HN := hid hnn
  have A0 : Hid (GS KI w (.slice p n c) (farL L 1)) := by rw [hnn, farL_one hr]; exact h
  clear h hr hnn
  go_enter Try.func38, Try.ntmps38
  go_wp2
  go_loopw [4, 5] (fun v4 v5 wr => ∃ (s : Nat) (q : Option Addr) (cc : Nat) (wk : World), 1 ≤ s ∧ s ≤ 8192 ∧ v5 = .int .i64 s ∧ v4 = .slice q n cc ∧ wk = wr ∧ Hid (GS KI wk (.slice q n cc) (farL L s)) ∧ Hid (Below w.heap.size w wk)) (fun _ v5 _ => n - (intOf v5).toNat)
  case atStart => exact ⟨1, p, c, _, by omega, by omega, rfl, rfl, rfl, A0, Below.refl _ _⟩
  case round =>
    obtain ⟨s, q, cc, wr, hs1, hs2, rfl, rfl, rfl, HF, HB⟩ := hrel
    have LF : Hid (n = (farL L s).length) := by show _ = _; rw [farL_len]; exact HN.out
    by_cases hlt : s < n
    · have TW := twice_any (farL L s) (farL_rl HR.out s) (by rw [← LF.out]; exact hn) q cc wr (by rw [← LF.out]; exact HF.out)
      rw [← LF.out, twL_far HR.out] at TW
      have T := hid TW
      have hlt2 : (s : Int) < n := by omega
      clear TW
      go_wp2_with (go_at_call 53; refine T.out.mono ?_; rintro e w2 ⟨g, rfl, ho2, hb2⟩; have O2 := hid (ho2.gs KI_ok.len); have B2 := hid (bl3 HB.out hb2); clear ho2 hb2)
      go_roundw
      case rel => exact ⟨s + s, _, _, _, by omega, by omega, by rw [Int.natCast_add]; congr 1; omega, rfl, rfl, O2, B2⟩
      case measure => simp [intOf]; omega
    · have hle : ¬ (s : Int) < n := by omega
      obtain ⟨F, hF⟩ : ∃ F, F = farL L s := ⟨_, rfl⟩
      rw [← hF] at HF LF
      have FB : Hid (∀ k (hk : k < F.length), -1 ≤ F[k] ∧ F[k] < n) := fun k hk => by
        subst hF
        have := rlB_at (farL_rl HR.out s) hk
        rw [← LF.out] at this; exact this
      have FM : Hid (∀ k, 0 ≤ lsI n (F.take k) ∧ lsI n (F.take k) ≤ n) := fun k => by
        refine ⟨lsI_lo _ (by omega) fun x hx => ?_, (lsI_spec _ _).1⟩
        obtain ⟨j, hj, rfl⟩ := List.getElem_of_mem (List.mem_of_mem_take hx)
        exact (FB.out j hj).1
      have HF2 := hid hF
      clear hF
      go_wp2
      go_loop [6, 22] (fun v6 v22 => ∃ k : Nat, k ≤ n ∧ v22 = .int .i64 k ∧ v6 = .int .i64 (lsI n (F.take k))) (fun _ v22 => n - (intOf v22).toNat)
      case atStart => exact ⟨0, Nat.zero_le _, rfl, rfl⟩
      case round =>
        obtain ⟨k, hk, rfl, rfl⟩ := hrel
        have fm := FM.out k
        by_cases hlt : k < n
        · have hkF : k < F.length := by have := LF.out; omega
          obtain ⟨Y, o, e1, hcx⟩ := HF.out.atI hkF
          subst e1
          have fb := FB.out k hkF
          have SN := hid (lsI_take n F hkF)
          generalize lsI n (F.take k) = m at *
          generalize F[k] = x at *
          by_cases hx : x = -1
          · have E : Hid (lsI n (F.take (k + 1)) = m) := by show _ = _; rw [SN.out, if_pos hx]
            subst hx
            go_wp2
            go_round
            case rel => exact ⟨k + 1, by omega, by go_num, by rw [E.out]⟩
            case measure => simp [intOf]; omega
          · have E : Hid (lsI n (F.take (k + 1)) = min m x) := by show _ = _; rw [SN.out, if_neg hx]
            have hxb : (x != -1) = true := by simpa using hx
            go_wp2
            go_round
            case rel => exact ⟨k + 1, by omega, by go_num, by rw [E.out]⟩
            case measure => simp [intOf]; omega
        · have hkn : F.take k = F := List.take_of_length_le (by have := LF.out; omega)
          rw [hkn] at fm ⊢
          have E2 : Hid (lsI n F = lsI n (farL L s)) := by show _ = _; rw [HF2.out]
          clear hkn
          generalize lsI n F = m at *
          by_cases hm : m < n
          all_goals
            go_wp2
            go_ret2
            refine ⟨s, by omega, ?_, HB.out⟩
            rw [← E2.out]
            simp [hm]
end Go.Proofs.Ytjgmnbiigfpbcaa
