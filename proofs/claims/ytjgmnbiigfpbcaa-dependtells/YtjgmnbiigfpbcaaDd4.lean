/- Depend: whether a cell leads to another one. -/
import Derived.Test.YtjgmnbiigfpbcaaDd3
namespace Go.Proofs.Ytjgmnbiigfpbcaa
open Go.RowKit

theorem stk_nodup (X : Wb) (t : Nat) : (stk X t).Nodup := tl_nodup _ _
theorem OB.form {w : World} {b : Nat} {v : Value} {l : List Nat} (h : OB w b v l) (hl : 0 < l.length) : ∃ g cap, v = .slice (some ⟨g, 0, none⟩) l.length cap := by
  obtain ⟨base, _, h⟩ := h
  obtain ⟨q, c, e, _⟩ := h.form
  obtain ⟨g, hg, _⟩ := own_at (by rw [← e]; exact h) hl
  rw [nI_len] at e
  rw [e, hg]
  exact ⟨g, c, rfl⟩
theorem OB.at {w : World} {b g n cap : Nat} {l : List Nat} (h : OB w b (.slice (some ⟨g, 0, none⟩) n cap) l) {k : Nat} (hk : k < l.length) : w.cell? ⟨g, k, none⟩ = some (.int .i64 l[k]) := by
  obtain ⟨base, _, h⟩ := h
  obtain ⟨g2, e, hc⟩ := own_at h hk
  injection e with e
  injection e with e _ _
  subst e
  exact hc
set_option maxRecDepth 100000 in
set_option maxHeartbeats 16000000 in
theorem leads_k {w0 w : World} {b : Nat} {X : Wb} {m : Nat} (h : PW w0 w b X m) {x y : Nat} (hx : nxt X x = some y) : Calls Try.prog 24 #[.pointer (some ⟨b, 0, none⟩), .int .i64 x, .int .i64 y] w fun e w' => e = .returned (.bool true) ∧ PW w0 w' b X m ∧ Kp b w w' := by
  have hr : (X.r x).is = true := by
    cases e : (X.r x).is with
    | true => rfl
    | false => rw [nxt_not e] at hx; cases hx
  have hxl := run_lt h.wi hr
  have htl := (h.wi.rm x hr).2
  have hm : x ∈ stk X (X.r x).to := stk_mem.2 ⟨hr, rfl⟩
  have hix := List.idxOf_lt_length_iff.2 hm
  have HSL := stk_len h.wi (X.r x).to
  have K0 : Hid (Kp b w w) := fun _ _ h => h
  have P := hid h
  have RN : Hid (∀ W, PW w0 W b X m → Calls Try.prog 18 #[.pointer (some ⟨b, 0, none⟩), .int .i64 x] W fun e w' => e = .returned (.tuple #[.int .i64 (X.r x).to, .bool true, .int .i64 0]) ∧ PW w0 w' b X m ∧ Kp b W w') := fun W k => by have := runner_k k hxl; rw [hr] at this; exact this
  have SK : Hid (∀ W, PW w0 W b X m → Calls Try.prog 20 #[.pointer (some ⟨b, 0, none⟩), .int .i64 (X.r x).to] W fun e w' => ∃ g cc, e = .returned (.tuple #[.slice (some ⟨g, 0, none⟩) (stk X (X.r x).to).length cc, .int .i64 0]) ∧ (∀ k (hk : k < (stk X (X.r x).to).length), w'.cell? ⟨g, k, none⟩ = some (.int .i64 (stk X (X.r x).to)[k])) ∧ PW w0 w' b X m ∧ Kp b W w') := fun W k => by
    refine (stack_k k htl).mono ?_
    rintro e w' ⟨q, cc, rfl, ho, h2, h3⟩
    obtain ⟨g, cp, e⟩ := ho.form (by omega)
    injection e with e1 _ e3
    subst e1
    exact ⟨g, cc, rfl, fun k hk => ho.at hk, h2, h3⟩
  have WT : Hid (∀ W, PW w0 W b X m → Calls Try.prog 17 #[.pointer (some ⟨b, 0, none⟩), .int .i64 (X.r x).to] W fun e w' => e = .returned (.tuple #[.int .i64 (X.w (X.r x).to).to, .bool (X.w (X.r x).to).is, .int .i64 0]) ∧ PW w0 w' b X m ∧ Kp b W w') := fun W k => waiting_k k htl
  have CE : Hid (∀ k (hk : k < (stk X (X.r x).to).length), k ≠ (stk X (X.r x).to).idxOf x → (stk X (X.r x).to)[k] ≠ x) := fun k hk hne e => hne ((stk_nodup X (X.r x).to).idxOf_getElem k hk |>.symm.trans (by rw [e]))
  have CA : Hid ((stk X (X.r x).to)[(stk X (X.r x).to).idxOf x] = x) := List.getElem_idxOf hix
  have CU : Hid (∀ hk : (stk X (X.r x).to).idxOf x + 1 < (stk X (X.r x).to).length, (stk X (X.r x).to)[(stk X (X.r x).to).idxOf x + 1] = y) := fun hk => by
    have := nxt_up hr hk
    rw [hx] at this
    injection this with this
    exact this.symm
  have CT : Hid (¬ (stk X (X.r x).to).idxOf x + 1 < (stk X (X.r x).to).length → (X.w (X.r x).to).is = true ∧ (X.w (X.r x).to).to = y) := fun hk => by
    have := nxt_top hr hk
    rw [hx] at this
    cases e : (X.w (X.r x).to).is with
    | false => rw [e] at this; cases this
    | true =>
      rw [e] at this
      injection this with this
      exact ⟨rfl, this.symm⟩
  generalize hS : stk X (X.r x).to = S at *
  generalize hI : S.idxOf x = ix at *
  generalize hT : X.w (X.r x).to = wt at *
  generalize (X.r x).to = t at *
  clear hr hm h hS hI hT hx
  go_enter Try.func24, Try.ntmps24
  go_wp2_with (first | (go_at_call 18; refine (RN.out _ P.out).mono ?_; rintro e w1 ⟨rfl, p9, k9⟩; replace P := hid p9; have K1 := hid k9; clear p9 k9) | (go_at_call 20; refine (SK.out _ P.out).mono ?_; rintro e w2 ⟨g, cc, rfl, hc2, p9, k9⟩; replace P := hid p9; have K2 : Hid (Kp b w w2) := fun v l h => k9 _ _ (K1.out _ _ h); have C2 := hid hc2; clear p9 k9 hc2))
  go_loop [36] (fun v36 => ∃ k : Nat, k ≤ S.length ∧ v36 = .int .i64 k ∧ Hid (ix + 1 < S.length → k ≤ ix)) (fun v36 => S.length - (intOf v36).toNat)
  case atStart => exact ⟨0, Nat.zero_le _, rfl, fun _ => Nat.zero_le _⟩
  case round =>
    obtain ⟨k, hk, rfl, HK⟩ := hrel
    by_cases hlt : k < S.length
    · have ck := C2.out k hlt
      by_cases he : k = ix
      · have hkx : S[k] = x := by subst he; exact CA.out
        rw [hkx] at ck
        by_cases hu : ix + 1 < S.length
        · have cu := C2.out (ix + 1) hu
          rw [CU.out hu] at cu
          subst he
          have hu2 : (k : Int) + 1 < S.length := by omega
          clear hkx
          go_wp2
          go_ret
          exact ⟨rfl, P.out, K2.out⟩
        · subst he
          have hu2 : ¬ (k : Int) + 1 < S.length := by omega
          clear hkx
          go_wp2
          go_round
          case rel => exact ⟨k + 1, by omega, by go_num, fun hq => absurd hq hu⟩
          case measure => simp [intOf]; omega
      · have hkx : ¬ S[k] = x := CE.out k hlt he
        generalize S[k] = z at *
        have hz : ¬ (z : Int) = x := by omega
        go_wp2
        go_round
        case rel => exact ⟨k + 1, by omega, by go_num, fun hq => by have := HK.out hq; omega⟩
        case measure => simp [intOf]; omega
    · have hu : ¬ ix + 1 < S.length := fun q => by have := HK.out q; omega
      obtain ⟨ct1, ct2⟩ := CT.out hu
      rw [ct1, ct2] at WT
      clear ct1 ct2
      go_wp2_with (go_at_call 17; refine (WT.out _ P.out).mono ?_; rintro e w3 ⟨rfl, p9, k9⟩; replace P := hid p9; have K3 : Hid (Kp b w w3) := fun v l h => k9 _ _ (K2.out _ _ h); clear p9 k9)
      go_ret
      exact ⟨rfl, P.out, K3.out⟩
end Go.Proofs.Ytjgmnbiigfpbcaa
