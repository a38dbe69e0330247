/- Failures, the reference: crack. -/
import Derived.Test.YtbgeihgenckihaaDoorFx3a
namespace Go.Proofs.YtbgeihgenckihaaDoor
open Go.RowKit

set_option maxHeartbeats 8000000 in
set_option maxRecDepth 100000 in
theorem crack_any (c : Cr) (w : World) (ht : c.text.size ≤ maxLen) :
    Calls Tryd.prog 71 #[.agg #[.int .i64 c.kind, .int .i64 c.n, .string c.text]] w fun e w' => e = .returned (.bool (crR c)) ∧ Below w.heap.size w w' := by
  have FB : Hid (∀ o, Below w.heap.size w (w.alloc o)) := fun o => (Below.refl _ _).alloc (Nat.le_refl _) o
  have BN := fun w' => baseName_any c.text w' ht
  have ht2 := ht
  unfold maxLen at ht2
  obtain ⟨k, n, x⟩ := c
  simp only at *
  by_cases hk : 1 ≤ k ∧ k ≤ 11
  · have hkk : k = 1 ∨ k = 2 ∨ k = 3 ∨ k = 4 ∨ k = 5 ∨ k = 6 ∨ k = 7 ∨ k = 8 ∨ k = 9 ∨ k = 10 ∨ k = 11 := by omega
    clear hk
    rcases hkk with rfl | rfl | rfl | rfl | rfl | rfl | rfl | rfl | rfl | rfl | rfl
    · by_cases hn : n = 0
      · subst hn
        go_enter Tryd.func71, Tryd.ntmps71
        go_wp2
        go_ret
        exact ⟨ret_bool (by simp [crR]; try omega), FB.out _⟩
      · have hnb : (n == 0) = false := by simpa using hn
        go_enter Tryd.func71, Tryd.ntmps71
        go_wp2
        go_ret
        exact ⟨ret_bool (by simp [crR, hn]), FB.out _⟩
    · by_cases hn : n = 0
      · subst hn
        go_enter Tryd.func71, Tryd.ntmps71
        go_wp2
        go_ret
        exact ⟨ret_bool (by simp [crR]; try omega), FB.out _⟩
      · have hnb : (n == 0) = false := by simpa using hn
        go_enter Tryd.func71, Tryd.ntmps71
        go_wp2
        go_ret
        exact ⟨ret_bool (by simp [crR, hn]), FB.out _⟩
    · by_cases hn : n = 0
      · subst hn
        exact crack3_any x w
      · have hnb : (n == 0) = false := by simpa using hn
        go_enter Tryd.func71, Tryd.ntmps71
        go_wp2
        go_quiet (fail)
        go_wp2
        go_ret
        exact ⟨ret_bool (by simp [crR, hn]), below_drewN' (FB.out _) _⟩
    · by_cases hn : n = 0
      · subst hn
        go_enter Tryd.func71, Tryd.ntmps71
        go_wp2_with (go_at_call 77; refine (BN _).mono ?_; rintro e w5 ⟨rfl, hb5⟩)
        go_ret
        exact ⟨ret_bool (by simp [crR]), (FB.out _).trans (hb5.mono (FB.out _).size)⟩
      · have hnb : (n == 0) = false := by simpa using hn
        go_enter Tryd.func71, Tryd.ntmps71
        go_wp2_with (go_at_call 77; refine (BN _).mono ?_; rintro e w5 ⟨rfl, hb5⟩)
        go_ret
        exact ⟨ret_bool (by simp [crR, hn]), FB.out _⟩
    · by_cases hn : n = 0
      · subst hn
        go_enter Tryd.func71, Tryd.ntmps71
        go_wp2_with (go_at_call 77; refine (BN _).mono ?_; rintro e w5 ⟨rfl, hb5⟩)
        go_ret
        exact ⟨ret_bool (by simp [crR]), (FB.out _).trans (hb5.mono (FB.out _).size)⟩
      · have hnb : (n == 0) = false := by simpa using hn
        go_enter Tryd.func71, Tryd.ntmps71
        go_wp2_with (go_at_call 77; refine (BN _).mono ?_; rintro e w5 ⟨rfl, hb5⟩)
        go_ret
        exact ⟨ret_bool (by simp [crR, hn]), FB.out _⟩
    · by_cases hn : n = 0
      · subst hn
        by_cases hx : x.size = 0
        · have := str_empty hx
          subst this
          go_enter Tryd.func71, Tryd.ntmps71
          go_wp2
          go_ret
          exact ⟨ret_bool (by simp [crR]), FB.out _⟩
        · obtain ⟨z1, z2⟩ := bytes_ne (s := x) (by omega)
          go_enter Tryd.func71, Tryd.ntmps71
          go_wp2
          go_ret
          exact ⟨ret_bool (by simp [crR, hx]), FB.out _⟩
      · have hnb : (n == 0) = false := by simpa using hn
        go_enter Tryd.func71, Tryd.ntmps71
        go_wp2
        go_ret
        exact ⟨ret_bool (by simp [crR, hn]), FB.out _⟩
    · by_cases hn : n = 0
      · subst hn
        by_cases hx : x.size = 0
        · have := str_empty hx
          subst this
          go_enter Tryd.func71, Tryd.ntmps71
          go_wp2
          go_ret
          exact ⟨ret_bool (by simp [crR]), FB.out _⟩
        · obtain ⟨z1, z2⟩ := bytes_ne (s := x) (by omega)
          go_enter Tryd.func71, Tryd.ntmps71
          go_wp2
          go_ret
          exact ⟨ret_bool (by simp [crR, hx]), FB.out _⟩
      · have hnb : (n == 0) = false := by simpa using hn
        go_enter Tryd.func71, Tryd.ntmps71
        go_wp2
        go_ret
        exact ⟨ret_bool (by simp [crR, hn]), FB.out _⟩
    · by_cases hn : n = 0
      · subst hn
        go_enter Tryd.func71, Tryd.ntmps71
        go_wp2
        go_ret
        exact ⟨ret_bool (by simp [crR]; try omega), FB.out _⟩
      · have hnb : (n == 0) = false := by simpa using hn
        by_cases hn1 : n = 1
        · subst hn1
          go_enter Tryd.func71, Tryd.ntmps71
          go_wp2
          go_ret
          exact ⟨ret_bool (by simp [crR]; try omega), FB.out _⟩
        · have hnc : (n == 1) = false := by simpa using hn1
          go_enter Tryd.func71, Tryd.ntmps71
          go_wp2
          go_ret
          exact ⟨ret_bool (by simp [crR, hn, hn1]), FB.out _⟩
    · by_cases hn : n = 1
      · subst hn
        go_enter Tryd.func71, Tryd.ntmps71
        go_wp2_with (go_at_call 77; refine (BN _).mono ?_; rintro e w5 ⟨rfl, hb5⟩)
        go_ret
        exact ⟨ret_bool (by simp [crR]), (FB.out _).trans (hb5.mono (FB.out _).size)⟩
      · have hnb : (n == 1) = false := by simpa using hn
        go_enter Tryd.func71, Tryd.ntmps71
        go_wp2_with (go_at_call 77; refine (BN _).mono ?_; rintro e w5 ⟨rfl, hb5⟩)
        go_ret
        exact ⟨ret_bool (by simp [crR, hn]), FB.out _⟩
    · by_cases hn : 1 ≤ n
      · by_cases hx : x.size = 0
        · have := str_empty hx
          subst this
          go_enter Tryd.func71, Tryd.ntmps71
          go_wp2
          go_ret
          exact ⟨ret_bool (by simp [crR, hn]), FB.out _⟩
        · obtain ⟨z1, z2⟩ := bytes_ne (s := x) (by omega)
          go_enter Tryd.func71, Tryd.ntmps71
          go_wp2
          go_ret
          exact ⟨ret_bool (by simp [crR, hx]), FB.out _⟩
      · skip
        go_enter Tryd.func71, Tryd.ntmps71
        go_wp2
        go_ret
        exact ⟨ret_bool (by simp [crR]; omega), FB.out _⟩
    · by_cases hn : n = 0
      · subst hn
        by_cases hx : x.size = 0
        · have := str_empty hx
          subst this
          go_enter Tryd.func71, Tryd.ntmps71
          go_wp2
          go_ret
          exact ⟨ret_bool (by simp [crR]), FB.out _⟩
        · obtain ⟨z1, z2⟩ := bytes_ne (s := x) (by omega)
          go_enter Tryd.func71, Tryd.ntmps71
          go_wp2
          go_ret
          exact ⟨ret_bool (by simp [crR, hx]), FB.out _⟩
      · have hnb : (n == 0) = false := by simpa using hn
        go_enter Tryd.func71, Tryd.ntmps71
        go_wp2
        go_ret
        exact ⟨ret_bool (by simp [crR, hn]), FB.out _⟩
  · have hout : crR ⟨k, n, x⟩ = false := by
      unfold crR
      simp only
      rw [if_neg (by omega), if_neg (by omega), if_neg (by omega), if_neg (by omega), if_neg (by omega), if_neg (by omega), if_neg (by omega)]
    have k1 : (k == 1) = false := by rw [beq_eq_false_iff_ne]; omega
    have k2 : (k == 2) = false := by rw [beq_eq_false_iff_ne]; omega
    have k3 : (k == 3) = false := by rw [beq_eq_false_iff_ne]; omega
    have k4 : (k == 4) = false := by rw [beq_eq_false_iff_ne]; omega
    have k5 : (k == 5) = false := by rw [beq_eq_false_iff_ne]; omega
    have k6 : (k == 6) = false := by rw [beq_eq_false_iff_ne]; omega
    have k7 : (k == 7) = false := by rw [beq_eq_false_iff_ne]; omega
    have k8 : (k == 8) = false := by rw [beq_eq_false_iff_ne]; omega
    have k9 : (k == 9) = false := by rw [beq_eq_false_iff_ne]; omega
    have k10 : (k == 10) = false := by rw [beq_eq_false_iff_ne]; omega
    have k11 : (k == 11) = false := by rw [beq_eq_false_iff_ne]; omega
    rw [hout]
    clear hk hout
    go_enter Tryd.func71, Tryd.ntmps71
    go_wp2
    go_ret
    exact ⟨rfl, FB.out _⟩
end Go.Proofs.YtbgeihgenckihaaDoor
