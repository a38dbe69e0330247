/- Failures, the reference: crack. -/
import Derived.Test.YtaleagkhblokgaaDoorFx2
import Derived.Deep.QuietTactic
import Derived.BigQuiet
import Derived.BigRegion
import Derived.Deep.RegionLaw
import Derived.Deep.RegionWith
namespace Go.Proofs.YtaleagkhblokgaaDoor
open Go.RowKit

set_option maxHeartbeats 1000000 in
theorem rwords_any (w : World) :
    Calls Tryd.prog 74 #[] w fun e w' => e = .returned (.slice (some ⟨w.heap.size, 0, none⟩) wd.length 10) ∧ w' = w.alloc (.cells wdV 9) := by
  go_enter Tryd.func74, Tryd.ntmps74
  go_wp2
  go_ret
  exact ⟨rfl, rfl⟩
theorem wd_cells (w : World) : ∀ i, i < wd.length → (w.alloc (.cells wdV 9)).cell? ⟨w.heap.size, 0 + i, none⟩ = some (.string (wd.getD i ByteArray.empty)) := by
  intro i hi
  rw [cell_of_row _ _ _ _ _ _ (heap_alloc_new w _), Nat.zero_add, wdV_at i hi]
  simp [hi]
def crR (c : Cr) : Bool :=
  if c.kind = 1 ∨ c.kind = 2 then decide (c.n = 0) && decide (c.text.size ≤ 4096)
  else if c.kind = 8 then decide (c.n = 0 ∨ c.n = 1) && decide (c.text.size ≤ 4096)
  else if c.kind = 3 then decide (c.n = 0) && inB wd c.text
  else if c.kind = 4 ∨ c.kind = 5 then decide (c.n = 0) && nameB c.text
  else if c.kind = 6 ∨ c.kind = 7 ∨ c.kind = 11 then decide (c.n = 0) && decide (c.text.size = 0)
  else if c.kind = 9 then decide (c.n = 1) && nameB c.text
  else if c.kind = 10 then decide (1 ≤ c.n) && decide (c.text.size = 0)
  else false
theorem crB_crR (c : Cr) : crB c = (crR c && decide (c.n ≤ 1024)) := by
  by_cases hk : 1 ≤ c.kind ∧ c.kind ≤ 11
  · have hkk : c.kind = 1 ∨ c.kind = 2 ∨ c.kind = 3 ∨ c.kind = 4 ∨ c.kind = 5 ∨ c.kind = 6 ∨ c.kind = 7 ∨ c.kind = 8 ∨ c.kind = 9 ∨ c.kind = 10 ∨ c.kind = 11 := by omega
    clear hk
    rcases hkk with e | e | e | e | e | e | e | e | e | e | e
    · have hB : crB c = (decide ((0 : Int) ≤ c.n ∧ c.n ≤ 0) && decide (c.text.size ≤ 4096)) := by unfold crB; rw [e]; rfl
      have hR : crR c = (decide (c.n = 0) && decide (c.text.size ≤ 4096)) := by unfold crR; simp [e]
      rw [hB, hR, Bool.eq_iff_iff]
      simp only [Bool.and_eq_true, decide_eq_true_eq]
      constructor
      · rintro ⟨a, x⟩; exact ⟨⟨by omega, x⟩, by omega⟩
      · rintro ⟨⟨a, x⟩, b⟩; exact ⟨by omega, x⟩
    · have hB : crB c = (decide ((0 : Int) ≤ c.n ∧ c.n ≤ 0) && decide (c.text.size ≤ 4096)) := by unfold crB; rw [e]; rfl
      have hR : crR c = (decide (c.n = 0) && decide (c.text.size ≤ 4096)) := by unfold crR; simp [e]
      rw [hB, hR, Bool.eq_iff_iff]
      simp only [Bool.and_eq_true, decide_eq_true_eq]
      constructor
      · rintro ⟨a, x⟩; exact ⟨⟨by omega, x⟩, by omega⟩
      · rintro ⟨⟨a, x⟩, b⟩; exact ⟨by omega, x⟩
    · have hB : crB c = (decide ((0 : Int) ≤ c.n ∧ c.n ≤ 0) && inB wd c.text) := by unfold crB; rw [e]; rfl
      have hR : crR c = (decide (c.n = 0) && inB wd c.text) := by unfold crR; simp [e]
      rw [hB, hR, Bool.eq_iff_iff]
      simp only [Bool.and_eq_true, decide_eq_true_eq]
      constructor
      · rintro ⟨a, x⟩; exact ⟨⟨by omega, x⟩, by omega⟩
      · rintro ⟨⟨a, x⟩, b⟩; exact ⟨by omega, x⟩
    · have hB : crB c = (decide ((0 : Int) ≤ c.n ∧ c.n ≤ 0) && nameB c.text) := by unfold crB; rw [e]; rfl
      have hR : crR c = (decide (c.n = 0) && nameB c.text) := by unfold crR; simp [e]
      rw [hB, hR, Bool.eq_iff_iff]
      simp only [Bool.and_eq_true, decide_eq_true_eq]
      constructor
      · rintro ⟨a, x⟩; exact ⟨⟨by omega, x⟩, by omega⟩
      · rintro ⟨⟨a, x⟩, b⟩; exact ⟨by omega, x⟩
    · have hB : crB c = (decide ((0 : Int) ≤ c.n ∧ c.n ≤ 0) && nameB c.text) := by unfold crB; rw [e]; rfl
      have hR : crR c = (decide (c.n = 0) && nameB c.text) := by unfold crR; simp [e]
      rw [hB, hR, Bool.eq_iff_iff]
      simp only [Bool.and_eq_true, decide_eq_true_eq]
      constructor
      · rintro ⟨a, x⟩; exact ⟨⟨by omega, x⟩, by omega⟩
      · rintro ⟨⟨a, x⟩, b⟩; exact ⟨by omega, x⟩
    · have hB : crB c = (decide ((0 : Int) ≤ c.n ∧ c.n ≤ 0) && decide (c.text.size = 0)) := by unfold crB; rw [e]; rfl
      have hR : crR c = (decide (c.n = 0) && decide (c.text.size = 0)) := by unfold crR; simp [e]
      rw [hB, hR, Bool.eq_iff_iff]
      simp only [Bool.and_eq_true, decide_eq_true_eq]
      constructor
      · rintro ⟨a, x⟩; exact ⟨⟨by omega, x⟩, by omega⟩
      · rintro ⟨⟨a, x⟩, b⟩; exact ⟨by omega, x⟩
    · have hB : crB c = (decide ((0 : Int) ≤ c.n ∧ c.n ≤ 0) && decide (c.text.size = 0)) := by unfold crB; rw [e]; rfl
      have hR : crR c = (decide (c.n = 0) && decide (c.text.size = 0)) := by unfold crR; simp [e]
      rw [hB, hR, Bool.eq_iff_iff]
      simp only [Bool.and_eq_true, decide_eq_true_eq]
      constructor
      · rintro ⟨a, x⟩; exact ⟨⟨by omega, x⟩, by omega⟩
      · rintro ⟨⟨a, x⟩, b⟩; exact ⟨by omega, x⟩
    · have hB : crB c = (decide ((0 : Int) ≤ c.n ∧ c.n ≤ 1) && decide (c.text.size ≤ 4096)) := by unfold crB; rw [e]; rfl
      have hR : crR c = (decide (c.n = 0 ∨ c.n = 1) && decide (c.text.size ≤ 4096)) := by unfold crR; simp [e]
      rw [hB, hR, Bool.eq_iff_iff]
      simp only [Bool.and_eq_true, decide_eq_true_eq]
      constructor
      · rintro ⟨a, x⟩; exact ⟨⟨by omega, x⟩, by omega⟩
      · rintro ⟨⟨a, x⟩, b⟩; exact ⟨by omega, x⟩
    · have hB : crB c = (decide ((1 : Int) ≤ c.n ∧ c.n ≤ 1) && nameB c.text) := by unfold crB; rw [e]; rfl
      have hR : crR c = (decide (c.n = 1) && nameB c.text) := by unfold crR; simp [e]
      rw [hB, hR, Bool.eq_iff_iff]
      simp only [Bool.and_eq_true, decide_eq_true_eq]
      constructor
      · rintro ⟨a, x⟩; exact ⟨⟨by omega, x⟩, by omega⟩
      · rintro ⟨⟨a, x⟩, b⟩; exact ⟨by omega, x⟩
    · have hB : crB c = (decide ((1 : Int) ≤ c.n ∧ c.n ≤ 1024) && decide (c.text.size = 0)) := by unfold crB; rw [e]; rfl
      have hR : crR c = (decide (1 ≤ c.n) && decide (c.text.size = 0)) := by unfold crR; simp [e]
      rw [hB, hR, Bool.eq_iff_iff]
      simp only [Bool.and_eq_true, decide_eq_true_eq]
      constructor
      · rintro ⟨a, x⟩; exact ⟨⟨by omega, x⟩, by omega⟩
      · rintro ⟨⟨a, x⟩, b⟩; exact ⟨by omega, x⟩
    · have hB : crB c = (decide ((0 : Int) ≤ c.n ∧ c.n ≤ 0) && decide (c.text.size = 0)) := by unfold crB; rw [e]; rfl
      have hR : crR c = (decide (c.n = 0) && decide (c.text.size = 0)) := by unfold crR; simp [e]
      rw [hB, hR, Bool.eq_iff_iff]
      simp only [Bool.and_eq_true, decide_eq_true_eq]
      constructor
      · rintro ⟨a, x⟩; exact ⟨⟨by omega, x⟩, by omega⟩
      · rintro ⟨⟨a, x⟩, b⟩; exact ⟨by omega, x⟩
  · have hB : crB c = false := by unfold crB isK; rw [decide_eq_false hk]; rfl
    have hR : crR c = false := by
      unfold crR
      rw [if_neg (by omega), if_neg (by omega), if_neg (by omega), if_neg (by omega), if_neg (by omega), if_neg (by omega), if_neg (by omega)]
    rw [hB, hR]; rfl
theorem below_drewN' {w w' : World} {B : Nat} (h : Below B w w') (n : Nat) : Below B w (w'.drewN n) := ⟨h.os, h.tape, h.output, h.size, h.block⟩
theorem str_empty {t : ByteArray} (h : t.size = 0) : t = ByteArray.empty := bytes_nil h
end Go.Proofs.YtaleagkhblokgaaDoor
namespace Go.Proofs.YtaleagkhblokgaaDoor
open Go.RowKit

set_option maxHeartbeats 8000000 in
set_option maxRecDepth 100000 in
theorem crack3_any (x : ByteArray) (w : World) :
    Calls Tryd.prog 57 #[.agg #[.int .i64 3, .int .i64 0, .string x]] w fun e w' => e = .returned (.bool (crR ⟨3, 0, x⟩)) ∧ Below w.heap.size w w' := by
  have HC : Hid (crR ⟨3, 0, x⟩ = inB wd x) := by show _ = _; simp [crR]
  generalize crR ⟨3, 0, x⟩ = r at *
  have WD := fun w' => rwords_any w'
  have IN : ∀ (W : World) (b : Nat), W.heap.size = b → Calls Tryd.prog 73 #[.slice (some ⟨b, 0, none⟩) wd.length 10, .string x] (W.alloc (.cells wdV 9)).drew fun e w' => e = .returned (.bool (inB wd x)) ∧ w' = (W.alloc (.cells wdV 9)).drew := fun W b hb => by subst hb; exact in_any wd x _ 0 10 _ (by decide) (fun i hi => wd_cells W i hi)
  generalize inB wd x = b at *
  generalize wdV = V at *
  generalize wd.length = LN at *
  go_enter Tryd.func57, Tryd.ntmps57
  go_wp2
  have FB2 : Hid (∀ o1 o2, Below w.heap.size w (((w.alloc o1).alloc o2).drew)) := fun o1 o2 => (((Below.refl _ _).alloc (Nat.le_refl _) o1).alloc (by simp) o2).drew
  go_region_with (first | (go_at_call 74; refine (WD _).mono ?_; rintro e w5 ⟨rfl, rfl⟩) | (go_at_call 73; refine (IN _ (w.heap.size + 1) ?_).mono ?_; (first | rfl | (simp; done) | (show (w.alloc _).heap.size = _; simp)); rintro e w6 ⟨rfl, rfl⟩))
  all_goals
    go_wp2
    go_ret
    exact ⟨ret_bool HC.out.symm, FB2.out _ _⟩
end Go.Proofs.YtaleagkhblokgaaDoor
namespace Go.Proofs.YtaleagkhblokgaaDoor
open Go.RowKit

set_option maxHeartbeats 8000000 in
set_option maxRecDepth 100000 in
theorem crack_any (c : Cr) (w : World) (ht : c.text.size ≤ maxLen) :
    Calls Tryd.prog 57 #[.agg #[.int .i64 c.kind, .int .i64 c.n, .string c.text]] w fun e w' => e = .returned (.bool (crR c)) ∧ Below w.heap.size w w' := by
  have FB : Hid (∀ o, Below w.heap.size w (w.alloc o)) := fun o => (Below.refl _ _).alloc (Nat.le_refl _) o
  have BN := fun w' => baseName_any c.text w' ht
  have ht2 := ht
  unfold maxLen at ht2
  obtain ⟨k, n, x⟩ := c
  simp only at *
  by_cases hk : 1 ≤ k ∧ k ≤ 11
  · have hkk : k = 1 ∨ k = 2 ∨ k = 3 ∨ k = 4 ∨ k = 5 ∨ k = 6 ∨ k = 7 ∨ k = 8 ∨ k = 9 ∨ k = 10 ∨ k = 11 := by omega
    clear hk
    rcases hkk with rfl | rfl | rfl | rfl | rfl | rfl | rfl | rfl | rfl | rfl | rfl
    · by_cases hn : n = 0
      · subst hn
        go_enter Tryd.func57, Tryd.ntmps57
        go_wp2
        go_ret
        exact ⟨ret_bool (by simp [crR]; try omega), FB.out _⟩
      · have hnb : (n == 0) = false := by simpa using hn
        go_enter Tryd.func57, Tryd.ntmps57
        go_wp2
        go_ret
        exact ⟨ret_bool (by simp [crR, hn]), FB.out _⟩
    · by_cases hn : n = 0
      · subst hn
        go_enter Tryd.func57, Tryd.ntmps57
        go_wp2
        go_ret
        exact ⟨ret_bool (by simp [crR]; try omega), FB.out _⟩
      · have hnb : (n == 0) = false := by simpa using hn
        go_enter Tryd.func57, Tryd.ntmps57
        go_wp2
        go_ret
        exact ⟨ret_bool (by simp [crR, hn]), FB.out _⟩
    · by_cases hn : n = 0
      · subst hn
        exact crack3_any x w
      · have hnb : (n == 0) = false := by simpa using hn
        go_enter Tryd.func57, Tryd.ntmps57
        go_wp2
        go_quiet (fail)
        go_wp2
        go_ret
        exact ⟨ret_bool (by simp [crR, hn]), below_drewN' (FB.out _) _⟩
    · by_cases hn : n = 0
      · subst hn
        go_enter Tryd.func57, Tryd.ntmps57
        go_wp2_with (go_at_call 75; refine (BN _).mono ?_; rintro e w5 ⟨rfl, hb5⟩)
        go_ret
        exact ⟨ret_bool (by simp [crR]), (FB.out _).trans (hb5.mono (FB.out _).size)⟩
      · have hnb : (n == 0) = false := by simpa using hn
        go_enter Tryd.func57, Tryd.ntmps57
        go_wp2_with (go_at_call 75; refine (BN _).mono ?_; rintro e w5 ⟨rfl, hb5⟩)
        go_ret
        exact ⟨ret_bool (by simp [crR, hn]), FB.out _⟩
    · by_cases hn : n = 0
      · subst hn
        go_enter Tryd.func57, Tryd.ntmps57
        go_wp2_with (go_at_call 75; refine (BN _).mono ?_; rintro e w5 ⟨rfl, hb5⟩)
        go_ret
        exact ⟨ret_bool (by simp [crR]), (FB.out _).trans (hb5.mono (FB.out _).size)⟩
      · have hnb : (n == 0) = false := by simpa using hn
        go_enter Tryd.func57, Tryd.ntmps57
        go_wp2_with (go_at_call 75; refine (BN _).mono ?_; rintro e w5 ⟨rfl, hb5⟩)
        go_ret
        exact ⟨ret_bool (by simp [crR, hn]), FB.out _⟩
    · by_cases hn : n = 0
      · subst hn
        by_cases hx : x.size = 0
        · have := str_empty hx
          subst this
          go_enter Tryd.func57, Tryd.ntmps57
          go_wp2
          go_ret
          exact ⟨ret_bool (by simp [crR]), FB.out _⟩
        · obtain ⟨z1, z2⟩ := bytes_ne (s := x) (by omega)
          go_enter Tryd.func57, Tryd.ntmps57
          go_wp2
          go_ret
          exact ⟨ret_bool (by simp [crR, hx]), FB.out _⟩
      · have hnb : (n == 0) = false := by simpa using hn
        go_enter Tryd.func57, Tryd.ntmps57
        go_wp2
        go_ret
        exact ⟨ret_bool (by simp [crR, hn]), FB.out _⟩
    · by_cases hn : n = 0
      · subst hn
        by_cases hx : x.size = 0
        · have := str_empty hx
          subst this
          go_enter Tryd.func57, Tryd.ntmps57
          go_wp2
          go_ret
          exact ⟨ret_bool (by simp [crR]), FB.out _⟩
        · obtain ⟨z1, z2⟩ := bytes_ne (s := x) (by omega)
          go_enter Tryd.func57, Tryd.ntmps57
          go_wp2
          go_ret
          exact ⟨ret_bool (by simp [crR, hx]), FB.out _⟩
      · have hnb : (n == 0) = false := by simpa using hn
        go_enter Tryd.func57, Tryd.ntmps57
        go_wp2
        go_ret
        exact ⟨ret_bool (by simp [crR, hn]), FB.out _⟩
    · by_cases hn : n = 0
      · subst hn
        go_enter Tryd.func57, Tryd.ntmps57
        go_wp2
        go_ret
        exact ⟨ret_bool (by simp [crR]; try omega), FB.out _⟩
      · have hnb : (n == 0) = false := by simpa using hn
        by_cases hn1 : n = 1
        · subst hn1
          go_enter Tryd.func57, Tryd.ntmps57
          go_wp2
          go_ret
          exact ⟨ret_bool (by simp [crR]; try omega), FB.out _⟩
        · have hnc : (n == 1) = false := by simpa using hn1
          go_enter Tryd.func57, Tryd.ntmps57
          go_wp2
          go_ret
          exact ⟨ret_bool (by simp [crR, hn, hn1]), FB.out _⟩
    · by_cases hn : n = 1
      · subst hn
        go_enter Tryd.func57, Tryd.ntmps57
        go_wp2_with (go_at_call 75; refine (BN _).mono ?_; rintro e w5 ⟨rfl, hb5⟩)
        go_ret
        exact ⟨ret_bool (by simp [crR]), (FB.out _).trans (hb5.mono (FB.out _).size)⟩
      · have hnb : (n == 1) = false := by simpa using hn
        go_enter Tryd.func57, Tryd.ntmps57
        go_wp2_with (go_at_call 75; refine (BN _).mono ?_; rintro e w5 ⟨rfl, hb5⟩)
        go_ret
        exact ⟨ret_bool (by simp [crR, hn]), FB.out _⟩
    · by_cases hn : 1 ≤ n
      · by_cases hx : x.size = 0
        · have := str_empty hx
          subst this
          go_enter Tryd.func57, Tryd.ntmps57
          go_wp2
          go_ret
          exact ⟨ret_bool (by simp [crR, hn]), FB.out _⟩
        · obtain ⟨z1, z2⟩ := bytes_ne (s := x) (by omega)
          go_enter Tryd.func57, Tryd.ntmps57
          go_wp2
          go_ret
          exact ⟨ret_bool (by simp [crR, hx]), FB.out _⟩
      · skip
        go_enter Tryd.func57, Tryd.ntmps57
        go_wp2
        go_ret
        exact ⟨ret_bool (by simp [crR]; omega), FB.out _⟩
    · by_cases hn : n = 0
      · subst hn
        by_cases hx : x.size = 0
        · have := str_empty hx
          subst this
          go_enter Tryd.func57, Tryd.ntmps57
          go_wp2
          go_ret
          exact ⟨ret_bool (by simp [crR]), FB.out _⟩
        · obtain ⟨z1, z2⟩ := bytes_ne (s := x) (by omega)
          go_enter Tryd.func57, Tryd.ntmps57
          go_wp2
          go_ret
          exact ⟨ret_bool (by simp [crR, hx]), FB.out _⟩
      · have hnb : (n == 0) = false := by simpa using hn
        go_enter Tryd.func57, Tryd.ntmps57
        go_wp2
        go_ret
        exact ⟨ret_bool (by simp [crR, hn]), FB.out _⟩
  · have hout : crR ⟨k, n, x⟩ = false := by
      unfold crR
      simp only
      rw [if_neg (by omega), if_neg (by omega), if_neg (by omega), if_neg (by omega), if_neg (by omega), if_neg (by omega), if_neg (by omega)]
    have k1 : (k == 1) = false := by rw [beq_eq_false_iff_ne]; omega
    have k2 : (k == 2) = false := by rw [beq_eq_false_iff_ne]; omega
    have k3 : (k == 3) = false := by rw [beq_eq_false_iff_ne]; omega
    have k4 : (k == 4) = false := by rw [beq_eq_false_iff_ne]; omega
    have k5 : (k == 5) = false := by rw [beq_eq_false_iff_ne]; omega
    have k6 : (k == 6) = false := by rw [beq_eq_false_iff_ne]; omega
    have k7 : (k == 7) = false := by rw [beq_eq_false_iff_ne]; omega
    have k8 : (k == 8) = false := by rw [beq_eq_false_iff_ne]; omega
    have k9 : (k == 9) = false := by rw [beq_eq_false_iff_ne]; omega
    have k10 : (k == 10) = false := by rw [beq_eq_false_iff_ne]; omega
    have k11 : (k == 11) = false := by rw [beq_eq_false_iff_ne]; omega
    rw [hout]
    clear hk hout
    go_enter Tryd.func57, Tryd.ntmps57
    go_wp2
    go_ret
    exact ⟨rfl, FB.out _⟩
end Go.Proofs.YtaleagkhblokgaaDoor
