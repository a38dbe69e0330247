/- Names: the reference's well, kind by kind. -/
import Derived.Test.YtffabehipcomfaaDoorPx3
import Derived.Test.YtffabehipcomfaaDoorPv0
import Derived.Deep.QuietTactic
import Derived.BigQuiet
import Derived.BigRegion
import Derived.Deep.RegionLaw
import Derived.Deep.RegionWith
namespace Go.Proofs.YtffabehipcomfaaDoor
open Go.RowKit

set_option maxHeartbeats 8000000 in
theorem rwell_5 (m : Nat) (i : Int) (t : ByteArray) (w : World) (_ht : t.size ≤ maxLen) : Calls Tryd.prog 82 #[.agg #[.int .i64 5, .int .i64 (Int.ofNat m), .int .i64 i, .string t]] w fun e w' => e = .returned (.bool (opB ⟨5, m, i, t⟩)) ∧ Below w.heap.size w w' := by
  have ht := _ht
  have WW : Hid _ := well_ways (k := 5) (m := m) (i := i) (t := t) (by decide)
  have RA : ∀ w', Calls Tryd.prog 90 #[.agg #[.int .i64 5, .int .i64 (Int.ofNat m), .int .i64 i, .string t]] w' fun e w'' => e = .returned (.int .i64 (arO ⟨5, m, i, t⟩)) ∧ Below w'.heap.size w' w'' := fun w' => rarity_any ⟨5, m, i, t⟩ w' (by show isX 5 = true; decide)
  have HI : Hid (inB' ⟨5, m, i, t⟩ = decide (i = 0)) := rfl
  have HT : Hid (txB ⟨5, m, i, t⟩ = decide (t.size = 0)) := rfl
  have BN := fun w' => baseName_any t w' ht
  have O0 : Hid (∀ n, OB w ((w.alloc (.cells #[.int .i64 5, .int .i64 (Int.ofNat m), .int .i64 i, .string t] 71)).drewN n) w.heap.size 5 (Int.ofNat m) i t) := fun n => (OB.new w 5 (Int.ofNat m) i t).below (below_drewY (Below.refl _ _) n)
  rw [HI.out, HT.out] at WW
  generalize opB ⟨5, m, i, t⟩ = r at *
  generalize arO ⟨5, m, i, t⟩ = a at *
  generalize nameB t = nb at *
  clear HI HT ht
  have hm0 : ¬ (m : Int) < 0 := by omega
  go_enter Tryd.func82, Tryd.ntmps82
  go_wp2
  go_region_with (first | (go_at_call 90; refine (RA _).mono ?_; rintro e w5 ⟨rfl, hb5⟩; obtain ⟨⟨y0, y1, y2, y3⟩, yb⟩ := (O0.out _).below hb5; have YB : Hid _ := yb; clear hb5 yb))
  all_goals
    clear RA O0
    rcases WW.out with ⟨hna, rfl⟩ | ⟨hna, hr⟩
    · clear WW BN
      have hcm : ¬ (0 ≤ (m : Int) ∧ ((m : Int) != a) = false) := fun e => by rw [hna] at e; cases e.2
      go_wp2
      all_goals first | exact absurd ‹0 ≤ (m : Int) ∧ ((m : Int) != a) = false› hcm | (go_ret; exact ⟨rfl, YB.out⟩)
    · clear WW
      have hcm : ¬ ((m : Int) < 0 ∨ ((m : Int) != a) = true) := fun e => by rw [hna] at e; rcases e with e | e; omega; cases e
      have HR : Hid _ := hr
      clear hr
      by_cases z1 : i = 0
      · subst z1
        clear BN
        by_cases hz : t.size = 0
        · have := bytes_nil hz
          subst this
          go_wp2
          all_goals first | exact absurd ‹(m : Int) < 0 ∨ ((m : Int) != a) = true› hcm | (go_ret; exact ⟨ret_bool (by rw [HR.out]; rfl), YB.out⟩)
        · obtain ⟨q1, q2⟩ := bytes_ne (s := t) (by omega)
          go_wp2
          all_goals first | exact absurd ‹(m : Int) < 0 ∨ ((m : Int) != a) = true› hcm | (go_ret; exact ⟨ret_bool (by rw [HR.out]; simp [hz]), YB.out⟩)
      · have z2 : (i == 0) = false := by simpa using z1
        have z3 : (i != 0) = true := by simpa using z1
        clear BN
        go_wp2
        all_goals first | exact absurd ‹(m : Int) < 0 ∨ ((m : Int) != a) = true› hcm | (go_ret; exact ⟨ret_bool (by rw [HR.out]; simp [z1]), YB.out⟩)
set_option maxHeartbeats 8000000 in
theorem rwell_6 (m : Nat) (i : Int) (t : ByteArray) (w : World) (_ht : t.size ≤ maxLen) : Calls Tryd.prog 82 #[.agg #[.int .i64 6, .int .i64 (Int.ofNat m), .int .i64 i, .string t]] w fun e w' => e = .returned (.bool (opB ⟨6, m, i, t⟩)) ∧ Below w.heap.size w w' := by
  have ht := _ht
  have WW : Hid _ := well_ways (k := 6) (m := m) (i := i) (t := t) (by decide)
  have RA : ∀ w', Calls Tryd.prog 90 #[.agg #[.int .i64 6, .int .i64 (Int.ofNat m), .int .i64 i, .string t]] w' fun e w'' => e = .returned (.int .i64 (arO ⟨6, m, i, t⟩)) ∧ Below w'.heap.size w' w'' := fun w' => rarity_any ⟨6, m, i, t⟩ w' (by show isX 6 = true; decide)
  have HI : Hid (inB' ⟨6, m, i, t⟩ = decide (i = 0)) := rfl
  have HT : Hid (txB ⟨6, m, i, t⟩ = decide (t.size = 0)) := rfl
  have BN := fun w' => baseName_any t w' ht
  have O0 : Hid (∀ n, OB w ((w.alloc (.cells #[.int .i64 6, .int .i64 (Int.ofNat m), .int .i64 i, .string t] 71)).drewN n) w.heap.size 6 (Int.ofNat m) i t) := fun n => (OB.new w 6 (Int.ofNat m) i t).below (below_drewY (Below.refl _ _) n)
  rw [HI.out, HT.out] at WW
  generalize opB ⟨6, m, i, t⟩ = r at *
  generalize arO ⟨6, m, i, t⟩ = a at *
  generalize nameB t = nb at *
  clear HI HT ht
  have hm0 : ¬ (m : Int) < 0 := by omega
  go_enter Tryd.func82, Tryd.ntmps82
  go_wp2
  go_region_with (first | (go_at_call 90; refine (RA _).mono ?_; rintro e w5 ⟨rfl, hb5⟩; obtain ⟨⟨y0, y1, y2, y3⟩, yb⟩ := (O0.out _).below hb5; have YB : Hid _ := yb; clear hb5 yb))
  all_goals
    clear RA O0
    rcases WW.out with ⟨hna, rfl⟩ | ⟨hna, hr⟩
    · clear WW BN
      have hcm : ¬ (0 ≤ (m : Int) ∧ ((m : Int) != a) = false) := fun e => by rw [hna] at e; cases e.2
      go_wp2
      all_goals first | exact absurd ‹0 ≤ (m : Int) ∧ ((m : Int) != a) = false› hcm | (go_ret; exact ⟨rfl, YB.out⟩)
    · clear WW
      have hcm : ¬ ((m : Int) < 0 ∨ ((m : Int) != a) = true) := fun e => by rw [hna] at e; rcases e with e | e; omega; cases e
      have HR : Hid _ := hr
      clear hr
      by_cases z1 : i = 0
      · subst z1
        clear BN
        by_cases hz : t.size = 0
        · have := bytes_nil hz
          subst this
          go_wp2
          all_goals first | exact absurd ‹(m : Int) < 0 ∨ ((m : Int) != a) = true› hcm | (go_ret; exact ⟨ret_bool (by rw [HR.out]; rfl), YB.out⟩)
        · obtain ⟨q1, q2⟩ := bytes_ne (s := t) (by omega)
          go_wp2
          all_goals first | exact absurd ‹(m : Int) < 0 ∨ ((m : Int) != a) = true› hcm | (go_ret; exact ⟨ret_bool (by rw [HR.out]; simp [hz]), YB.out⟩)
      · have z2 : (i == 0) = false := by simpa using z1
        have z3 : (i != 0) = true := by simpa using z1
        clear BN
        go_wp2
        all_goals first | exact absurd ‹(m : Int) < 0 ∨ ((m : Int) != a) = true› hcm | (go_ret; exact ⟨ret_bool (by rw [HR.out]; simp [z1]), YB.out⟩)
set_option maxHeartbeats 8000000 in
theorem rwell_7 (m : Nat) (i : Int) (t : ByteArray) (w : World) (_ht : t.size ≤ maxLen) : Calls Tryd.prog 82 #[.agg #[.int .i64 7, .int .i64 (Int.ofNat m), .int .i64 i, .string t]] w fun e w' => e = .returned (.bool (opB ⟨7, m, i, t⟩)) ∧ Below w.heap.size w w' := by
  have ht := _ht
  have WW : Hid _ := well_ways (k := 7) (m := m) (i := i) (t := t) (by decide)
  have RA : ∀ w', Calls Tryd.prog 90 #[.agg #[.int .i64 7, .int .i64 (Int.ofNat m), .int .i64 i, .string t]] w' fun e w'' => e = .returned (.int .i64 (arO ⟨7, m, i, t⟩)) ∧ Below w'.heap.size w' w'' := fun w' => rarity_any ⟨7, m, i, t⟩ w' (by show isX 7 = true; decide)
  have HI : Hid (inB' ⟨7, m, i, t⟩ = decide (i = 0)) := rfl
  have HT : Hid (txB ⟨7, m, i, t⟩ = decide (t.size = 0)) := rfl
  have BN := fun w' => baseName_any t w' ht
  have O0 : Hid (∀ n, OB w ((w.alloc (.cells #[.int .i64 7, .int .i64 (Int.ofNat m), .int .i64 i, .string t] 71)).drewN n) w.heap.size 7 (Int.ofNat m) i t) := fun n => (OB.new w 7 (Int.ofNat m) i t).below (below_drewY (Below.refl _ _) n)
  rw [HI.out, HT.out] at WW
  generalize opB ⟨7, m, i, t⟩ = r at *
  generalize arO ⟨7, m, i, t⟩ = a at *
  generalize nameB t = nb at *
  clear HI HT ht
  have hm0 : ¬ (m : Int) < 0 := by omega
  go_enter Tryd.func82, Tryd.ntmps82
  go_wp2
  go_region_with (first | (go_at_call 90; refine (RA _).mono ?_; rintro e w5 ⟨rfl, hb5⟩; obtain ⟨⟨y0, y1, y2, y3⟩, yb⟩ := (O0.out _).below hb5; have YB : Hid _ := yb; clear hb5 yb))
  all_goals
    clear RA O0
    rcases WW.out with ⟨hna, rfl⟩ | ⟨hna, hr⟩
    · clear WW BN
      have hcm : ¬ (0 ≤ (m : Int) ∧ ((m : Int) != a) = false) := fun e => by rw [hna] at e; cases e.2
      go_wp2
      all_goals first | exact absurd ‹0 ≤ (m : Int) ∧ ((m : Int) != a) = false› hcm | (go_ret; exact ⟨rfl, YB.out⟩)
    · clear WW
      have hcm : ¬ ((m : Int) < 0 ∨ ((m : Int) != a) = true) := fun e => by rw [hna] at e; rcases e with e | e; omega; cases e
      have HR : Hid _ := hr
      clear hr
      by_cases z1 : i = 0
      · subst z1
        clear BN
        by_cases hz : t.size = 0
        · have := bytes_nil hz
          subst this
          go_wp2
          all_goals first | exact absurd ‹(m : Int) < 0 ∨ ((m : Int) != a) = true› hcm | (go_ret; exact ⟨ret_bool (by rw [HR.out]; rfl), YB.out⟩)
        · obtain ⟨q1, q2⟩ := bytes_ne (s := t) (by omega)
          go_wp2
          all_goals first | exact absurd ‹(m : Int) < 0 ∨ ((m : Int) != a) = true› hcm | (go_ret; exact ⟨ret_bool (by rw [HR.out]; simp [hz]), YB.out⟩)
      · have z2 : (i == 0) = false := by simpa using z1
        have z3 : (i != 0) = true := by simpa using z1
        clear BN
        go_wp2
        all_goals first | exact absurd ‹(m : Int) < 0 ∨ ((m : Int) != a) = true› hcm | (go_ret; exact ⟨ret_bool (by rw [HR.out]; simp [z1]), YB.out⟩)
set_option maxHeartbeats 8000000 in
theorem rwell_8 (m : Nat) (i : Int) (t : ByteArray) (w : World) (_ht : t.size ≤ maxLen) : Calls Tryd.prog 82 #[.agg #[.int .i64 8, .int .i64 (Int.ofNat m), .int .i64 i, .string t]] w fun e w' => e = .returned (.bool (opB ⟨8, m, i, t⟩)) ∧ Below w.heap.size w w' := by
  have ht := _ht
  have WW : Hid _ := well_ways (k := 8) (m := m) (i := i) (t := t) (by decide)
  have RA : ∀ w', Calls Tryd.prog 90 #[.agg #[.int .i64 8, .int .i64 (Int.ofNat m), .int .i64 i, .string t]] w' fun e w'' => e = .returned (.int .i64 (arO ⟨8, m, i, t⟩)) ∧ Below w'.heap.size w' w'' := fun w' => rarity_any ⟨8, m, i, t⟩ w' (by show isX 8 = true; decide)
  have HI : Hid (inB' ⟨8, m, i, t⟩ = decide (i = 0)) := rfl
  have HT : Hid (txB ⟨8, m, i, t⟩ = decide (t.size = 0)) := rfl
  have BN := fun w' => baseName_any t w' ht
  have O0 : Hid (∀ n, OB w ((w.alloc (.cells #[.int .i64 8, .int .i64 (Int.ofNat m), .int .i64 i, .string t] 71)).drewN n) w.heap.size 8 (Int.ofNat m) i t) := fun n => (OB.new w 8 (Int.ofNat m) i t).below (below_drewY (Below.refl _ _) n)
  rw [HI.out, HT.out] at WW
  generalize opB ⟨8, m, i, t⟩ = r at *
  generalize arO ⟨8, m, i, t⟩ = a at *
  generalize nameB t = nb at *
  clear HI HT ht
  have hm0 : ¬ (m : Int) < 0 := by omega
  go_enter Tryd.func82, Tryd.ntmps82
  go_wp2
  go_region_with (first | (go_at_call 90; refine (RA _).mono ?_; rintro e w5 ⟨rfl, hb5⟩; obtain ⟨⟨y0, y1, y2, y3⟩, yb⟩ := (O0.out _).below hb5; have YB : Hid _ := yb; clear hb5 yb))
  all_goals
    clear RA O0
    rcases WW.out with ⟨hna, rfl⟩ | ⟨hna, hr⟩
    · clear WW BN
      have hcm : ¬ (0 ≤ (m : Int) ∧ ((m : Int) != a) = false) := fun e => by rw [hna] at e; cases e.2
      go_wp2
      all_goals first | exact absurd ‹0 ≤ (m : Int) ∧ ((m : Int) != a) = false› hcm | (go_ret; exact ⟨rfl, YB.out⟩)
    · clear WW
      have hcm : ¬ ((m : Int) < 0 ∨ ((m : Int) != a) = true) := fun e => by rw [hna] at e; rcases e with e | e; omega; cases e
      have HR : Hid _ := hr
      clear hr
      by_cases z1 : i = 0
      · subst z1
        clear BN
        by_cases hz : t.size = 0
        · have := bytes_nil hz
          subst this
          go_wp2
          all_goals first | exact absurd ‹(m : Int) < 0 ∨ ((m : Int) != a) = true› hcm | (go_ret; exact ⟨ret_bool (by rw [HR.out]; rfl), YB.out⟩)
        · obtain ⟨q1, q2⟩ := bytes_ne (s := t) (by omega)
          go_wp2
          all_goals first | exact absurd ‹(m : Int) < 0 ∨ ((m : Int) != a) = true› hcm | (go_ret; exact ⟨ret_bool (by rw [HR.out]; simp [hz]), YB.out⟩)
      · have z2 : (i == 0) = false := by simpa using z1
        have z3 : (i != 0) = true := by simpa using z1
        clear BN
        go_wp2
        all_goals first | exact absurd ‹(m : Int) < 0 ∨ ((m : Int) != a) = true› hcm | (go_ret; exact ⟨ret_bool (by rw [HR.out]; simp [z1]), YB.out⟩)
end Go.Proofs.YtffabehipcomfaaDoor
