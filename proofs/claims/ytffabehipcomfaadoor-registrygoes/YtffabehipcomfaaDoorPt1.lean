/- Names: policies and closers, both sides. -/
import Derived.Test.YtffabehipcomfaaDoorPx3
import Derived.Laws.StructEq
namespace Go.Proofs.YtffabehipcomfaaDoor
open Go.RowKit

structure Pol where
  t : Int
  b : Int
  f : Int
  c : Int
def polC (p : Pol) : Array Value := #[.int .i64 p.t, .int .i64 p.b, .int .i64 p.f, .int .i64 p.c]
def polV (p : Pol) : Value := .agg #[.int .i64 p.t, .int .i64 p.b, .int .i64 p.f, .int .i64 p.c]
def polB (p : Pol) : Bool := decide (p.t = 0 ∧ p.b = 0 ∧ p.f = 0 ∧ p.c = 0) || (decide (1 ≤ p.t ∧ p.t ≤ 64) && decide (0 ≤ p.b ∧ p.b ≤ 1073741824) && decide (1 ≤ p.f ∧ p.f ≤ 16) && decide (p.b ≤ p.c ∧ p.c ≤ 1099511627776))
set_option maxHeartbeats 4000000 in
theorem isPolicy_any (p : Pol) (w : World) : Calls Tryd.prog 53 #[polV p] w fun e w' => e = .returned (.bool (polB p)) ∧ Below w.heap.size w w' := by
  have HB : Hid (polB p = (decide (p.t = 0 ∧ p.b = 0 ∧ p.f = 0 ∧ p.c = 0) || (decide (1 ≤ p.t ∧ p.t ≤ 64) && decide (0 ≤ p.b ∧ p.b ≤ 1073741824) && decide (1 ≤ p.f ∧ p.f ≤ 16) && decide (p.b ≤ p.c ∧ p.c ≤ 1099511627776)))) := rfl
  have AL : Hid (∀ ob, Below w.heap.size w (w.alloc ob)) := fun ob => (Below.refl _ _).alloc (Nat.le_refl _) ob
  have IW := fun n a b w' => isWithin_any n a b w'
  generalize polB p = r at *
  obtain ⟨t, b, f, c⟩ := p
  simp only [polV] at *
  by_cases ht : t = 0
  · subst ht
    by_cases hb : b = 0
    · subst hb
      by_cases hf : f = 0
      · subst hf
        by_cases hc : c = 0
        · subst hc
          go_enter Tryd.func53, Tryd.ntmps53
          go_wp2_with (go_at_call 75; refine (IW _ _ _ _).mono ?_; rintro e w' ⟨rfl, rfl⟩)
          go_ret
          exact ⟨ret_bool (by rw [HB.out]; decide), AL.out _⟩
        · have hc2 : (c == 0) = false := by simpa using hc
          go_enter Tryd.func53, Tryd.ntmps53
          go_wp2_with (go_at_call 75; refine (IW _ _ _ _).mono ?_; rintro e w' ⟨rfl, rfl⟩)
          go_ret
          exact ⟨ret_bool (by rw [HB.out]; simp [hc]), AL.out _⟩
      · have hf2 : (f == 0) = false := by simpa using hf
        go_enter Tryd.func53, Tryd.ntmps53
        go_wp2_with (go_at_call 75; refine (IW _ _ _ _).mono ?_; rintro e w' ⟨rfl, rfl⟩)
        go_ret
        exact ⟨ret_bool (by rw [HB.out]; simp [hf]), AL.out _⟩
    · have hb2 : (b == 0) = false := by simpa using hb
      go_enter Tryd.func53, Tryd.ntmps53
      go_wp2_with (go_at_call 75; refine (IW _ _ _ _).mono ?_; rintro e w' ⟨rfl, rfl⟩)
      go_ret
      exact ⟨ret_bool (by rw [HB.out]; simp [hb]), AL.out _⟩
  · have ht2 : (t == 0) = false := by simpa using ht
    have D0 : decide (1 ≤ t ∧ t ≤ 64) = true ∨ decide (1 ≤ t ∧ t ≤ 64) = false := by cases decide (1 ≤ t ∧ t ≤ 64) <;> simp
    have D1 : decide (0 ≤ b ∧ b ≤ 1073741824) = true ∨ decide (0 ≤ b ∧ b ≤ 1073741824) = false := by cases decide (0 ≤ b ∧ b ≤ 1073741824) <;> simp
    have D2 : decide (1 ≤ f ∧ f ≤ 16) = true ∨ decide (1 ≤ f ∧ f ≤ 16) = false := by cases decide (1 ≤ f ∧ f ≤ 16) <;> simp
    have D3 : decide (b ≤ c ∧ c ≤ 1099511627776) = true ∨ decide (b ≤ c ∧ c ≤ 1099511627776) = false := by cases decide (b ≤ c ∧ c ≤ 1099511627776) <;> simp
    have IW0 := fun w' => IW t 1 64 w'
    rcases D0 with d0 | d0
    · rw [d0] at IW0
      have IW1 := fun w' => IW b 0 1073741824 w'
      rcases D1 with d1 | d1
      · rw [d1] at IW1
        have IW2 := fun w' => IW f 1 16 w'
        rcases D2 with d2 | d2
        · rw [d2] at IW2
          have IW3 := fun w' => IW c b 1099511627776 w'
          rcases D3 with d3 | d3
          · rw [d3] at IW3
            go_enter Tryd.func53, Tryd.ntmps53
            go_wp2_with fail
            refine Calls.mono (IW0 _) ?_
            rintro e w0 ⟨rfl, hw0⟩
            rw [hw0]
            clear hw0
            go_wp2_with fail
            refine Calls.mono (IW1 _) ?_
            rintro e w1 ⟨rfl, hw1⟩
            rw [hw1]
            clear hw1
            go_wp2_with fail
            refine Calls.mono (IW2 _) ?_
            rintro e w2 ⟨rfl, hw2⟩
            rw [hw2]
            clear hw2
            go_wp2_with fail
            refine Calls.mono (IW3 _) ?_
            rintro e w3 ⟨rfl, hw3⟩
            rw [hw3]
            clear hw3
            go_wp2_with fail
            go_ret
            exact ⟨ret_bool (by rw [HB.out, d0, d1, d2, d3]; simp only [Bool.and_self, Bool.or_true]), AL.out _⟩
          · rw [d3] at IW3
            go_enter Tryd.func53, Tryd.ntmps53
            go_wp2_with fail
            refine Calls.mono (IW0 _) ?_
            rintro e w0 ⟨rfl, hw0⟩
            rw [hw0]
            clear hw0
            go_wp2_with fail
            refine Calls.mono (IW1 _) ?_
            rintro e w1 ⟨rfl, hw1⟩
            rw [hw1]
            clear hw1
            go_wp2_with fail
            refine Calls.mono (IW2 _) ?_
            rintro e w2 ⟨rfl, hw2⟩
            rw [hw2]
            clear hw2
            go_wp2_with fail
            refine Calls.mono (IW3 _) ?_
            rintro e w3 ⟨rfl, hw3⟩
            rw [hw3]
            clear hw3
            go_wp2_with fail
            go_ret
            exact ⟨ret_bool (by rw [HB.out, d3, decide_eq_false (p := t = 0 ∧ b = 0 ∧ f = 0 ∧ c = 0) (fun e => ht e.1)]; simp), AL.out _⟩
        · rw [d2] at IW2
          go_enter Tryd.func53, Tryd.ntmps53
          go_wp2_with fail
          refine Calls.mono (IW0 _) ?_
          rintro e w0 ⟨rfl, hw0⟩
          rw [hw0]
          clear hw0
          go_wp2_with fail
          refine Calls.mono (IW1 _) ?_
          rintro e w1 ⟨rfl, hw1⟩
          rw [hw1]
          clear hw1
          go_wp2_with fail
          refine Calls.mono (IW2 _) ?_
          rintro e w2 ⟨rfl, hw2⟩
          rw [hw2]
          clear hw2
          go_wp2_with fail
          go_ret
          exact ⟨ret_bool (by rw [HB.out, d2, decide_eq_false (p := t = 0 ∧ b = 0 ∧ f = 0 ∧ c = 0) (fun e => ht e.1)]; simp), AL.out _⟩
      · rw [d1] at IW1
        go_enter Tryd.func53, Tryd.ntmps53
        go_wp2_with fail
        refine Calls.mono (IW0 _) ?_
        rintro e w0 ⟨rfl, hw0⟩
        rw [hw0]
        clear hw0
        go_wp2_with fail
        refine Calls.mono (IW1 _) ?_
        rintro e w1 ⟨rfl, hw1⟩
        rw [hw1]
        clear hw1
        go_wp2_with fail
        go_ret
        exact ⟨ret_bool (by rw [HB.out, d1, decide_eq_false (p := t = 0 ∧ b = 0 ∧ f = 0 ∧ c = 0) (fun e => ht e.1)]; simp), AL.out _⟩
    · rw [d0] at IW0
      go_enter Tryd.func53, Tryd.ntmps53
      go_wp2_with fail
      refine Calls.mono (IW0 _) ?_
      rintro e w0 ⟨rfl, hw0⟩
      rw [hw0]
      clear hw0
      go_wp2_with fail
      go_ret
      exact ⟨ret_bool (by rw [HB.out, d0, decide_eq_false (p := t = 0 ∧ b = 0 ∧ f = 0 ∧ c = 0) (fun e => ht e.1)]; simp), AL.out _⟩
set_option maxHeartbeats 4000000 in
theorem goodPolicy_any (p : Pol) (w : World) : Calls Tryd.prog 45 #[polV p] w fun e w' => e = .returned (.bool (polB p)) ∧ Below w.heap.size w w' := by
  have HB : Hid (polB p = (decide (p.t = 0 ∧ p.b = 0 ∧ p.f = 0 ∧ p.c = 0) || (decide (1 ≤ p.t ∧ p.t ≤ 64) && decide (0 ≤ p.b ∧ p.b ≤ 1073741824) && decide (1 ≤ p.f ∧ p.f ≤ 16) && decide (p.b ≤ p.c ∧ p.c ≤ 1099511627776)))) := rfl
  have AL : Hid (∀ ob, Below w.heap.size w (w.alloc ob)) := fun ob => (Below.refl _ _).alloc (Nat.le_refl _) ob
  have IW := fun n a b w' => isWithin_any n a b w'
  generalize polB p = r at *
  obtain ⟨t, b, f, c⟩ := p
  simp only [polV] at *
  by_cases ht : t = 0
  · subst ht
    by_cases hb : b = 0
    · subst hb
      by_cases hf : f = 0
      · subst hf
        by_cases hc : c = 0
        · subst hc
          go_enter Tryd.func45, Tryd.ntmps45
          go_wp2
          go_ret
          exact ⟨ret_bool (by rw [HB.out]; decide), AL.out _⟩
        · have hc2 : (c == 0) = false := by simpa using hc
          go_enter Tryd.func45, Tryd.ntmps45
          go_wp2
          go_ret
          exact ⟨ret_bool (by rw [HB.out]; simp [hc]), AL.out _⟩
      · have hf2 : (f == 0) = false := by simpa using hf
        go_enter Tryd.func45, Tryd.ntmps45
        go_wp2
        go_ret
        exact ⟨ret_bool (by rw [HB.out]; simp [hf]), AL.out _⟩
    · have hb2 : (b == 0) = false := by simpa using hb
      go_enter Tryd.func45, Tryd.ntmps45
      go_wp2
      go_ret
      exact ⟨ret_bool (by rw [HB.out]; simp [hb]), AL.out _⟩
  · have ht2 : (t == 0) = false := by simpa using ht
    by_cases h0 : t ≥ 1
    · skip
      by_cases h1 : t ≤ 64
      · skip
        by_cases h2 : b ≥ 0
        · skip
          by_cases h3 : b ≤ 1073741824
          · skip
            by_cases h4 : f ≥ 1
            · skip
              by_cases h5 : f ≤ 16
              · skip
                by_cases h6 : c ≥ b
                · skip
                  by_cases h7 : c ≤ 1099511627776
                  · skip
                    go_enter Tryd.func45, Tryd.ntmps45
                    go_wp2
                    go_ret
                    exact ⟨ret_bool (by rw [HB.out]; simp [ht]; omega), AL.out _⟩
                  · skip
                    go_enter Tryd.func45, Tryd.ntmps45
                    go_wp2
                    go_ret
                    exact ⟨ret_bool (by rw [HB.out]; simp [ht]; omega), AL.out _⟩
                · skip
                  go_enter Tryd.func45, Tryd.ntmps45
                  go_wp2
                  go_ret
                  exact ⟨ret_bool (by rw [HB.out]; simp [ht]; omega), AL.out _⟩
              · skip
                go_enter Tryd.func45, Tryd.ntmps45
                go_wp2
                go_ret
                exact ⟨ret_bool (by rw [HB.out]; simp [ht]; omega), AL.out _⟩
            · skip
              go_enter Tryd.func45, Tryd.ntmps45
              go_wp2
              go_ret
              exact ⟨ret_bool (by rw [HB.out]; simp [ht]; omega), AL.out _⟩
          · skip
            go_enter Tryd.func45, Tryd.ntmps45
            go_wp2
            go_ret
            exact ⟨ret_bool (by rw [HB.out]; simp [ht]; omega), AL.out _⟩
        · skip
          go_enter Tryd.func45, Tryd.ntmps45
          go_wp2
          go_ret
          exact ⟨ret_bool (by rw [HB.out]; simp [ht]; omega), AL.out _⟩
      · skip
        go_enter Tryd.func45, Tryd.ntmps45
        go_wp2
        go_ret
        exact ⟨ret_bool (by rw [HB.out]; simp [ht]; omega), AL.out _⟩
    · skip
      go_enter Tryd.func45, Tryd.ntmps45
      go_wp2
      go_ret
      exact ⟨ret_bool (by rw [HB.out]; simp [ht]; omega), AL.out _⟩
/-- What is wrong with a closer. -/
def cloE (k : Int) (t : ByteArray) : Int := if k = 0 ∨ k = 1 then (if t.size = 0 then 0 else 51) else if k = 2 ∨ k = 3 then (if 4096 < t.size then 3 else 0) else 51
set_option maxHeartbeats 4000000 in
theorem checkCloser_any (k : Int) (t : ByteArray) (w : World) : Calls Tryd.prog 54 #[.agg #[.int .i64 k, .string t]] w fun e w' => e = .returned (.int .i64 (cloE k t)) ∧ Below w.heap.size w w' := by
  have HB : Hid (cloE k t = if k = 0 ∨ k = 1 then (if t.size = 0 then 0 else 51) else if k = 2 ∨ k = 3 then (if 4096 < t.size then 3 else 0) else 51) := rfl
  have AL : Hid (∀ ob, Below w.heap.size w (w.alloc ob)) := fun ob => (Below.refl _ _).alloc (Nat.le_refl _) ob
  generalize cloE k t = r at *
  by_cases k0 : k = 0
  · subst k0
    by_cases hz : t.size = 0
    · have := bytes_nil hz
      subst this
      go_enter Tryd.func54, Tryd.ntmps54
      go_wp2
      go_ret
      exact ⟨ret_int (by rw [HB.out]; decide), AL.out _⟩
    · obtain ⟨q1, q2⟩ := bytes_ne (s := t) (by omega)
      go_enter Tryd.func54, Tryd.ntmps54
      go_wp2
      go_ret
      exact ⟨ret_int (by rw [HB.out]; simp [hz]), AL.out _⟩
  by_cases k1 : k = 1
  · subst k1
    by_cases hz : t.size = 0
    · have := bytes_nil hz
      subst this
      go_enter Tryd.func54, Tryd.ntmps54
      go_wp2
      go_ret
      exact ⟨ret_int (by rw [HB.out]; decide), AL.out _⟩
    · obtain ⟨q1, q2⟩ := bytes_ne (s := t) (by omega)
      go_enter Tryd.func54, Tryd.ntmps54
      go_wp2
      go_ret
      exact ⟨ret_int (by rw [HB.out]; simp [hz]), AL.out _⟩
  by_cases k2 : k = 2
  · subst k2
    by_cases hz : 4096 < t.size
    · have hz2 : (t.size : Int) > 4096 := by omega
      go_enter Tryd.func54, Tryd.ntmps54
      go_wp2
      go_ret
      exact ⟨ret_int (by rw [HB.out]; simp [hz]), AL.out _⟩
    · have hz2 : ¬ (t.size : Int) > 4096 := by omega
      go_enter Tryd.func54, Tryd.ntmps54
      go_wp2
      go_ret
      exact ⟨ret_int (by rw [HB.out]; simp [hz]), AL.out _⟩
  by_cases k3 : k = 3
  · subst k3
    by_cases hz : 4096 < t.size
    · have hz2 : (t.size : Int) > 4096 := by omega
      go_enter Tryd.func54, Tryd.ntmps54
      go_wp2
      go_ret
      exact ⟨ret_int (by rw [HB.out]; simp [hz]), AL.out _⟩
    · have hz2 : ¬ (t.size : Int) > 4096 := by omega
      go_enter Tryd.func54, Tryd.ntmps54
      go_wp2
      go_ret
      exact ⟨ret_int (by rw [HB.out]; simp [hz]), AL.out _⟩
  have b0 : (k == 0) = false := by simpa using k0
  have b1 : (k == 1) = false := by simpa using k1
  have b2 : (k == 2) = false := by simpa using k2
  have b3 : (k == 3) = false := by simpa using k3
  go_enter Tryd.func54, Tryd.ntmps54
  go_wp2
  go_ret
  exact ⟨ret_int (by rw [HB.out]; simp [k0, k1, k2, k3]), AL.out _⟩
set_option maxHeartbeats 4000000 in
theorem closerError_any (k : Int) (t : ByteArray) (w : World) : Calls Tryd.prog 46 #[.agg #[.int .i64 k, .string t]] w fun e w' => e = .returned (.int .i64 (cloE k t)) ∧ Below w.heap.size w w' := by
  have HB : Hid (cloE k t = if k = 0 ∨ k = 1 then (if t.size = 0 then 0 else 51) else if k = 2 ∨ k = 3 then (if 4096 < t.size then 3 else 0) else 51) := rfl
  have AL : Hid (∀ ob, Below w.heap.size w (w.alloc ob)) := fun ob => (Below.refl _ _).alloc (Nat.le_refl _) ob
  generalize cloE k t = r at *
  by_cases k0 : k = 0
  · subst k0
    by_cases hz : t.size = 0
    · have := bytes_nil hz
      subst this
      go_enter Tryd.func46, Tryd.ntmps46
      go_wp2
      go_ret
      exact ⟨ret_int (by rw [HB.out]; decide), AL.out _⟩
    · obtain ⟨q1, q2⟩ := bytes_ne (s := t) (by omega)
      go_enter Tryd.func46, Tryd.ntmps46
      go_wp2
      go_ret
      exact ⟨ret_int (by rw [HB.out]; simp [hz]), AL.out _⟩
  by_cases k1 : k = 1
  · subst k1
    by_cases hz : t.size = 0
    · have := bytes_nil hz
      subst this
      go_enter Tryd.func46, Tryd.ntmps46
      go_wp2
      go_ret
      exact ⟨ret_int (by rw [HB.out]; decide), AL.out _⟩
    · obtain ⟨q1, q2⟩ := bytes_ne (s := t) (by omega)
      go_enter Tryd.func46, Tryd.ntmps46
      go_wp2
      go_ret
      exact ⟨ret_int (by rw [HB.out]; simp [hz]), AL.out _⟩
  by_cases k2 : k = 2
  · subst k2
    by_cases hz : 4096 < t.size
    · have hz2 : (t.size : Int) > 4096 := by omega
      go_enter Tryd.func46, Tryd.ntmps46
      go_wp2
      go_ret
      exact ⟨ret_int (by rw [HB.out]; simp [hz]), AL.out _⟩
    · have hz2 : ¬ (t.size : Int) > 4096 := by omega
      go_enter Tryd.func46, Tryd.ntmps46
      go_wp2
      go_ret
      exact ⟨ret_int (by rw [HB.out]; simp [hz]), AL.out _⟩
  by_cases k3 : k = 3
  · subst k3
    by_cases hz : 4096 < t.size
    · have hz2 : (t.size : Int) > 4096 := by omega
      go_enter Tryd.func46, Tryd.ntmps46
      go_wp2
      go_ret
      exact ⟨ret_int (by rw [HB.out]; simp [hz]), AL.out _⟩
    · have hz2 : ¬ (t.size : Int) > 4096 := by omega
      go_enter Tryd.func46, Tryd.ntmps46
      go_wp2
      go_ret
      exact ⟨ret_int (by rw [HB.out]; simp [hz]), AL.out _⟩
  have b0 : (k == 0) = false := by simpa using k0
  have b1 : (k == 1) = false := by simpa using k1
  have b2 : (k == 2) = false := by simpa using k2
  have b3 : (k == 3) = false := by simpa using k3
  by_cases hn : k < 0
  · skip
    go_enter Tryd.func46, Tryd.ntmps46
    go_wp2
    go_ret
    exact ⟨ret_int (by rw [HB.out]; simp [k0, k1, k2, k3]), AL.out _⟩
  · have hn2 : k > 3 := by omega
    go_enter Tryd.func46, Tryd.ntmps46
    go_wp2
    go_ret
    exact ⟨ret_int (by rw [HB.out]; simp [k0, k1, k2, k3]), AL.out _⟩
end Go.Proofs.YtffabehipcomfaaDoor
