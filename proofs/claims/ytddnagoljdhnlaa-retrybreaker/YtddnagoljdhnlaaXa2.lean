/- Retry: isWithin, isTime, Check, both sides. -/
import Derived.Test.YtddnagoljdhnlaaXa1
namespace Go.Proofs.Ytddnagoljdhnlaa
open Go.RowKit

theorem isWithin_any (n a b : Int) (w : World) : Calls Try.prog 16 #[.int .i64 n, .int .i64 a, .int .i64 b] w fun e w' => e = .returned (.bool (decide (a ≤ n ∧ n ≤ b))) ∧ w' = w := by
  by_cases h1 : a ≤ n
  · by_cases h2 : n ≤ b
    · go_enter Try.func16, Try.ntmps16
      go_wp2
      go_ret
      exact ⟨ret_bool (by simp [h1, h2]), rfl⟩
    · go_enter Try.func16, Try.ntmps16
      go_wp2
      go_ret
      exact ⟨ret_bool (by simp; omega), rfl⟩
  · go_enter Try.func16, Try.ntmps16
    go_wp2
    go_ret
    exact ⟨ret_bool (by simp; omega), rfl⟩
theorem isTime_any (n : Int) (w : World) : Calls Try.prog 25 #[.int .i64 n] w fun e w' => e = .returned (.bool (timB n)) ∧ w' = w := by
  have IW := fun w' => isWithin_any n 0 1099511627776 w'
  have HT : Hid (timB n = decide (0 ≤ n ∧ n ≤ 1099511627776)) := rfl
  generalize timB n = r at *
  go_enter Try.func25, Try.ntmps25
  go_wp2_with (go_at_call 16; refine (IW _).mono ?_; rintro e w' ⟨rfl, rfl⟩)
  go_ret
  exact ⟨ret_bool (by rw [HT.out]; simp), rfl⟩
theorem chk_ok {p : Pol} (h : polB p = true) : chkE p = 0 := by simp [chkE, h]
theorem chk_no {p : Pol} (h : polB p = false) : chkE p = 50 := by simp [chkE, h]
set_option maxHeartbeats 4000000 in
theorem check_any (p : Pol) (w : World) : Calls Try.prog 23 #[polV p] w fun e w' => e = .returned (.int .i64 (chkE p)) ∧ Below w.heap.size w w' := by
  have HB : Hid (polB p = (decide (p.t = 0 ∧ p.b = 0 ∧ p.f = 0 ∧ p.c = 0) || (decide (1 ≤ p.t ∧ p.t ≤ 64) && decide (0 ≤ p.b ∧ p.b ≤ 1073741824) && decide (1 ≤ p.f ∧ p.f ≤ 16) && decide (p.b ≤ p.c ∧ p.c ≤ 1099511627776)))) := rfl
  have CO : Hid (polB p = true → chkE p = 0) := chk_ok
  have CN : Hid (polB p = false → chkE p = 50) := chk_no
  have AL : Hid (∀ ob, Below w.heap.size w (w.alloc ob)) := fun ob => (Below.refl _ _).alloc (Nat.le_refl _) ob
  have IW := fun n a b w' => isWithin_any n a b w'
  generalize polB p = r at *
  generalize chkE p = ce at *
  obtain ⟨t, b, f, c⟩ := p
  simp only [polV] at *
  by_cases hz : t = 0 ∧ b = 0 ∧ f = 0 ∧ c = 0
  · obtain ⟨rfl, rfl, rfl, rfl⟩ := hz
    have E := hid (CO.out (by rw [HB.out]; decide))
    clear CO CN HB
    go_enter Try.func23, Try.ntmps23
    go_wp2_with fail
    go_ret
    exact ⟨ret_int E.out.symm, AL.out _⟩
  have HZ := hid hz
  have DZ : t = 0 ∧ b = 0 ∧ f = 0 ∧ (c == 0) = false ∨ t = 0 ∧ b = 0 ∧ (f == 0) = false ∨ t = 0 ∧ (b == 0) = false ∨ (t == 0) = false := by
    simp only [beq_eq_false_iff_ne]; omega
  clear hz
  have IW0 := fun w' => IW t 1 64 w'
  have IW1 := fun w' => IW b 0 1073741824 w'
  have IW2 := fun w' => IW f 1 16 w'
  have IW3 := fun w' => IW c b 1099511627776 w'
  clear IW
  rcases (by cases decide (1 ≤ t ∧ t ≤ 64) <;> simp : decide (1 ≤ t ∧ t ≤ 64) = true ∨ decide (1 ≤ t ∧ t ≤ 64) = false) with d0 | d0
  · rw [d0] at IW0
    rcases (by cases decide (0 ≤ b ∧ b ≤ 1073741824) <;> simp : decide (0 ≤ b ∧ b ≤ 1073741824) = true ∨ decide (0 ≤ b ∧ b ≤ 1073741824) = false) with d1 | d1
    · rw [d1] at IW1
      rcases (by cases decide (1 ≤ f ∧ f ≤ 16) <;> simp : decide (1 ≤ f ∧ f ≤ 16) = true ∨ decide (1 ≤ f ∧ f ≤ 16) = false) with d2 | d2
      · rw [d2] at IW2
        rcases (by cases decide (b ≤ c ∧ c ≤ 1099511627776) <;> simp : decide (b ≤ c ∧ c ≤ 1099511627776) = true ∨ decide (b ≤ c ∧ c ≤ 1099511627776) = false) with d3 | d3
        · rw [d3] at IW3
          have E := hid (CO.out (by rw [HB.out, d0, d1, d2, d3]; simp only [Bool.and_self, Bool.or_true]))
          clear CO CN HB HZ d0 d1 d2 d3
          rcases DZ with ⟨rfl, rfl, rfl, z⟩ | ⟨rfl, rfl, z⟩ | ⟨rfl, z⟩ | z
          all_goals
            go_enter Try.func23, Try.ntmps23
            go_wp2_with fail
            refine Calls.mono (IW0 _) ?_
            rintro e w0 ⟨rfl, hw0⟩
            rw [hw0]
            clear hw0
            go_wp2_with fail
            refine Calls.mono (IW1 _) ?_
            rintro e w1 ⟨rfl, hw1⟩
            rw [hw1]
            clear hw1
            go_wp2_with fail
            refine Calls.mono (IW2 _) ?_
            rintro e w2 ⟨rfl, hw2⟩
            rw [hw2]
            clear hw2
            go_wp2_with fail
            refine Calls.mono (IW3 _) ?_
            rintro e w3 ⟨rfl, hw3⟩
            rw [hw3]
            clear hw3
            go_wp2_with fail
            go_ret
            exact ⟨ret_int E.out.symm, AL.out _⟩
        · rw [d3] at IW3
          have E := hid (CN.out (by rw [HB.out, d3, decide_eq_false HZ.out]; simp))
          clear CO CN HB HZ d0 d1 d2 d3
          rcases DZ with ⟨rfl, rfl, rfl, z⟩ | ⟨rfl, rfl, z⟩ | ⟨rfl, z⟩ | z
          all_goals
            go_enter Try.func23, Try.ntmps23
            go_wp2_with fail
            refine Calls.mono (IW0 _) ?_
            rintro e w0 ⟨rfl, hw0⟩
            rw [hw0]
            clear hw0
            go_wp2_with fail
            refine Calls.mono (IW1 _) ?_
            rintro e w1 ⟨rfl, hw1⟩
            rw [hw1]
            clear hw1
            go_wp2_with fail
            refine Calls.mono (IW2 _) ?_
            rintro e w2 ⟨rfl, hw2⟩
            rw [hw2]
            clear hw2
            go_wp2_with fail
            refine Calls.mono (IW3 _) ?_
            rintro e w3 ⟨rfl, hw3⟩
            rw [hw3]
            clear hw3
            go_wp2_with fail
            go_ret
            exact ⟨ret_int E.out.symm, AL.out _⟩
      · rw [d2] at IW2
        have E := hid (CN.out (by rw [HB.out, d2, decide_eq_false HZ.out]; simp))
        clear CO CN HB HZ d0 d1 d2
        rcases DZ with ⟨rfl, rfl, rfl, z⟩ | ⟨rfl, rfl, z⟩ | ⟨rfl, z⟩ | z
        all_goals
          go_enter Try.func23, Try.ntmps23
          go_wp2_with fail
          refine Calls.mono (IW0 _) ?_
          rintro e w0 ⟨rfl, hw0⟩
          rw [hw0]
          clear hw0
          go_wp2_with fail
          refine Calls.mono (IW1 _) ?_
          rintro e w1 ⟨rfl, hw1⟩
          rw [hw1]
          clear hw1
          go_wp2_with fail
          refine Calls.mono (IW2 _) ?_
          rintro e w2 ⟨rfl, hw2⟩
          rw [hw2]
          clear hw2
          go_wp2_with fail
          go_ret
          exact ⟨ret_int E.out.symm, AL.out _⟩
    · rw [d1] at IW1
      have E := hid (CN.out (by rw [HB.out, d1, decide_eq_false HZ.out]; simp))
      clear CO CN HB HZ d0 d1
      rcases DZ with ⟨rfl, rfl, rfl, z⟩ | ⟨rfl, rfl, z⟩ | ⟨rfl, z⟩ | z
      all_goals
        go_enter Try.func23, Try.ntmps23
        go_wp2_with fail
        refine Calls.mono (IW0 _) ?_
        rintro e w0 ⟨rfl, hw0⟩
        rw [hw0]
        clear hw0
        go_wp2_with fail
        refine Calls.mono (IW1 _) ?_
        rintro e w1 ⟨rfl, hw1⟩
        rw [hw1]
        clear hw1
        go_wp2_with fail
        go_ret
        exact ⟨ret_int E.out.symm, AL.out _⟩
  · rw [d0] at IW0
    have E := hid (CN.out (by rw [HB.out, d0, decide_eq_false HZ.out]; simp))
    clear CO CN HB HZ d0
    rcases DZ with ⟨rfl, rfl, rfl, z⟩ | ⟨rfl, rfl, z⟩ | ⟨rfl, z⟩ | z
    all_goals
      go_enter Try.func23, Try.ntmps23
      go_wp2_with fail
      refine Calls.mono (IW0 _) ?_
      rintro e w0 ⟨rfl, hw0⟩
      rw [hw0]
      clear hw0
      go_wp2_with fail
      go_ret
      exact ⟨ret_int E.out.symm, AL.out _⟩
end Go.Proofs.Ytddnagoljdhnlaa
