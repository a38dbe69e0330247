/- Values: is it an atom? -/
import Derived.Test.YtbgeihgenckihaaDoorVb1
namespace Go.Proofs.YtbgeihgenckihaaDoor
open Go.RowKit

theorem atB_def (k n i : Int) (t : ByteArray) : atB ⟨k, n, i, t⟩ = (if k = 1 then decide (n = 0) && decide (-9007199254740992 ≤ i ∧ i ≤ 9007199254740992) && decide (t.size = 0)
  else if k = 2 then decide (n = 0) && decide (i = 0) && decide (t.size ≤ 4096)
  else if k = 3 then decide (0 ≤ n) && decide (i = 0) && decide (t.size = 0) else false) := rfl
set_option maxHeartbeats 4000000 in
theorem isAtom_any (a : Atm) (w : World) (ht : a.text.size ≤ maxLen) : Calls Tryd.prog 67 #[atV a] w fun e w' => e = .returned (.bool (atB a)) ∧ Below w.heap.size w w' := by
  have AL : Hid (∀ ob, Below w.heap.size w (w.alloc ob)) := fun ob => (Below.refl _ _).alloc (Nat.le_refl _) ob
  obtain ⟨k, n, i, t⟩ := a
  have HB : Hid _ := atB_def k n i t
  have IN : Hid (∀ w, _) := fun w => isNumber_any i w
  generalize atB ⟨k, n, i, t⟩ = r at *
  simp only [atV] at *
  generalize decide (-9007199254740992 ≤ i ∧ i ≤ 9007199254740992) = rr at *
  by_cases hz : t.size = 0
  · have := bytes_nil hz
    subst this
    clear hz
    by_cases h1 : k = 1
    · subst h1
      by_cases h2 : n = 0
      · subst h2
        go_enter Tryd.func67, Tryd.ntmps67
        go_wp2_with fail
        refine Calls.mono (IN.out _) ?_
        rintro e w1 ⟨rfl, hw1⟩
        rw [hw1]
        cases rr with
        | true => go_wp2_with fail; go_ret; exact ⟨ret_bool (by rw [HB.out]; rfl), AL.out _⟩
        | false => go_wp2_with fail; go_ret; exact ⟨ret_bool (by rw [HB.out]; rfl), AL.out _⟩
      · go_enter Tryd.func67, Tryd.ntmps67
        go_wp2_with fail; go_ret; exact ⟨ret_bool (by rw [HB.out]; simp [h2]), AL.out _⟩
    · by_cases h2 : k = 2
      · subst h2
        by_cases h3 : n = 0
        · subst h3
          by_cases h4 : i = 0
          · subst h4
            go_enter Tryd.func67, Tryd.ntmps67
            go_wp2_with fail; go_ret; exact ⟨ret_bool (by rw [HB.out]; rfl), AL.out _⟩
          · go_enter Tryd.func67, Tryd.ntmps67
            go_wp2_with fail; go_ret; exact ⟨ret_bool (by rw [HB.out]; first | (simp; done) | (simp; omega) | (simp; intros; omega)), AL.out _⟩
        · go_enter Tryd.func67, Tryd.ntmps67
          go_wp2_with fail; go_ret; exact ⟨ret_bool (by rw [HB.out]; simp [h3]), AL.out _⟩
      · by_cases h3 : k = 3
        · subst h3
          by_cases h4 : 0 ≤ n
          · by_cases h5 : i = 0
            · subst h5
              go_enter Tryd.func67, Tryd.ntmps67
              go_wp2_with fail; go_ret; exact ⟨ret_bool (by rw [HB.out]; first | (simp; done) | (simp; omega) | (simp; intros; omega)), AL.out _⟩
            · go_enter Tryd.func67, Tryd.ntmps67
              go_wp2_with fail; go_ret; exact ⟨ret_bool (by rw [HB.out]; simp [h5]), AL.out _⟩
          · go_enter Tryd.func67, Tryd.ntmps67
            go_wp2_with fail; go_ret; exact ⟨ret_bool (by rw [HB.out]; first | (simp; done) | (simp; omega) | (simp; intros; omega)), AL.out _⟩
        · go_enter Tryd.func67, Tryd.ntmps67
          go_wp2_with fail; go_ret; exact ⟨ret_bool (by rw [HB.out]; simp [h1, h2, h3]), AL.out _⟩
  · obtain ⟨z1, z2⟩ := bytes_ne (s := t) (by omega)
    by_cases h1 : k = 1
    · subst h1
      by_cases h2 : n = 0
      · subst h2
        go_enter Tryd.func67, Tryd.ntmps67
        go_wp2_with fail
        refine Calls.mono (IN.out _) ?_
        rintro e w1 ⟨rfl, hw1⟩
        rw [hw1]
        cases rr with
        | true => go_wp2_with fail; go_ret; exact ⟨ret_bool (by rw [HB.out]; simp [hz]), AL.out _⟩
        | false => go_wp2_with fail; go_ret; exact ⟨ret_bool (by rw [HB.out]; simp), AL.out _⟩
      · go_enter Tryd.func67, Tryd.ntmps67
        go_wp2_with fail; go_ret; exact ⟨ret_bool (by rw [HB.out]; simp [h2]), AL.out _⟩
    · by_cases h2 : k = 2
      · subst h2
        by_cases h3 : n = 0
        · subst h3
          by_cases h4 : i = 0
          · subst h4
            by_cases h5 : t.size ≤ 4096
            · have h5I : (t.size : Int) ≤ 4096 := by omega
              go_enter Tryd.func67, Tryd.ntmps67
              go_wp2_with fail; go_ret; exact ⟨ret_bool (by rw [HB.out]; simp [h5]), AL.out _⟩
            · have h5I : ¬ (t.size : Int) ≤ 4096 := by omega
              go_enter Tryd.func67, Tryd.ntmps67
              go_wp2_with fail; go_ret; exact ⟨ret_bool (by rw [HB.out]; simp [h5]), AL.out _⟩
          · go_enter Tryd.func67, Tryd.ntmps67
            go_wp2_with fail; go_ret; exact ⟨ret_bool (by rw [HB.out]; first | (simp; done) | (simp; omega) | (simp; intros; omega)), AL.out _⟩
        · go_enter Tryd.func67, Tryd.ntmps67
          go_wp2_with fail; go_ret; exact ⟨ret_bool (by rw [HB.out]; simp [h3]), AL.out _⟩
      · by_cases h3 : k = 3
        · subst h3
          by_cases h4 : 0 ≤ n
          · by_cases h5 : i = 0
            · subst h5
              go_enter Tryd.func67, Tryd.ntmps67
              go_wp2_with fail; go_ret; exact ⟨ret_bool (by rw [HB.out]; simp [hz]), AL.out _⟩
            · go_enter Tryd.func67, Tryd.ntmps67
              go_wp2_with fail; go_ret; exact ⟨ret_bool (by rw [HB.out]; simp [h5]), AL.out _⟩
          · go_enter Tryd.func67, Tryd.ntmps67
            go_wp2_with fail; go_ret; exact ⟨ret_bool (by rw [HB.out]; first | (simp; done) | (simp; omega) | (simp; intros; omega)), AL.out _⟩
        · go_enter Tryd.func67, Tryd.ntmps67
          go_wp2_with fail; go_ret; exact ⟨ret_bool (by rw [HB.out]; simp [h1, h2, h3]), AL.out _⟩
end Go.Proofs.YtbgeihgenckihaaDoor
