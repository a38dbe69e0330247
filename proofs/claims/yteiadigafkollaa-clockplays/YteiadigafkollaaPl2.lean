/- Plain: what fires was pending. -/
import Derived.Test.YteiadigafkollaaPl1
namespace Go.Proofs.Yteiadigafkollaa
open Go.Sort

theorem step_num {t : Tm} {r : List Tm} {x : Tm} (h : x ∈ stepL t r) : ∃ s ∈ t :: r, s.num = x.num := by
  unfold stepL at h; split at h
  · rcases mem_ins.1 h with rfl | h
    · exact ⟨t, List.mem_cons_self .., rfl⟩
    · exact ⟨x, List.mem_cons_of_mem _ h, rfl⟩
  · exact ⟨x, List.mem_cons_of_mem _ h, rfl⟩
theorem it_num (l : List Tm) : ∀ (k : Nat) (x : Tm), x ∈ it k l → ∃ s ∈ l, s.num = x.num
  | 0, x, h => ⟨x, h, rfl⟩
  | k + 1, x, h => by
    cases e : it k l with
    | nil => rw [it, e] at h; simp at h
    | cons t r =>
      rw [it_succ e] at h
      obtain ⟨s, hs, es⟩ := step_num h
      rw [← e] at hs
      obtain ⟨s', hs', es'⟩ := it_num l k s hs
      exact ⟨s', hs', es'.trans es⟩
/-- Only what was pending is told. -/
theorem told_num {now given u : Int} {l : List Tm} (h : Ok now given l) (hu : u ≤ 1099511627776) {n : Nat} (hn : (n : Int) ≤ dueL u l) {f : Int × Int} (hf : f ∈ told n l) : ∃ s ∈ l, s.num = f.1 := by
  unfold told at hf
  obtain ⟨i, hi, rfl⟩ := List.mem_map.1 hf
  have hin : i < n := List.mem_range.1 hi
  obtain ⟨t, r, e, _, _⟩ := it_cons h hu (k := i) (by omega)
  rw [e]
  exact it_num l i t (by rw [e]; exact List.mem_cons_self ..)
/-- Just ahead of the first one nothing is due. -/
theorem due_before {now given : Int} {t : Tm} {r : List Tm} (h : Ok now given (t :: r)) {u : Int} (hu : u < t.tm) : dueL u (t :: r) = 0 := by
  have h1 := due_nn u (t :: r) (fun x hx => (h.rng x hx).2.2.2.2.1)
  by_cases h0 : 0 < dueL u (t :: r)
  · have := due_head h h0; omega
  · omega
end Go.Proofs.Yteiadigafkollaa
