/- Plain: time may go on in pieces. -/
import Derived.Test.YteiadigafkollaaPl2
namespace Go.Proofs.Yteiadigafkollaa
open Go.Sort

theorem it_add (l : List Tm) (a : Nat) : ∀ b : Nat, it (a + b) l = it b (it a l)
  | 0 => rfl
  | b + 1 => by
    have ih := it_add l a b
    show it (a + b + 1) l = it (b + 1) (it a l)
    rw [it, it, ih]
theorem told_add (l : List Tm) (a : Nat) : ∀ b : Nat, told (a + b) l = told a l ++ told b (it a l)
  | 0 => by simp [told]
  | b + 1 => by
    have ih := told_add l a b
    rw [← Nat.add_assoc, told_succ, told_succ, ih, it_add, List.append_assoc]
theorem fir_mono {u v : Int} (h : u ≤ v) {t : Tm} (ht : 0 ≤ t.ev) : fir u t ≤ fir v t := by
  by_cases h1 : u < t.tm
  · have h2 := fir_nn v t ht
    have h3 : fir u t = 0 := by unfold fir; rw [if_pos h1]
    omega
  · have e1 : fir u t = if t.ev = 0 then 1 else (u - t.tm) / t.ev + 1 := by unfold fir; rw [if_neg h1]
    have e2 : fir v t = if t.ev = 0 then 1 else (v - t.tm) / t.ev + 1 := by unfold fir; rw [if_neg (show ¬ v < t.tm by omega)]
    rw [e1, e2]
    split
    · omega
    · have := Int.ediv_le_ediv (show 0 < t.ev by omega) (show u - t.tm ≤ v - t.tm by omega)
      omega
theorem due_mono {u v : Int} (h : u ≤ v) : ∀ {l : List Tm}, (∀ t ∈ l, 0 ≤ t.ev) → dueL u l ≤ dueL v l
  | [], _ => Int.le_refl _
  | t :: l, hl => by
    rw [due_cons, due_cons]
    have h1 := fir_mono h (hl t (List.mem_cons_self ..))
    have h2 := due_mono h (l := l) (fun x hx => hl x (List.mem_cons_of_mem _ hx))
    omega
/-- In two steps what is in one. -/
theorem split_ok {now given u v : Int} {l : List Tm} (h : Ok now given l) (huv : u ≤ v) (hv : v ≤ 1099511627776) {n m : Nat} (hn : (n : Int) = dueL u l) (hm : (m : Int) = dueL v (it n l)) :
    ((n + m : Nat) : Int) = dueL v l ∧ told (n + m) l = told n l ++ told m (it n l) ∧ it (n + m) l = it m (it n l) := by
  have hle := due_mono huv (l := l) (fun t ht => (h.rng t ht).2.2.2.2.1)
  obtain ⟨_, h2⟩ := it_ok h hv n (by omega)
  exact ⟨by omega, told_add l n m, it_add l n m⟩
end Go.Proofs.Yteiadigafkollaa
