/- Plain: time goes on. -/
import Derived.Test.YteiadigafkollaaCk5
namespace Go.Proofs.Yteiadigafkollaa
open Go.Sort

/-- How often a timer fires up to a time. -/
def fir (u : Int) (t : Tm) : Int := if u < t.tm then 0 else if t.ev = 0 then 1 else (u - t.tm) / t.ev + 1
def dueL (u : Int) (l : List Tm) : Int := (l.map (fir u)).sum
theorem fir_nn (u : Int) (t : Tm) (h : 0 ≤ t.ev) : 0 ≤ fir u t := by
  unfold fir; split
  · omega
  · split
    · omega
    · have := Int.ediv_nonneg (show 0 ≤ u - t.tm by omega) h; omega
theorem fir_pos (u : Int) (t : Tm) (h : 0 ≤ t.ev) (hu : t.tm ≤ u) : 1 ≤ fir u t := by
  unfold fir; rw [if_neg (by omega)]; split
  · omega
  · have := Int.ediv_nonneg (show 0 ≤ u - t.tm by omega) h; omega
theorem fir_le (u : Int) (t : Tm) (_h : 0 ≤ t.ev) (hu : u ≤ 1099511627776) (ht : 0 ≤ t.tm) : fir u t ≤ 1099511627777 := by
  unfold fir; split
  · omega
  · split
    · omega
    · have h1 : (u - t.tm) / t.ev ≤ u - t.tm := Int.ediv_le_self _ (by omega)
      omega
theorem due_nil (u : Int) : dueL u [] = 0 := rfl
theorem due_cons (u : Int) (t : Tm) (l : List Tm) : dueL u (t :: l) = fir u t + dueL u l := by simp [dueL]
theorem due_nn (u : Int) : ∀ l : List Tm, (∀ t ∈ l, 0 ≤ t.ev) → 0 ≤ dueL u l
  | [], _ => by simp [dueL]
  | t :: l, h => by
    rw [due_cons]
    have := due_nn u l (fun x hx => h x (List.mem_cons_of_mem _ hx))
    have := fir_nn u t (h t (List.mem_cons_self ..))
    omega
theorem due_perm {u : Int} {l m : List Tm} (h : l.Perm m) : dueL u l = dueL u m := by
  induction h with
  | nil => rfl
  | cons x _ ih => rw [due_cons, due_cons, ih]
  | swap x y l => rw [due_cons, due_cons, due_cons, due_cons]; omega
  | trans _ _ ih1 ih2 => rw [ih1, ih2]
/-- The first one fires: what is left. -/
def stepL (t : Tm) (r : List Tm) : List Tm := if 0 < t.ev ∧ t.ev ≤ 1099511627776 - t.tm then ins ⟨t.num, t.tm + t.ev, t.ev⟩ r else r
def it : Nat → List Tm → List Tm
  | 0, l => l
  | k + 1, l => match it k l with
    | [] => []
    | t :: r => stepL t r
theorem it_succ {k : Nat} {l : List Tm} {t : Tm} {r : List Tm} (h : it k l = t :: r) : it (k + 1) l = stepL t r := by simp [it, h]
def hd : List Tm → Int × Int
  | [] => (0, 0)
  | t :: _ => (t.num, t.tm)
def told (n : Nat) (l : List Tm) : List (Int × Int) := (List.range n).map fun i => hd (it i l)
theorem told_succ (n : Nat) (l : List Tm) : told (n + 1) l = told n l ++ [hd (it n l)] := by simp [told, List.range_succ]
theorem told_len (n : Nat) (l : List Tm) : (told n l).length = n := by simp [told]
theorem del_head {t : Tm} {r : List Tm} (h : Srt (t :: r)) : del t.num (t :: r) = r := by
  unfold del
  rw [List.filter_cons, if_neg (by simp)]
  exact List.filter_eq_self.2 fun y hy => by have := (List.pairwise_cons.1 h.num).1 y hy; simp; exact fun e => this e.symm
theorem Ok.step {now given : Int} {t : Tm} {r : List Tm} (h : Ok now given (t :: r)) : Ok now given (stepL t r) := by
  have ht := h.rng t (List.mem_cons_self ..)
  have hr : ∀ x ∈ r, _ := fun x hx => h.rng x (List.mem_cons_of_mem _ hx)
  have hl := h.len
  simp only [List.length_cons] at hl
  unfold stepL; split
  · rename_i hc
    refine ⟨h.srt.tail.ins (fun x hx => ((List.pairwise_cons.1 h.srt.num).1 x hx).symm), fun x hx => ?_, by rw [ins_len]; omega, h.now0, h.giv⟩
    rcases mem_ins.1 hx with rfl | hx
    · simp only; omega
    · exact hr x hx
  · exact ⟨h.srt.tail, hr, by omega, h.now0, h.giv⟩
theorem step_due {now given u : Int} {t : Tm} {r : List Tm} (h : Ok now given (t :: r)) (hu : u ≤ 1099511627776) (htu : t.tm ≤ u) : dueL u (stepL t r) = dueL u (t :: r) - 1 := by
  have ht := h.rng t (List.mem_cons_self ..)
  rw [due_cons]
  unfold stepL; split
  · rename_i hc
    rw [due_perm (ins_perm _ _), due_cons]
    have e : fir u t = fir u ⟨t.num, t.tm + t.ev, t.ev⟩ + 1 := by
      unfold fir
      rw [if_neg (by omega), if_neg (by omega)]
      simp only
      by_cases h2 : u < t.tm + t.ev
      · rw [if_pos h2, Int.ediv_eq_zero_of_lt (by omega) (by omega)]
      · rw [if_neg h2, if_neg (by omega), show u - t.tm = (u - (t.tm + t.ev)) + 1 * t.ev by omega, Int.add_mul_ediv_right _ _ (by omega)]
    omega
  · rename_i hc
    have e : fir u t = 1 := by
      unfold fir
      rw [if_neg (by omega)]
      split
      · rfl
      · rw [Int.ediv_eq_zero_of_lt (by omega) (by omega)]; rfl
    omega
theorem due_zero {u : Int} {l : List Tm} (h : ∀ t ∈ l, 0 ≤ t.ev) (h0 : dueL u l = 0) : ∀ t ∈ l, u < t.tm := by
  induction l with
  | nil => intro t ht; simp at ht
  | cons x l ih =>
    rw [due_cons] at h0
    have h1 := due_nn u l (fun y hy => h y (List.mem_cons_of_mem _ hy))
    have h2 := fir_nn u x (h x (List.mem_cons_self ..))
    intro t ht
    rcases List.mem_cons.1 ht with rfl | ht
    · by_cases hlt : u < t.tm
      · exact hlt
      · have := fir_pos u t (h t (List.mem_cons_self ..)) (by omega); omega
    · exact ih (fun y hy => h y (List.mem_cons_of_mem _ hy)) (by omega) t ht
theorem due_head {now given u : Int} {t : Tm} {r : List Tm} (h : Ok now given (t :: r)) (h0 : 0 < dueL u (t :: r)) : t.tm ≤ u := by
  by_cases hlt : t.tm ≤ u
  · exact hlt
  · exfalso
    have : ∀ l : List Tm, (∀ x ∈ l, u < x.tm) → dueL u l = 0 := by
      intro l
      induction l with
      | nil => intro _; rfl
      | cons y l ih =>
        intro hl
        rw [due_cons, ih (fun x hx => hl x (List.mem_cons_of_mem _ hx))]
        unfold fir; rw [if_pos (hl y (List.mem_cons_self ..))]; rfl
    have e := this (t :: r) (fun x hx => by
      rcases List.mem_cons.1 hx with rfl | hx
      · omega
      · have := (List.pairwise_cons.1 h.srt.ord).1 x hx
        rw [tlt_iff] at this; omega)
    omega
/-- As long as something is due the clock goes on. -/
theorem it_ok {now given u : Int} {l : List Tm} (h : Ok now given l) (hu : u ≤ 1099511627776) : ∀ k : Nat, (k : Int) ≤ dueL u l → Ok now given (it k l) ∧ dueL u (it k l) = dueL u l - k
  | 0, _ => ⟨h, by simp [it]⟩
  | k + 1, hk => by
    obtain ⟨h1, h2⟩ := it_ok h hu k (by omega)
    cases e : it k l with
    | nil => rw [e, due_nil] at h2; omega
    | cons t r =>
      rw [e] at h1 h2
      rw [it_succ e]
      exact ⟨h1.step, by rw [step_due h1 hu (due_head h1 (by omega))]; omega⟩
theorem it_cons {now given u : Int} {l : List Tm} (h : Ok now given l) (hu : u ≤ 1099511627776) {k : Nat} (hk : (k : Int) < dueL u l) : ∃ t r, it k l = t :: r ∧ t.tm ≤ u ∧ Ok now given (t :: r) := by
  obtain ⟨h1, h2⟩ := it_ok h hu k (by omega)
  cases e : it k l with
  | nil => rw [e, due_nil] at h2; omega
  | cons t r => rw [e] at h1 h2; exact ⟨t, r, rfl, due_head h1 (by omega), h1⟩
/-- When all has fired, the time may be then. -/
theorem Ok.at {now given u : Int} {l : List Tm} (h : Ok now given l) (hu0 : 0 ≤ u) (hu : u ≤ 1099511627776) {n : Nat} (hn : (n : Int) = dueL u l) : Ok u given (it n l) := by
  obtain ⟨h1, h2⟩ := it_ok h hu n (by omega)
  have h3 := due_zero (u := u) (fun t ht => (h1.rng t ht).2.2.2.2.1) (by omega)
  exact ⟨h1.srt, fun t ht => by have := h1.rng t ht; have := h3 t ht; omega, h1.len, ⟨hu0, hu⟩, h1.giv⟩
end Go.Proofs.Yteiadigafkollaa
