/- Plain: of each timer just what was to come is told, and all in order. -/
import Derived.Test.YteiadigafkollaaPl3
namespace Go.Proofs.Yteiadigafkollaa
open Go.Sort

theorem told_cons (n : Nat) (t : Tm) (r : List Tm) : told (n + 1) (t :: r) = (t.num, t.tm) :: told n (stepL t r) := by
  have h := told_add (t :: r) 1 n
  rw [Nat.add_comm] at h
  rw [h]
  have e : it 1 (t :: r) = stepL t r := rfl
  rw [e]; rfl
/-- A number's firings go on by its period. -/
def seqOK (num ev : Int) : Int → List (Int × Int) → Prop
  | _, [] => True
  | a, f :: r => if f.1 = num then f.2 = a ∧ seqOK num ev (a + ev) r else seqOK num ev a r
def cnt (num : Int) : List (Int × Int) → Nat
  | [] => 0
  | f :: r => (if f.1 = num then 1 else 0) + cnt num r
theorem seq_none {num ev : Int} : ∀ {l : List (Int × Int)} {a : Int}, (∀ f ∈ l, f.1 ≠ num) → seqOK num ev a l ∧ cnt num l = 0
  | [], _, _ => ⟨trivial, rfl⟩
  | f :: r, a, h => by
    have h1 := h f (List.mem_cons_self ..)
    obtain ⟨i1, i2⟩ := seq_none (num := num) (ev := ev) (l := r) (a := a) (fun g hg => h g (List.mem_cons_of_mem _ hg))
    rw [seqOK, if_neg h1, cnt, if_neg h1]
    exact ⟨i1, by omega⟩
theorem fir_go {u : Int} {t : Tm} (hu : t.tm ≤ u) (h : 0 < t.ev) : fir u t = fir u ⟨t.num, t.tm + t.ev, t.ev⟩ + 1 := by
  unfold fir
  rw [if_neg (by omega), if_neg (by omega)]
  simp only
  by_cases h2 : u < t.tm + t.ev
  · rw [if_pos h2, Int.ediv_eq_zero_of_lt (by omega) (by omega)]
  · rw [if_neg h2, if_neg (by omega), show u - t.tm = (u - (t.tm + t.ev)) + 1 * t.ev by omega, Int.add_mul_ediv_right _ _ (by omega)]
theorem fir_once {u : Int} {t : Tm} (htu : t.tm ≤ u) (hu : u ≤ 1099511627776) (h0 : 0 ≤ t.ev) (h : ¬ (0 < t.ev ∧ t.ev ≤ 1099511627776 - t.tm)) : fir u t = 1 := by
  unfold fir
  rw [if_neg (by omega)]
  split
  · rfl
  · rw [Int.ediv_eq_zero_of_lt (by omega) (by omega)]; rfl
theorem each_ok {now given u : Int} (hu : u ≤ 1099511627776) : ∀ (n : Nat) (l : List Tm), Ok now given l → (n : Int) = dueL u l → ∀ t ∈ l, seqOK t.num t.ev t.tm (told n l) ∧ (cnt t.num (told n l) : Int) = fir u t
  | 0, l, h, hn, t, ht => by
    have hlt := due_zero (u := u) (fun t ht => (h.rng t ht).2.2.2.2.1) (by omega) t ht
    refine ⟨trivial, ?_⟩
    show ((0 : Nat) : Int) = _
    unfold fir; rw [if_pos hlt]; rfl
  | n + 1, [], h, hn, t, ht => by simp at ht
  | n + 1, t0 :: r, h, hn, t, ht => by
    have h0 := due_head (u := u) h (by omega)
    have hst := h.step
    have hd := step_due h hu h0
    have hn' : (n : Int) = dueL u (stepL t0 r) := by omega
    have R := h.rng t0 (List.mem_cons_self ..)
    have ih := each_ok hu n (stepL t0 r) hst hn'
    rw [told_cons]
    rcases List.mem_cons.1 ht with rfl | ht
    · by_cases hc : 0 < t.ev ∧ t.ev ≤ 1099511627776 - t.tm
      · have hm : (⟨t.num, t.tm + t.ev, t.ev⟩ : Tm) ∈ stepL t r := by unfold stepL; rw [if_pos hc]; exact mem_ins.2 (Or.inl rfl)
        obtain ⟨a, b⟩ := ih _ hm
        refine ⟨?_, ?_⟩
        · rw [seqOK, if_pos rfl]; exact ⟨rfl, a⟩
        · rw [cnt, if_pos rfl, fir_go h0 hc.1]; simp only at b; omega
      · have hno : ∀ f ∈ told n (stepL t r), f.1 ≠ t.num := by
          intro f hf e
          obtain ⟨s, hs, es⟩ := told_num hst hu (by omega) hf
          unfold stepL at hs; rw [if_neg hc] at hs
          exact (List.pairwise_cons.1 h.srt.num).1 s hs (by rw [es, e])
        obtain ⟨a, b⟩ := seq_none (ev := t.ev) (a := t.tm + t.ev) hno
        refine ⟨by rw [seqOK, if_pos rfl]; exact ⟨rfl, a⟩, ?_⟩
        rw [cnt, if_pos rfl, b, fir_once h0 hu (by omega) hc]; rfl
    · have hne : t0.num ≠ t.num := (List.pairwise_cons.1 h.srt.num).1 t ht
      have hm : t ∈ stepL t0 r := by
        unfold stepL; split
        · exact mem_ins.2 (Or.inr ht)
        · exact ht
      obtain ⟨a, b⟩ := ih t hm
      rw [seqOK, if_neg hne, cnt, if_neg hne]
      exact ⟨a, by omega⟩
/-- One firing ahead of another. -/
def flt (a b : Int × Int) : Prop := a.2 < b.2 ∨ a.2 = b.2 ∧ a.1 < b.1
theorem step_ord {now given : Int} {t s : Tm} {r q : List Tm} (h : Ok now given (t :: r)) (e : stepL t r = s :: q) : flt (t.num, t.tm) (s.num, s.tm) := by
  have hm : s ∈ stepL t r := by rw [e]; exact List.mem_cons_self ..
  have hr : ∀ s ∈ r, flt (t.num, t.tm) (s.num, s.tm) := fun s hs => by
    have := (List.pairwise_cons.1 h.srt.ord).1 s hs
    rw [tlt_iff] at this
    unfold flt; simp only; omega
  unfold stepL at hm; split at hm
  · rcases mem_ins.1 hm with rfl | hm
    · left; simp only; omega
    · exact hr s hm
  · exact hr s hm
theorem told_ord {now given u : Int} {l : List Tm} (h : Ok now given l) (hu : u ≤ 1099511627776) {n : Nat} (hn : (n : Int) ≤ dueL u l) (i : Nat) (hi : i + 1 < (told n l).length) : flt ((told n l)[i]) ((told n l)[i + 1]) := by
  rw [told_len] at hi
  obtain ⟨t, r, e1, _, ok⟩ := it_cons h hu (k := i) (by omega)
  obtain ⟨s, q, e2, _, _⟩ := it_cons h hu (k := i + 1) (by omega)
  have e3 : stepL t r = s :: q := by rw [← it_succ e1, e2]
  have g : ∀ j (hj : j < (told n l).length), (told n l)[j] = hd (it j l) := fun j hj => by simp [told]
  rw [g, g, e1, e2]
  exact step_ord ok e3
theorem due_take {u : Int} : ∀ (l : List Tm) (k : Nat) (h : k < l.length), dueL u (l.take (k + 1)) = dueL u (l.take k) + fir u l[k]
  | [], k, h => by simp at h
  | t :: l, 0, _ => by simp [dueL]
  | t :: l, k + 1, h => by
    rw [List.take_succ_cons, List.take_succ_cons, due_cons, due_cons, due_take l k (by simpa using h)]
    simp only [List.getElem_cons_succ]; omega
theorem due_take_le {u : Int} {l : List Tm} (h : ∀ t ∈ l, 0 ≤ t.ev) (k : Nat) : 0 ≤ dueL u (l.take k) ∧ dueL u (l.take k) ≤ dueL u l := by
  refine ⟨due_nn u _ (fun t ht => h t (List.mem_of_mem_take ht)), ?_⟩
  have e : dueL u l = dueL u (l.take k) + dueL u (l.drop k) := by
    conv => lhs; rw [← List.take_append_drop k l]
    unfold dueL
    rw [List.map_append, List.sum_append]
  have := due_nn u (l.drop k) (fun t ht => h t (List.mem_of_mem_drop ht))
  omega
end Go.Proofs.Yteiadigafkollaa
