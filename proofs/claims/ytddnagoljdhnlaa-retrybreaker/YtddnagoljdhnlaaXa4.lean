/- Retry: Wait, Due, May. -/
import Derived.Test.YtddnagoljdhnlaaXa3
namespace Go.Proofs.Ytddnagoljdhnlaa
open Go.RowKit

theorem watE_no {p : Pol} (h : polB p = false) (k : Int) : watE p k = 50 ∧ watN p k = 0 := by
  have e : watE p k = 50 := by unfold watE; rw [if_pos h]
  exact ⟨e, by unfold watN; rw [e]; simp⟩
theorem watE_low {p : Pol} (h : polB p = true) {k : Int} (hk : k < 1) : watE p k = 1 ∧ watN p k = 0 := by
  have e : watE p k = 1 := by unfold watE; rw [if_neg (by simp [h]), if_pos hk]
  exact ⟨e, by unfold watN; rw [e]; simp⟩
theorem watE_none {p : Pol} (h : polB p = true) {k : Int} (hk : ¬ k < 1) (hn : (nwt p : Int) < k) : watE p k = 4 ∧ watN p k = 0 := by
  have e : watE p k = 4 := by unfold watE; rw [if_neg (by simp [h]), if_neg hk, if_pos hn]
  exact ⟨e, by unfold watN; rw [e]; simp⟩
theorem watE_ok {p : Pol} (h : polB p = true) {k : Int} (hk : ¬ k < 1) (hn : ¬ (nwt p : Int) < k) : watE p k = 0 ∧ watN p k = wtP p (k - 1).toNat := by
  have e : watE p k = 0 := by unfold watE; rw [if_neg (by simp [h]), if_neg hk, if_neg hn]
  exact ⟨e, by unfold watN; rw [e]; simp⟩
/-- What waits leaves: a row that holds the waits. -/
structure WR (p : Pol) (w : World) (pp : Option Addr) (cp : Nat) (w' : World) : Prop where
  own : OwnG KI w' w.heap.size (.slice pp (nwt p) cp) (wts p)
  bel : Below w.heap.size w w'
theorem WR.at {p : Pol} {w w' : World} {pp : Option Addr} {cp : Nat} (h : WR p w pp cp w') {j : Nat} (hj : j < nwt p) : ∃ X o, pp = some ⟨X, o, none⟩ ∧ w'.cell? ⟨X, o + j, none⟩ = some (.int .i64 (wtP p j)) := by
  obtain ⟨X, o, e, hc⟩ := (h.own.gs KI_ok.len).atI (k := j) (by rw [wts_len]; exact hj)
  exact ⟨X, o, e, by rw [hc, wts_at]⟩
theorem waits_row (p : Pol) (w : World) (hp : polB p = true) : Calls Try.prog 24 #[polV p] w fun e w' => ∃ pp cp, e = .returned (.slice pp (nwt p) cp) ∧ WR p w pp cp w' := by
  refine (waits_any p w hp).mono ?_
  rintro e w' ⟨v, rfl, ho, hb⟩
  obtain ⟨pp, cp, rfl, _⟩ := ho.form
  rw [wts_len] at ho
  exact ⟨pp, cp, by rw [wts_len], ho, hb⟩
set_option maxHeartbeats 4000000 in
theorem wait_any (p : Pol) (k : Int) (w : World) : Calls Try.prog 13 #[polV p, .int .i64 k] w fun e w' => e = .returned (.tuple #[.int .i64 (watN p k), .int .i64 (watE p k)]) ∧ Below w.heap.size w w' := by
  have CK := fun w' => check_any p w'
  have BXC := hid (box4 w p 46)
  cases hp : polB p with
  | false =>
    have E := hid (watE_no hp k)
    generalize watE p k = er at *
    generalize watN p k = nr at *
    rw [chk_no hp] at CK
    obtain ⟨pt, pb, pf, pc⟩ := p
    simp only [polV] at *
    clear hp
    go_enter Try.func13, Try.ntmps13
    go_wp2_with (go_at_call 23; refine (CK _).mono ?_; rintro e w1 ⟨rfl, hb⟩; have B1 := hid hb; clear hb)
    go_ret2
    exact ⟨ret_two E.out.2.symm E.out.1.symm, bl2 B1.out⟩
  | true =>
    rw [chk_ok hp] at CK
    by_cases hk : k < 1
    · have E := hid (watE_low hp hk)
      generalize watE p k = er at *
      generalize watN p k = nr at *
      obtain ⟨pt, pb, pf, pc⟩ := p
      simp only [polV] at *
      clear hp
      go_enter Try.func13, Try.ntmps13
      go_wp2_with (go_at_call 23; refine (CK _).mono ?_; rintro e w1 ⟨rfl, hb⟩; have B1 := hid hb; clear hb)
      go_ret2
      exact ⟨ret_two E.out.2.symm E.out.1.symm, bl2 B1.out⟩
    · have WT := hid (fun w' => waits_row p w' hp)
      have PB : nwt p ≤ 63 := by have := pol_bd hp; unfold nwt; omega
      by_cases hn : (nwt p : Int) < k
      · have E := hid (watE_none hp hk hn)
        generalize watE p k = er at *
        generalize watN p k = nr at *
        have WT2 : Hid (∀ w', Calls Try.prog 24 #[polV p] w' fun e w'' => ∃ pp cp, e = .returned (.slice pp (nwt p) cp) ∧ Below w'.heap.size w' w'') := fun w' => (WT.out w').mono (fun e w'' ⟨pp, cp, h1, h2⟩ => ⟨pp, cp, h1, h2.bel⟩)
        generalize nwt p = m at *
        clear WT hp
        obtain ⟨pt, pb, pf, pc⟩ := p
        simp only [polV] at *
        go_enter Try.func13, Try.ntmps13
        go_wp2_with (first | (go_at_call 23; refine (CK _).mono ?_; rintro e w1 ⟨rfl, hb⟩; have B1 := hid hb; have C0 := (hb.cell (p := ⟨w.heap.size, 0, none⟩) (by simp)).trans BXC.out.1; have C1 := (hb.cell (p := ⟨w.heap.size, 1, none⟩) (by simp)).trans BXC.out.2.1; have C2 := (hb.cell (p := ⟨w.heap.size, 2, none⟩) (by simp)).trans BXC.out.2.2.1; have C3 := (hb.cell (p := ⟨w.heap.size, 3, none⟩) (by simp)).trans BXC.out.2.2.2; clear hb) | (go_at_call 24; refine (WT2.out _).mono ?_; rintro e w2 ⟨pp, cp, rfl, hb⟩; have B2 := hid hb; clear hb))
        go_ret2
        exact ⟨ret_two E.out.2.symm E.out.1.symm, bl3 (bl2 B1.out) B2.out⟩
      · have E := hid (watE_ok hp hk hn)
        obtain ⟨j, hj⟩ : ∃ j : Nat, j = (k - 1).toNat := ⟨_, rfl⟩
        rw [← hj] at E
        have hkj : k = (j : Int) + 1 := by omega
        have HJ : j < nwt p := by omega
        have WT2 : Hid (∀ w', Calls Try.prog 24 #[polV p] w' fun e w'' => ∃ X o cp, e = .returned (.slice (some ⟨X, o, none⟩) (nwt p) cp) ∧ w''.cell? ⟨X, o + j, none⟩ = some (.int .i64 (wtP p j)) ∧ Below w'.heap.size w' w'') := fun w' => (WT.out w').mono (fun e w'' ⟨pp, cp, h1, h2⟩ => by
          obtain ⟨X, o, rfl, hc⟩ := h2.at HJ
          exact ⟨X, o, cp, h1, hc, h2.bel⟩)
        clear WT
        generalize watE p k = er at *
        generalize watN p k = nr at *
        generalize wtP p j = x at *
        generalize nwt p = m at *
        clear hp hn hj
        subst hkj
        obtain ⟨pt, pb, pf, pc⟩ := p
        simp only [polV] at *
        have hk2 : ¬ (m : Int) < (j : Int) + 1 := by omega
        have hlt : (j : Int) < (m : Int) := by omega
        go_enter Try.func13, Try.ntmps13
        go_wp2_with (first | (go_at_call 23; refine (CK _).mono ?_; rintro e w1 ⟨rfl, hb⟩; have B1 := hid hb; have C0 := (hb.cell (p := ⟨w.heap.size, 0, none⟩) (by simp)).trans BXC.out.1; have C1 := (hb.cell (p := ⟨w.heap.size, 1, none⟩) (by simp)).trans BXC.out.2.1; have C2 := (hb.cell (p := ⟨w.heap.size, 2, none⟩) (by simp)).trans BXC.out.2.2.1; have C3 := (hb.cell (p := ⟨w.heap.size, 3, none⟩) (by simp)).trans BXC.out.2.2.2; clear hb) | (go_at_call 24; refine (WT2.out _).mono ?_; rintro e w2 ⟨X, o, cp, rfl, hc, hb⟩; have B2 := hid hb; clear hb))
        go_ret2
        exact ⟨ret_two E.out.2.symm E.out.1.symm, bl3 (bl2 B1.out) B2.out⟩
theorem dueE_pass {p : Pol} {k : Int} (h : watE p k ≠ 0) (a : Int) : dueE p k a = watE p k ∧ dueN p k a = 0 := by
  have e : dueE p k a = watE p k := by unfold dueE; rw [if_pos h]
  exact ⟨e, by unfold dueN; rw [e, if_neg h]⟩
theorem dueE_rng {p : Pol} {k : Int} (h : watE p k = 0) {a : Int} (ha : timB a = false) : dueE p k a = 1 ∧ dueN p k a = 0 := by
  have e : dueE p k a = 1 := by unfold dueE; rw [if_neg (by simp [h]), if_pos ha]
  exact ⟨e, by unfold dueN; rw [e]; simp⟩
theorem dueE_long {p : Pol} {k : Int} (h : watE p k = 0) {a : Int} (ha : timB a = true) (hl : 1099511627776 < a + watN p k) : dueE p k a = 3 ∧ dueN p k a = 0 := by
  have e : dueE p k a = 3 := by unfold dueE; rw [if_neg (by simp [h]), if_neg (by simp [ha]), if_pos hl]
  exact ⟨e, by unfold dueN; rw [e]; simp⟩
theorem dueE_ok {p : Pol} {k : Int} (h : watE p k = 0) {a : Int} (ha : timB a = true) (hl : ¬ 1099511627776 < a + watN p k) : dueE p k a = 0 ∧ dueN p k a = a + watN p k := by
  have e : dueE p k a = 0 := by unfold dueE; rw [if_neg (by simp [h]), if_neg (by simp [ha]), if_neg hl]
  exact ⟨e, by unfold dueN; rw [e]; simp⟩
theorem mayE_pass {p : Pol} {k a : Int} (h : dueE p k a ≠ 0) (n : Int) : mayE p k a n = dueE p k a ∧ mayB p k a n = false := by
  have e : mayE p k a n = dueE p k a := by unfold mayE; rw [if_pos h]
  exact ⟨e, by unfold mayB; rw [e]; simp [h]⟩
theorem mayE_rng {p : Pol} {k a : Int} (h : dueE p k a = 0) {n : Int} (hn : timB n = false) : mayE p k a n = 1 ∧ mayB p k a n = false := by
  have e : mayE p k a n = 1 := by unfold mayE; rw [if_neg (by simp [h]), if_pos hn]
  exact ⟨e, by unfold mayB; rw [e]; simp⟩
theorem mayE_ok {p : Pol} {k a : Int} (h : dueE p k a = 0) {n : Int} (hn : timB n = true) : mayE p k a n = 0 ∧ mayB p k a n = decide (dueN p k a ≤ n) := by
  have e : mayE p k a n = 0 := by unfold mayE; rw [if_neg (by simp [h]), if_neg (by simp [hn])]
  exact ⟨e, by unfold mayB; rw [e]; simp⟩
theorem timB_t {n : Int} (h : timB n = true) : 0 ≤ n ∧ n ≤ 1099511627776 := by unfold timB at h; simpa using h
theorem timB_f {n : Int} (h : timB n = false) : n < 0 ∨ 1099511627776 < n := by unfold timB at h; simp at h; omega
end Go.Proofs.Ytddnagoljdhnlaa
