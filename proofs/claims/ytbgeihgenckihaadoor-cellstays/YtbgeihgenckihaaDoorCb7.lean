/- Cells: is an outcome right? -/
import Derived.Test.YtbgeihgenckihaaDoorCb6
namespace Go.Proofs.YtbgeihgenckihaaDoor
open Go.RowKit

/-- An outcome that is handed in. -/
structure OkO (w : World) (o : Oc) (vv fv : Value) : Prop where
  sv : AS w vv o.val
  sf : CS w fv o.fl
  at_ : AT o.val
  ct : ∀ c ∈ o.fl, c.text.size ≤ maxLen
  l1 : o.val.length * 40 ≤ 140737488355328
  l2 : o.fl.length * 32 ≤ 140737488355328
theorem OkO.below {w w' : World} {o : Oc} {vv fv : Value} (h : OkO w o vv fv) (k : Below w.heap.size w w') : OkO w' o vv fv := ⟨h.sv.below k, h.sf.below k, h.at_, h.ct, h.l1, h.l2⟩
theorem lpB_at {l : List Cr} {m : Nat} (h : l.length = m + 1) : lpB l = decide ((l[m]'(by omega)).kind = 2) := by
  have e : l.getLast? = some (l[m]'(by omega)) := by
    rw [List.getLast?_eq_getElem?]
    have : l.length - 1 = m := by omega
    rw [this]
    exact List.getElem?_eq_getElem (by omega)
  unfold lpB
  rw [e]
theorem chk_pos {l : List Cr} (h : chk l = 0) : ∃ m, l.length = m + 1 := by
  cases l with
  | nil => unfold chk at h; simp [walkC] at h
  | cons c r => exact ⟨r.length, rfl⟩
end Go.Proofs.YtbgeihgenckihaaDoor
namespace Go.Proofs.YtbgeihgenckihaaDoor
open Go.RowKit

set_option maxHeartbeats 8000000 in
set_option maxRecDepth 100000 in
theorem isO1 (w : World) (va : List Atm) (fl : List Cr) (vv fv : Value) (h : OkO w ⟨1, va, fl⟩ vv fv) (hv : FV w) :
    Calls Tryd.prog 36 #[.agg #[.int .i64 1, vv, fv]] w fun e w' => e = .returned (.bool (outB ⟨1, va, fl⟩)) ∧ Below w.heap.size w w' := by
  have HB0 : Hid (outB ⟨1, va, fl⟩ = (decide (chkV va = 0) && decide (fl.length = 0))) := by show _ = _; unfold outB; simp
  generalize outB ⟨1, va, fl⟩ = r at *
  obtain ⟨pv, cv, rfl⟩ := GS.form h.sv
  obtain ⟨pf, cf, rfl⟩ := CS.form h.sf
  have hl1 := h.l1
  have hl2 := h.l2
  simp only at *
  have AL : Hid (∀ ob, Below w.heap.size w (w.alloc ob)) := fun ob => (Below.refl _ _).alloc (Nat.le_refl _) ob
  have VC : Hid (∀ ob, Calls Tryd.prog 58 #[.slice pv va.length cv] (w.alloc ob) fun e w' => e = .returned (.int .i64 (chkV va)) ∧ Below (w.alloc ob).heap.size (w.alloc ob) w') := fun ob => vcheck_any _ va _ (h.sv.below (AL.out ob)) h.at_ (by omega)
  have FC : Hid (∀ ob, Calls Tryd.prog 59 #[.slice pf fl.length cf] (w.alloc ob) fun e w' => e = .returned (.int .i64 (chk fl)) ∧ Below (w.alloc ob).heap.size (w.alloc ob) w') := fun ob => check_any _ fl _ (h.sf.below (AL.out ob)) h.ct (hv.below (AL.out ob)) (by omega)
  have BX : Hid (∀ ob w5, Below (w.alloc ob).heap.size (w.alloc ob) w5 → (∀ o u, (w.alloc ob).cell? ⟨w.heap.size, o, none⟩ = some u → w5.cell? ⟨w.heap.size, o, none⟩ = some u) ∧ Below w.heap.size w w5) := fun ob w5 hb => ⟨fun o u hu => (hb.cell (p := ⟨w.heap.size, o, none⟩) (by simp)).trans hu, (AL.out ob).trans (hb.mono (AL.out ob).size)⟩
  have LA : Hid (∀ m, fl.length = m + 1 → ∀ w', Below w.heap.size w w' → ∃ X o, pf = some ⟨X, o, none⟩ ∧ ∃ x, w'.cell? ⟨X, o + m * 3, none⟩ = some (.int .i64 x) ∧ lpB fl = decide (x = 2)) := fun m hm w' hb => by
    obtain ⟨X, o, e, c1, _⟩ := (h.sf.below hb).at (k := m) (by rw [hm]; omega)
    exact ⟨X, o, e, _, c1, lpB_at hm⟩
  clear hv
  have e1 : chkV va = 0 ∨ (chkV va == 0) = false := by by_cases q : chkV va = 0; exact Or.inl q; exact Or.inr (by simpa using q)
  rcases e1 with e1 | e1
  · rw [e1] at VC HB0
    by_cases e2 : fl.length = 0
    · obtain rfl : fl = [] := List.length_eq_zero_iff.1 e2
      go_enter Tryd.func36, Tryd.ntmps36
      go_wp2_with (go_at_call 58; refine (VC.out _).mono ?_; rintro e w1 ⟨rfl, hb⟩; obtain ⟨k1, k2⟩ := BX.out _ _ hb; have y2 := k1 2 _ (cell_of_row _ _ _ _ _ _ (heap_alloc_new w _)); have B2 := hid k2; clear hb k1 k2)
      go_ret
      exact ⟨ret_bool (by rw [HB0.out]; rfl), B2.out⟩
    · have e3 : ((fl.length : Int) == 0) = false := by simp; simpa using e2
      have E2 := hid e2
      generalize fl.length = n at *
      clear e2
      go_enter Tryd.func36, Tryd.ntmps36
      go_wp2_with (go_at_call 58; refine (VC.out _).mono ?_; rintro e w1 ⟨rfl, hb⟩; obtain ⟨k1, k2⟩ := BX.out _ _ hb; have y2 := k1 2 _ (cell_of_row _ _ _ _ _ _ (heap_alloc_new w _)); have B2 := hid k2; clear hb k1 k2)
      go_ret
      exact ⟨ret_bool (by rw [HB0.out]; simp [E2.out]), B2.out⟩
  · have HF : Hid (r = false) := by show r = false; rw [HB0.out]; have q : ¬ chkV va = 0 := (by simpa using e1); simp [q]
    clear HB0
    generalize chkV va = x at *
    go_enter Tryd.func36, Tryd.ntmps36
    go_wp2_with (go_at_call 58; refine (VC.out _).mono ?_; rintro e w1 ⟨rfl, hb⟩; obtain ⟨k1, k2⟩ := BX.out _ _ hb; have y2 := k1 2 _ (cell_of_row _ _ _ _ _ _ (heap_alloc_new w _)); have B2 := hid k2; clear hb k1 k2)
    go_ret
    exact ⟨ret_bool HF.out.symm, B2.out⟩
end Go.Proofs.YtbgeihgenckihaaDoor
namespace Go.Proofs.YtbgeihgenckihaaDoor
open Go.RowKit

set_option maxHeartbeats 8000000 in
set_option maxRecDepth 100000 in
theorem isO2 (w : World) (va : List Atm) (fl : List Cr) (vv fv : Value) (h : OkO w ⟨2, va, fl⟩ vv fv) (hv : FV w) :
    Calls Tryd.prog 36 #[.agg #[.int .i64 2, vv, fv]] w fun e w' => e = .returned (.bool (outB ⟨2, va, fl⟩)) ∧ Below w.heap.size w w' := by
  have HB0 : Hid (outB ⟨2, va, fl⟩ = (decide (chk fl = 0) && decide (va.length = 0))) := by show _ = _; unfold outB; simp
  generalize outB ⟨2, va, fl⟩ = r at *
  obtain ⟨pv, cv, rfl⟩ := GS.form h.sv
  obtain ⟨pf, cf, rfl⟩ := CS.form h.sf
  have hl1 := h.l1
  have hl2 := h.l2
  simp only at *
  have AL : Hid (∀ ob, Below w.heap.size w (w.alloc ob)) := fun ob => (Below.refl _ _).alloc (Nat.le_refl _) ob
  have VC : Hid (∀ ob, Calls Tryd.prog 58 #[.slice pv va.length cv] (w.alloc ob) fun e w' => e = .returned (.int .i64 (chkV va)) ∧ Below (w.alloc ob).heap.size (w.alloc ob) w') := fun ob => vcheck_any _ va _ (h.sv.below (AL.out ob)) h.at_ (by omega)
  have FC : Hid (∀ ob, Calls Tryd.prog 59 #[.slice pf fl.length cf] (w.alloc ob) fun e w' => e = .returned (.int .i64 (chk fl)) ∧ Below (w.alloc ob).heap.size (w.alloc ob) w') := fun ob => check_any _ fl _ (h.sf.below (AL.out ob)) h.ct (hv.below (AL.out ob)) (by omega)
  have BX : Hid (∀ ob w5, Below (w.alloc ob).heap.size (w.alloc ob) w5 → (∀ o u, (w.alloc ob).cell? ⟨w.heap.size, o, none⟩ = some u → w5.cell? ⟨w.heap.size, o, none⟩ = some u) ∧ Below w.heap.size w w5) := fun ob w5 hb => ⟨fun o u hu => (hb.cell (p := ⟨w.heap.size, o, none⟩) (by simp)).trans hu, (AL.out ob).trans (hb.mono (AL.out ob).size)⟩
  have LA : Hid (∀ m, fl.length = m + 1 → ∀ w', Below w.heap.size w w' → ∃ X o, pf = some ⟨X, o, none⟩ ∧ ∃ x, w'.cell? ⟨X, o + m * 3, none⟩ = some (.int .i64 x) ∧ lpB fl = decide (x = 2)) := fun m hm w' hb => by
    obtain ⟨X, o, e, c1, _⟩ := (h.sf.below hb).at (k := m) (by rw [hm]; omega)
    exact ⟨X, o, e, _, c1, lpB_at hm⟩
  clear hv
  have e1 : chk fl = 0 ∨ (chk fl == 0) = false := by by_cases q : chk fl = 0; exact Or.inl q; exact Or.inr (by simpa using q)
  rcases e1 with e1 | e1
  · rw [e1] at FC HB0
    by_cases e2 : va.length = 0
    · obtain rfl : va = [] := List.length_eq_zero_iff.1 e2
      go_enter Tryd.func36, Tryd.ntmps36
      go_wp2_with (go_at_call 59; refine (FC.out _).mono ?_; rintro e w1 ⟨rfl, hb⟩; obtain ⟨k1, k2⟩ := BX.out _ _ hb; have y1 := k1 1 _ (cell_of_row _ _ _ _ _ _ (heap_alloc_new w _)); have B2 := hid k2; clear hb k1 k2)
      go_ret
      exact ⟨ret_bool (by rw [HB0.out]; rfl), B2.out⟩
    · have e3 : ((va.length : Int) == 0) = false := by simp; simpa using e2
      have E2 := hid e2
      generalize va.length = n at *
      clear e2
      go_enter Tryd.func36, Tryd.ntmps36
      go_wp2_with (go_at_call 59; refine (FC.out _).mono ?_; rintro e w1 ⟨rfl, hb⟩; obtain ⟨k1, k2⟩ := BX.out _ _ hb; have y1 := k1 1 _ (cell_of_row _ _ _ _ _ _ (heap_alloc_new w _)); have B2 := hid k2; clear hb k1 k2)
      go_ret
      exact ⟨ret_bool (by rw [HB0.out]; simp [E2.out]), B2.out⟩
  · have HF : Hid (r = false) := by show r = false; rw [HB0.out]; have q : ¬ chk fl = 0 := (by simpa using e1); simp [q]
    clear HB0
    generalize chk fl = x at *
    go_enter Tryd.func36, Tryd.ntmps36
    go_wp2_with (go_at_call 59; refine (FC.out _).mono ?_; rintro e w1 ⟨rfl, hb⟩; obtain ⟨k1, k2⟩ := BX.out _ _ hb; have y1 := k1 1 _ (cell_of_row _ _ _ _ _ _ (heap_alloc_new w _)); have B2 := hid k2; clear hb k1 k2)
    go_ret
    exact ⟨ret_bool HF.out.symm, B2.out⟩
end Go.Proofs.YtbgeihgenckihaaDoor
namespace Go.Proofs.YtbgeihgenckihaaDoor
open Go.RowKit

set_option maxHeartbeats 8000000 in
set_option maxRecDepth 100000 in
theorem isO3 (w : World) (va : List Atm) (fl : List Cr) (vv fv : Value) (h : OkO w ⟨3, va, fl⟩ vv fv) (hv : FV w) :
    Calls Tryd.prog 36 #[.agg #[.int .i64 3, vv, fv]] w fun e w' => e = .returned (.bool (outB ⟨3, va, fl⟩)) ∧ Below w.heap.size w w' := by
  have HB0 : Hid (outB ⟨3, va, fl⟩ = (decide (chk fl = 0) && decide (va.length = 0) && lpB fl)) := by show _ = _; unfold outB; simp
  generalize outB ⟨3, va, fl⟩ = r at *
  obtain ⟨pv, cv, rfl⟩ := GS.form h.sv
  obtain ⟨pf, cf, rfl⟩ := CS.form h.sf
  have hl1 := h.l1
  have hl2 := h.l2
  simp only at *
  have AL : Hid (∀ ob, Below w.heap.size w (w.alloc ob)) := fun ob => (Below.refl _ _).alloc (Nat.le_refl _) ob
  have VC : Hid (∀ ob, Calls Tryd.prog 58 #[.slice pv va.length cv] (w.alloc ob) fun e w' => e = .returned (.int .i64 (chkV va)) ∧ Below (w.alloc ob).heap.size (w.alloc ob) w') := fun ob => vcheck_any _ va _ (h.sv.below (AL.out ob)) h.at_ (by omega)
  have FC : Hid (∀ ob, Calls Tryd.prog 59 #[.slice pf fl.length cf] (w.alloc ob) fun e w' => e = .returned (.int .i64 (chk fl)) ∧ Below (w.alloc ob).heap.size (w.alloc ob) w') := fun ob => check_any _ fl _ (h.sf.below (AL.out ob)) h.ct (hv.below (AL.out ob)) (by omega)
  have BX : Hid (∀ ob w5, Below (w.alloc ob).heap.size (w.alloc ob) w5 → (∀ o u, (w.alloc ob).cell? ⟨w.heap.size, o, none⟩ = some u → w5.cell? ⟨w.heap.size, o, none⟩ = some u) ∧ Below w.heap.size w w5) := fun ob w5 hb => ⟨fun o u hu => (hb.cell (p := ⟨w.heap.size, o, none⟩) (by simp)).trans hu, (AL.out ob).trans (hb.mono (AL.out ob).size)⟩
  have LA : Hid (∀ m, fl.length = m + 1 → ∀ w', Below w.heap.size w w' → ∃ X o, pf = some ⟨X, o, none⟩ ∧ ∃ x, w'.cell? ⟨X, o + m * 3, none⟩ = some (.int .i64 x) ∧ lpB fl = decide (x = 2)) := fun m hm w' hb => by
    obtain ⟨X, o, e, c1, _⟩ := (h.sf.below hb).at (k := m) (by rw [hm]; omega)
    exact ⟨X, o, e, _, c1, lpB_at hm⟩
  clear hv
  have e1 : chk fl = 0 ∨ (chk fl == 0) = false := by by_cases q : chk fl = 0; exact Or.inl q; exact Or.inr (by simpa using q)
  rcases e1 with e1 | e1
  · obtain ⟨m, hm⟩ := chk_pos e1
    rw [e1] at FC HB0
    have LM := hid (LA.out m hm)
    by_cases e2 : va.length = 0
    · obtain rfl : va = [] := List.length_eq_zero_iff.1 e2
      generalize lpB fl = lp at *
      rw [hm] at FC hl2
      rw [hm]
      clear hm LA
      have RR : Hid (r = lp) := by show r = lp; rw [HB0.out]; simp
      clear HB0 h
      go_enter Tryd.func36, Tryd.ntmps36
      go_wp2_with fail
      refine Calls.mono (FC.out _) ?_
      rintro e w1 ⟨rfl, hb⟩
      obtain ⟨k1, k2⟩ := BX.out _ _ hb
      obtain ⟨X, o, rfl, x, hx, hlp⟩ := LM.out _ k2
      have y1 : w1.cell? ⟨w.heap.size, 1, none⟩ = some (.slice pv 0 cv) := k1 1 _ (cell_of_row _ _ _ _ _ _ (heap_alloc_new w _))
      have y2 : w1.cell? ⟨w.heap.size, 2, none⟩ = some (.slice (some ⟨X, o, none⟩) (m + 1) cf) := k1 2 _ (cell_of_row _ _ _ _ _ _ (heap_alloc_new w _))
      have B2 := hid k2
      have LP := hid hlp
      clear hb k1 k2 hlp LM FC VC AL BX e1 e2 hl1
      have hm0 : ((m + 1 : Nat) : Int) - 1 = (m : Int) := by omega
      have hm1 : (0 : Int) ≤ (m : Int) := by omega
      have hm2 : (m : Int) < ((m + 1 : Nat) : Int) := by omega
      simp only
      go_wp2_with fail
      all_goals
        go_ret
        exact ⟨ret_bool (by rw [RR.out, LP.out]; rfl), B2.out⟩
    · have e3 : ((va.length : Int) == 0) = false := by simp; simpa using e2
      have HF : Hid (r = false) := by show r = false; rw [HB0.out]; simp [e2]
      generalize va.length = n at *
      clear e2 HB0 LM hm e1 LA
      go_enter Tryd.func36, Tryd.ntmps36
      go_wp2_with (go_at_call 59; refine (FC.out _).mono ?_; rintro e w1 ⟨rfl, hb⟩; obtain ⟨k1, k2⟩ := BX.out _ _ hb; have y1 := k1 1 _ (cell_of_row _ _ _ _ _ _ (heap_alloc_new w _)); have B2 := hid k2; clear hb k1 k2)
      go_ret
      exact ⟨ret_bool HF.out.symm, B2.out⟩
  · have HF : Hid (r = false) := by show r = false; rw [HB0.out]; have q : ¬ chk fl = 0 := (by simpa using e1); simp [q]
    clear HB0
    generalize chk fl = x at *
    go_enter Tryd.func36, Tryd.ntmps36
    go_wp2_with (go_at_call 59; refine (FC.out _).mono ?_; rintro e w1 ⟨rfl, hb⟩; obtain ⟨k1, k2⟩ := BX.out _ _ hb; have y1 := k1 1 _ (cell_of_row _ _ _ _ _ _ (heap_alloc_new w _)); have B2 := hid k2; clear hb k1 k2)
    go_ret
    exact ⟨ret_bool HF.out.symm, B2.out⟩
end Go.Proofs.YtbgeihgenckihaaDoor
namespace Go.Proofs.YtbgeihgenckihaaDoor
open Go.RowKit

set_option maxHeartbeats 8000000 in
set_option maxRecDepth 100000 in
theorem isOutcome_any (w : World) (o : Oc) (vv fv : Value) (h : OkO w o vv fv) (hv : FV w) :
    Calls Tryd.prog 36 #[.agg #[.int .i64 o.kind, vv, fv]] w fun e w' => e = .returned (.bool (outB o)) ∧ Below w.heap.size w w' := by
  obtain ⟨kd, va, fl⟩ := o
  by_cases h1 : kd = 1
  · subst h1; exact isO1 w va fl vv fv h hv
  · by_cases h2 : kd = 2
    · subst h2; exact isO2 w va fl vv fv h hv
    · by_cases h3 : kd = 3
      · subst h3; exact isO3 w va fl vv fv h hv
      · have n1 : (kd == 1) = false := by simpa using h1
        have n2 : (kd == 2) = false := by simpa using h2
        have n3 : (kd == 3) = false := by simpa using h3
        have HB0 : Hid (outB ⟨kd, va, fl⟩ = false) := by show _ = _; unfold outB; simp [h1, h2, h3]
        have AL : Hid (∀ ob, Below w.heap.size w (w.alloc ob)) := fun ob => (Below.refl _ _).alloc (Nat.le_refl _) ob
        obtain ⟨pv, cv, rfl⟩ := GS.form h.sv
        obtain ⟨pf, cf, rfl⟩ := CS.form h.sf
        generalize outB ⟨kd, va, fl⟩ = r at *
        clear h1 h2 h3 h hv
        simp only
        go_enter Tryd.func36, Tryd.ntmps36
        go_wp2_with fail
        go_ret
        exact ⟨ret_bool HB0.out.symm, AL.out _⟩
end Go.Proofs.YtbgeihgenckihaaDoor
