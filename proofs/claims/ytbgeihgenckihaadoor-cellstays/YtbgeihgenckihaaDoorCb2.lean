/- Cells: when it is due; what a state's row does; Ask. -/
import Derived.Test.YtbgeihgenckihaaDoorCb1
import Derived.Handy
namespace Go.Proofs.YtbgeihgenckihaaDoor
open Go.RowKit

set_option maxHeartbeats 4000000 in
theorem next_any (w : World) (b : Nat) (c : Ce) (vv fv : Value) (h : CX w b c vv fv) (hi : CI c) : Calls Tryd.prog 40 #[.pointer (some ⟨b, 0, none⟩)] w fun e w' => e = .returned (.int .i64 (nextC c)) ∧ Below w.heap.size w w' := by
  have HT : Hid (nextC c = min (c.last + wtP c.p (c.fails - 1).toNat) 1099511627776) := rfl
  obtain ⟨_, c1, c2, c3, c4, _, _, _, c8, c9, _⟩ := h.cells
  have hf := hi.fl0
  have hpb := pol_bd hi.pol
  have WA : Hid (∀ w', Calls Tryd.prog 60 #[.agg #[.int .i64 c.p.t, .int .i64 c.p.b, .int .i64 c.p.f, .int .i64 c.p.c], .int .i64 c.fails] w' fun e w'' => e = .returned (.int .i64 (wtP c.p (c.fails - 1).toNat)) ∧ Below w'.heap.size w' w'') := fun w' => wait_any c.p c.fails w' hi.pol ⟨hf.1, by omega⟩
  have KP : Hid (∀ w', Below w.heap.size w w' → w'.cell? ⟨b, 1, none⟩ = some (.int .i64 c.p.t) ∧ w'.cell? ⟨b, 2, none⟩ = some (.int .i64 c.p.b) ∧ w'.cell? ⟨b, 3, none⟩ = some (.int .i64 c.p.f) ∧ w'.cell? ⟨b, 4, none⟩ = some (.int .i64 c.p.c) ∧ w'.cell? ⟨b, 8, none⟩ = some (.int .i64 c.fails) ∧ w'.cell? ⟨b, 9, none⟩ = some (.int .i64 c.last)) := fun w' hb => by
    obtain ⟨_, c1, c2, c3, c4, _, _, _, c8, c9, _⟩ := (h.below hb).cells
    exact ⟨c1, c2, c3, c4, c8, c9⟩
  have wb := wt_bd hi.pol (c.fails - 1).toNat
  have hl := hi.last
  obtain ⟨hl0, hl1⟩ := hl
  obtain ⟨wb0, wb1⟩ := wb
  have hc1 := hpb.2.2.2.2.2.2.2
  have BR : Hid (Below w.heap.size w w) := Below.refl _ _
  have BD : Hid (∀ n, Below w.heap.size w (w.drewN n)) := fun n => drew_below w n
  generalize wtP c.p (c.fails - 1).toNat = x at *
  generalize nextC c = r at *
  have hwr : IntKind.i64.wrap (c.last + x) = c.last + x := by rw [IntKind.wrap_i64]; omega
  clear h hi hf hpb
  go_enter Tryd.func40, Tryd.ntmps40
  go_wp2_with fail
  go_region_held3 (fun w' => w'.cell? ⟨b, 1, none⟩ = some (.int .i64 c.p.t) ∧ w'.cell? ⟨b, 2, none⟩ = some (.int .i64 c.p.b) ∧ w'.cell? ⟨b, 3, none⟩ = some (.int .i64 c.p.f) ∧ w'.cell? ⟨b, 4, none⟩ = some (.int .i64 c.p.c) ∧ w'.cell? ⟨b, 8, none⟩ = some (.int .i64 c.fails) ∧ w'.cell? ⟨b, 9, none⟩ = some (.int .i64 c.last)) (go_keep) ((go_at_call 60; refine (WA.out _).mono ?_; rintro e w1 ⟨rfl, hb⟩; have B1 : Hid (Below w.heap.size w w1) := (by first | exact hb | exact (BD.out _).trans hb); obtain ⟨k1, k2, k3, k4, k8, k9⟩ := KP.out _ B1.out; clear hb))
  go_wp2_with fail
  all_goals
    try go_wp2_with fail
    go_ret
    exact ⟨ret_int (by rw [HT.out]; omega), B1.out⟩
theorem mustRun_any (a m : Value) (w : World) : Calls Tryd.prog 45 #[a, m] w fun e w' => e = .returned (.int .i64 1) ∧ w' = w := by
  go_enter Tryd.func45, Tryd.ntmps45
  go_wp2
  go_ret
  exact ⟨rfl, rfl⟩
theorem mustWait_any (a m : Value) (w : World) : Calls Tryd.prog 48 #[a, m] w fun e w' => e = .returned (.int .i64 2) ∧ w' = w := by
  go_enter Tryd.func48, Tryd.ntmps48
  go_wp2
  go_ret
  exact ⟨rfl, rfl⟩
theorem mustTell_any (a m : Value) (w : World) : Calls Tryd.prog 51 #[a, m] w fun e w' => e = .returned (.int .i64 3) ∧ w' = w := by
  go_enter Tryd.func51, Tryd.ntmps51
  go_wp2
  go_ret
  exact ⟨rfl, rfl⟩
theorem isShut_any (a m : Value) (w : World) : Calls Tryd.prog 53 #[a, m] w fun e w' => e = .returned (.int .i64 4) ∧ w' = w := by
  go_enter Tryd.func53, Tryd.ntmps53
  go_wp2
  go_ret
  exact ⟨rfl, rfl⟩
theorem refuse_any (a : Value) (w : World) : Calls Tryd.prog 50 #[a] w fun e w' => e = .returned (.int .i64 7) ∧ w' = w := by
  go_enter Tryd.func50, Tryd.ntmps50
  go_wp2
  go_ret
  exact ⟨rfl, rfl⟩
theorem refuseAt_any (a m : Value) (w : World) : Calls Tryd.prog 49 #[a, m] w fun e w' => e = .returned (.int .i64 7) ∧ w' = w := by
  have RF := fun w' => refuse_any a w'
  go_enter Tryd.func49, Tryd.ntmps49
  go_wp2_with (go_at_call 50; refine (RF _).mono ?_; rintro e w' ⟨rfl, rfl⟩)
  go_ret
  exact ⟨rfl, rfl⟩
def rotC (c : Ce) (n : Int) : Int := if dueB c = true ∧ nextC c ≤ n then 1 else 3
set_option maxHeartbeats 4000000 in
theorem mustRunOrTell_any (w : World) (b : Nat) (c : Ce) (vv fv : Value) (h : CX w b c vv fv) (hi : CI c) (n : Int) : Calls Tryd.prog 52 #[.pointer (some ⟨b, 0, none⟩), .int .i64 n] w fun e w' => e = .returned (.int .i64 (rotC c n)) ∧ Below w.heap.size w w' := by
  have HR : Hid (rotC c n = if dueB c = true ∧ nextC c ≤ n then 1 else 3) := rfl
  generalize rotC c n = r at *
  have TA := hid (triesAgain_any w b c vv fv h)
  have NX : Hid (∀ m, Calls Tryd.prog 40 #[.pointer (some ⟨b, 0, none⟩)] (w.drewN m) fun e w' => e = .returned (.int .i64 (nextC c)) ∧ Below w.heap.size w w') := fun m => (next_any _ b c vv fv (h.below (drew_below w m)) hi).mono (fun e w' q => ⟨q.1, (drew_below w m).trans q.2⟩)
  have BD : Hid (∀ n, Below w.heap.size w (w.drewN n)) := fun n => drew_below w n
  have MR := fun w' => mustRun_any (.pointer (some ⟨b, 0, none⟩)) (.int .i64 n) w'
  have MT := fun w' => mustTell_any (.pointer (some ⟨b, 0, none⟩)) (.int .i64 n) w'
  clear h hi
  cases hd : dueB c with
  | false =>
    rw [hd] at TA HR
    go_enter Tryd.func52, Tryd.ntmps52
    go_wp2_with (first | (go_at_call 39; refine TA.out.mono ?_; rintro e w' ⟨rfl, n1, rfl⟩) | (go_at_call 51; refine (MT _).mono ?_; rintro e w' ⟨rfl, rfl⟩))
    go_ret
    exact ⟨ret_int (by rw [HR.out]; simp), BD.out _⟩
  | true =>
    rw [hd] at TA HR
    generalize nextC c = x at *
    go_enter Tryd.func52, Tryd.ntmps52
    go_wp2_with (first | (go_at_call 39; refine TA.out.mono ?_; rintro e w' ⟨rfl, n1, rfl⟩) | (go_at_call 40; refine (NX.out _).mono ?_; rintro e w2 ⟨rfl, hb⟩; have B2 := hid hb; clear hb) | (go_at_call 45; refine (MR _).mono ?_; rintro e w' ⟨rfl, rfl⟩) | (go_at_call 51; refine (MT _).mono ?_; rintro e w' ⟨rfl, rfl⟩))
    all_goals
      go_ret
      exact ⟨ret_int (by rw [HR.out]; simp; try omega), B2.out⟩
/-- What a state's row holds. -/
def mtF (st : Int) : Nat := if st = 1 then 45 else if st = 2 then 48 else if st = 3 then 51 else if st = 4 then 52 else 53
def rsF (st : Int) : Nat := if st = 1 ∨ st = 3 ∨ st = 4 then 46 else 49
def shF (st : Int) : Nat := if st = 1 ∨ st = 3 ∨ st = 4 then 47 else 50
def rowV (b : Nat) (st : Int) : Value := .agg #[.func (.func (mtF st)) #[.pointer (some ⟨b, 0, none⟩)] #[], .func (.func (rsF st)) #[.pointer (some ⟨b, 0, none⟩)] #[], .func (.func (shF st)) #[.pointer (some ⟨b, 0, none⟩)] #[]]
set_option maxHeartbeats 4000000 in
theorem row_any (w : World) (b : Nat) (c : Ce) (vv fv : Value) (h : CX w b c vv fv) (hs : 1 ≤ c.st ∧ c.st ≤ 5) : Calls Tryd.prog 28 #[.pointer (some ⟨b, 0, none⟩)] w fun e w' => e = .returned (rowV b c.st) ∧ Below w.heap.size w w' := by
  have AL : Hid (∀ ob, Below w.heap.size w (w.alloc ob)) := fun ob => (Below.refl _ _).alloc (Nat.le_refl _) ob
  obtain ⟨_, _, _, _, _, c5, _⟩ := h.cells
  have hb := h.lt
  clear h
  generalize c.st = st at *
  have e : st = 1 ∨ st = 2 ∨ st = 3 ∨ st = 4 ∨ st = 5 := by omega
  clear hs
  rcases e with rfl | rfl | rfl | rfl | rfl
  · go_enter Tryd.func28, Tryd.ntmps28
    go_wp2
    go_returns
    exact ⟨rfl, AL.out _⟩
  · go_enter Tryd.func28, Tryd.ntmps28
    go_wp2
    go_returns
    exact ⟨rfl, AL.out _⟩
  · go_enter Tryd.func28, Tryd.ntmps28
    go_wp2
    go_returns
    exact ⟨rfl, AL.out _⟩
  · go_enter Tryd.func28, Tryd.ntmps28
    go_wp2
    go_returns
    exact ⟨rfl, AL.out _⟩
  · go_enter Tryd.func28, Tryd.ntmps28
    go_wp2
    go_returns
    exact ⟨rfl, AL.out _⟩
end Go.Proofs.YtbgeihgenckihaaDoor
