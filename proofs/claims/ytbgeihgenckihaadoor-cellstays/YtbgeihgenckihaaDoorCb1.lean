/- Cells: a cell in memory; its small functions. -/
import Derived.Test.YtbgeihgenckihaaDoorCa1
import Derived.Deep.RegionHeld3
import Derived.Laws.EntriesVeiled
namespace Go.Proofs.YtbgeihgenckihaaDoor
open Go.RowKit

theorem lt_of_heap {w : World} {b : Nat} {o : Obj} (h : w.heap[b]? = some o) : b < w.heap.size := (Array.getElem?_eq_some_iff.1 h).1
/-- All blocks but one stay. -/
structure Bu (b : Nat) (a w : World) : Prop where
  os : w.os = a.os
  tape : w.tape = a.tape
  output : w.output = a.output
  size : a.heap.size ≤ w.heap.size
  block : ∀ x, x < a.heap.size → x ≠ b → w.heap[x]? = a.heap[x]?
theorem Bu.refl (b : Nat) (a : World) : Bu b a a := ⟨rfl, rfl, rfl, Nat.le_refl _, fun _ _ _ => rfl⟩
theorem Bu.of {b : Nat} {a w : World} (h : Below a.heap.size a w) : Bu b a w := ⟨h.os, h.tape, h.output, h.size, fun x hx _ => h.block x hx⟩
theorem Bu.trans {b : Nat} {x y z : World} (h : Bu b x y) (k : Bu b y z) : Bu b x z :=
  ⟨k.os.trans h.os, k.tape.trans h.tape, k.output.trans h.output, Nat.le_trans h.size k.size, fun q hq hn => (k.block q (Nat.lt_of_lt_of_le hq h.size) hn).trans (h.block q hq hn)⟩
theorem Bu.set (b o : Nat) (a : World) (v : Value) : Bu b a (a.setCell ⟨b, o, none⟩ v) :=
  ⟨rfl, rfl, rfl, by simp, fun _ _ hx => Below.heap_setCell _ _ _ _ hx⟩
theorem Bu.to {b base : Nat} {a w : World} (h : Bu b a w) (hb : base ≤ b) (hs : base ≤ a.heap.size) : Below base a w := ⟨h.os, h.tape, h.output, h.size, fun x hx => h.block x (by omega) (by omega)⟩
theorem drew_below (w : World) (n : Nat) : Below w.heap.size w (w.drewN n) := ⟨rfl, rfl, rfl, Nat.le_refl _, fun _ _ => rfl⟩
/-- A cell in memory. -/
def ceA (c : Ce) (vv fv : Value) : Array Value := #[.bool c.again, .int .i64 c.p.t, .int .i64 c.p.b, .int .i64 c.p.f, .int .i64 c.p.c, .int .i64 c.st, .int .i64 c.tk, .int .i64 c.gen, .int .i64 c.fails, .int .i64 c.last, .int .i64 c.out.kind, vv, fv]
structure CX (w : World) (b : Nat) (c : Ce) (vv fv : Value) : Prop where
  hp : w.heap[b]? = some (.cells (ceA c vv fv) 67)
  sv : AS w vv c.out.val
  sf : CS w fv c.out.fl
  nv : ∀ x, vv.ownBlock = some x → x ≠ b
  nf : ∀ x, fv.ownBlock = some x → x ≠ b
theorem CX.lt {w : World} {b : Nat} {c : Ce} {vv fv : Value} (h : CX w b c vv fv) : b < w.heap.size := lt_of_heap h.hp
theorem CX.fz {w : World} {b : Nat} {c : Ce} {vv fv : Value} (h : CX w b c vv fv) (o : Nat) : w.frozen? ⟨b, o, none⟩ = false := by simp [World.frozen?, h.hp]
theorem CX.cells {w : World} {b : Nat} {c : Ce} {vv fv : Value} (h : CX w b c vv fv) :
    w.cell? ⟨b, 0, none⟩ = some (.bool c.again) ∧ w.cell? ⟨b, 1, none⟩ = some (.int .i64 c.p.t) ∧ w.cell? ⟨b, 2, none⟩ = some (.int .i64 c.p.b) ∧ w.cell? ⟨b, 3, none⟩ = some (.int .i64 c.p.f) ∧ w.cell? ⟨b, 4, none⟩ = some (.int .i64 c.p.c) ∧ w.cell? ⟨b, 5, none⟩ = some (.int .i64 c.st) ∧ w.cell? ⟨b, 6, none⟩ = some (.int .i64 c.tk) ∧ w.cell? ⟨b, 7, none⟩ = some (.int .i64 c.gen) ∧ w.cell? ⟨b, 8, none⟩ = some (.int .i64 c.fails) ∧ w.cell? ⟨b, 9, none⟩ = some (.int .i64 c.last) ∧ w.cell? ⟨b, 10, none⟩ = some (.int .i64 c.out.kind) ∧ w.cell? ⟨b, 11, none⟩ = some vv ∧ w.cell? ⟨b, 12, none⟩ = some fv :=
  ⟨cell_of_row _ _ _ _ _ _ h.hp, cell_of_row _ _ _ _ _ _ h.hp, cell_of_row _ _ _ _ _ _ h.hp, cell_of_row _ _ _ _ _ _ h.hp, cell_of_row _ _ _ _ _ _ h.hp, cell_of_row _ _ _ _ _ _ h.hp, cell_of_row _ _ _ _ _ _ h.hp, cell_of_row _ _ _ _ _ _ h.hp, cell_of_row _ _ _ _ _ _ h.hp, cell_of_row _ _ _ _ _ _ h.hp, cell_of_row _ _ _ _ _ _ h.hp, cell_of_row _ _ _ _ _ _ h.hp, cell_of_row _ _ _ _ _ _ h.hp⟩
theorem CX.below {w w' : World} {b : Nat} {c : Ce} {vv fv : Value} (h : CX w b c vv fv) (k : Below w.heap.size w w') : CX w' b c vv fv := ⟨(k.block b h.lt).trans h.hp, h.sv.below k, h.sf.below k, h.nv, h.nf⟩
theorem CS.blk {w w' : World} {v : Value} {l : List Cr} (h : CS w v l) (hs : w.heap.size ≤ w'.heap.size) (k : ∀ x, v.ownBlock = some x → x < w.heap.size → w'.heap[x]? = w.heap[x]?) : CS w' v l := by
  rcases h with h | ⟨X, o, cap, rfl, hX, hcp, hc⟩
  · exact Or.inl h
  · have kb : w'.heap[X]? = w.heap[X]? := k X rfl hX
    refine Or.inr ⟨X, o, cap, rfl, by omega, hcp, fun i hi => ?_⟩
    obtain ⟨c1, c2, c3⟩ := hc i hi
    exact ⟨(World.cell?_of_block (w := w) (a := ⟨X, _, none⟩) kb).trans c1, (World.cell?_of_block (w := w) (a := ⟨X, _, none⟩) kb).trans c2, (World.cell?_of_block (w := w) (a := ⟨X, _, none⟩) kb).trans c3⟩
theorem isTask_any (n : Int) (w : World) : Calls Tryd.prog 26 #[.int .i64 n] w fun e w' => e = .returned (.bool (tskB n)) ∧ w' = w := by
  have IW := fun w' => isWithin_any n 0 127 w'
  have HT : Hid (tskB n = decide (0 ≤ n ∧ n ≤ 127)) := rfl
  generalize tskB n = r at *
  go_enter Tryd.func26, Tryd.ntmps26
  go_wp2_with (go_at_call 44; refine (IW _).mono ?_; rintro e w' ⟨rfl, rfl⟩)
  go_ret
  exact ⟨ret_bool (by rw [HT.out]; simp), rfl⟩
def timB (n : Int) : Bool := decide (0 ≤ n ∧ n ≤ 1099511627776)
theorem isTime_any (n : Int) (w : World) : Calls Tryd.prog 43 #[.int .i64 n] w fun e w' => e = .returned (.bool (timB n)) ∧ w' = w := by
  have IW := fun w' => isWithin_any n 0 1099511627776 w'
  have HT : Hid (timB n = decide (0 ≤ n ∧ n ≤ 1099511627776)) := rfl
  generalize timB n = r at *
  go_enter Tryd.func43, Tryd.ntmps43
  go_wp2_with (go_at_call 44; refine (IW _).mono ?_; rintro e w' ⟨rfl, rfl⟩)
  go_ret
  exact ⟨ret_bool (by rw [HT.out]; simp), rfl⟩
theorem isNow_any (w : World) (b : Nat) (c : Ce) (vv fv : Value) (h : CX w b c vv fv) (n : Int) : Calls Tryd.prog 27 #[.pointer (some ⟨b, 0, none⟩), .int .i64 n] w fun e w' => e = .returned (.bool (nowB c n)) ∧ w' = w := by
  have IW := fun w' => isWithin_any n c.last 1099511627776 w'
  have HT : Hid (nowB c n = decide (c.last ≤ n ∧ n ≤ 1099511627776)) := rfl
  obtain ⟨_, _, _, _, _, _, _, _, _, c9, _⟩ := h.cells
  generalize nowB c n = r at *
  clear h
  go_enter Tryd.func27, Tryd.ntmps27
  go_wp2_with (go_at_call 44; refine (IW _).mono ?_; rintro e w' ⟨rfl, rfl⟩)
  go_ret
  exact ⟨ret_bool (by rw [HT.out]; simp), rfl⟩
set_option maxHeartbeats 2000000 in
theorem triesAgain_any (w : World) (b : Nat) (c : Ce) (vv fv : Value) (h : CX w b c vv fv) : Calls Tryd.prog 39 #[.pointer (some ⟨b, 0, none⟩)] w fun e w' => e = .returned (.bool (dueB c)) ∧ ∃ n, w' = w.drewN n := by
  have HT : Hid (dueB c = (decide (c.st = 4) && decide (c.out.kind = 2) && decide (c.fails < c.p.t))) := rfl
  obtain ⟨_, c1, _, _, _, c5, _, _, c8, _, c10, _⟩ := h.cells
  generalize dueB c = r at *
  clear h
  by_cases h1 : c.st = 4
  · have b1 : (c.st == 4) = true := by simpa using h1
    by_cases h2 : c.out.kind = 2
    · have b2 : (c.out.kind == 2) = true := by simpa using h2
      by_cases h3 : c.fails < c.p.t
      · have HR : Hid (r = true) := by show r = true; rw [HT.out]; simp [h1, h2, h3]
        clear h1 h2 HT
        go_enter Tryd.func39, Tryd.ntmps39
        go_wp2
        go_quiet (fail)
        go_wp2
        go_ret
        exact ⟨ret_bool HR.out.symm, _, rfl⟩
      · have HR : Hid (r = false) := by show r = false; rw [HT.out]; simp [h3]
        clear h1 h2 HT
        go_enter Tryd.func39, Tryd.ntmps39
        go_wp2
        go_quiet (fail)
        go_wp2
        go_ret
        exact ⟨ret_bool (by rw [HR.out]; simpa using h3), _, rfl⟩
    · have b2 : (c.out.kind == 2) = false := by simpa using h2
      have HR : Hid (r = false) := by show r = false; rw [HT.out]; simp [h2]
      clear h1 h2 HT
      go_enter Tryd.func39, Tryd.ntmps39
      go_wp2
      go_quiet (fail)
      go_wp2
      go_ret
      exact ⟨ret_bool HR.out.symm, _, rfl⟩
  · have b1 : (c.st == 4) = false := by simpa using h1
    have HR : Hid (r = false) := by show r = false; rw [HT.out]; simp [h1]
    clear h1 HT
    go_enter Tryd.func39, Tryd.ntmps39
    go_wp2
    go_quiet (fail)
    go_wp2
    go_ret
    exact ⟨ret_bool HR.out.symm, _, rfl⟩
def polC2 (p : Pol) : Value := .agg #[.int .i64 p.t, .int .i64 p.b, .int .i64 p.f, .int .i64 p.c]
set_option maxHeartbeats 2000000 in
theorem wait_any (p : Pol) (n : Int) (w : World) (hp : polB p = true) (hn : 0 ≤ n ∧ n ≤ 1000) : Calls Tryd.prog 60 #[polV p, .int .i64 n] w fun e w' => e = .returned (.int .i64 (wtP p (n - 1).toNat)) ∧ Below w.heap.size w w' := by
  have AL : Hid (∀ ob, Below w.heap.size w (w.alloc ob)) := fun ob => (Below.refl _ _).alloc (Nat.le_refl _) ob
  have WB : Hid (∀ k, 0 ≤ wtP p k ∧ wtP p k ≤ p.c) := wt_bd hp
  have WS : Hid (∀ k, wtP p (k + 1) = min (wtP p k * p.f) p.c) := fun k => rfl
  have W0 : Hid (wtP p 0 = p.b) := rfl
  obtain ⟨_, _, _, _, f0, f1, _, hpc⟩ := pol_bd hp
  generalize wtP p = wt at *
  obtain ⟨pt, pb, pf, pc⟩ := p
  simp only [polV] at *
  clear hp
  obtain ⟨m, hm⟩ : ∃ m : Nat, m = (n - 1).toNat := ⟨_, rfl⟩
  rw [← hm]
  have HM : Hid (m = (n - 1).toNat) := hm
  clear hm
  go_enter Tryd.func60, Tryd.ntmps60
  go_wp2
  generalize hW : w.alloc _ = W
  have q2 : W.cell? ⟨w.heap.size, 2, none⟩ = some (.int .i64 pf) := by rw [← hW]; exact cell_of_row _ _ _ _ _ _ (heap_alloc_new w _)
  have q3 : W.cell? ⟨w.heap.size, 3, none⟩ = some (.int .i64 pc) := by rw [← hW]; exact cell_of_row _ _ _ _ _ _ (heap_alloc_new w _)
  have BW : Hid (Below w.heap.size w W) := by rw [← hW]; exact AL.out _
  clear hW
  go_loopw [5, 10] (fun v5 v10 wr => ∃ (k : Nat), v10 = .int .i64 k ∧ v5 = .int .i64 (wt k) ∧ k ≤ m ∧ wr = W) (fun _ v10 _ => m - (intOf v10).toNat)
  case atStart => exact ⟨0, rfl, by rw [W0.out], Nat.zero_le _, rfl⟩
  case round =>
    obtain ⟨k, rfl, rfl, hk, rfl⟩ := hrel
    by_cases hlt : (k : Int) < n - 1
    · obtain ⟨y0, y1⟩ := WB.out k
      have hmul := mul_bd y0 (by omega) f0 f1
      obtain ⟨z0, z1⟩ := hmul
      have HS : Hid (wt (k + 1) = min (wt k * pf) pc) := WS.out k
      have HK : Hid (k < m) := by have := HM.out; show k < m; omega
      generalize wt k = x at *
      by_cases hmin : x * pf ≤ pc
      · have hm2 : ¬ pc < x * pf := by omega
        go_wp2
        go_roundw
        case rel => exact ⟨k + 1, by go_num, by rw [HS.out]; congr 1; omega, by have := HK.out; omega, by first | rfl | trivial⟩
        case measure => have := HK.out; simp [intOf]; omega
      · have hm2 : pc < x * pf := by omega
        go_wp2
        go_roundw
        case rel => exact ⟨k + 1, by go_num, by rw [HS.out]; congr 1; omega, by have := HK.out; omega, by first | rfl | trivial⟩
        case measure => have := HK.out; simp [intOf]; omega
    · obtain rfl : k = m := by have := HM.out; omega
      go_wp2
      go_ret
      exact ⟨rfl, BW.out⟩
end Go.Proofs.YtbgeihgenckihaaDoor
