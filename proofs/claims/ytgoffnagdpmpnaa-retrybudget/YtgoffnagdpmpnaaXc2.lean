/- Retry: budgets. -/
import Derived.Test.YtgoffnagdpmpnaaXb2
namespace Go.Proofs.Ytgoffnagdpmpnaa
open Go.RowKit

structure Bd where
  mo : Int
  co : Int
  ga : Int
  lv : Int
def bdA (d : Bd) : Array Value := #[.int .i64 d.mo, .int .i64 d.co, .int .i64 d.ga, .int .i64 d.lv]
def bdB (m c g : Int) : Bool := decide (0 ≤ m ∧ m ≤ 1000000) && decide (0 ≤ c ∧ c ≤ 1000000) && decide (0 ≤ g ∧ g ≤ 1000000)
structure DI (d : Bd) : Prop where
  mo : 0 ≤ d.mo ∧ d.mo ≤ 1000000
  co : 0 ≤ d.co ∧ d.co ≤ 1000000
  ga : 0 ≤ d.ga ∧ d.ga ≤ 1000000
  lv : 0 ≤ d.lv ∧ d.lv ≤ d.mo
def lvT (d : Bd) (f : Bool) : Int := if f then min (d.lv + d.ga) d.mo else max (d.lv - d.co) 0
def tlD (d : Bd) (f : Bool) : Bd := { d with lv := lvT d f }
theorem tl_di {d : Bd} (h : DI d) (f : Bool) : DI (tlD d f) := by
  have h1 := h.mo
  have h2 := h.co
  have h3 := h.ga
  have h4 := h.lv
  refine ⟨h1, h2, h3, ?_⟩
  show 0 ≤ lvT d f ∧ lvT d f ≤ d.mo
  unfold lvT
  split <;> omega
theorem bd_di {m c g : Int} (h : bdB m c g = true) : DI ⟨m, c, g, m⟩ := by
  unfold bdB at h
  simp at h
  exact ⟨h.1.1, h.1.2, h.2, ⟨h.1.1.1, Int.le_refl _⟩⟩
/-- A budget in memory. -/
structure DX (w : World) (b : Nat) (d : Bd) : Prop where
  hp : w.heap[b]? = some (.cells (bdA d) 96)
theorem DX.lt {w : World} {b : Nat} {d : Bd} (h : DX w b d) : b < w.heap.size := lt_of_heap h.hp
theorem DX.cells {w : World} {b : Nat} {d : Bd} (h : DX w b d) : w.cell? ⟨b, 0, none⟩ = some (.int .i64 d.mo) ∧ w.cell? ⟨b, 1, none⟩ = some (.int .i64 d.co) ∧ w.cell? ⟨b, 2, none⟩ = some (.int .i64 d.ga) ∧ w.cell? ⟨b, 3, none⟩ = some (.int .i64 d.lv) :=
  ⟨cell_of_row _ _ _ _ _ _ h.hp, cell_of_row _ _ _ _ _ _ h.hp, cell_of_row _ _ _ _ _ _ h.hp, cell_of_row _ _ _ _ _ _ h.hp⟩
theorem DX.below {w w' : World} {b : Nat} {d : Bd} (h : DX w b d) (k : Below w.heap.size w w') : DX w' b d := ⟨(k.block b h.lt).trans h.hp⟩
theorem DX.far {w w' : World} {b : Nat} {d : Bd} (h : DX w b d) (k : w'.heap[b]? = w.heap[b]?) : DX w' b d := ⟨k.trans h.hp⟩
theorem DX.fz {w : World} {b : Nat} {d : Bd} (h : DX w b d) (o : Nat) : w.frozen? ⟨b, o, none⟩ = false := by simp [World.frozen?, h.hp]
theorem DX.set {w : World} {b : Nat} {d : Bd} (h : DX w b d) (x : Int) : DX (w.setCell ⟨b, 3, none⟩ (.int .i64 x)) b { d with lv := x } := ⟨heap_setCell_same w b 3 _ _ _ h.hp⟩
set_option maxHeartbeats 4000000 in
theorem newBudget_ok (m c g : Int) (w : World) (h : bdB m c g = true) : Calls Try.prog 31 #[.int .i64 m, .int .i64 c, .int .i64 g] w fun e w' => e = .returned (.tuple #[.pointer (some ⟨w.heap.size, 0, none⟩), .int .i64 0]) ∧ DX w' w.heap.size ⟨m, c, g, m⟩ ∧ Below w.heap.size w w' := by
  have I1 := fun w' => isWithin_any m 0 1000000 w'
  have I2 := fun w' => isWithin_any c 0 1000000 w'
  have I3 := fun w' => isWithin_any g 0 1000000 w'
  unfold bdB at h
  obtain ⟨h12, h3⟩ := Bool.and_eq_true_iff.1 h
  obtain ⟨h1, h2⟩ := Bool.and_eq_true_iff.1 h12
  rw [h1] at I1
  rw [h2] at I2
  rw [h3] at I3
  clear h h12 h1 h2 h3
  go_enter Try.func31, Try.ntmps31
  go_wp2_with fail
  refine Calls.mono (I1 _) ?_
  rintro e w0 ⟨rfl, hw0⟩
  rw [hw0]
  clear hw0
  go_wp2_with fail
  refine Calls.mono (I2 _) ?_
  rintro e w0 ⟨rfl, hw0⟩
  rw [hw0]
  clear hw0
  go_wp2_with fail
  refine Calls.mono (I3 _) ?_
  rintro e w0 ⟨rfl, hw0⟩
  rw [hw0]
  clear hw0
  go_wp2_with fail
  go_ret2
  exact ⟨rfl, ⟨heap_alloc_new w _⟩, (Below.refl _ _).alloc (Nat.le_refl _) _⟩
set_option maxHeartbeats 4000000 in
theorem newBudget_no (m c g : Int) (w : World) (h : bdB m c g = false) : Calls Try.prog 31 #[.int .i64 m, .int .i64 c, .int .i64 g] w fun e w' => e = .returned (.tuple #[.pointer none, .int .i64 1]) ∧ w' = w := by
  have I1 := fun w' => isWithin_any m 0 1000000 w'
  have I2 := fun w' => isWithin_any c 0 1000000 w'
  have I3 := fun w' => isWithin_any g 0 1000000 w'
  unfold bdB at h
  cases h1 : decide (0 ≤ m ∧ m ≤ 1000000) with
  | false =>
    rw [h1] at I1
    clear h h1
    go_enter Try.func31, Try.ntmps31
    go_wp2_with fail
    refine Calls.mono (I1 _) ?_
    rintro e w0 ⟨rfl, hw0⟩
    rw [hw0]
    clear hw0
    go_wp2_with fail
    go_ret2
    exact ⟨rfl, rfl⟩
  | true =>
    rw [h1] at I1 h
    cases h2 : decide (0 ≤ c ∧ c ≤ 1000000) with
    | false =>
      rw [h2] at I2
      clear h h1 h2
      go_enter Try.func31, Try.ntmps31
      go_wp2_with fail
      refine Calls.mono (I1 _) ?_
      rintro e w0 ⟨rfl, hw0⟩
      rw [hw0]
      clear hw0
      go_wp2_with fail
      refine Calls.mono (I2 _) ?_
      rintro e w0 ⟨rfl, hw0⟩
      rw [hw0]
      clear hw0
      go_wp2_with fail
      go_ret2
      exact ⟨rfl, rfl⟩
    | true =>
      rw [h2] at I2 h
      rw [Bool.and_self, Bool.true_and] at h
      rw [h] at I3
      clear h h1 h2
      go_enter Try.func31, Try.ntmps31
      go_wp2_with fail
      refine Calls.mono (I1 _) ?_
      rintro e w0 ⟨rfl, hw0⟩
      rw [hw0]
      clear hw0
      go_wp2_with fail
      refine Calls.mono (I2 _) ?_
      rintro e w0 ⟨rfl, hw0⟩
      rw [hw0]
      clear hw0
      go_wp2_with fail
      refine Calls.mono (I3 _) ?_
      rintro e w0 ⟨rfl, hw0⟩
      rw [hw0]
      clear hw0
      go_wp2_with fail
      go_ret2
      exact ⟨rfl, rfl⟩
set_option maxHeartbeats 4000000 in
theorem dask_any (w : World) (b : Nat) (d : Bd) (h : DX w b d) (hi : DI d) : Calls Try.prog 33 #[.pointer (some ⟨b, 0, none⟩)] w fun e w' => e = .returned (.bool (decide (d.mo < 2 * d.lv))) ∧ ∃ n, w' = w.drewN n := by
  obtain ⟨c0, _, _, c3⟩ := h.cells
  have h1 := hi.mo
  have h2 := hi.lv
  clear h hi
  generalize d.mo = mo at *
  generalize d.lv = lv at *
  go_enter Try.func33, Try.ntmps33
  go_wp2
  go_quiet (fail)
  go_wp2
  go_ret
  exact ⟨rfl, _, rfl⟩
theorem dlevel_any (w : World) (b : Nat) (d : Bd) (h : DX w b d) : Calls Try.prog 35 #[.pointer (some ⟨b, 0, none⟩)] w fun e w' => e = .returned (.int .i64 d.lv) ∧ w' = w := by
  obtain ⟨_, _, _, c3⟩ := h.cells
  clear h
  generalize d.lv = lv at *
  go_enter Try.func35, Try.ntmps35
  go_wp2
  go_ret
  exact ⟨rfl, rfl⟩
set_option maxHeartbeats 4000000 in
theorem dtell_any (w : World) (b base : Nat) (d : Bd) (h : DX w b d) (hi : DI d) (hb : base ≤ b) (f : Bool) : Calls Try.prog 36 #[.pointer (some ⟨b, 0, none⟩), .bool f] w fun e w' => e = .returned (.tuple #[]) ∧ DX w' b (tlD d f) ∧ Below base w w' := by
  obtain ⟨c0, c1, c2, c3⟩ := h.cells
  have fz := h.fz 3
  have FIN : Hid (∀ n x, x = lvT d f → DX ((w.drewN n).setCell ⟨b, 3, none⟩ (.int .i64 x)) b (tlD d f) ∧ Below base w ((w.drewN n).setCell ⟨b, 3, none⟩ (.int .i64 x))) := fun n x hx => by
    subst hx
    have h2 : DX (w.drewN n) b d := h.far rfl
    have hl := h.lt
    refine ⟨h2.set _, ⟨rfl, rfl, rfl, by simp, fun y hy => ?_⟩⟩
    exact Below.heap_setCell _ _ _ _ (show y ≠ b by omega)
  have HT : Hid (lvT d f = if f then min (d.lv + d.ga) d.mo else max (d.lv - d.co) 0) := rfl
  have h1 := hi.mo
  have h2 := hi.co
  have h3 := hi.ga
  have h4 := hi.lv
  generalize lvT d f = nl at *
  generalize tlD d f = d2 at *
  generalize d.mo = mo at *
  generalize d.co = co at *
  generalize d.ga = ga at *
  generalize d.lv = lv at *
  clear h hi
  cases f with
  | true =>
    rw [if_pos rfl] at HT
    by_cases hm : mo < lv + ga
    · have hm3 : ¬ lv + ga ≤ mo := by omega
      go_enter Try.func36, Try.ntmps36
      go_wp2
      go_region
      all_goals
        go_end0
        exact ⟨rfl, FIN.out _ _ (by rw [HT.out]; omega)⟩
    · have hm2 : lv + ga ≤ mo := by omega
      go_enter Try.func36, Try.ntmps36
      go_wp2
      go_region
      all_goals
        go_end0
        exact ⟨rfl, FIN.out _ _ (by rw [HT.out]; omega)⟩
  | false =>
    rw [if_neg (by decide)] at HT
    by_cases hm : lv - co < 0
    · have hm3 : ¬ 0 < lv - co := by omega
      go_enter Try.func36, Try.ntmps36
      go_wp2
      go_region
      all_goals
        go_end0
        exact ⟨rfl, FIN.out _ _ (by rw [HT.out]; omega)⟩
    · have hm2 : 0 ≤ lv - co := by omega
      go_enter Try.func36, Try.ntmps36
      go_wp2
      go_region
      all_goals
        go_end0
        exact ⟨rfl, FIN.out _ _ (by rw [HT.out]; omega)⟩
end Go.Proofs.Ytgoffnagdpmpnaa
