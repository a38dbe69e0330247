/- Retry, the document's budgets. -/
import Derived.Test.YtgoffnagdpmpnaaXc2
namespace Go.Proofs.Ytgoffnagdpmpnaa
open Go.RowKit

def bdV (d : Bd) : Value := .agg #[.int .i64 d.mo, .int .i64 d.co, .int .i64 d.ga, .int .i64 d.lv]
theorem ret_bd {a b c : Value} {x y : Int} (h : x = y) : Ending.returned (.agg #[a, b, c, .int .i64 x]) = .returned (.agg #[a, b, c, .int .i64 y]) := by rw [h]
def bd0 : Bd := ⟨0, 0, 0, 0⟩
set_option maxHeartbeats 4000000 in
theorem rnewBudget_any (m c g : Int) (w : World) : Calls Try.prog 32 #[.int .i64 m, .int .i64 c, .int .i64 g] w fun e w' => e = .returned (.tuple #[bdV (if bdB m c g then ⟨m, c, g, m⟩ else bd0), .int .i64 (if bdB m c g then 0 else 1)]) ∧ Below w.heap.size w w' := by
  have AL : Hid (∀ ob, Below w.heap.size w (w.alloc ob)) := fun ob => (Below.refl _ _).alloc (Nat.le_refl _) ob
  have HY : Hid (bdB m c g = true → bdV (if bdB m c g then ⟨m, c, g, m⟩ else bd0) = .agg #[.int .i64 m, .int .i64 c, .int .i64 g, .int .i64 m] ∧ (if bdB m c g then (0 : Int) else 1) = 0) := fun h => by rw [if_pos h, if_pos h]; exact ⟨rfl, rfl⟩
  have HN : Hid (bdB m c g = false → bdV (if bdB m c g then ⟨m, c, g, m⟩ else bd0) = .agg #[.int .i64 0, .int .i64 0, .int .i64 0, .int .i64 0] ∧ (if bdB m c g then (0 : Int) else 1) = 1) := fun h => by rw [if_neg (by simp [h]), if_neg (by simp [h])]; exact ⟨rfl, rfl⟩
  have HB : Hid (bdB m c g = (decide (0 ≤ m ∧ m ≤ 1000000) && decide (0 ≤ c ∧ c ≤ 1000000) && decide (0 ≤ g ∧ g ≤ 1000000))) := rfl
  generalize bdV (if bdB m c g then ⟨m, c, g, m⟩ else bd0) = rv at *
  generalize (if bdB m c g then (0 : Int) else 1) = re at *
  generalize bdB m c g = B at *
  by_cases h0 : m < 0
  · skip
    have E := hid (HN.out (by rw [HB.out]; simp; omega))
    clear HY HN HB
    go_enter Try.func32, Try.ntmps32
    go_wp2
    go_returns
    exact ⟨by rw [E.out.1, E.out.2], AL.out _⟩
  by_cases h1 : 1000000 < m
  · skip
    have E := hid (HN.out (by rw [HB.out]; simp; omega))
    clear HY HN HB
    go_enter Try.func32, Try.ntmps32
    go_wp2
    go_returns
    exact ⟨by rw [E.out.1, E.out.2], AL.out _⟩
  by_cases h2 : c < 0
  · skip
    have E := hid (HN.out (by rw [HB.out]; simp; omega))
    clear HY HN HB
    go_enter Try.func32, Try.ntmps32
    go_wp2
    go_returns
    exact ⟨by rw [E.out.1, E.out.2], AL.out _⟩
  by_cases h3 : 1000000 < c
  · skip
    have E := hid (HN.out (by rw [HB.out]; simp; omega))
    clear HY HN HB
    go_enter Try.func32, Try.ntmps32
    go_wp2
    go_returns
    exact ⟨by rw [E.out.1, E.out.2], AL.out _⟩
  by_cases h4 : g < 0
  · skip
    have E := hid (HN.out (by rw [HB.out]; simp; omega))
    clear HY HN HB
    go_enter Try.func32, Try.ntmps32
    go_wp2
    go_returns
    exact ⟨by rw [E.out.1, E.out.2], AL.out _⟩
  by_cases h5 : 1000000 < g
  · skip
    have E := hid (HN.out (by rw [HB.out]; simp; omega))
    clear HY HN HB
    go_enter Try.func32, Try.ntmps32
    go_wp2
    go_returns
    exact ⟨by rw [E.out.1, E.out.2], AL.out _⟩
  have E := hid (HY.out (by rw [HB.out]; simp; omega))
  clear HY HN HB
  go_enter Try.func32, Try.ntmps32
  go_wp2
  go_returns
  exact ⟨by rw [E.out.1, E.out.2], AL.out _⟩
set_option maxHeartbeats 4000000 in
theorem rask_any (w : World) (d : Bd) (hi : DI d) : Calls Try.prog 34 #[bdV d] w fun e w' => e = .returned (.bool (decide (d.mo < 2 * d.lv))) ∧ Below w.heap.size w w' := by
  have h1 := hi.mo
  have h2 := hi.lv
  have AL : Hid (∀ ob, Below w.heap.size w (w.alloc ob)) := fun ob => (Below.refl _ _).alloc (Nat.le_refl _) ob
  obtain ⟨mo, co, ga, lv⟩ := d
  simp only [bdV] at *
  clear hi
  go_enter Try.func34, Try.ntmps34
  go_wp2
  go_ret
  exact ⟨rfl, AL.out _⟩
set_option maxHeartbeats 4000000 in
theorem rtell_any (w : World) (d : Bd) (hi : DI d) (f : Bool) : Calls Try.prog 37 #[bdV d, .bool f] w fun e w' => e = .returned (bdV (tlD d f)) ∧ Below w.heap.size w w' := by
  have h1 := hi.mo
  have h2 := hi.co
  have h3 := hi.ga
  have h4 := hi.lv
  have AL : Hid (∀ ob o2, Below w.heap.size w ((w.alloc ob).alloc o2)) := fun ob o2 => ((Below.refl _ _).alloc (Nat.le_refl _) ob).alloc (by simp) o2
  have HT : Hid (bdV (tlD d f) = .agg #[.int .i64 d.mo, .int .i64 d.co, .int .i64 d.ga, .int .i64 (if f then min (d.lv + d.ga) d.mo else max (d.lv - d.co) 0)]) := rfl
  generalize bdV (tlD d f) = r at *
  obtain ⟨mo, co, ga, lv⟩ := d
  simp only [bdV] at *
  clear hi
  cases f with
  | true =>
    rw [if_pos rfl] at HT
    by_cases hm : mo < lv + ga
    · have hm3 : ¬ lv + ga ≤ mo := by omega
      go_enter Try.func37, Try.ntmps37
      go_wp2
      go_returns
      exact ⟨by rw [HT.out]; exact ret_bd (by omega), AL.out _ _⟩
    · have hm2 : lv + ga ≤ mo := by omega
      go_enter Try.func37, Try.ntmps37
      go_wp2
      go_returns
      exact ⟨by rw [HT.out]; exact ret_bd (by omega), AL.out _ _⟩
  | false =>
    rw [if_neg (by decide)] at HT
    by_cases hm : lv - co < 0
    · have hm3 : ¬ 0 < lv - co := by omega
      go_enter Try.func37, Try.ntmps37
      go_wp2
      go_returns
      exact ⟨by rw [HT.out]; exact ret_bd (by omega), AL.out _ _⟩
    · have hm2 : 0 ≤ lv - co := by omega
      go_enter Try.func37, Try.ntmps37
      go_wp2
      go_returns
      exact ⟨by rw [HT.out]; exact ret_bd (by omega), AL.out _ _⟩
set_option maxHeartbeats 4000000 in
theorem dtell_but (w : World) (b base : Nat) (d : Bd) (h : DX w b d) (hi : DI d) (hb : base ≤ b) (f : Bool) : Calls Try.prog 36 #[.pointer (some ⟨b, 0, none⟩), .bool f] w fun e w' => e = .returned (.tuple #[]) ∧ DX w' b (tlD d f) ∧ Below base w w' ∧ (∀ y, y < w.heap.size → y ≠ b → w'.heap[y]? = w.heap[y]?) := by
  obtain ⟨c0, c1, c2, c3⟩ := h.cells
  have fz := h.fz 3
  have FIN : Hid (∀ n x, x = lvT d f → DX ((w.drewN n).setCell ⟨b, 3, none⟩ (.int .i64 x)) b (tlD d f) ∧ Below base w ((w.drewN n).setCell ⟨b, 3, none⟩ (.int .i64 x)) ∧ (∀ y, y < w.heap.size → y ≠ b → ((w.drewN n).setCell ⟨b, 3, none⟩ (.int .i64 x)).heap[y]? = w.heap[y]?)) := fun n x hx => by
    subst hx
    have h2 : DX (w.drewN n) b d := h.far rfl
    have hl := h.lt
    refine ⟨h2.set _, ⟨rfl, rfl, rfl, by simp, fun y hy => ?_⟩, fun y hy hn => ?_⟩
    · exact Below.heap_setCell _ _ _ _ (show y ≠ b by omega)
    · exact Below.heap_setCell _ _ _ _ hn
  have HT : Hid (lvT d f = if f then min (d.lv + d.ga) d.mo else max (d.lv - d.co) 0) := rfl
  have h1 := hi.mo
  have h2 := hi.co
  have h3 := hi.ga
  have h4 := hi.lv
  generalize lvT d f = nl at *
  generalize tlD d f = d2 at *
  generalize d.mo = mo at *
  generalize d.co = co at *
  generalize d.ga = ga at *
  generalize d.lv = lv at *
  clear h hi
  cases f with
  | true =>
    rw [if_pos rfl] at HT
    by_cases hm : mo < lv + ga
    · have hm3 : ¬ lv + ga ≤ mo := by omega
      go_enter Try.func36, Try.ntmps36
      go_wp2
      go_region
      all_goals
        go_end0
        exact ⟨rfl, FIN.out _ _ (by rw [HT.out]; omega)⟩
    · have hm2 : lv + ga ≤ mo := by omega
      go_enter Try.func36, Try.ntmps36
      go_wp2
      go_region
      all_goals
        go_end0
        exact ⟨rfl, FIN.out _ _ (by rw [HT.out]; omega)⟩
  | false =>
    rw [if_neg (by decide)] at HT
    by_cases hm : lv - co < 0
    · have hm3 : ¬ 0 < lv - co := by omega
      go_enter Try.func36, Try.ntmps36
      go_wp2
      go_region
      all_goals
        go_end0
        exact ⟨rfl, FIN.out _ _ (by rw [HT.out]; omega)⟩
    · have hm2 : 0 ≤ lv - co := by omega
      go_enter Try.func36, Try.ntmps36
      go_wp2
      go_region
      all_goals
        go_end0
        exact ⟨rfl, FIN.out _ _ (by rw [HT.out]; omega)⟩
end Go.Proofs.Ytgoffnagdpmpnaa
