/- Retry: among; two breakers behind a law's calls. -/
import Derived.Test.YtddnagoljdhnlaaXc1
import Derived.Test.YtddnagoljdhnlaaXb4
import Derived.Test.YtddnagoljdhnlaaXe1
namespace Go.Proofs.Ytddnagoljdhnlaa
open Go.RowKit Go.Maps

/-- A number from 0 to n - 1. -/
def amF (x n : Int) : Int := (x.tmod n + n) % n
theorem tmod_in (x n : Int) (hn : 0 < n) : -n < x.tmod n ∧ x.tmod n < n := by
  have h1 := Int.tmod_lt_of_pos x hn
  refine ⟨?_, h1⟩
  have h2 := Int.tmod_lt_of_pos (-x) hn
  rw [Int.neg_tmod] at h2
  omega
theorem amF_bd (x n : Int) (hn : 0 < n) : 0 ≤ amF x n ∧ amF x n < n := ⟨Int.emod_nonneg _ (by omega), Int.emod_lt_of_pos _ hn⟩
set_option maxHeartbeats 2000000 in
theorem among_any (x n : Int) (hn : 0 < n ∧ n ≤ 1000) (w : World) : Calls Try.prog 7 #[.int .i64 x, .int .i64 n] w fun e w' => e = .returned (.int .i64 (amF x n)) ∧ w' = w := by
  have HA : Hid (amF x n = (x.tmod n + n) % n) := rfl
  obtain ⟨t0, t1⟩ := tmod_in x n hn.1
  have T2 : Hid ((x.tmod n + n).tmod n = (x.tmod n + n) % n) := Int.tmod_eq_emod_of_nonneg (by omega)
  have bd := amF_bd x n hn.1
  have hz : (n == 0) = false := by simp; omega
  have hz2 : ¬ n = 0 := by omega
  have hm1 : ¬ n = -1 := by omega
  have hm2 : (n == -1) = false := by simp; omega
  obtain ⟨hn1, hn2⟩ := hn
  go_enter Try.func7, Try.ntmps7
  go_wp2
  go_ret
  exact ⟨ret_int HA.out.symm, rfl⟩
/-- Two breakers behind a law's calls. -/
structure TW (w1 : World) (b m b' m' : Nat) (s s' : Bk) (wk : World) : Prop where
  x1 : BX wk b m s
  x2 : BX wk b' m' s'
  n1 : b ≠ b'
  n2 : b ≠ m'
  n3 : m ≠ b'
  n4 : m ≠ m'
  bel : Below w1.heap.size w1 wk
  g1 : w1.heap.size ≤ b
  g2 : w1.heap.size ≤ m
  g3 : w1.heap.size ≤ b'
  g4 : w1.heap.size ≤ m'
theorem TW.on1 {w1 wk w2 : World} {b m b' m' : Nat} {s s' s2 : Bk} (h : TW w1 b m b' m' s s' wk) (x : BX w2 b m s2) (q : Bq b m wk w2) : TW w1 b m b' m' s2 s' w2 :=
  { h with x1 := x, x2 := h.x2.far (q.block _ h.x2.lt h.n1.symm h.n3.symm) (q.block _ h.x2.mp.lt h.n2.symm h.n4.symm), bel := h.bel.trans (q.to h.g1 h.g2 h.bel.size) }
theorem TW.on2 {w1 wk w2 : World} {b m b' m' : Nat} {s s' s2 : Bk} (h : TW w1 b m b' m' s s' wk) (x : BX w2 b' m' s2) (q : Bq b' m' wk w2) : TW w1 b m b' m' s s2 w2 :=
  { h with x2 := x, x1 := h.x1.far (q.block _ h.x1.lt h.n1 h.n2) (q.block _ h.x1.mp.lt h.n3 h.n4), bel := h.bel.trans (q.to h.g3 h.g4 h.bel.size) }
theorem TW.drew {w1 wk : World} {b m b' m' : Nat} {s s' : Bk} (h : TW w1 b m b' m' s s' wk) (n : Nat) : TW w1 b m b' m' s s' (wk.drewN n) :=
  { h with x1 := h.x1.far rfl rfl, x2 := h.x2.far rfl rfl, bel := bl3 h.bel (drew_below _ _) }
theorem tw_ask1 {w1 wk : World} {b m b' m' : Nat} {s s' : Bk} {C : Int} (h : TW w1 b m b' m' s s' wk) (hi : KI2 C s) (hC : C ≤ 1000000000000000000) (a : Int) : Calls Try.prog 8 #[.pointer (some ⟨b, 0, none⟩), .int .i64 a] wk fun e w' => e = .returned (.tuple #[.int .i64 (askN s a), .bool (askB s a), .int .i64 (askE s a)]) ∧ TW w1 b m b' m' (askX s a) s' w' :=
  (ask_any wk b m s C h.x1 hi hC a).mono (fun _ _ ⟨q1, q2, q3⟩ => ⟨q1, h.on1 q2 q3⟩)
theorem tw_ask2 {w1 wk : World} {b m b' m' : Nat} {s s' : Bk} {C : Int} (h : TW w1 b m b' m' s s' wk) (hi : KI2 C s') (hC : C ≤ 1000000000000000000) (a : Int) : Calls Try.prog 8 #[.pointer (some ⟨b', 0, none⟩), .int .i64 a] wk fun e w' => e = .returned (.tuple #[.int .i64 (askN s' a), .bool (askB s' a), .int .i64 (askE s' a)]) ∧ TW w1 b m b' m' s (askX s' a) w' :=
  (ask_any wk b' m' s' C h.x2 hi hC a).mono (fun _ _ ⟨q1, q2, q3⟩ => ⟨q1, h.on2 q2 q3⟩)
theorem tw_tell1 {w1 wk : World} {b m b' m' : Nat} {s s' : Bk} {C : Int} (h : TW w1 b m b' m' s s' wk) (hi : KI2 C s) (hC : C ≤ 1000000000000000000) (t : Int) (ht : (Lit.int .i64 t).wf = true) (f : Bool) (a : Int) : Calls Try.prog 10 #[.pointer (some ⟨b, 0, none⟩), .int .i64 t, .bool f, .int .i64 a] wk fun e w' => e = .returned (.int .i64 (telE s t a)) ∧ TW w1 b m b' m' (telX s t f a) s' w' :=
  (tell_any wk b m s C h.x1 hi hC t ht f a).mono (fun _ _ ⟨q1, q2, q3⟩ => ⟨q1, h.on1 q2 q3⟩)
theorem tw_tell2 {w1 wk : World} {b m b' m' : Nat} {s s' : Bk} {C : Int} (h : TW w1 b m b' m' s s' wk) (hi : KI2 C s') (hC : C ≤ 1000000000000000000) (t : Int) (ht : (Lit.int .i64 t).wf = true) (f : Bool) (a : Int) : Calls Try.prog 10 #[.pointer (some ⟨b', 0, none⟩), .int .i64 t, .bool f, .int .i64 a] wk fun e w' => e = .returned (.int .i64 (telE s' t a)) ∧ TW w1 b m b' m' s (telX s' t f a) w' :=
  (tell_any wk b' m' s' C h.x2 hi hC t ht f a).mono (fun _ _ ⟨q1, q2, q3⟩ => ⟨q1, h.on2 q2 q3⟩)
theorem tw_state1 {w1 wk : World} {b m b' m' : Nat} {s s' : Bk} (h : TW w1 b m b' m' s s' wk) : Calls Try.prog 12 #[.pointer (some ⟨b, 0, none⟩)] wk fun e w' => e = .returned (.tuple #[.int .i64 s.st, .int .i64 s.row, .int .i64 s.unt]) ∧ TW w1 b m b' m' s s' w' :=
  (state_any wk b m s h.x1).mono (fun _ _ ⟨q1, n, q2⟩ => ⟨q1, by rw [q2]; exact h.drew n⟩)
theorem tw_state2 {w1 wk : World} {b m b' m' : Nat} {s s' : Bk} (h : TW w1 b m b' m' s s' wk) : Calls Try.prog 12 #[.pointer (some ⟨b', 0, none⟩)] wk fun e w' => e = .returned (.tuple #[.int .i64 s'.st, .int .i64 s'.row, .int .i64 s'.unt]) ∧ TW w1 b m b' m' s s' w' :=
  (state_any wk b' m' s' h.x2).mono (fun _ _ ⟨q1, n, q2⟩ => ⟨q1, by rw [q2]; exact h.drew n⟩)
theorem tw_new {w1 w2 w3 : World} {s : Bk} (x : BX w2 (w1.heap.size + 1) w1.heap.size s) (q : Below w1.heap.size w1 w2) (y : BX w3 (w2.heap.size + 1) w2.heap.size s) (r : Below w2.heap.size w2 w3) : TW w1 (w1.heap.size + 1) w1.heap.size (w2.heap.size + 1) w2.heap.size s s w3 := by
  have := x.lt
  exact ⟨x.below r, y, by omega, by omega, by omega, by omega, bl3 q r, by omega, Nat.le_refl _, by omega, by omega⟩
end Go.Proofs.Ytddnagoljdhnlaa
