/- Retry: the statements' ints and works. -/
import Derived.Test.YtddnagoljdhnlaaXa7
import Derived.Test.YtddnagoljdhnlaaXb3
namespace Go.Proofs.Ytddnagoljdhnlaa
open Go.RowKit Go.Maps

theorem GS.slen {w : World} {p : Option Addr} {n cap : Nat} {l : List Int} (h : GS KI w (.slice p n cap) l) : n = l.length := by
  obtain ⟨p', c', e⟩ := h.form
  injection e
set_option maxHeartbeats 2000000 in
theorem ints_any (w : World) (v u : Value) (l k : List Int) (hv : GS KI w v l) (hu : GS KI w u k) (HL : l.length ≤ 1000) : Calls Try.prog 15 #[v, u] w fun e w' => e = .returned (.bool (decide (l = k))) ∧ Below w.heap.size w w' := by
  obtain ⟨p, c, rfl⟩ := hv.form
  obtain ⟨q, d, rfl⟩ := hu.form
  have BR : Hid (Below w.heap.size w w) := Below.refl _ _
  by_cases hlen : l.length = k.length
  · have A1 := hid (fun w' (hb : Below w.heap.size w w') j (hj : j < l.length) => GS.atI (hv.below hb) hj)
    have A2 := hid (fun w' (hb : Below w.heap.size w w') j (hj : j < k.length) => GS.atI (hu.below hb) hj)
    obtain ⟨m, hm⟩ : ∃ m, m = l.length := ⟨_, rfl⟩
    rw [← hlen, ← hm]
    rw [← hm] at HL
    have M1 : Hid (l.length = m) := hm.symm
    have M2 : Hid (k.length = m) := by show _ = _; omega
    clear hm hlen hv hu
    go_enter Try.func15, Try.ntmps15
    go_wp2
    go_loopw [13] (fun v13 wr => ∃ (j : Nat) (wk : World), v13 = .int .i64 j ∧ wk = wr ∧ j ≤ m ∧ Hid (l.take j = k.take j) ∧ Hid (Below w.heap.size w wk)) (fun v13 _ => m - (intOf v13).toNat)
    case atStart => exact ⟨0, _, rfl, rfl, Nat.zero_le _, rfl, BR⟩
    case round =>
      obtain ⟨j, wr, rfl, rfl, hj, HE, HB⟩ := hrel
      by_cases hlt : j < m
      · have j1 : j < l.length := by have := M1.out; omega
        have j2 : j < k.length := by have := M2.out; omega
        obtain ⟨X, o, e1, c1⟩ := A1.out wr HB.out j j1
        obtain ⟨Y, o2, e2, c2⟩ := A2.out wr HB.out j j2
        subst e1 e2
        have T1 : Hid (l.take (j + 1) = l.take j ++ [l[j]]) := List.take_succ_eq_append_getElem j1
        have T2 : Hid (k.take (j + 1) = k.take j ++ [k[j]]) := List.take_succ_eq_append_getElem j2
        have NE : Hid (l[j] ≠ k[j] → l ≠ k) := fun q e => q (by subst e; rfl)
        generalize l[j] = x at *
        generalize k[j] = y at *
        by_cases hxy : x = y
        · subst hxy
          have HN : Hid (l.take (j + 1) = k.take (j + 1)) := by show _ = _; rw [T1.out, T2.out, HE.out]
          go_wp2
          go_quiet (fail)
          go_wp2
          go_roundw
          case rel => exact ⟨j + 1, _, by go_num, rfl, by omega, HN, bl3 HB.out (drew_below _ _)⟩
          case measure => simp [intOf]; omega
        · have b1 : (x == y) = false := by simpa using hxy
          have b2 : (x != y) = true := by simpa using hxy
          have HF : Hid (decide (l = k) = false) := decide_eq_false (NE.out hxy)
          go_wp2
          go_quiet (fail)
          go_wp2
          go_ret
          exact ⟨ret_bool HF.out.symm, bl3 HB.out (drew_below _ _)⟩
      · obtain rfl : j = m := by omega
        have HF : Hid (decide (l = k) = true) := by
          have := HE.out
          rw [List.take_of_length_le (by rw [M1.out]; exact Nat.le_refl _), List.take_of_length_le (by rw [M2.out]; exact Nat.le_refl _)] at this
          exact decide_eq_true this
        go_wp2
        go_ret
        exact ⟨ret_bool HF.out.symm, HB.out⟩
  · have h1 : (l.length == k.length) = false := by simpa using hlen
    have h2 : ((l.length : Int) == (k.length : Int)) = false := by simp; omega
    have h3 : ((l.length : Int) != (k.length : Int)) = true := by simp; omega
    have HF : Hid (decide (l = k) = false) := decide_eq_false (fun e => hlen (by rw [e]))
    generalize l.length = m1 at *
    generalize k.length = m2 at *
    go_enter Try.func15, Try.ntmps15
    go_wp2
    go_ret
    exact ⟨ret_bool HF.out.symm, BR.out⟩
def exP : Pol := ⟨5, 10, 3, 50⟩
theorem exP_w : watN exP 2 = 30 ∧ watE exP 2 = 0 := ⟨by kernel_rfl, by kernel_rfl⟩
theorem exP_t : timL exP 0 = [0, 10, 40, 90, 140] ∧ timE exP 0 = 0 := ⟨by kernel_rfl, by kernel_rfl⟩
theorem exB_a : askN (newK 2 10) 0 = 1 ∧ askB (newK 2 10) 0 = true ∧ askE (newK 2 10) 0 = 0 := ⟨by kernel_rfl, by kernel_rfl, by kernel_rfl⟩
theorem exB_n : nwkB 2 10 = true := by kernel_rfl
set_option maxHeartbeats 8000000 in
theorem works_any (w : World) : Calls Try.prog 4 #[] w fun e w' => e = .returned (.bool true) ∧ Below w.heap.size w w' := by
  have WT := hid (fun w' => wait_any exP 2 w')
  rw [exP_w.1, exP_w.2] at WT
  have TM := hid (fun w' => times_any exP 0 w')
  rw [exP_t.1, exP_t.2] at TM
  have NB := hid (fun w' => newBreaker_ok 2 10 w' exB_n)
  have AS := hid (fun w' b m (h : BX w' b m (newK 2 10)) => ask_any w' b m (newK 2 10) 0 h (new_ki exB_n) (by decide) 0)
  rw [exB_a.1, exB_a.2.1, exB_a.2.2] at AS
  have LT : Hid (∀ w' : World, OwnG KI (w'.alloc (.cells #[.int .i64 0, .int .i64 10, .int .i64 40, .int .i64 90, .int .i64 140] 3)) w'.heap.size (.slice (some ⟨w'.heap.size, 0, none⟩) 5 5) [0, 10, 40, 90, 140]) := fun w' => OwnG.lit KI w' [0, 10, 40, 90, 140] _ rfl rfl (by show 5 ≤ maxLen; unfold maxLen; omega)
  have IN := hid (fun w' v u h1 h2 => ints_any w' v u [0, 10, 40, 90, 140] [0, 10, 40, 90, 140] h1 h2 (by decide))
  rw [decide_eq_true (p := ([0, 10, 40, 90, 140] : List Int) = [0, 10, 40, 90, 140]) rfl] at IN
  generalize hX : newK 2 10 = X at *
  simp only [polV, exP] at WT TM
  have BXF : Hid (∀ w1, _ → _) := fun w1 hb => box_far (w := w) (w1 := w1) (p := ⟨5, 10, 3, 50⟩) (T := 46) hb
  clear hX
  go_enter Try.func4, Try.ntmps4
  go_wp2_with (first | (go_at_call 13; refine (WT.out _).mono ?_; rintro e w1 ⟨rfl, hb⟩; have B1 := hid hb; obtain ⟨C0, C1, C2, C3⟩ := BXF.out _ hb; clear hb) | (go_at_call 14; refine (TM.out _).mono ?_; rintro e w2 ⟨v, rfl, ho, hb⟩; have B2 := hid hb; have O2 := hid ho; clear hb ho) | (go_at_call 5; refine (NB.out _).mono ?_; rintro e w3 ⟨rfl, hx, hb⟩; have B3 := hid hb; have X3 := hid hx; clear hb hx) | (go_at_call 8; refine (AS.out _ _ _ X3.out).mono ?_; rintro e w4 ⟨rfl, hx, hb⟩; have B4 := hid hb; clear hb hx))
  have B5 : Hid (Below w2.heap.size w2 w4) := B3.out.trans (B4.out.to (by omega) (Nat.le_refl _) B3.out.size)
  have G1 := hid ((O2.out.below (B5.out.alloc B5.out.size (.cells #[.int .i64 0, .int .i64 10, .int .i64 40, .int .i64 90, .int .i64 140] 3))).gs KI_ok.len)
  have G2 := hid ((LT.out w4).gs KI_ok.len)
  have B6 := hid (bl3 (bl3 (bl2 B1.out) B2.out) B5.out)
  refine (IN.out _ _ _ G1.out G2.out).mono ?_
  rintro e w5 ⟨rfl, hb⟩
  have B7 := hid hb
  clear hb
  go_wp2
  go_ret
  exact ⟨rfl, bl3 B6.out (bl2 B7.out)⟩
end Go.Proofs.Ytddnagoljdhnlaa
