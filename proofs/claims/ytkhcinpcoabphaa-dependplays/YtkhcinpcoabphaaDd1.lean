/- Depend: what the calls keep; among, ints. -/
import Derived.Test.YtkhcinpcoabphaaDc5
namespace Go.Proofs.Ytkhcinpcoabphaa
open Go.RowKit

theorem ret_int {k : IntKind} {a b : Int} (h : a = b) : Ending.returned (.int k a) = .returned (.int k b) := by rw [h]


/-- A number from 0 to n - 1. -/
def amF (x n : Int) : Int := (x.tmod n + n) % n
theorem tmod_in (x n : Int) (hn : 0 < n) : -n < x.tmod n ∧ x.tmod n < n := by
  have h1 := Int.tmod_lt_of_pos x hn
  refine ⟨?_, h1⟩
  have h2 := Int.tmod_lt_of_pos (-x) hn
  rw [Int.neg_tmod] at h2
  omega
theorem amF_bd (x n : Int) (hn : 0 < n) : 0 ≤ amF x n ∧ amF x n < n := ⟨Int.emod_nonneg _ (by omega), Int.emod_lt_of_pos _ hn⟩
set_option maxHeartbeats 2000000 in
theorem among_any (x n : Int) (hn : 0 < n ∧ n ≤ 1000) (w : World) : Calls Try.prog 12 #[.int .i64 x, .int .i64 n] w fun e w' => e = .returned (.int .i64 (amF x n)) ∧ w' = w := by
  have HA : Hid (amF x n = (x.tmod n + n) % n) := rfl
  obtain ⟨t0, t1⟩ := tmod_in x n hn.1
  have T2 : Hid ((x.tmod n + n).tmod n = (x.tmod n + n) % n) := Int.tmod_eq_emod_of_nonneg (by omega)
  have bd := amF_bd x n hn.1
  have hz : (n == 0) = false := by simp; omega
  have hz2 : ¬ n = 0 := by omega
  have hm1 : ¬ n = -1 := by omega
  have hm2 : (n == -1) = false := by simp; omega
  obtain ⟨hn1, hn2⟩ := hn
  go_enter Try.func12, Try.ntmps12
  go_wp2
  go_ret
  exact ⟨ret_int HA.out.symm, rfl⟩
set_option maxHeartbeats 2000000 in
theorem ints_any (w : World) (v u : Value) (l k : List Int) (hv : GS KI w v l) (hu : GS KI w u k) (HL : l.length ≤ 140737488355328) : Calls Try.prog 11 #[v, u] w fun e w' => e = .returned (.bool (decide (l = k))) ∧ Below w.heap.size w w' := by
  obtain ⟨p, c, rfl⟩ := hv.form
  obtain ⟨q, d, rfl⟩ := hu.form
  have BR : Hid (Below w.heap.size w w) := Below.refl _ _
  by_cases hlen : l.length = k.length
  · have A1 := hid (fun w' (hb : Below w.heap.size w w') j (hj : j < l.length) => GS.atI (hv.below hb) hj)
    have A2 := hid (fun w' (hb : Below w.heap.size w w') j (hj : j < k.length) => GS.atI (hu.below hb) hj)
    obtain ⟨m, hm⟩ : ∃ m, m = l.length := ⟨_, rfl⟩
    rw [← hlen, ← hm]
    rw [← hm] at HL
    have M1 : Hid (l.length = m) := hm.symm
    have M2 : Hid (k.length = m) := by show _ = _; omega
    clear hm hlen hv hu
    go_enter Try.func11, Try.ntmps11
    go_wp2
    go_loopw [13] (fun v13 wr => ∃ (j : Nat) (wk : World), v13 = .int .i64 j ∧ wk = wr ∧ j ≤ m ∧ Hid (l.take j = k.take j) ∧ Hid (Below w.heap.size w wk)) (fun v13 _ => m - (intOf v13).toNat)
    case atStart => exact ⟨0, _, rfl, rfl, Nat.zero_le _, rfl, BR⟩
    case round =>
      obtain ⟨j, wr, rfl, rfl, hj, HE, HB⟩ := hrel
      by_cases hlt : j < m
      · have j1 : j < l.length := by have := M1.out; omega
        have j2 : j < k.length := by have := M2.out; omega
        obtain ⟨X, o, e1, c1⟩ := A1.out wr HB.out j j1
        obtain ⟨Y, o2, e2, c2⟩ := A2.out wr HB.out j j2
        subst e1 e2
        have T1 : Hid (l.take (j + 1) = l.take j ++ [l[j]]) := List.take_succ_eq_append_getElem j1
        have T2 : Hid (k.take (j + 1) = k.take j ++ [k[j]]) := List.take_succ_eq_append_getElem j2
        have NE : Hid (l[j] ≠ k[j] → l ≠ k) := fun q e => q (by subst e; rfl)
        generalize l[j] = x at *
        generalize k[j] = y at *
        by_cases hxy : x = y
        · subst hxy
          have HN : Hid (l.take (j + 1) = k.take (j + 1)) := by show _ = _; rw [T1.out, T2.out, HE.out]
          go_wp2
          go_quiet (fail)
          go_wp2
          go_roundw
          case rel => exact ⟨j + 1, _, by go_num, rfl, by omega, HN, bl3 HB.out (drew_below _ _)⟩
          case measure => simp [intOf]; omega
        · have b1 : (x == y) = false := by simpa using hxy
          have b2 : (x != y) = true := by simpa using hxy
          have HF : Hid (decide (l = k) = false) := decide_eq_false (NE.out hxy)
          go_wp2
          go_quiet (fail)
          go_wp2
          go_ret
          exact ⟨ret_bool HF.out.symm, bl3 HB.out (drew_below _ _)⟩
      · obtain rfl : j = m := by omega
        have HF : Hid (decide (l = k) = true) := by
          have := HE.out
          rw [List.take_of_length_le (by rw [M1.out]; exact Nat.le_refl _), List.take_of_length_le (by rw [M2.out]; exact Nat.le_refl _)] at this
          exact decide_eq_true this
        go_wp2
        go_ret
        exact ⟨ret_bool HF.out.symm, HB.out⟩
  · have h1 : (l.length == k.length) = false := by simpa using hlen
    have h2 : ((l.length : Int) == (k.length : Int)) = false := by simp; omega
    have h3 : ((l.length : Int) != (k.length : Int)) = true := by simp; omega
    have HF : Hid (decide (l = k) = false) := decide_eq_false (fun e => hlen (by rw [e]))
    generalize l.length = m1 at *
    generalize k.length = m2 at *
    go_enter Try.func11, Try.ntmps11
    go_wp2
    go_ret
    exact ⟨ret_bool HF.out.symm, BR.out⟩

theorem tk_lt {t : Int} (h : tkB t = true) : t.toNat < 128 := by have h : 0 ≤ t ∧ t < 128 := by simpa [tkB] using h
                                                                 omega
theorem cl_lt {t : Int} (h : clB t = true) : t.toNat < 256 := by have h : 0 ≤ t ∧ t < 256 := by simpa [clB] using h
                                                                 omega
theorem begX_ok {X : Wb} (h : WI X) (t c : Int) : WI (begX X t c) := by
  unfold begX
  split
  · rename_i e
    obtain ⟨h1, h2, h3, h4, _⟩ := begE_ok e
    exact begW_ok h (tk_lt h1) (cl_lt h2) h3 h4
  · exact h
theorem begX_made (X : Wb) (t c : Int) : (begX X t c).made ≤ X.made + 1 := by
  unfold begX
  split
  · exact Nat.le_refl _
  · exact Nat.le_succ _
theorem wtE_ok {X : Wb} (hi : WI X) {t c : Int} (h : wtE X t c = 0) : tkB t = true ∧ clB c = true ∧ (X.w t.toNat).is = false ∧ (X.r c.toNat).is = true ∧ ¬ ∃ l, Cir X t.toNat c.toNat l := by
  unfold wtE at h
  by_cases h1 : askE X t c = 0
  · rw [if_pos h1] at h
    obtain ⟨a1, a2, a3⟩ := askE_ok h1
    cases h4 : (X.r c.toNat).is with
    | false => rw [h4] at h; cases h
    | true =>
      rw [h4] at h
      have h : (if cirW X t.toNat c.toNat = [] then (0 : Int) else 140) = 0 := h
      split at h
      · rename_i e
        refine ⟨a1, a2, a3, rfl, fun ⟨l, hl⟩ => ?_⟩
        rw [cirW_eq hi hl] at e
        exact hl.way.ne e
      · cases h
  · rw [if_neg h1] at h; exact absurd h h1
theorem wtX_ok {X : Wb} (h : WI X) (t c : Int) : WI (wtX X t c) := by
  unfold wtX
  split
  · rename_i e
    obtain ⟨h1, h2, h3, h4, h5⟩ := wtE_ok h e
    exact waiW_ok h (tk_lt h1) h3 h4 h5
  · exact h
theorem wtX_made (X : Wb) (t c : Int) : (wtX X t c).made ≤ X.made + 1 := by
  unfold wtX
  split
  · exact Nat.le_refl _
  · exact Nat.le_succ _
theorem wakX_ok {X : Wb} (h : WI X) (t : Int) : WI (wakX X t) := by
  unfold wakX
  split
  · rename_i e
    have h1 : tkB t = true := by
      unfold wakE at e
      cases h1 : tkB t with
      | true => rfl
      | false => rw [h1] at e; cases e
    exact wakW_ok h (tk_lt h1)
  · exact h
theorem wakX_made (X : Wb) (t : Int) : (wakX X t).made = X.made := by
  unfold wakX
  split <;> rfl
theorem endX_ok {X : Wb} (h : WI X) (t : Int) : WI (endX X t) := by
  unfold endX
  split
  · rename_i e
    obtain ⟨_, h2, h3⟩ := endE_ok e
    exact end_ok h h2 h3
  · exact h
theorem endX_made {X : Wb} (h : WI X) (t : Int) : (endX X t).made = X.made := by
  unfold endX
  split
  · exact (wakL_ok h (l := wai X (endC X t)) (fun i hi => wai_lt h hi)).2.2.2
  · rfl
/-- A web behind a law's calls. -/
structure PW (w0 w : World) (b : Nat) (X : Wb) (m : Nat) : Prop where
  wx : WX w b X
  wi : WI X
  ge : w0.heap.size ≤ b
  bl : Below w0.heap.size w0 w
  md : X.made ≤ m
theorem PW.lt {w0 w : World} {b : Nat} {X : Wb} {m : Nat} (h : PW w0 w b X m) : b < w.heap.size := h.wx.lt
theorem PW.below {w0 w w' : World} {b : Nat} {X : Wb} {m : Nat} (h : PW w0 w b X m) (k : Below w.heap.size w w') : PW w0 w' b X m := ⟨h.wx.below k, h.wi, h.ge, bl3 h.bl k, h.md⟩
theorem PW.up {w0 w : World} {b : Nat} {X : Wb} {m m' : Nat} (h : PW w0 w b X m) (k : m ≤ m') : PW w0 w b X m' := ⟨h.wx, h.wi, h.ge, h.bl, Nat.le_trans h.md k⟩
theorem But.toB {w0 w w' : World} {b : Nat} (h : But (fun x => x = b) w w') (k : Below w0.heap.size w0 w) (hb : w0.heap.size ≤ b) : Below w0.heap.size w0 w' :=
  ⟨h.os.trans k.os, h.tape.trans k.tape, h.output.trans k.output, Nat.le_trans k.size h.size, fun x hx => (h.block x (Nat.lt_of_lt_of_le hx k.size) (fun e => by have e : x = b := e; omega)).trans (k.block x hx)⟩
theorem new_pw (w : World) : Calls Try.prog 5 #[] w fun e w' => e = .returned (.pointer (some ⟨w.heap.size, 0, none⟩)) ∧ PW w w' w.heap.size webO 0 := by
  refine (new_any w).mono ?_
  rintro e w' ⟨rfl, h1, h2⟩
  exact ⟨rfl, h1, webO_ok, Nat.le_refl _, h2, Nat.le_refl _⟩
theorem begin_pw {w0 w : World} {b : Nat} {X : Wb} {m : Nat} (h : PW w0 w b X m) (hm : m ≤ 4611686018427387904) (t c : Int) : Calls Try.prog 8 #[.pointer (some ⟨b, 0, none⟩), .int .i64 t, .int .i64 c] w fun e w' => e = .returned (.int .i64 (begE X t c)) ∧ PW w0 w' b (begX X t c) (m + 1) ∧ But (fun x => x = b) w w' := by
  refine (begin_any w b X h.wx h.wi (Nat.le_trans h.md hm) t c).mono ?_
  rintro e w' ⟨rfl, h1, h2⟩
  exact ⟨rfl, ⟨h1, begX_ok h.wi t c, h.ge, h2.toB h.bl h.ge, by have := begX_made X t c; have := h.md; omega⟩, h2⟩
theorem wait_pw {w0 w : World} {b : Nat} {X : Wb} {m : Nat} (h : PW w0 w b X m) (hm : m ≤ 4611686018427387904) (t c : Int) : Calls Try.prog 9 #[.pointer (some ⟨b, 0, none⟩), .int .i64 t, .int .i64 c] w fun e w' => ∃ q cc, e = .returned (.tuple #[.slice q (wtL X t c).length cc, .int .i64 (wtE X t c)]) ∧ OwnG KI w' w.heap.size (.slice q (wtL X t c).length cc) (nI (wtL X t c)) ∧ PW w0 w' b (wtX X t c) (m + 1) ∧ But (fun x => x = b) w w' := by
  refine (wait_any w b X h.wx h.wi (Nat.le_trans h.md hm) t c).mono ?_
  rintro e w' ⟨q, cc, rfl, ho, h1, h2⟩
  exact ⟨q, cc, rfl, ho, ⟨h1, wtX_ok h.wi t c, h.ge, h2.toB h.bl h.ge, by have := wtX_made X t c; have := h.md; omega⟩, h2⟩
theorem wake_pw {w0 w : World} {b : Nat} {X : Wb} {m : Nat} (h : PW w0 w b X m) (t : Int) : Calls Try.prog 18 #[.pointer (some ⟨b, 0, none⟩), .int .i64 t] w fun e w' => e = .returned (.int .i64 (wakE X t)) ∧ PW w0 w' b (wakX X t) m ∧ But (fun x => x = b) w w' := by
  refine (wake_any w b X h.wx h.wi t).mono ?_
  rintro e w' ⟨rfl, h1, h2⟩
  exact ⟨rfl, ⟨h1, wakX_ok h.wi t, h.ge, h2.toB h.bl h.ge, by rw [wakX_made]; exact h.md⟩, h2⟩
theorem end_pw {w0 w : World} {b : Nat} {X : Wb} {m : Nat} (h : PW w0 w b X m) (t : Int) : Calls Try.prog 14 #[.pointer (some ⟨b, 0, none⟩), .int .i64 t] w fun e w' => ∃ q cc, e = .returned (.tuple #[.int .i64 (endC X t), .slice q (endL X t).length cc, .int .i64 (endE X t)]) ∧ OwnG KI w' w.heap.size (.slice q (endL X t).length cc) (nI (endL X t)) ∧ PW w0 w' b (endX X t) m ∧ But (fun x => x = b) w w' := by
  refine (end_any w b X h.wx h.wi t).mono ?_
  rintro e w' ⟨q, cc, rfl, ho, h1, h2⟩
  exact ⟨q, cc, rfl, ho, ⟨h1, endX_ok h.wi t, h.ge, h2.toB h.bl h.ge, by rw [endX_made h.wi]; exact h.md⟩, h2⟩
theorem ask_pw {w0 w : World} {b : Nat} {X : Wb} {m : Nat} (h : PW w0 w b X m) (t c : Int) : Calls Try.prog 10 #[.pointer (some ⟨b, 0, none⟩), .int .i64 t, .int .i64 c] w fun e w' => ∃ q cc, e = .returned (.tuple #[.slice q (askL X t c).length cc, .int .i64 (askE X t c)]) ∧ OwnG KI w' w.heap.size (.slice q (askL X t c).length cc) (nI (askL X t c)) ∧ PW w0 w' b X m ∧ Below w.heap.size w w' := by
  refine (ask_any w b X h.wx h.wi t c).mono ?_
  rintro e w' ⟨q, cc, rfl, ho, h2⟩
  exact ⟨q, cc, rfl, ho, h.below h2, h2⟩
theorem clone_pw {w0 w : World} {b : Nat} {X : Wb} {m : Nat} (h : PW w0 w b X m) : Calls Try.prog 20 #[.pointer (some ⟨b, 0, none⟩)] w fun e w' => e = .returned (.pointer (some ⟨w.heap.size, 0, none⟩)) ∧ PW w0 w' w.heap.size X m ∧ Below w.heap.size w w' := by
  refine (clone_any w b X h.wx h.wi).mono ?_
  rintro e w' ⟨rfl, h1, h2⟩
  exact ⟨rfl, ⟨h1, h.wi, h.bl.size, bl3 h.bl h2, h.md⟩, h2⟩
end Go.Proofs.Ytkhcinpcoabphaa
