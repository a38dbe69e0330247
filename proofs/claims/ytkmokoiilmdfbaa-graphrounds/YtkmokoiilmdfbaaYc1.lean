/- Graph: the base's SameInts, CopyInts, Has; told. -/
import Derived.Test.YtkmokoiilmdfbaaYb2
namespace Go.Proofs.Ytkmokoiilmdfbaa
open Go.RowKit

set_option maxHeartbeats 2000000 in
theorem sameInts_any (w : World) (v u : Value) (l k : List Int) (hv : GS KI w v l) (hu : GS KI w u k) (HL : l.length ≤ 140737488355328) : Calls Try.prog 15 #[v, u] w fun e w' => e = .returned (.bool (decide (l = k))) ∧ Below w.heap.size w w' := by
  obtain ⟨p, c, rfl⟩ := hv.form
  obtain ⟨q, d, rfl⟩ := hu.form
  have BR : Hid (Below w.heap.size w w) := Below.refl _ _
  by_cases hlen : l.length = k.length
  · have A1 := hid (fun w' (hb : Below w.heap.size w w') j (hj : j < l.length) => GS.atI (hv.below hb) hj)
    have A2 := hid (fun w' (hb : Below w.heap.size w w') j (hj : j < k.length) => GS.atI (hu.below hb) hj)
    obtain ⟨m, hm⟩ : ∃ m, m = l.length := ⟨_, rfl⟩
    rw [← hlen, ← hm]
    rw [← hm] at HL
    have M1 : Hid (l.length = m) := hm.symm
    have M2 : Hid (k.length = m) := by show _ = _; omega
    clear hm hlen hv hu
    go_enter Try.func15, Try.ntmps15
    go_wp2
    go_loopw [5] (fun v5 wr => ∃ (j : Nat) (wk : World), v5 = .int .i64 j ∧ wk = wr ∧ j ≤ m ∧ Hid (l.take j = k.take j) ∧ Hid (Below w.heap.size w wk)) (fun v5 _ => m - (intOf v5).toNat)
    case atStart => exact ⟨0, _, rfl, rfl, Nat.zero_le _, rfl, BR⟩
    case round =>
      obtain ⟨j, wr, rfl, rfl, hj, HE, HB⟩ := hrel
      by_cases hlt : j < m
      · have j1 : j < l.length := by have := M1.out; omega
        have j2 : j < k.length := by have := M2.out; omega
        obtain ⟨X, o, e1, c1⟩ := A1.out wr HB.out j j1
        obtain ⟨Y, o2, e2, c2⟩ := A2.out wr HB.out j j2
        subst e1 e2
        have T1 : Hid (l.take (j + 1) = l.take j ++ [l[j]]) := List.take_succ_eq_append_getElem j1
        have T2 : Hid (k.take (j + 1) = k.take j ++ [k[j]]) := List.take_succ_eq_append_getElem j2
        have NE : Hid (l[j] ≠ k[j] → l ≠ k) := fun q e => q (by subst e; rfl)
        generalize l[j] = x at *
        generalize k[j] = y at *
        by_cases hxy : x = y
        · subst hxy
          have HN : Hid (l.take (j + 1) = k.take (j + 1)) := by show _ = _; rw [T1.out, T2.out, HE.out]
          go_wp2
          go_quiet (fail)
          go_wp2
          go_roundw
          case rel => exact ⟨j + 1, _, by go_num, rfl, by omega, HN, bl3 HB.out (drew_below _ _)⟩
          case measure => simp [intOf]; omega
        · have b1 : (x == y) = false := by simpa using hxy
          have b2 : (x != y) = true := by simpa using hxy
          have HF : Hid (decide (l = k) = false) := decide_eq_false (NE.out hxy)
          go_wp2
          go_quiet (fail)
          go_wp2
          go_ret
          exact ⟨ret_bool HF.out.symm, bl3 HB.out (drew_below _ _)⟩
      · obtain rfl : j = m := by omega
        have HF : Hid (decide (l = k) = true) := by
          have := HE.out
          rw [List.take_of_length_le (by rw [M1.out]; exact Nat.le_refl _), List.take_of_length_le (by rw [M2.out]; exact Nat.le_refl _)] at this
          exact decide_eq_true this
        go_wp2
        go_ret
        exact ⟨ret_bool HF.out.symm, HB.out⟩
  · have h1 : (l.length == k.length) = false := by simpa using hlen
    have h2 : ((l.length : Int) == (k.length : Int)) = false := by simp; omega
    have h3 : ((l.length : Int) != (k.length : Int)) = true := by simp; omega
    have HF : Hid (decide (l = k) = false) := decide_eq_false (fun e => hlen (by rw [e]))
    generalize l.length = m1 at *
    generalize k.length = m2 at *
    go_enter Try.func15, Try.ntmps15
    go_wp2
    go_ret
    exact ⟨ret_bool HF.out.symm, BR.out⟩
theorem OwnG.sl {α : Type} {K : RK α} {w : World} {base : Nat} {v : Value} {l : List α} (h : OwnG K w base v l) : ∃ p c, v = .slice p l.length c ∧ OwnG K w base (.slice p l.length c) l := by
  obtain ⟨p, c, e, _⟩ := h.form
  exact ⟨p, c, e, by rw [← e]; exact h⟩
set_option maxHeartbeats 2000000 in
theorem copyInts_any (w : World) (v : Value) (l : List Int) (hv : GS KI w v l) (HL : l.length * 8 ≤ 140737488355328) : Calls Try.prog 10 #[v] w fun e w' => ∃ p c, e = .returned (.slice p l.length c) ∧ OwnG KI w' w.heap.size (.slice p l.length c) l ∧ Below w.heap.size w w' := by
  have BA : Hid (Below w.heap.size w (w.alloc (.cells #[] 3))) := bal _ _
  have O0 : Hid (OwnG KI (w.alloc (.cells #[] 3)) w.heap.size (.slice (some ⟨w.heap.size, 0, none⟩) 0 0) []) := OwnG.empty KI w
  have G0 := hid (hv.below BA.out)
  have LS : Hid ((([] : List Int).length + l.length) * KI.B ≤ 140737488355328) := by show (0 + _) * 8 ≤ _; omega
  have BS : Hid (w.heap.size ≤ (w.alloc (.cells #[] 3)).heap.size) := BA.out.size
  clear hv HL
  generalize hW : w.alloc (.cells #[] 3) = W at *
  go_enter Try.func10, Try.ntmps10
  go_wp2_with (at_builtin; refine append_gs KI KI_ok rfl (.tmp 3) (.tmp 4) 25 rfl w.heap.size Try.underlying25 W (.slice (some ⟨w.heap.size, 0, none⟩) 0 0) v [] l rfl rfl O0.out G0.out LS.out BS.out ?_; intro v5 w5 ho5 hb5 _; rw [List.nil_append] at ho5; obtain ⟨p5, c5, e5, o5⟩ := ho5.sl; subst e5; have O5 := hid o5; have B5 := hid hb5; clear ho5 hb5 o5)
  go_ret
  exact ⟨p5, c5, rfl, O5.out, BA.out.trans B5.out⟩
/-- Is a number among others? -/
theorem mem_take {l : List Int} {j : Nat} (hj : j < l.length) {x : Int} (h : x ∉ l.take j) (hx : l[j] ≠ x) : x ∉ l.take (j + 1) := by
  rw [List.take_succ_eq_append_getElem hj, List.mem_append, List.mem_singleton]
  rintro (e | e)
  · exact h e
  · exact hx e.symm
set_option maxHeartbeats 2000000 in
theorem has_any (w : World) (v : Value) (l : List Int) (x : Int) (hv : GS KI w v l) (HL : l.length ≤ 140737488355328) : Calls Try.prog 65 #[v, .int .i64 x] w fun e w' => e = .returned (.bool (decide (x ∈ l))) ∧ w' = w := by
  obtain ⟨p, c, rfl⟩ := hv.form
  have A1 := hid (fun j (hj : j < l.length) => GS.atI hv hj)
  obtain ⟨m, hm⟩ : ∃ m, m = l.length := ⟨_, rfl⟩
  rw [← hm]
  rw [← hm] at HL
  have M1 : Hid (l.length = m) := hm.symm
  clear hm hv
  go_enter Try.func65, Try.ntmps65
  go_wp2
  go_loopw [5] (fun v5 wr => ∃ (j : Nat), v5 = .int .i64 j ∧ wr = w ∧ j ≤ m ∧ Hid (x ∉ l.take j)) (fun v5 _ => m - (intOf v5).toNat)
  case atStart => exact ⟨0, rfl, rfl, Nat.zero_le _, by show _ ∉ _; simp⟩
  case round =>
    obtain ⟨j, rfl, hw, hj, HE⟩ := hrel
    subst hw
    by_cases hlt : j < m
    · have j1 : j < l.length := by have := M1.out; omega
      obtain ⟨X, o, e1, c1⟩ := A1.out j j1
      subst e1
      have NX := hid (mem_take j1 HE.out)
      have IN : Hid (l[j] ∈ l) := List.getElem_mem j1
      generalize l[j] = y at *
      by_cases hxy : y = x
      · subst hxy
        have HF : Hid (decide (y ∈ l) = true) := decide_eq_true IN.out
        go_wp2
        go_ret
        exact ⟨ret_bool HF.out.symm, rfl⟩
      · have b1 : (y == x) = false := by simpa using hxy
        have N2 := hid (NX.out hxy)
        go_wp2
        go_roundw
        case rel => exact ⟨j + 1, by go_num, by simp, by omega, N2⟩
        case measure => simp [intOf]; omega
    · obtain rfl : j = m := by omega
      have HF : Hid (decide (x ∈ l) = false) := by
        have := HE.out
        rw [List.take_of_length_le (by rw [M1.out]; exact Nat.le_refl _)] at this
        exact decide_eq_false this
      go_wp2
      go_ret
      exact ⟨ret_bool HF.out.symm, rfl⟩
def bF (bs : List Bool) (x : Nat) : Bool := bs.getD x false
set_option maxHeartbeats 4000000 in
theorem told_any (w : World) (v : Value) (bs : List Bool) (hv : GS KB w v bs) (HL : bs.length ≤ 4096) : Calls Try.prog 50 #[v] w fun e w' => ∃ p c, e = .returned (.slice p (nI (ris bs.length (bF bs))).length c) ∧ OwnG KI w' w.heap.size (.slice p (nI (ris bs.length (bF bs))).length c) (nI (ris bs.length (bF bs))) ∧ Below w.heap.size w w' := by
  obtain ⟨p, c, rfl⟩ := hv.form
  have A1 := hid (fun w' (hb : Below w.heap.size w w') j (hj : j < bs.length) => GS.atB (hv.below hb) hj)
  have BA : Hid (Below w.heap.size w (w.alloc (.cells #[] 3))) := bal _ _
  have O0 : Hid (OwnG KI (w.alloc (.cells #[] 3)) w.heap.size (.slice (some ⟨w.heap.size, 0, none⟩) 0 0) []) := OwnG.empty KI w
  have RZ := hid (fun j (hj : j < bs.length) => ris_succ j (bF bs))
  obtain ⟨m, hm⟩ : ∃ m, m = bs.length := ⟨_, rfl⟩
  rw [← hm]
  rw [← hm] at HL
  have M1 : Hid (bs.length = m) := hm.symm
  clear hm hv
  go_enter Try.func50, Try.ntmps50
  go_wp2
  generalize w.alloc (.cells #[] 3) = W at *
  go_loopw [3, 4] (fun v3 v4 wr => ∃ (j : Nat) (R : List Int) (q : Option Addr) (d : Nat) (wk : World), v4 = .int .i64 j ∧ v3 = .slice q R.length d ∧ wk = wr ∧ j ≤ m ∧ Hid (R = nI (ris j (bF bs))) ∧ Hid (OwnG KI wk w.heap.size (.slice q R.length d) R) ∧ Hid (Below w.heap.size w wk)) (fun _ v4 _ => m - (intOf v4).toNat)
  case atStart => exact ⟨0, [], _, _, _, rfl, rfl, rfl, Nat.zero_le _, rfl, O0, BA⟩
  case round =>
    obtain ⟨j, R, q, d, wr, rfl, rfl, rfl, hj, HR, HO, HB⟩ := hrel
    clear O0 BA
    by_cases hlt : j < m
    · have j1 : j < bs.length := by have := M1.out; omega
      obtain ⟨X, o, e1, c1⟩ := A1.out wr HB.out j j1
      subst e1
      have hbj : bF bs j = bs[j] := by simp [bF, List.getD, j1]
      have RS := hid (RZ.out j j1)
      rw [hbj] at RS
      have RL : R.length ≤ 4096 := by rw [HR.out, nI_len]; have := ris_len j (bF bs); omega
      have LS : Hid ((R.length + 1) * KI.B ≤ 140737488355328) := by show (_ + 1) * 8 ≤ _; omega
      generalize bs[j] = y at *
      clear hbj
      cases y with
      | true =>
        have R2 : Hid (R ++ [(j : Int)] = nI (ris (j + 1) (bF bs))) := by show _ = _; rw [RS.out, if_pos rfl, nI_app, HR.out]; rfl
        go_wp2_with (at_builtin; refine append_g KI KI_ok rfl (.tmp 16) (.tmp 18) 25 rfl w.heap.size Try.underlying25 wr _ _ (.slice q R.length d) R (j : Int) _ rfl HO.out wr.heap.size rfl rfl rfl LS.out HB.out.size ?_; intro g5 cp5 w5 ho5 hb5 _ _; have O5 := hid ho5; have B5 := hid (HB.out.trans hb5); clear ho5 hb5)
        go_roundw
        case rel => exact ⟨j + 1, R ++ [(j : Int)], some ⟨g5, 0, none⟩, cp5, _, by go_num, by rw [List.length_append]; rfl, rfl, by omega, R2, by rw [List.length_append]; exact O5.out, B5⟩
        case measure => simp [intOf]; omega
      | false =>
        have R2 : Hid (R = nI (ris (j + 1) (bF bs))) := by show _ = _; rw [RS.out, if_neg (by simp), HR.out]
        go_wp2
        go_roundw
        case rel => exact ⟨j + 1, R, _, _, _, by go_num, rfl, rfl, by omega, R2, HO, HB⟩
        case measure => simp [intOf]; omega
    · obtain rfl : j = m := by omega
      go_wp2
      go_ret
      rw [← HR.out]
      exact ⟨q, d, rfl, HO.out, HB.out⟩
end Go.Proofs.Ytkmokoiilmdfbaa
