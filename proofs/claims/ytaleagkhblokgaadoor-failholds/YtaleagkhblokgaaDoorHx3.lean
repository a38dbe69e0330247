/- Failures: Parts on both sides; SameInts. -/
import Derived.Test.YtaleagkhblokgaaDoorHx2
namespace Go.Proofs.YtaleagkhblokgaaDoor
open Go.RowKit

def partE (l : List Cr) (k : Int) : Int := if chk l = 0 then (if 0 ≤ k ∧ k < l.length then 0 else 1) else chk l
def partL (l : List Cr) (k : Int) : List Int := if partE l k = 0 then ((whA l).getD k.toNat (0, [])).2 else []
theorem part_ok {l : List Cr} {k : Int} (h : partE l k = 0) : chk l = 0 ∧ 0 ≤ k ∧ k < l.length := by
  unfold partE at h
  split at h
  · split at h
    · rename_i h1 h2; exact ⟨h1, h2⟩
    · omega
  · rename_i h1; exact absurd h h1
/-- Numbers, and an error beside them. -/
def AnsI (w w' : World) (e : Ending) (P : List Int) (x : Int) : Prop := ∃ p cap, e = .returned (.tuple #[.slice p P.length cap, .int .i64 x]) ∧ IS w' (.slice p P.length cap) P ∧ Below w.heap.size w w'
theorem ansI_nil {w w' : World} {P : List Int} {x : Int} (hl : P = []) (b : Below w.heap.size w w') : AnsI w w' (.returned (.tuple #[.slice none 0 0, .int .i64 x])) P x := by
  subst hl; exact ⟨none, 0, rfl, Or.inl ⟨rfl, rfl⟩, b⟩
set_option maxHeartbeats 4000000 in
set_option maxRecDepth 100000 in
theorem parts_any (v : Value) (l : List Cr) (k : Int) (w : World) (h : CS w v l) (ht : ∀ c ∈ l, c.text.size ≤ maxLen) (hlm : l.length ≤ 1000000000000000) (hv : FV w) :
    Calls Tryd.prog 10 #[v, .int .i64 k] w fun e w' => AnsI w w' e (partL l k) (partE l k) := by
  have CK := check_any v l w h ht hv hlm
  obtain ⟨p, cap, rfl⟩ := h.form
  by_cases hc : chk l = 0
  · rw [hc] at CK
    by_cases hk : 0 ≤ k ∧ k < l.length
    · have e1 : partE l k = 0 := by unfold partE; rw [if_pos hc, if_pos hk]
      have e2 : partL l k = ((whA l).getD k.toNat (0, [])).2 := by unfold partL; rw [if_pos e1]
      rw [e1, e2]
      obtain ⟨n, rfl⟩ : ∃ n : Nat, k = n := ⟨k.toNat, by omega⟩
      have hn : n < l.length := by omega
      have WH : Hid (∀ w', Below w.heap.size w w' → _) := fun w' b => wholes_any (.slice p l.length cap) l w' (h.below b) hc
      have hl := (chk_ok hc).1
      obtain ⟨P, hP⟩ : ∃ P, P = ((whA l).getD ((n : Int)).toNat (0, [])).2 := ⟨_, rfl⟩
      rw [← hP]
      have HP : Hid (((whS 0 [] [] l).getD n (0, [])).2 = P) := by show _ = _; rw [hP]; rfl
      clear h ht hv hP
      go_enter Tryd.func10, Tryd.ntmps10
      go_wp2_with (first | (go_at_call 31; refine CK.mono ?_; rintro e w1 ⟨rfl, hb1⟩; have B1 : Hid (Below w.heap.size w w1) := hb1; clear hb1) | (go_at_call 36; refine (WH.out _ B1.out).mono ?_; rintro e w3 ⟨rfl, hb3, hwb, hwc⟩; obtain ⟨vp, c0, c1, hIS, hx⟩ := hwc n hn; rw [HP.out] at hIS; obtain ⟨pp, cp, rfl⟩ := hIS.form; have IS3 : Hid (IS w3 (.slice pp P.length cp) P) := hIS; have B3 : Hid (Below w.heap.size w w3) := B1.out.trans (hb3.mono B1.out.size); clear hb3 hwb hwc hIS hx c0))
      go_ret2
      exact ⟨pp, cp, rfl, IS3.out, B3.out⟩
    · have e1 : partE l k = 1 := by unfold partE; rw [if_pos hc, if_neg hk]
      have e2 : partL l k = [] := by unfold partL; rw [e1]; rfl
      rw [e1]
      have AN : Hid (∀ w', Below w.heap.size w w' → AnsI w w' (.returned (.tuple #[.slice none 0 0, .int .i64 1])) (partL l k) 1) := fun w' b => ansI_nil e2 b
      clear h ht hv
      by_cases h0 : k < 0
      · go_enter Tryd.func10, Tryd.ntmps10
        go_wp2_with (go_at_call 31; refine CK.mono ?_; rintro e w1 ⟨rfl, hb1⟩; have B1 : Hid (Below w.heap.size w w1) := hb1; clear hb1)
        go_ret2
        exact AN.out _ B1.out
      · have h1 : k ≥ (l.length : Int) := by omega
        have h0' : ¬ k < 0 := h0
        have h1' : (l.length : Int) ≤ k := h1
        go_enter Tryd.func10, Tryd.ntmps10
        go_wp2_with (go_at_call 31; refine CK.mono ?_; rintro e w1 ⟨rfl, hb1⟩; have B1 : Hid (Below w.heap.size w w1) := hb1; clear hb1)
        go_ret2
        exact AN.out _ B1.out
  · have e1 : partE l k = chk l := by unfold partE; rw [if_neg hc]
    have e2 : partL l k = [] := by unfold partL; rw [e1, if_neg hc]
    rw [e1]
    have AN : Hid (∀ w', Below w.heap.size w w' → AnsI w w' (.returned (.tuple #[.slice none 0 0, .int .i64 (chk l)])) (partL l k) (chk l)) := fun w' b => ansI_nil e2 b
    clear h ht hv
    generalize chk l = c at *
    have h1 : (c == 0) = false := by simpa using hc
    have h2 : (c != 0) = true := by simpa using hc
    go_enter Tryd.func10, Tryd.ntmps10
    go_wp2_with (go_at_call 31; refine CK.mono ?_; rintro e w1 ⟨rfl, hb1⟩; have B1 : Hid (Below w.heap.size w w1) := hb1; clear hb1)
    go_ret2
    exact AN.out _ B1.out
set_option maxHeartbeats 4000000 in
set_option maxRecDepth 100000 in
theorem rparts_any (v : Value) (l : List Cr) (k : Int) (w : World) (h : CS w v l) (ht : ∀ c ∈ l, c.text.size ≤ maxLen) (hlm : l.length ≤ 1000000000000000) :
    Calls Tryd.prog 11 #[v, .int .i64 k] w fun e w' => AnsI w w' e (partL l k) (partE l k) := by
  have CK := rcheck_any v l w h ht hlm
  obtain ⟨p, cap, rfl⟩ := h.form
  by_cases hc : chk l = 0
  · rw [hc] at CK
    by_cases hk : 0 ≤ k ∧ k < l.length
    · have e1 : partE l k = 0 := by unfold partE; rw [if_pos hc, if_pos hk]
      have e2 : partL l k = ((whA l).getD k.toNat (0, [])).2 := by unfold partL; rw [if_pos e1]
      rw [e1, e2]
      obtain ⟨n, rfl⟩ : ∃ n : Nat, k = n := ⟨k.toNat, by omega⟩
      have hn : n < l.length := by omega
      have hl := (chk_ok hc).1
      have WH : Hid (∀ w', Below w.heap.size w w' → _) := fun w' b => rparts_ok (.slice p l.length cap) l n w' (h.below b) ht hc hn
      rw [Int.toNat_natCast]
      generalize ((whA l).getD n (0, [])).2 = P at *
      clear h ht
      go_enter Tryd.func11, Tryd.ntmps11
      go_wp2_with (first | (go_at_call 37; refine CK.mono ?_; rintro e w1 ⟨rfl, hb1⟩; have B1 : Hid (Below w.heap.size w w1) := hb1; clear hb1) | (go_at_call 38; refine (WH.out _ B1.out).mono ?_; rintro e w3 ⟨p3, c3, rfl, hi3, hb3⟩))
      go_ret2
      exact ⟨p3, c3, rfl, hi3, B1.out.trans (hb3.mono B1.out.size)⟩
    · have e1 : partE l k = 1 := by unfold partE; rw [if_pos hc, if_neg hk]
      have e2 : partL l k = [] := by unfold partL; rw [e1]; rfl
      rw [e1]
      have AN : Hid (∀ w', Below w.heap.size w w' → AnsI w w' (.returned (.tuple #[.slice none 0 0, .int .i64 1])) (partL l k) 1) := fun w' b => ansI_nil e2 b
      clear h ht
      by_cases h0 : k < 0
      · go_enter Tryd.func11, Tryd.ntmps11
        go_wp2_with (go_at_call 37; refine CK.mono ?_; rintro e w1 ⟨rfl, hb1⟩; have B1 : Hid (Below w.heap.size w w1) := hb1; clear hb1)
        go_ret2
        exact AN.out _ B1.out
      · have h1 : k ≥ (l.length : Int) := by omega
        have h1' : (l.length : Int) ≤ k := h1
        go_enter Tryd.func11, Tryd.ntmps11
        go_wp2_with (go_at_call 37; refine CK.mono ?_; rintro e w1 ⟨rfl, hb1⟩; have B1 : Hid (Below w.heap.size w w1) := hb1; clear hb1)
        go_ret2
        exact AN.out _ B1.out
  · have e1 : partE l k = chk l := by unfold partE; rw [if_neg hc]
    have e2 : partL l k = [] := by unfold partL; rw [e1, if_neg hc]
    rw [e1]
    have AN : Hid (∀ w', Below w.heap.size w w' → AnsI w w' (.returned (.tuple #[.slice none 0 0, .int .i64 (chk l)])) (partL l k) (chk l)) := fun w' b => ansI_nil e2 b
    clear h ht
    generalize chk l = c at *
    have h1 : (c == 0) = false := by simpa using hc
    have h2 : (c != 0) = true := by simpa using hc
    go_enter Tryd.func11, Tryd.ntmps11
    go_wp2_with (go_at_call 37; refine CK.mono ?_; rintro e w1 ⟨rfl, hb1⟩; have B1 : Hid (Below w.heap.size w w1) := hb1; clear hb1)
    go_ret2
    exact AN.out _ B1.out
set_option maxHeartbeats 4000000 in
theorem sameInts_same (w : World) (v1 v2 : Value) (P : List Int) (h1 : IS w v1 P) (h2 : IS w v2 P) (hl : P.length ≤ 100000000000000000) :
    Calls Tryd.prog 12 #[v1, v2] w fun e w' => e = .returned (.bool true) ∧ ∃ n, w' = w.drewN n := by
  obtain ⟨p1, c1, rfl⟩ := h1.form
  obtain ⟨p2, c2, rfl⟩ := h2.form
  have A1 : Hid (IS w (.slice p1 P.length c1) P) := h1
  have A2 : Hid (IS w (.slice p2 P.length c2) P) := h2
  clear h1 h2
  go_enter Tryd.func12, Tryd.ntmps12
  go_wp2
  go_loopw [5] (fun i wr => ∃ k n : Nat, k ≤ P.length ∧ i = .int .i64 k ∧ wr = w.drewN n) (fun i _ => P.length - (intOf i).toNat)
  case atStart => exact ⟨0, 0, Nat.zero_le _, rfl, rfl⟩
  case round =>
    obtain ⟨k, n, hk, rfl, rfl⟩ := hrel
    by_cases hlt : k < P.length
    · obtain ⟨X1, o1, rfl, a1⟩ := A1.out.at hlt
      obtain ⟨X2, o2, rfl, a2⟩ := A2.out.at hlt
      generalize P.getD k 0 = y at *
      go_wp2
      go_quiet (fail)
      go_wp2
      all_goals
        go_roundw
        case rel => exact ⟨k + 1, _, by omega, by go_num, rfl⟩
        case measure => simp [intOf]; omega
    · go_wp2
      go_ret
      exact ⟨rfl, n, rfl⟩
end Go.Proofs.YtaleagkhblokgaaDoor
