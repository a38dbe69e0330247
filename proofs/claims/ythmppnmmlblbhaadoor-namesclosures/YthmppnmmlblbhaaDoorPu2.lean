/- Names, the reference: bound. -/
import Derived.Test.YthmppnmmlblbhaaDoorPu1
import Derived.Deep.QuietTactic
import Derived.BigQuiet
namespace Go.Proofs.YthmppnmmlblbhaaDoor
open Go.RowKit

/-- Of a right expression. -/
theorem begins_ok (v : Value) (l : List Opn) (w : World) (h : OS w v l) (ht : ∀ c ∈ l, c.text.size ≤ maxLen) (hlm : l.length ≤ 256) (hwh : wholeB l = true) :
    Calls Tryd.prog 78 #[v] w fun e w' => ∃ p cap, e = .returned (.tuple #[.slice p l.length cap, .bool true]) ∧ OwnG KI w' w.heap.size (.slice p l.length cap) ((whA (nsO l)).map (·.1)) ∧ Below w.heap.size w w' := by
  obtain ⟨ha, hw⟩ := wholeB_ok hwh
  obtain ⟨q0, hq0, hq1, hq2⟩ := beg_ok hw
  have hb : begO l 0 [] l = some q0 := by rw [begO_begS l l 0 [] ha]; exact hq0
  refine (begins_any v l w h ht hlm).mono ?_
  rintro e w' ⟨hb1, ⟨hno, _⟩ | ⟨q2, p1, c1, hq, rfl, ho1⟩⟩
  · rw [hb] at hno; cases hno
  · rw [hb] at hq
    injection hq with hq
    subst hq
    have hl : q0.1.length = l.length := by rw [hq2, List.length_map, whA_len, nsO_len]
    rw [hl, hq2] at ho1
    rw [hl, hq1]
    exact ⟨p1, c1, rfl, ho1, hb1⟩
theorem begins_bad (v : Value) (l : List Opn) (w : World) (h : OS w v l) (ht : ∀ c ∈ l, c.text.size ≤ maxLen) (hlm : l.length ≤ 256) (hwh : wholeB l = false) :
    Calls Tryd.prog 78 #[v] w fun e w' => ∃ p n cap, e = .returned (.tuple #[.slice p n cap, .bool false]) ∧ Below w.heap.size w w' := by
  refine (begins_any v l w h ht hlm).mono ?_
  rintro e w' ⟨hb1, ⟨hno, rfl⟩ | ⟨q2, p1, c1, hq, rfl, ho1⟩⟩
  · exact ⟨none, 0, 0, rfl, hb1⟩
  · have h1 := begO_walk l l 0 []
    rw [hq] at h1
    have hne : q2.2.length ≠ 1 := fun e => by
      rw [Option.map_some, e] at h1
      have : wholeB l = true := by unfold wholeB; exact decide_eq_true h1.symm
      rw [this] at hwh; cases hwh
    rw [decide_eq_false hne]
    exact ⟨_, _, _, rfl, hb1⟩
/-- Does the let at k bind the local at i, in the reference's words? -/
def bdB (l : List Opn) (i k : Nat) : Bool := decide ((opA l k).kind = 19) && (decide ((opA l k).text = (opA l i).text) && decide (frA (whA (nsO l)) ((k - 1 : Nat) : Int) ≤ i))
/-- Is it bound by one of the first k? -/
def fndK (l : List Opn) (i : Nat) : Nat → Bool
  | 0 => false
  | k + 1 => fndK l i k || (decide (i < k) && bdB l i k)
theorem fndK_iff (l : List Opn) (i : Nat) : ∀ k, fndK l i k = true ↔ ∃ j, i < j ∧ j < k ∧ bdB l i j = true
  | 0 => by simp [fndK]
  | k + 1 => by
    rw [fndK, Bool.or_eq_true, fndK_iff l i k, Bool.and_eq_true, decide_eq_true_eq]
    constructor
    · rintro (⟨j, a, b, c⟩ | ⟨a, b⟩)
      · exact ⟨j, a, by omega, c⟩
      · exact ⟨k, a, by omega, b⟩
    · rintro ⟨j, a, b, c⟩
      by_cases e : j = k
      · subst e; exact Or.inr ⟨a, c⟩
      · exact Or.inl ⟨j, a, by omega, c⟩
theorem fndK_low (l : List Opn) (i : Nat) : fndK l i (i + 1) = false := by
  cases h : fndK l i (i + 1) with
  | false => rfl
  | true => obtain ⟨j, a, b, _⟩ := (fndK_iff l i (i + 1)).1 h; omega
theorem boundB_fnd {l : List Opn} (h : wholeB l = true) : boundB l = true ↔ ∀ i, i < l.length → (opA l i).kind = 4 → fndK l i l.length = true := by
  rw [boundB_iff h]
  constructor
  · intro hb i hi h4
    obtain ⟨k, a, b, c, d, e⟩ := hb i hi h4
    exact (fndK_iff l i _).2 ⟨k, a, b, by unfold bdB; simp [c, d, e]⟩
  · intro hb i hi h4
    obtain ⟨k, a, b, c⟩ := (fndK_iff l i _).1 (hb i hi h4)
    unfold bdB at c
    simp only [Bool.and_eq_true, decide_eq_true_eq] at c
    exact ⟨k, a, b, c.1, c.2.1, c.2.2⟩
theorem ret_found {a : Bool} (h : a = true) : (!a) = false := by rw [h]; rfl
set_option maxHeartbeats 8000000 in
set_option maxRecDepth 100000 in
theorem rbound_any (v : Value) (l : List Opn) (w : World) (h : OS w v l) (ht : ∀ c ∈ l, c.text.size ≤ maxLen) (hlm : l.length ≤ 256) (hwh : wholeB l = true) :
    Calls Tryd.prog 79 #[v] w fun e w' => e = .returned (.bool (boundB l)) ∧ Below w.heap.size w w' := by
  have BG : Hid _ := begins_ok v l w h ht hlm hwh
  obtain ⟨p, cap, rfl⟩ := h.form
  have HS : Hid (OS w (.slice p l.length cap) l) := h
  have BT : Hid ((∀ i, i < l.length → (opA l i).kind = 4 → fndK l i l.length = true) → boundB l = true) := (boundB_fnd hwh).2
  have BF : Hid (∀ i, i < l.length → (opA l i).kind = 4 → fndK l i l.length = false → boundB l = false) := fun i a b c => by
    cases e : boundB l with
    | false => rfl
    | true => have := (boundB_fnd hwh).1 e i a b; rw [c] at this; cases this
  have HFl : Hid (((whA (nsO l)).map (·.1)).length = l.length) := by show _ = _; rw [List.length_map, whA_len, nsO_len]
  have HFg : Hid (∀ j, j < l.length → ((whA (nsO l)).map (·.1)).getD j 0 = frA (whA (nsO l)) (j : Int)) := fun j hj => by
    unfold frA
    have : j < (whA (nsO l)).length := by rw [whA_len, nsO_len]; exact hj
    simp [List.getD, List.getElem?_eq_getElem this]
  obtain ⟨FF, hFF⟩ : ∃ FF, FF = (whA (nsO l)).map (·.1) := ⟨_, rfl⟩
  rw [← hFF] at BG HFl HFg
  generalize boundB l = r at *
  clear h ht hwh hFF
  go_enter Tryd.func79, Tryd.ntmps79
  go_wp2_with fail
  refine Calls.mono BG.out ?_
  rintro e w1 ⟨p1, c1, rfl, ho1, hb1⟩
  have O1 : Hid (OwnG KI w1 w.heap.size (.slice p1 l.length c1) FF) := ho1
  have B1 : Hid (∀ n, Below w.heap.size w (w1.drewN n)) := fun n => ⟨hb1.os, hb1.tape, hb1.output, hb1.size, hb1.block⟩
  have HS1 : Hid (OS w1 (.slice p l.length cap) l) := HS.out.below hb1
  clear hb1 ho1 BG HS
  go_wp2
  go_loopw [5] (fun v5 wr => ∃ (i m : Nat), v5 = .int .i64 i ∧ wr = w1.drewN m ∧ i ≤ l.length ∧ Hid (∀ j, j < i → (opA l j).kind = 4 → fndK l j l.length = true)) (fun v5 _ => l.length - (intOf v5).toNat)
  case atStart => exact ⟨0, 0, rfl, rfl, Nat.zero_le _, fun j hj => by omega⟩
  case round =>
    obtain ⟨i, mm, rfl, rfl, hi, HI⟩ := hrel
    by_cases hil : i < l.length
    · obtain ⟨X, o, e1, x1, x2, x3, x4⟩ := HS1.out.atO hil
      obtain rfl : p = some ⟨X, o, none⟩ := e1
      rw [← opA_eq hil] at x1 x2 x3 x4
      by_cases k4 : (opA l i).kind = 4
      · have k4b : ((opA l i).kind != 4) = false := by rw [k4]; rfl
        go_wp2
        have F0 : Hid _ := fndK_low l i
        go_loopw [6, 7] (fun v6 v7 wr => ∃ (k m : Nat), v7 = .int .i64 k ∧ v6 = .bool (fndK l i k) ∧ wr = w1.drewN m ∧ i < k ∧ k ≤ l.length) (fun _ v7 _ => l.length - (intOf v7).toNat)
        case atStart => exact ⟨i + 1, mm, by go_num, by rw [F0.out], rfl, by omega, by omega⟩
        case round =>
          obtain ⟨k, m2, rfl, rfl, rfl, hik, hk⟩ := hrel
          clear F0
          by_cases hkl : k < l.length
          · obtain ⟨X2, o2, e2, z1, z2, z3, z4⟩ := HS1.out.atO hkl
            injection e2 with e2
            injection e2 with e2 e3 _
            subst e2 e3
            rw [← opA_eq hkl] at z1 z2 z3 z4
            have hN : fndK l i (k + 1) = (fndK l i k || bdB l i k) := by rw [fndK, decide_eq_true hik]; simp
            have HN : Hid _ := hN
            have HBD : Hid (bdB l i k = (decide ((opA l k).kind = 19) && (decide ((opA l k).text = (opA l i).text) && decide (frA (whA (nsO l)) ((k - 1 : Nat) : Int) ≤ i)))) := rfl
            obtain ⟨X1, o1, e1, cf⟩ := (O1.out.gs KI_ok.len).atI (k := k - 1) (by rw [HFl.out]; omega)
            obtain rfl : p1 = some ⟨X1, o1, none⟩ := e1
            have hf : FF[k - 1]'(by rw [HFl.out]; omega) = frA (whA (nsO l)) ((k - 1 : Nat) : Int) := by
              rw [← HFg.out (k - 1) (by omega)]; simp [List.getD, List.getElem?_eq_getElem (show k - 1 < FF.length by rw [HFl.out]; omega)]
            rw [hf] at cf
            generalize frA (whA (nsO l)) ((k - 1 : Nat) : Int) = fr at *
            have hk1 : (k : Int) - 1 = ((k - 1 : Nat) : Int) := by omega
            have hk2 : k - 1 < l.length := by omega
            obtain ⟨f0, hf0⟩ : ∃ f0, f0 = fndK l i k := ⟨_, rfl⟩
            rw [← hf0] at HN ⊢
            clear hN hf hf0
            by_cases c1 : (opA l k).kind = 19
            · have c1b : ((opA l k).kind == 19) = true := by rw [c1]; rfl
              by_cases c2 : (opA l k).text = (opA l i).text
              · have c2b : ((opA l k).text.toList == (opA l i).text.toList) = true := by rw [c2]; simp
                by_cases c3 : fr ≤ i
                · have c3b : decide (fr ≤ (i : Int)) = true := decide_eq_true c3
                  have HR : Hid (fndK l i (k + 1) = true) := by show _ = _; rw [HN.out, HBD.out]; simp [c1, c2, c3]
                  clear HN HBD
                  go_wp2
                  go_quiet (fail)
                  go_wp2
                  go_roundw
                  case rel => exact ⟨k + 1, _, by go_num, by rw [HR.out], rfl, by omega, by omega⟩
                  case measure => simp [intOf]; omega
                · have c3b : decide (fr ≤ (i : Int)) = false := decide_eq_false c3
                  have HR : Hid (fndK l i (k + 1) = f0) := by show _ = _; rw [HN.out, HBD.out]; simp [c3]
                  clear HN HBD
                  go_wp2
                  go_quiet (fail)
                  go_wp2
                  go_roundw
                  case rel => exact ⟨k + 1, _, by go_num, by rw [HR.out], rfl, by omega, by omega⟩
                  case measure => simp [intOf]; omega
              · have c2b : ((opA l k).text.toList == (opA l i).text.toList) = false := by rw [bytes_beq]; exact decide_eq_false c2
                have HR : Hid (fndK l i (k + 1) = f0) := by show _ = _; rw [HN.out, HBD.out]; simp [c2]
                clear HN HBD
                go_wp2
                go_quiet (fail)
                go_wp2
                go_roundw
                case rel => exact ⟨k + 1, _, by go_num, by rw [HR.out], rfl, by omega, by omega⟩
                case measure => simp [intOf]; omega
            · have c1b : ((opA l k).kind == 19) = false := by simpa using c1
              have HR : Hid (fndK l i (k + 1) = f0) := by show _ = _; rw [HN.out, HBD.out]; simp [c1]
              clear HN HBD
              go_wp2
              go_quiet (fail)
              go_wp2
              go_roundw
              case rel => exact ⟨k + 1, _, by go_num, by rw [HR.out], rfl, by omega, by omega⟩
              case measure => simp [intOf]; omega
          · have hke : k = l.length := by omega
            subst hke
            cases hfd : fndK l i l.length with
            | true =>
              have HI2 : Hid (∀ j, j < i + 1 → (opA l j).kind = 4 → fndK l j l.length = true) := fun j hj h4 => by
                by_cases e : j = i
                · subst e; exact hfd
                · exact HI.out j (by omega) h4
              clear HI hfd
              go_wp2
              go_roundw
              case rel => exact ⟨i + 1, _, by go_num, rfl, by omega, HI2⟩
              case measure => simp [intOf]; omega
            | false =>
              have hr := BF.out i hil k4 hfd
              subst hr
              clear HI hfd BF BT
              go_wp2
              go_ret
              exact ⟨rfl, B1.out _⟩
      · have k4b : ((opA l i).kind != 4) = true := by simpa using k4
        have HI2 : Hid (∀ j, j < i + 1 → (opA l j).kind = 4 → fndK l j l.length = true) := fun j hj h4 => by
          by_cases e : j = i
          · subst e; exact absurd h4 k4
          · exact HI.out j (by omega) h4
        clear HI
        go_wp2
        go_roundw
        case rel => exact ⟨i + 1, _, by go_num, rfl, by omega, HI2⟩
        case measure => simp [intOf]; omega
    · have hr := BT.out (fun j hj h4 => HI.out j (by omega) h4)
      subst hr
      clear HI BF BT
      go_wp2
      go_ret
      exact ⟨rfl, B1.out _⟩
end Go.Proofs.YthmppnmmlblbhaaDoor
