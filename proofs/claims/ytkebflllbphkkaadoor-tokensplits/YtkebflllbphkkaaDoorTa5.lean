/- Tokens: a new one. -/
import Derived.Test.YtkebflllbphkkaaDoorTq6
import Derived.Deep.RegionHeld3
import Derived.Test.YtkebflllbphkkaaDoorTa4
namespace Go.Proofs.YtkebflllbphkkaaDoor
open Go.RowKit

set_option maxHeartbeats 1000000 in
theorem tsmall_any (c : UInt8) (w : World) : Calls Tryd.prog 59 #[.int .u8 (c.toNat : Int)] w fun e w' => e = .returned (.bool (isSm c)) ∧ w' = w := by
  have hc : (c.toNat : Int) ≤ 255 := by have := UInt8.toNat_lt c; omega
  have H : Hid (isSm c = decide (97 ≤ (c.toNat : Int) ∧ (c.toNat : Int) ≤ 122)) := rfl
  generalize isSm c = r at *
  generalize (c.toNat : Int) = x at *
  by_cases h1 : 97 ≤ x
  · by_cases h2 : x ≤ 122
    · go_enter Tryd.func59, Tryd.ntmps59
      go_wp2
      go_ret
      exact ⟨ret_bool (by rw [H.out]; simp [h1, h2]), rfl⟩
    · go_enter Tryd.func59, Tryd.ntmps59
      go_wp2
      go_ret
      exact ⟨ret_bool (by rw [H.out]; simp [h2]), rfl⟩
  · go_enter Tryd.func59, Tryd.ntmps59
    go_wp2
    go_ret
    exact ⟨ret_bool (by rw [H.out]; simp; omega), rfl⟩
set_option maxHeartbeats 1000000 in
theorem tdigit_any (c : UInt8) (w : World) : Calls Tryd.prog 60 #[.int .u8 (c.toNat : Int)] w fun e w' => e = .returned (.bool (isDg c)) ∧ w' = w := by
  have hc : (c.toNat : Int) ≤ 255 := by have := UInt8.toNat_lt c; omega
  have H : Hid (isDg c = decide (48 ≤ (c.toNat : Int) ∧ (c.toNat : Int) ≤ 57)) := rfl
  generalize isDg c = r at *
  generalize (c.toNat : Int) = x at *
  by_cases h1 : 48 ≤ x
  · by_cases h2 : x ≤ 57
    · go_enter Tryd.func60, Tryd.ntmps60
      go_wp2
      go_ret
      exact ⟨ret_bool (by rw [H.out]; simp [h1, h2]), rfl⟩
    · go_enter Tryd.func60, Tryd.ntmps60
      go_wp2
      go_ret
      exact ⟨ret_bool (by rw [H.out]; simp [h2]), rfl⟩
  · go_enter Tryd.func60, Tryd.ntmps60
    go_wp2
    go_ret
    exact ⟨ret_bool (by rw [H.out]; simp; omega), rfl⟩
theorem isPt_or (c : UInt8) : isPt c = (isSm c || isDg c || decide ((c.toNat : Int) = 95)) := by
  unfold isPt isSm isDg
  rw [Bool.eq_iff_iff]
  simp [or_assoc]
set_option maxHeartbeats 4000000 in
theorem tname_any (s : ByteArray) (w : World) (hs : s.size ≤ maxLen) : Calls Tryd.prog 44 #[.string s] w fun e w' => e = .returned (.bool (localB s.data.toList)) ∧ w' = w := by
  unfold maxLen at hs
  have SM := fun c => tsmall_any c w
  have DG := fun c => tdigit_any c w
  by_cases hz : s.size = 0
  · obtain rfl := bytes_nil hz
    clear SM DG
    go_enter Tryd.func44, Tryd.ntmps44
    go_wp2
    go_ret
    exact ⟨ret_bool rfl, rfl⟩
  have h0 : 0 < s.size := by omega
  obtain ⟨hn1, hn2⟩ := bytes_ne h0
  have HC : Hid (s.data.toList = s[0] :: s.data.toList.drop 1) := bytes_cons h0
  by_cases hl : 24 < s.size
  · have HR : Hid (localB s.data.toList = false) := by show _ = _; unfold localB; rw [decide_eq_false (by simp; omega)]; rfl
    have hl2 : (24 : Int) < (s.size : Int) := by omega
    clear SM DG
    go_enter Tryd.func44, Tryd.ntmps44
    go_wp2
    go_ret
    exact ⟨ret_bool HR.out.symm, rfl⟩
  have hl2 : ¬ (24 : Int) < (s.size : Int) := by omega
  cases hsm : isSm s[0] with
  | false =>
    have HR : Hid (localB s.data.toList = false) := by show _ = _; unfold localB; rw [HC.out, wordB_cons_neg hsm]; simp
    have S0 := SM s[0]
    rw [hsm] at S0
    clear SM DG
    go_enter Tryd.func44, Tryd.ntmps44
    go_wp2_with (go_at_call 59; refine S0.mono ?_; rintro e w2 ⟨rfl, hw2⟩; subst w2)
    go_ret
    exact ⟨ret_bool HR.out.symm, rfl⟩
  | true =>
    have S0 := hid (SM s[0])
    rw [hsm] at S0
    have HR : Hid (localB s.data.toList = decide (ptLen s.data.toList = s.size)) := by
      show _ = _
      unfold localB
      rw [decide_eq_true (by simp; omega), Bool.true_and, HC.out, wordB_cons_pos hsm, ptLen_cons_pos (isSm_pt hsm)]
      refine decide_eq_decide.2 ?_
      have : (s.data.toList.drop 1).length = s.size - 1 := by simp
      omega
    have SM2 : Hid (∀ c, Calls Tryd.prog 59 #[.int .u8 (c.toNat : Int)] w fun e w' => e = .returned (.bool (isSm c)) ∧ w' = w) := SM
    have DG2 : Hid (∀ c, Calls Tryd.prog 60 #[.int .u8 (c.toNat : Int)] w fun e w' => e = .returned (.bool (isDg c)) ∧ w' = w) := DG
    clear SM DG hsm
    go_enter Tryd.func44, Tryd.ntmps44
    go_wp2_with (go_at_call 59; refine S0.out.mono ?_; rintro e w2 ⟨rfl, hw2⟩; subst w2)
    go_loop [19] (fun i => ∃ k : Nat, k ≤ s.size ∧ i = .int .i64 k ∧ Hid (ptLen s.data.toList = k + ptLen (s.data.toList.drop k))) (fun i => s.size - (intOf i).toNat)
    case atStart => exact ⟨0, Nat.zero_le _, rfl, by show _ = _; simp⟩
    case round =>
      obtain ⟨k, hk, rfl, HK⟩ := hrel
      by_cases hlt : k < s.size
      · have HD : Hid (s.data.toList.drop k = s[k] :: s.data.toList.drop (k + 1)) := drop_cons s k hlt
        have hpo := isPt_or s[k]
        have A1 := hid (SM2.out s[k])
        have A2 := hid (DG2.out s[k])
        have HPL := hid (ptLen_le (s.data.toList.drop (k + 1)))
        have BAD : Hid (isPt s[k] = false → localB s.data.toList = false) := fun q => by
          rw [HR.out, HK.out, HD.out, ptLen_cons_neg q]
          simp; omega
        have GOOD : Hid (isPt s[k] = true → ptLen s.data.toList = k + 1 + ptLen (s.data.toList.drop (k + 1))) := fun q => by
          rw [HK.out, HD.out, ptLen_cons_pos q]; omega
        generalize isPt s[k] = pt at *
        cases hs1 : isSm s[k] with
        | true =>
          rw [hs1] at A1 hpo
          have N1 := hid (GOOD.out (by rw [hpo]; rfl))
          clear hpo BAD GOOD HK HD hs1 A2
          go_wp2_with (go_at_call 59; refine A1.out.mono ?_; rintro e w2 ⟨rfl, hw2⟩; subst w2)
          go_round
          case rel => exact ⟨k + 1, by omega, by go_num, N1⟩
          case measure => simp [intOf]; omega
        | false =>
          rw [hs1] at A1 hpo
          cases hs2 : isDg s[k] with
          | true =>
            rw [hs2] at A2 hpo
            have N1 := hid (GOOD.out (by rw [hpo]; rfl))
            clear hpo BAD GOOD HK HD hs1 hs2
            go_wp2_with (first | (go_at_call 59; refine A1.out.mono ?_; rintro e w2 ⟨rfl, hw2⟩; subst w2) | (go_at_call 60; refine A2.out.mono ?_; rintro e w2 ⟨rfl, hw2⟩; subst w2))
            go_round
            case rel => exact ⟨k + 1, by omega, by go_num, N1⟩
            case measure => simp [intOf]; omega
          | false =>
            rw [hs2] at A2 hpo
            by_cases h9 : (s[k].toNat : Int) = 95
            · have N1 := hid (GOOD.out (by rw [hpo]; simp [h9]))
              have h9b : ((s[k].toNat : Int) == 95) = true := by simpa using h9
              have h9c : ((s[k].toNat : Int) != 95) = false := by simpa using h9
              clear h9 hpo BAD GOOD HK HD hs1 hs2
              go_wp2_with (first | (go_at_call 59; refine A1.out.mono ?_; rintro e w2 ⟨rfl, hw2⟩; subst w2) | (go_at_call 60; refine A2.out.mono ?_; rintro e w2 ⟨rfl, hw2⟩; subst w2))
              go_round
              case rel => exact ⟨k + 1, by omega, by go_num, N1⟩
              case measure => simp [intOf]; omega
            · have N1 := hid (BAD.out (by rw [hpo]; simp [h9]))
              have h9b : ((s[k].toNat : Int) == 95) = false := by simpa using h9
              have h9c : ((s[k].toNat : Int) != 95) = true := by simpa using h9
              clear hpo BAD GOOD HK HD hs1 hs2 HR
              go_wp2_with (first | (go_at_call 59; refine A1.out.mono ?_; rintro e w2 ⟨rfl, hw2⟩; subst w2) | (go_at_call 60; refine A2.out.mono ?_; rintro e w2 ⟨rfl, hw2⟩; subst w2))
              go_ret
              exact ⟨ret_bool N1.out.symm, rfl⟩
      · have FIN : Hid (localB s.data.toList = true) := by
          show _ = _
          rw [HR.out, HK.out, drop_end s k (by omega), decide_eq_true_eq]
          show k + 0 = s.size
          omega
        clear HK HR
        go_wp2
        go_ret
        exact ⟨ret_bool FIN.out.symm, rfl⟩
theorem localB_size {s : ByteArray} (h : localB s.data.toList = true) : s.size ≤ 24 := by
  unfold localB at h
  rw [Bool.and_eq_true] at h
  have := h.1
  simpa using this
end Go.Proofs.YtkebflllbphkkaaDoor
namespace Go.Proofs.YtkebflllbphkkaaDoor
open Go.RowKit

def newAb (T : Tr) (l : List Nat) : Nat → Nat := l.foldl (fun ab p => allW (addW ab p) (T.n p).ab) (fun _ => 0)
theorem newAb_snoc (T : Tr) (l : List Nat) (p : Nat) : newAb T (l ++ [p]) = allW (addW (newAb T l) p) (T.n p).ab := by unfold newAb; rw [List.foldl_append]; rfl
theorem newAb_lt {T : Tr} (hw : ∀ p k, p < T.ns.length → (T.n p).ab k < 18446744073709551616) (l : List Nat) (hl : ∀ p ∈ l, p < T.ns.length) (k : Nat) : newAb T l k < 18446744073709551616 := by
  have : ∀ (l : List Nat) (ab : Nat → Nat), (∀ p ∈ l, p < T.ns.length) → (∀ k, ab k < 18446744073709551616) → ∀ k, (l.foldl (fun ab p => allW (addW ab p) (T.n p).ab) ab) k < 18446744073709551616 := fun l => by
    induction l with
    | nil => intro ab _ h k; exact h k
    | cons x r ih =>
      intro ab hr h k
      rw [List.foldl_cons]
      exact ih _ (fun p hp => hr p (List.mem_cons_of_mem _ hp)) (fun j => allW_lt (fun k => addW_lt h x k) (fun k => hw x k (hr x (List.mem_cons_self ..))) j) k
  exact this l _ hl (fun _ => by decide) k
theorem newAb_has {T : Tr} (l : List Nat) (a : Nat) : hasW (newAb T l) a = true ↔ ∃ p ∈ l, a = p ∨ T.up p a = true := by
  have : ∀ (l : List Nat) (ab : Nat → Nat), hasW (l.foldl (fun ab p => allW (addW ab p) (T.n p).ab) ab) a = true ↔ hasW ab a = true ∨ ∃ p ∈ l, a = p ∨ T.up p a = true := fun l => by
    induction l with
    | nil => intro ab; simp
    | cons x r ih =>
      intro ab
      rw [List.foldl_cons, ih, hasW_all, hasW_add]
      constructor
      · rintro (h | ⟨p, hp, h⟩)
        · simp only [Bool.or_eq_true, decide_eq_true_eq] at h
          rcases h with (h | h) | h
          · exact Or.inl h
          · exact Or.inr ⟨x, List.mem_cons_self .., Or.inl h⟩
          · exact Or.inr ⟨x, List.mem_cons_self .., Or.inr h⟩
        · exact Or.inr ⟨p, List.mem_cons_of_mem _ hp, h⟩
      · rintro (h | ⟨p, hp, h⟩)
        · left; simp [h]
        · rcases List.mem_cons.1 hp with e | e
          · subst e
            left
            rcases h with h | h
            · subst h; simp
            · have h2 : hasW (T.n p).ab a = true := h
              simp [h2]
          · exact Or.inr ⟨p, e, h⟩
  unfold newAb
  rw [this]
  constructor
  · rintro (h | h)
    · unfold hasW at h; simp at h
    · exact h
  · exact Or.inr
theorem NB.cells {w : World} {X : Nat} {nm : ByteArray} {ab : Nat → Nat} {til rk bw : Int} {wv : Value} (h : NB w X nm ab til rk bw wv) : w.cell? ⟨X, 0, none⟩ = some (.string nm) ∧ w.cell? ⟨X, 1, none⟩ = some (.int .u64 (ab 0)) ∧ w.cell? ⟨X, 2, none⟩ = some (.int .u64 (ab 1)) ∧ w.cell? ⟨X, 3, none⟩ = some (.int .u64 (ab 2)) ∧ w.cell? ⟨X, 4, none⟩ = some (.int .u64 (ab 3)) ∧ w.cell? ⟨X, 5, none⟩ = some (.int .i64 til) ∧ w.cell? ⟨X, 6, none⟩ = some (.int .i64 rk) ∧ w.cell? ⟨X, 7, none⟩ = some (.int .i64 bw) ∧ w.cell? ⟨X, 8, none⟩ = some wv := by
  refine ⟨?_, ?_, ?_, ?_, ?_, ?_, ?_, ?_, ?_⟩ <;> (rw [cell_of_row _ _ _ _ _ _ h]; rfl)
/-- What newNode reads of the tree. -/
def NRd (w : World) (b : Nat) (nv : Value) (T : Tr) : Prop := ∀ w', Below w.heap.size w w' → w'.cell? ⟨b, 1, none⟩ = some nv ∧ ∀ p, p < T.ns.length → ∃ Y cap, nv = .slice (some ⟨Y, 0, none⟩) T.ns.length cap ∧ AB w' Y (p * 9 + 1) (T.n p).ab
set_option maxHeartbeats 16000000 in
set_option maxRecDepth 100000 in
theorem newNode_any (w : World) (b : Nat) (nv : Value) (T : Tr) (h : NRd w b nv T) (hnl : T.ns.length ≤ 256) (hwdT : ∀ p k, p < T.ns.length → (T.n p).ab k < 18446744073709551616) (s : ByteArray) (v : Value) (l : List Nat) (hv : GS KP w v l) (hl : ∀ p ∈ l, p < T.ns.length) (hll : l.length ≤ 100000) :
    Calls Tryd.prog 29 #[.pointer (some ⟨b, 0, none⟩), .string s, v] w fun e w' => e = .returned (.agg (ndA s (newAb T l) 1099511627777 256 0 (.slice none 0 0))) ∧ Below w.heap.size w w' := by
  obtain ⟨pv, cv, rfl⟩ := hv.form
  obtain ⟨Z, hZ⟩ : ∃ Z : Obj, Z = .cells (ndA ByteArray.empty (fun _ => 0) 0 0 0 (.slice none 0 0)) 71 := ⟨_, rfl⟩
  obtain ⟨w1, hw1⟩ : ∃ w1, w1 = (w.alloc Z).alloc (.cells (ndA s (newAb T []) 1099511627777 256 0 (.slice none 0 0)) 71) := ⟨_, rfl⟩
  have b1 : Below w.heap.size w w1 := by rw [hw1]; exact ((Below.refl _ _).alloc (Nat.le_refl _) _).alloc (by simp) _
  have n1 : NB w1 (w.heap.size + 1) s (newAb T []) 1099511627777 256 0 (.slice none 0 0) := by
    have := heap_alloc_new (w.alloc Z) (.cells (ndA s (newAb T []) 1099511627777 256 0 (.slice none 0 0)) 71)
    rw [show (w.alloc Z).heap.size = w.heap.size + 1 by simp] at this
    rw [hw1]; exact this
  have n0 : w1.heap[w.heap.size]? = some Z := by
    rw [hw1, Below.heap_alloc _ _ _ (by simp)]; exact heap_alloc_new w _
  have H := hid h
  have HWD := hid hwdT
  clear hwdT
  have HV := hid hv
  have HL : Hid (∀ p ∈ l, p < T.ns.length) := hl
  have HW1 := hid hw1
  have S0 : Hid (NB w1 (w.heap.size + 1) s (newAb T (l.take 0)) 1099511627777 256 0 (.slice none 0 0) ∧ w1.heap[w.heap.size]? = some Z ∧ Below w.heap.size w w1) := ⟨n1, n0, b1⟩
  have HZ := hid hZ
  rw [hZ] at hw1
  clear h hv hl n1 n0 b1 hZ hw1
  go_enter Tryd.func29, Tryd.ntmps29
  go_wp2_with fail
  rw [show (#[Value.string s, .int .u64 0, .int .u64 0, .int .u64 0, .int .u64 0, .int .i64 1099511627777, .int .i64 256, .int .i64 0, .slice none 0 0] : Array Value) = ndA s (newAb T []) 1099511627777 256 0 (.slice none 0 0) from rfl, show (#[Value.string ⟨#[]⟩, .int .u64 0, .int .u64 0, .int .u64 0, .int .u64 0, .int .i64 0, .int .i64 0, .int .i64 0, .slice none 0 0] : Array Value) = ndA ByteArray.empty (fun _ => 0) 0 0 0 (.slice none 0 0) from rfl, ← HZ.out, ← HW1.out]
  go_loopw [14] (fun v14 wr => ∃ (k : Nat) (wk : World), v14 = .int .i64 k ∧ wk = wr ∧ k ≤ l.length ∧ Hid (NB wk (w.heap.size + 1) s (newAb T (l.take k)) 1099511627777 256 0 (.slice none 0 0) ∧ wk.heap[w.heap.size]? = some Z ∧ Below w.heap.size w wk)) (fun v14 _ => l.length - (intOf v14).toNat)
  case atStart => exact ⟨0, _, rfl, rfl, Nat.zero_le _, S0⟩
  case round =>
    obtain ⟨k, wr, rfl, rfl, hk, HS⟩ := hrel
    clear S0 HW1
    by_cases hlt : k < l.length
    · obtain ⟨r1, r2, r3⟩ := HS.out
      obtain ⟨X, o, rfl, hX, hc⟩ := (HV.out.below r3).at hlt
      have e0 := hc 0 _ rfl
      rw [show KP.W = 1 from rfl, Nat.mul_one, Nat.add_zero] at e0
      have hp := HL.out _ (List.getElem_mem hlt)
      have SN : Hid (newAb T (l.take (k + 1)) = allW (addW (newAb T (l.take k)) l[k]) (T.n l[k]).ab) := by
        show _ = _
        rw [List.take_add_one, List.getElem?_eq_getElem hlt, Option.toList_some, newAb_snoc]
      obtain ⟨p, hpe⟩ : ∃ p, p = l[k] := ⟨_, rfl⟩
      rw [← hpe] at e0 hp SN
      have hwd : ∀ j, newAb T (l.take k) j < 18446744073709551616 := newAb_lt HWD.out _ (fun q hq => HL.out q (List.mem_of_mem_take hq))
      have hwp : ∀ j, (T.n p).ab j < 18446744073709551616 := fun j => HWD.out p j hp
      have AD := hid (add_any (w.heap.size + 1) 1 p (newAb T (l.take k)) wr r1.ab (by omega) hwd r1.fz)
      have AF : Hid (∀ nq, ∃ Y cap, nv = .slice (some ⟨Y, 0, none⟩) T.ns.length cap ∧ ((wr.setCell ⟨w.heap.size + 1, 1 + p / 64, none⟩ (.int .u64 (addW (newAb T (l.take k)) p (p / 64)))).drewN nq).cell? ⟨b, 1, none⟩ = some nv ∧ AB ((wr.setCell ⟨w.heap.size + 1, 1 + p / 64, none⟩ (.int .u64 (addW (newAb T (l.take k)) p (p / 64)))).drewN nq) Y (p * 9 + 1) (T.n p).ab ∧ Calls Tryd.prog 47 #[.pointer (some ⟨w.heap.size + 1, 1, none⟩), .agg #[.int .u64 ((T.n p).ab 0), .int .u64 ((T.n p).ab 1), .int .u64 ((T.n p).ab 2), .int .u64 ((T.n p).ab 3)]] ((wr.setCell ⟨w.heap.size + 1, 1 + p / 64, none⟩ (.int .u64 (addW (newAb T (l.take k)) p (p / 64)))).drewN nq) fun e w' => e = .returned (.tuple #[]) ∧ NB w' (w.heap.size + 1) s (newAb T (l.take (k + 1))) 1099511627777 256 0 (.slice none 0 0) ∧ w'.heap[w.heap.size]? = some Z ∧ Below w.heap.size w w') := fun nq => by
        generalize hV : (wr.setCell ⟨w.heap.size + 1, 1 + p / 64, none⟩ (.int .u64 (addW (newAb T (l.take k)) p (p / 64)))).drewN nq = V
        have nV : NB V (w.heap.size + 1) s (addW (newAb T (l.take k)) p) 1099511627777 256 0 (.slice none 0 0) := by
          rw [← hV]
          exact (r1.set (q := p / 64) (by omega) _ (fun j => by
            unfold addW
            by_cases e : j = p / 64
            · rw [if_pos e, if_pos e, if_pos rfl, e]
            · rw [if_neg e, if_neg e])).far rfl
        have bV : Below w.heap.size w V := by
          rw [← hV]
          have := r3.setCell (p := ⟨w.heap.size + 1, 1 + p / 64, none⟩) (by show w.heap.size ≤ w.heap.size + 1; omega) (.int .u64 (addW (newAb T (l.take k)) p (p / 64)))
          exact ⟨this.os, this.tape, this.output, this.size, this.block⟩
        have zV : V.heap[w.heap.size]? = some Z := by
          rw [← hV]
          show (wr.setCell ⟨w.heap.size + 1, 1 + p / 64, none⟩ (.int .u64 (addW (newAb T (l.take k)) p (p / 64)))).heap[w.heap.size]? = some Z
          rw [Below.heap_setCell _ _ _ _ (show w.heap.size ≠ w.heap.size + 1 by omega)]; exact r2
        obtain ⟨tV, tN⟩ := H.out V bV
        obtain ⟨Y, cap, hnv, n1⟩ := tN p hp
        refine ⟨Y, cap, hnv, tV, n1, ?_⟩
        refine (addAll_any (w.heap.size + 1) (w.heap.size + 1) s _ (T.n p).ab 1099511627777 256 0 (.slice none 0 0) V nV (Nat.le_refl _) (fun j => addW_lt hwd p j) hwp).mono ?_
        rintro e w' ⟨rfl, q1, q2⟩
        exact ⟨rfl, by rw [SN.out]; exact q1, (q2.block w.heap.size (by omega)).trans zV, bV.trans (q2.mono (by omega))⟩
      clear r1 r2 r3 HS hc hpe SN hwd hwp
      go_wp2_with (first | (go_at_call 46; refine AD.out.mono ?_; rintro e w2 ⟨rfl, nq, hw2⟩; subst w2; obtain ⟨Y, cap, y1, y2, y3, y4⟩ := AF.out nq; rw [y1] at y2; have z0 := y3 0 (by omega); have z1 := y3 1 (by omega); have z2 := y3 2 (by omega); have z3 := y3 3 (by omega); rw [Nat.add_zero] at z0; have Y4 := hid y4; clear y1 y3 y4) | (go_at_call 47; refine Y4.out.mono ?_; rintro e w3 ⟨rfl, hq⟩; have HQ := hid hq; clear hq))
      go_roundw
      case rel => exact ⟨k + 1, _, by go_num, rfl, by omega, HQ⟩
      case measure => simp [intOf]; omega
    · have e1 : l.take k = l := List.take_of_length_le (by omega)
      rw [e1] at HS
      obtain ⟨r1, r2, r3⟩ := HS.out
      obtain ⟨d0, d1, d2, d3, d4, d5, d6, d7, d8⟩ := r1.cells
      rw [HZ.out] at r2
      have r2' : NB wr w.heap.size ByteArray.empty (fun _ => 0) 0 0 0 (.slice none 0 0) := r2
      obtain ⟨f0, f1, f2, f3, f4, f5, f6, f7, f8⟩ := r2'.cells
      have fz0 := r2'.fz 0
      have fz1 := r2'.fz 1
      have fz2 := r2'.fz 2
      have fz3 := r2'.fz 3
      have fz4 := r2'.fz 4
      have fz5 := r2'.fz 5
      have fz6 := r2'.fz 6
      have fz7 := r2'.fz 7
      have fz8 := r2'.fz 8
      have R3 := hid r3
      clear HS r1 r2 r2' r3
      obtain ⟨ab, hab⟩ : ∃ ab, ab = newAb T l := ⟨_, rfl⟩
      rw [← hab] at d1 d2 d3 d4
      have HAB := hid hab
      clear hab
      go_wp2_with fail
      rw [← HAB.out]
      have bl : Below w.heap.size w (((((((((wr.setCell ⟨w.heap.size, 0, none⟩ (.string s)).setCell ⟨w.heap.size, 1, none⟩ (.int .u64 (ab 0))).setCell ⟨w.heap.size, 2, none⟩ (.int .u64 (ab 1))).setCell ⟨w.heap.size, 3, none⟩ (.int .u64 (ab 2))).setCell ⟨w.heap.size, 4, none⟩ (.int .u64 (ab 3))).setCell ⟨w.heap.size, 5, none⟩ (.int .i64 1099511627777)).setCell ⟨w.heap.size, 6, none⟩ (.int .i64 256)).setCell ⟨w.heap.size, 7, none⟩ (.int .i64 0)).setCell ⟨w.heap.size, 8, none⟩ (.slice none 0 0)) := by
        have sc : ∀ {w2 : World} (o : Nat) (u : Value), Below w.heap.size w w2 → Below w.heap.size w (w2.setCell ⟨w.heap.size, o, none⟩ u) := fun o u q => q.setCell (p := ⟨w.heap.size, o, none⟩) (Nat.le_refl _) u
        exact sc _ _ (sc _ _ (sc _ _ (sc _ _ (sc _ _ (sc _ _ (sc _ _ (sc _ _ (sc _ _ R3.out))))))))
      exact bodyPost_ret (v := .agg (ndA s ab 1099511627777 256 0 (.slice none 0 0))) (by simp [results, Tryd.results29, go_sem, f0, f1, f2, f3, f4, f5, f6, f7, f8, ndA]) rfl ⟨rfl, bl⟩
end Go.Proofs.YtkebflllbphkkaaDoor
