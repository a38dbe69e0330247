/- Waiting: Wake, First, Queue, Len. -/
import Derived.Test.YtofdfofpdfaimaaWd3
namespace Go.Proofs.Ytofdfofpdfaimaa
open Go.RowKit Go.Maps

theorem RR.below {w w2 w3 : World} {base r m : Nat} {f : ByteArray → Option Value} {L : List Wc} {c : Nat} (h : RR w base r m f L c w2) (k : Below w2.heap.size w2 w3) : RR w base r m f L c w3 := by
  obtain ⟨⟨f', h1, h2⟩, h3⟩ := h
  exact ⟨⟨f', h1.below k, h2⟩, h3.trans (G := fun _ => False) (But.of_below k) (fun x hx => hx.elim)⟩
theorem RR.of {w0 w w2 : World} {base r m : Nat} {f : ByteArray → Option Value} {L : List Wc} {c : Nat} (k : Below w0.heap.size w0 w) (h : RR w base r m f L c w2) : RR w0 base r m f L c w2 := by
  obtain ⟨⟨f', h1, h2⟩, h3⟩ := h
  refine ⟨⟨f', h1, fun x hx => ?_⟩, (But.of_below k).trans h3 (fun x hx => Or.inl hx)⟩
  rcases h2 x hx with e | e
  · exact Or.inl e
  · exact Or.inr (Nat.le_trans k.size e)
set_option maxHeartbeats 2000000 in
theorem all_any (k : Int) (x : Wc) (w : World) : Calls Try.prog 30 #[.int .i64 k, .agg #[.int .i64 x.w.task, .int .i64 x.w.kind, .string x.w.key, .string x.w.tok, .int .i64 x.came]] w fun e w' => e = .returned (.bool true) ∧ Below w.heap.size w w' := by
  have AL := hid (fun ob => bal w ob)
  have B0 := hid (Below.refl w.heap.size w)
  go_enter Try.func30, Try.ntmps30
  go_wp2
  go_ret
  exact ⟨rfl, by first | exact B0.out | exact AL.out _⟩
theorem gnL_all : ∀ (k : Nat) (l : List Wc), gnL (fun _ _ => true) k l = l
  | _, [] => rfl
  | k, x :: l => by rw [gnL, if_pos rfl, gnL_all]
set_option maxHeartbeats 4000000 in
theorem wake_any (key : ByteArray) (w : World) (base r m : Nat) (L : List Wc) (c : Nat) (f : ByteArray → Option Value) (h : RX w base r m L c f) (hk : key.size ≤ maxLen) : Calls Try.prog 10 #[.pointer (some ⟨r, 0, none⟩), .string key] w fun e w' => ∃ p cc, e = .returned (.slice p (qK L key).length cc) ∧ OwnG KW w' w.heap.size (.slice p (qK L key).length cc) ((qK L key).map fun x => x.w) ∧ RR w base r m f (outL L (qK L key)) c w' := by
  have TA := take_any 30 #[] (fun _ _ => true) key w base r m L c f h hk Try.call30 (fun W k x _ => all_any k x W)
  rw [gnL_all] at TA
  have TB := hid TA
  have QL : Hid ((qK L key).length ≤ 10000) := by have := qK_len L key; have := h.ri.len; show _ ≤ _; omega
  clear TA h hk
  generalize qK L key = q at *
  go_enter Try.func10, Try.ntmps10
  go_wp2_with (first | (go_at_call 29; refine TB.out.mono ?_; rintro e w2 ⟨p2, c2, rfl, ho2, hr2⟩; have O2 := hid ho2; have R2 := hid hr2; clear ho2 hr2) | (go_at_call 28; refine (plain_any _ q _ (O2.out.gs KC_ok.len) QL.out).mono ?_; rintro e w3 ⟨p3, c3, rfl, ho3, hb3⟩; have O3 := hid ho3; have B3 := hid hb3; clear ho3 hb3))
  go_ret
  exact ⟨_, _, rfl, O3.out.low R2.out.bt.size, R2.out.below B3.out⟩
set_option maxHeartbeats 2000000 in
theorem few_any (n : Int) (B : Nat) (k : Nat) (x : Wc) (w : World) (hB : w.heap[B]? = some (.cells #[.int .i64 n] 3)) : Calls Try.prog 45 #[.int .i64 k, .agg #[.int .i64 x.w.task, .int .i64 x.w.kind, .string x.w.key, .string x.w.tok, .int .i64 x.came], .pointer (some ⟨B, 0, none⟩)] w fun e w' => e = .returned (.bool (decide ((k : Int) < n))) ∧ Below w.heap.size w w' := by
  have hl := lt_of_heap hB
  have c0 := box1 hB
  have hne : ¬ B = w.heap.size := by omega
  have AL := hid (fun ob => bal w ob)
  have B0 := hid (Below.refl w.heap.size w)
  clear hB
  by_cases e : (k : Int) < n
  · rw [decide_eq_true e]
    go_enter Try.func45, Try.ntmps45
    go_wp2
    go_ret
    exact ⟨ret_bool rfl, by first | exact B0.out | exact AL.out _⟩
  · rw [decide_eq_false e]
    go_enter Try.func45, Try.ntmps45
    go_wp2
    go_ret
    exact ⟨ret_bool rfl, by first | exact B0.out | exact AL.out _⟩
theorem gnL_few (n : Int) : ∀ (k : Nat) (l : List Wc), gnL (fun j _ => decide ((j : Int) < n)) k l = l.take (n - k).toNat
  | _, [] => by simp [gnL]
  | k, x :: l => by
    rw [gnL, gnL_few n (k + 1) l]
    by_cases e : (k : Int) < n
    · rw [if_pos (by simpa using e), show (n - (k : Int)).toNat = (n - ((k + 1 : Nat) : Int)).toNat + 1 by omega, List.take_succ_cons]
    · rw [if_neg (by simpa using e), show (n - (k : Int)).toNat = 0 by omega, show (n - ((k + 1 : Nat) : Int)).toNat = 0 by omega]; rfl
theorem ret_se {v : Value} {a b : Int} (h : a = b) : Ending.returned (.tuple #[v, .int .i64 a]) = .returned (.tuple #[v, .int .i64 b]) := by rw [h]
set_option maxHeartbeats 4000000 in
theorem first_no (key : ByteArray) (n : Int) (hn : n < 0) (w : World) (r : Nat) : Calls Try.prog 24 #[.pointer (some ⟨r, 0, none⟩), .string key, .int .i64 n] w fun e w' => e = .returned (.tuple #[.slice none 0 0, .int .i64 1]) ∧ Below w.heap.size w w' := by
  have AL := hid (fun ob => bal w ob)
  go_enter Try.func24, Try.ntmps24
  go_wp2
  go_ret2
  exact ⟨rfl, AL.out _⟩
set_option maxHeartbeats 4000000 in
theorem first_ok (key : ByteArray) (n : Int) (hn : 0 ≤ n) (w : World) (base r m : Nat) (L : List Wc) (c : Nat) (f : ByteArray → Option Value) (h : RX w base r m L c f) (hk : key.size ≤ maxLen) : Calls Try.prog 24 #[.pointer (some ⟨r, 0, none⟩), .string key, .int .i64 n] w fun e w' => ∃ p cc, e = .returned (.tuple #[.slice p ((qK L key).take n.toNat).length cc, .int .i64 0]) ∧ OwnG KW w' w.heap.size (.slice p ((qK L key).take n.toNat).length cc) (((qK L key).take n.toNat).map fun x => x.w) ∧ RR w base r m f (outL L ((qK L key).take n.toNat)) c w' := by
  have B1 : Hid (Below w.heap.size w (w.alloc (.cells #[.int .i64 n] 3))) := bal _ _
  have H1 : (w.alloc (.cells #[.int .i64 n] 3)).heap[w.heap.size]? = some (.cells #[.int .i64 n] 3) := heap_alloc_new _ _
  have TA := take_any 45 #[.pointer (some ⟨w.heap.size, 0, none⟩)] (fun j _ => decide ((j : Int) < n)) key _ base r m L c f (h.below B1.out) hk Try.call45 (fun W k x hb => few_any n w.heap.size k x W ((hb.block _ (by simp)).trans H1))
  rw [gnL_few, show n - ((0 : Nat) : Int) = n by omega] at TA
  have TB := hid TA
  have hmf : ∀ (fn : Fn) (first cap : Array Value) (w : World), (Instr.makeFunc fn first cap).run Try.prog w = .ok (.func fn first cap) w := fun _ _ _ _ => rfl
  have QL : Hid (((qK L key).take n.toNat).length ≤ 10000) := by have := qK_len L key; have := h.ri.len; show _ ≤ _; simp; omega
  have hn2 : ¬ n < 0 := by omega
  clear TA h hk H1
  generalize (qK L key).take n.toNat = q at *
  go_enter Try.func24, Try.ntmps24
  go_wp2_with (first | (go_at_call 29; refine TB.out.mono ?_; rintro e w2 ⟨p2, c2, rfl, ho2, hr2⟩; have O2 := hid ho2; have R2 := hid hr2; clear ho2 hr2) | (go_at_call 28; refine (plain_any _ q _ (O2.out.gs KC_ok.len) QL.out).mono ?_; rintro e w3 ⟨p3, c3, rfl, ho3, hb3⟩; have O3 := hid ho3; have B3 := hid hb3; clear ho3 hb3))
  go_ret2
  exact ⟨_, _, rfl, O3.out.low (Nat.le_trans B1.out.size R2.out.bt.size), (R2.out.below B3.out).of B1.out⟩
set_option maxHeartbeats 4000000 in
theorem queue_any (key : ByteArray) (w : World) (base r m : Nat) (L : List Wc) (c : Nat) (f : ByteArray → Option Value) (h : RX w base r m L c f) (hk : key.size ≤ maxLen) : Calls Try.prog 22 #[.pointer (some ⟨r, 0, none⟩), .string key] w fun e w' => ∃ p cc, e = .returned (.slice p (qK L key).length cc) ∧ OwnG KW w' w.heap.size (.slice p (qK L key).length cc) ((qK L key).map fun x => x.w) ∧ Below w.heap.size w w' := by
  have c0 := h.cells.1
  have k0 := h.look hk
  have OQ := hid (h.at key)
  have QL : Hid ((qK L key).length ≤ 10000) := by have := qK_len L key; have := h.ri.len; show _ ≤ _; omega
  clear h hk
  generalize qK L key = q at *
  generalize (f key).getD (.slice none 0 0) = v0 at *
  have PL := hid (plain_any v0 q w (OQ.out.gs KC_ok.len) QL.out)
  go_enter Try.func22, Try.ntmps22
  go_wp2_with (go_at_call 28; refine PL.out.mono ?_; rintro e w3 ⟨p3, c3, rfl, ho3, hb3⟩; have O3 := hid ho3; have B3 := hid hb3; clear ho3 hb3)
  go_ret
  exact ⟨_, _, rfl, O3.out, B3.out⟩
/-- How many of the keys that are past wait. -/
def cntL (L : List Wc) (left : ByteArray → Bool) : Nat := (L.filter fun x => !left x.w.key).length
theorem cntL_next (left : ByteArray → Bool) (x : ByteArray) (hx : left x = true) : ∀ L : List Wc, cntL L (fun s => left s && !decide (s = x)) = cntL L left + (qK L x).length
  | [] => rfl
  | y :: L => by
    have ih := cntL_next left x hx L
    unfold cntL qK at ih ⊢
    simp only [List.filter_cons]
    by_cases e : y.w.key = x
    · rw [e, hx]; simp; simp at ih; omega
    · cases hl : left y.w.key <;> simp [e] <;> simp at ih <;> omega
set_option maxHeartbeats 8000000 in
theorem len_any (w : World) (base r m : Nat) (L : List Wc) (c : Nat) (f : ByteArray → Option Value) (h : RX w base r m L c f) : Calls Try.prog 23 #[.pointer (some ⟨r, 0, none⟩)] w fun e w' => e = .returned (.int .i64 L.length) ∧ Below w.heap.size w w' := by
  have c0 := h.cells.1
  have HX := hid h
  have hml := h.mq.lt
  have hll := h.ri.len
  clear h
  go_enter Try.func23, Try.ntmps23
  go_wp2_with (at_range; refine range_mq rfl _ 62 rfl 66 Try.underlying62 m f rfl HX.out.mq w.heap.size rfl ?_; intro w3 cnt3 hrg3 hb3 hs3)
  go_frame
  have C3 : Hid (∃ left cnt, RM w3 m w.heap.size f left cnt ∧ 0 = cntL L left) := ⟨_, cnt3, hrg3, by
    unfold cntL
    rw [List.filter_eq_nil_iff.2 (fun x hx => ?_)]
    · rfl
    · show ¬ (!(f x.w.key).isSome) = true
      rw [HX.out.dom]
      cases hq : qK L x.w.key with
      | nil => exact absurd (qK_mem.2 ⟨hx, rfl⟩) (by rw [hq]; simp)
      | cons => simp⟩
  have B3 := hid hb3
  clear hrg3 hb3 hs3
  go_loopw [3] (fun v3 wr => ∃ (n : Nat) (wk : World), v3 = .int .i64 n ∧ wk = wr ∧ Hid (Below w.heap.size w wk) ∧ n ≤ 128 ∧ Hid (∃ left cnt, RM wk m w.heap.size f left cnt ∧ n = cntL L left)) (fun _ wr => wr.rangeLeft m w.heap.size)
  case atStart => exact ⟨0, _, rfl, rfl, B3, by omega, C3⟩
  case round =>
    obtain ⟨n, wr, rfl, rfl, HB, hn, HI⟩ := hrel
    clear C3 B3
    obtain ⟨left, cnt, hrm, hcn⟩ := HI.out
    have HC := hid (And.intro hrm hcn)
    clear HI hrm hcn
    go_wp2_with (first | (at_next; refine next_mq rfl _ rfl m w.heap.size f left cnt rfl HC.out.1 ?_ ?_))
    · intro hd
      have E : Hid ((n : Int) = L.length) := by
        have := HC.out.2
        unfold cntL at this
        rw [List.filter_eq_self.2 (fun x _ => by rw [hd]; rfl)] at this
        show _ = _; omega
      clear hd HC
      go_wp2_with fail
      go_ret
      exact ⟨ret_i E.out, HB.out⟩
    · intro x v w4 cnt4 hx hlx hfx hrg4 hlt hbt4 hs4 hen
      have B4 : Hid (Below w.heap.size w w4) := ⟨hbt4.os.trans HB.out.os, hbt4.tape.trans HB.out.tape, hbt4.output.trans HB.out.output, Nat.le_trans HB.out.size hbt4.size, fun y hy => (hbt4.block y (Nat.lt_of_lt_of_le hy HB.out.size) (by omega)).trans (HB.out.block y hy)⟩
      obtain ⟨pp, cc, hv, _⟩ := (HX.out.own x v hfx).form
      subst hv
      have N4 : Hid (∃ left cnt, RM w4 m w.heap.size f left cnt ∧ n + (qK L x).length = cntL L left) := ⟨_, _, hrg4, by rw [cntL_next left x hlx L, HC.out.2]⟩
      have L4 : Hid (w4.rangeLeft m w.heap.size = cnt4) := hrg4.left_eq
      have LW : Hid (wr.rangeLeft m w.heap.size = cnt) := HC.out.1.left_eq
      have LT4 := hid hlt
      have hb : n + (qK L x).length ≤ 128 := by
        obtain ⟨lf, _, _, e⟩ := N4.out
        rw [e]
        have : cntL L lf ≤ L.length := List.length_filter_le _ _
        omega
      generalize (qK L x).length = ql at *
      clear hrg4 hlx hbt4 hs4 hfx hlt HC hx
      go_wp2_with fail
      go_roundw
      case rel => exact ⟨n + ql, _, by go_num, rfl, B4, hb, N4⟩
      case measure => rw [L4.out, LW.out]; exact LT4.out
end Go.Proofs.Ytofdfofpdfaimaa
