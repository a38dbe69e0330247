/- Waiting: Find. -/
import Derived.Test.YtofdfofpdfaimaaWa1
namespace Go.Proofs.Ytofdfofpdfaimaa
open Go.RowKit Go.Maps

theorem box1 {w : World} {B : Nat} {v : Value} {t : TypeId} (h : w.heap[B]? = some (.cells #[v] t)) : w.cell? ⟨B, 0, none⟩ = some v := cell_of_row _ _ _ _ _ _ h
set_option maxHeartbeats 2000000 in
theorem finds_any (x : Wc) (t : Int) (B : Nat) (w : World) (hB : w.heap[B]? = some (.cells #[.int .i64 t] 3)) : Calls Try.prog 48 #[.agg #[.int .i64 x.w.task, .int .i64 x.w.kind, .string x.w.key, .string x.w.tok, .int .i64 x.came], .pointer (some ⟨B, 0, none⟩)] w fun e w' => e = .returned (.bool (decide (x.w.task = t))) ∧ Below w.heap.size w w' := by
  have hl := lt_of_heap hB
  have c0 := box1 hB
  have hne : ¬ B = w.heap.size := by omega
  have AL := hid (fun ob => bal w ob)
  clear hB
  obtain ⟨⟨a, k, ky, tk⟩, cm⟩ := x
  simp only
  by_cases e : a = t
  · subst e
    go_enter Try.func48, Try.ntmps48
    go_wp2
    go_ret
    exact ⟨ret_bool (by simp), AL.out _⟩
  · have e1 : (a == t) = false := by simpa using e
    go_enter Try.func48, Try.ntmps48
    go_wp2
    go_ret
    exact ⟨ret_bool (by simp [e]), AL.out _⟩
/-- Where a task stands, from place k on. -/
def idxT : List Wc → Int → Int → Int
  | [], _, _ => -1
  | x :: l, t, k => if x.w.task = t then k else idxT l t (k + 1)
theorem idxT_none : ∀ (l : List Wc) (t k : Int), (∀ x ∈ l, x.w.task ≠ t) → idxT l t k = -1
  | [], _, _, _ => rfl
  | x :: l, t, k, h => by rw [idxT, if_neg (h x (by simp)), idxT_none l t (k + 1) (fun y hy => h y (by simp [hy]))]
theorem idxT_hit : ∀ (l : List Wc) (k : Int) (p : Nat) (x : Wc), l[p]? = some x → (l.Pairwise fun a b => a.w.task ≠ b.w.task) → idxT l x.w.task k = k + p
  | [], _, _, _, h, _ => by simp at h
  | y :: l, k, 0, x, h, _ => by
    simp at h
    subst h
    rw [idxT, if_pos rfl]; simp
  | y :: l, k, p + 1, x, h, hp => by
    simp at h
    have h2 := List.pairwise_cons.1 hp
    rw [idxT, if_neg (h2.1 x (List.mem_of_getElem? h)), idxT_hit l (k + 1) p x h h2.2]
    omega
set_option maxHeartbeats 4000000 in
theorem index_any (v : Value) (q : List Wc) (t : Int) (B : Nat) (w : World) (h : GS KC w v q) (hl : q.length ≤ 1000) (hB : w.heap[B]? = some (.cells #[.int .i64 t] 3)) : Calls Try.prog 47 #[v, .func (.func 48) #[] #[.pointer (some ⟨B, 0, none⟩)]] w fun e w' => e = .returned (.int .i64 (idxT q t 0)) ∧ Below w.heap.size w w' := by
  obtain ⟨p, cap, rfl⟩ := h.form
  have HS := hid h
  have HB := hid hB
  have B0 := hid (Below.refl w.heap.size w)
  obtain ⟨R, hR⟩ : ∃ R, R = idxT q t 0 := ⟨_, rfl⟩
  rw [← hR]
  have HR := hid hR
  clear h hB hR
  go_enter Try.func47, Try.ntmps47
  go_wp2
  go_loopw [8] (fun i wr => ∃ (k : Nat) (wk : World), i = .int .i64 k ∧ wk = wr ∧ k ≤ q.length ∧ Hid (Below w.heap.size w wk) ∧ Hid (R = idxT (q.drop k) t k)) (fun i _ => q.length - (intOf i).toNat)
  case atStart => exact ⟨0, _, rfl, rfl, Nat.zero_le _, B0, by show _ = _; rw [HR.out]; simp⟩
  case round =>
    obtain ⟨k, wr, rfl, rfl, hk, HW, HI⟩ := hrel
    clear B0
    by_cases hlt : k < q.length
    · obtain ⟨X, o, e1, x0, x1, x2, x3, x4⟩ := (HS.out.below HW.out).atC hlt
      obtain rfl : p = some ⟨X, o, none⟩ := e1
      have CL := hid (finds_any q[k] t B wr ((HW.out.block B (lt_of_heap HB.out)).trans HB.out))
      have HD : Hid (q.drop k = q[k] :: q.drop (k + 1)) := List.drop_eq_getElem_cons hlt
      have HJ : Hid (R = if q[k].w.task = t then (k : Int) else idxT (q.drop (k + 1)) t ((k : Int) + 1)) := by
        show _ = _
        rw [HI.out, HD.out, idxT]
      clear HI HD
      generalize q[k] = x at *
      by_cases ht : x.w.task = t
      · rw [if_pos ht] at HJ
        rw [decide_eq_true ht] at CL
        clear ht
        go_wp2_with (go_at_call 48; refine CL.out.mono ?_; rintro e w2 ⟨rfl, hb⟩; have B2 := hid (bl3 HW.out hb); clear hb)
        go_ret
        exact ⟨ret_int HJ.out.symm, B2.out⟩
      · rw [if_neg ht] at HJ
        rw [decide_eq_false ht] at CL
        clear ht
        go_wp2_with (go_at_call 48; refine CL.out.mono ?_; rintro e w2 ⟨rfl, hb⟩; have B2 := hid (bl3 HW.out hb); clear hb)
        go_roundw
        case rel => exact ⟨k + 1, _, by go_num, rfl, by omega, B2, by show _ = _; rw [HJ.out]; simp⟩
        case measure => simp [intOf]; omega
    · have FIN : Hid (R = -1) := by show _ = _; rw [HI.out, List.drop_eq_nil_of_le (by omega)]; rfl
      clear HI
      go_wp2_with fail
      go_ret
      exact ⟨ret_int FIN.out.symm, HW.out⟩
/-- Whom a task's number names. -/
def fdO (L : List Wc) (t : Int) : Option Wc := L.find? fun x => decide (x.w.task = t)
def w0 : Wt := ⟨0, 0, ⟨#[]⟩, ⟨#[]⟩⟩
def fdW (L : List Wc) (t : Int) : Wt := ((fdO L t).map fun x => x.w).getD w0
def fdP (L : List Wc) (t : Int) : Int := match fdO L t with
  | some x => idxT (qK L x.w.key) t 0
  | none => 0
def fdE (L : List Wc) (t : Int) : Int := if taskB t = false then 1 else if (fdO L t).isSome then 0 else 4
theorem fdO_none {L : List Wc} {t : Int} (h : ∀ x ∈ L, x.w.task ≠ t) : fdO L t = none := by
  unfold fdO
  rw [List.find?_eq_none]
  intro x hx; simpa using h x hx
theorem fdO_some {L : List Wc} {c : Nat} (h : RI L c) {x : Wc} (hx : x ∈ L) : fdO L x.w.task = some x := by
  cases hf : fdO L x.w.task with
  | none =>
    unfold fdO at hf
    rw [List.find?_eq_none] at hf
    have := hf x hx
    simp at this
  | some y =>
    have h1 := List.mem_of_find?_eq_some hf
    have h2 := List.find?_some hf
    simp at h2
    rw [h.uniq h1 hx h2]
theorem fd_hit {L : List Wc} {c : Nat} (h : RI L c) {x : Wc} (hx : x ∈ L) : fdW L x.w.task = x.w ∧ fdP L x.w.task = idxT (qK L x.w.key) x.w.task 0 ∧ fdE L x.w.task = 0 := by
  have e := fdO_some h hx
  have h1 := (h.ok x hx).1
  refine ⟨by unfold fdW; rw [e]; rfl, by unfold fdP; rw [e], ?_⟩
  unfold fdE
  rw [e, if_neg (by simp [taskB]; omega)]; rfl
theorem fd_no {L : List Wc} {t : Int} (h : ∀ x ∈ L, x.w.task ≠ t) : fdW L t = w0 ∧ fdP L t = 0 ∧ fdE L t = if taskB t = false then 1 else 4 := by
  have e := fdO_none h
  refine ⟨by unfold fdW; rw [e]; rfl, by unfold fdP; rw [e], by unfold fdE; rw [e]; rfl⟩
theorem idxT_bd : ∀ (l : List Wc) (t k : Int), 0 ≤ k → idxT l t k = -1 ∨ (k ≤ idxT l t k ∧ idxT l t k < k + l.length)
  | [], _, _, _ => Or.inl rfl
  | x :: l, t, k, h => by
    rw [idxT]
    split
    · right; simp; omega
    · rcases idxT_bd l t (k + 1) (by omega) with e | e
      · exact Or.inl e
      · right; simp; omega
theorem idxT_miss : ∀ (l : List Wc) (t k : Int), 0 ≤ k → idxT l t k = -1 → ∀ x ∈ l, x.w.task ≠ t
  | [], _, _, _, _, x, hx => by cases hx
  | y :: l, t, k, h, e, x, hx => by
    rw [idxT] at e
    split at e
    · omega
    · rename_i hy
      rcases List.mem_cons.1 hx with rfl | hx
      · exact hy
      · exact idxT_miss l t (k + 1) (by omega) e x hx
theorem idxT_at : ∀ (l : List Wc) (t k : Int), 0 ≤ k → idxT l t k ≠ -1 → ∃ p : Nat, idxT l t k = k + p ∧ ∃ h : p < l.length, l[p].w.task = t
  | [], _, _, _, e => absurd rfl e
  | y :: l, t, k, h, e => by
    rw [idxT] at e ⊢
    split
    · rename_i hy; exact ⟨0, by simp, by simp, hy⟩
    · rename_i hy
      rw [if_neg hy] at e
      obtain ⟨p, h1, h2, h3⟩ := idxT_at l t (k + 1) (by omega) e
      exact ⟨p + 1, by omega, by simpa using h2, by simpa using h3⟩
/-- Find's boxes: the task's number, the answer. -/
structure FB (B : Nat) (t : Int) (w : World) : Prop where
  b0 : w.heap[B]? = some (.cells #[.int .i64 t] 3)
  b1 : w.heap[B + 1]? = some (.cells #[.int .i64 0, .int .i64 0, .string ⟨#[]⟩, .string ⟨#[]⟩] 30)
theorem FB.new (w : World) (t : Int) : FB w.heap.size t ((w.alloc (.cells #[.int .i64 t] 3)).alloc (.cells #[.int .i64 0, .int .i64 0, .string ⟨#[]⟩, .string ⟨#[]⟩] 30)) := by
  refine ⟨?_, ?_⟩
  · rw [Below.heap_alloc _ _ _ (by simp)]; exact heap_alloc_new _ _
  · have := heap_alloc_new (w.alloc (.cells #[.int .i64 t] 3)) (.cells #[.int .i64 0, .int .i64 0, .string ⟨#[]⟩, .string ⟨#[]⟩] 30)
    rw [show (w.alloc (.cells #[.int .i64 t] 3)).heap.size = w.heap.size + 1 by simp] at this
    exact this
theorem FB.keep {B : Nat} {t : Int} {w w' : World} (h : FB B t w) (k : ∀ x, x ≤ B + 1 → w'.heap[x]? = w.heap[x]?) : FB B t w' := ⟨(k B (by omega)).trans h.b0, (k (B + 1) (by omega)).trans h.b1⟩
structure FI (w wk : World) (m B : Nat) (f : ByteArray → Option Value) (L : List Wc) (t : Int) (left : ByteArray → Bool) (cnt : Nat) : Prop where
  rm : RM wk m (B + 2) f left cnt
  bl : Below w.heap.size w wk
  fb : FB B t wk
  no : ∀ x ∈ L, x.w.task = t → left x.w.key = true
/-- Four cells written. -/
def set4 (w : World) (b : Nat) (v0 v1 v2 v3 : Value) : World := (((w.setCell ⟨b, 0, none⟩ v0).setCell ⟨b, 1, none⟩ v1).setCell ⟨b, 2, none⟩ v2).setCell ⟨b, 3, none⟩ v3
theorem set4_heap {w : World} {b : Nat} {a0 a1 a2 a3 : Value} {t : TypeId} (h : w.heap[b]? = some (.cells #[a0, a1, a2, a3] t)) (v0 v1 v2 v3 : Value) : (set4 w b v0 v1 v2 v3).heap[b]? = some (.cells #[v0, v1, v2, v3] t) := by
  unfold set4
  have h0 := heap_setCell_same w b 0 _ _ v0 h
  have h1 := heap_setCell_same _ b 1 _ _ v1 h0
  have h2 := heap_setCell_same _ b 2 _ _ v2 h1
  exact heap_setCell_same _ b 3 _ _ v3 h2
theorem set4_below {w w' : World} {b base : Nat} (h : Below base w w') (hb : base ≤ b) (v0 v1 v2 v3 : Value) : Below base w (set4 w' b v0 v1 v2 v3) := by
  unfold set4
  exact (((h.setCell (p := ⟨b, 0, none⟩) hb _).setCell (p := ⟨b, 1, none⟩) hb _).setCell (p := ⟨b, 2, none⟩) hb _).setCell (p := ⟨b, 3, none⟩) hb _
theorem cells4 {w : World} {b : Nat} {a0 a1 a2 a3 : Value} {t : TypeId} (h : w.heap[b]? = some (.cells #[a0, a1, a2, a3] t)) : w.cell? ⟨b, 0, none⟩ = some a0 ∧ w.cell? ⟨b, 1, none⟩ = some a1 ∧ w.cell? ⟨b, 2, none⟩ = some a2 ∧ w.cell? ⟨b, 3, none⟩ = some a3 ∧ ∀ o, w.frozen? ⟨b, o, none⟩ = false :=
  ⟨cell_of_row _ _ _ _ _ _ h, cell_of_row _ _ _ _ _ _ h, cell_of_row _ _ _ _ _ _ h, cell_of_row _ _ _ _ _ _ h, fun o => by simp [World.frozen?, h]⟩
theorem FI.take {w wk w4 w5 : World} {m B : Nat} {f : ByteArray → Option Value} {L : List Wc} {t : Int} {left : ByteArray → Bool} {cnt cnt4 : Nat} (h : FI w wk m B f L t left cnt) (hB : w.heap.size = B) {x : ByteArray} (rm : RM w4 m (B + 2) f (fun s => left s && !decide (s = x)) cnt4) (hbt : But (fun y => y = B + 2) wk w4) (hn : ∀ y ∈ qK L x, y.w.task ≠ t) (hb : Below w4.heap.size w4 w5) : FI w w5 m B f L t (fun s => left s && !decide (s = x)) cnt4 := by
  have l1 := lt_of_heap h.fb.b1
  have l0 := h.bl.size
  refine ⟨rm.below hb, ⟨hb.os.trans (hbt.os.trans h.bl.os), hb.tape.trans (hbt.tape.trans h.bl.tape), hb.output.trans (hbt.output.trans h.bl.output), Nat.le_trans l0 (Nat.le_trans hbt.size hb.size), fun y hy => ?_⟩, h.fb.keep (fun y hy => ?_), fun y hy e => ?_⟩
  · rw [hb.block y (by have := hbt.size; omega), hbt.block y (by omega) (by omega)]; exact h.bl.block y hy
  · rw [hb.block y (by have := hbt.size; omega), hbt.block y (by omega) (by omega)]
  · show (left y.w.key && !decide (y.w.key = x)) = true
    rw [h.no y hy e]
    by_cases q : y.w.key = x
    · exact absurd e (hn y (qK_mem.2 ⟨hy, q⟩))
    · simp [q]
theorem ret_find {x y : Wt} {a b c d : Int} (h : x = y) (k : a = b) (l : c = d) : Ending.returned (.tuple #[.agg #[.int .i64 x.task, .int .i64 x.kind, .string x.key, .string x.tok], .int .i64 a, .int .i64 c]) = .returned (.tuple #[.agg #[.int .i64 y.task, .int .i64 y.kind, .string y.key, .string y.tok], .int .i64 b, .int .i64 d]) := by rw [h, k, l]
set_option maxHeartbeats 8000000 in
theorem find_any (t : Int) (w : World) (base r m : Nat) (L : List Wc) (c : Nat) (f : ByteArray → Option Value) (h : RX w base r m L c f) : Calls Try.prog 25 #[.pointer (some ⟨r, 0, none⟩), .int .i64 t] w fun e w' => e = .returned (.tuple #[.agg #[.int .i64 (fdW L t).task, .int .i64 (fdW L t).kind, .string (fdW L t).key, .string (fdW L t).tok], .int .i64 (fdP L t), .int .i64 (fdE L t)]) ∧ Below w.heap.size w w' := by
  have IT := hid (fun w' => isTask_any t w')
  have c0 := h.cells.1
  have hrl : r < w.heap.size := lt_of_heap h.hp
  have F0 := hid (FB.new w t)
  have B0 : Hid (Below w.heap.size w ((w.alloc (.cells #[.int .i64 t] 3)).alloc (.cells #[.int .i64 0, .int .i64 0, .string ⟨#[]⟩, .string ⟨#[]⟩] 30))) := bl3 (bal _ _) (bal _ _)
  have HX := hid h
  cases ht : taskB t with
  | false =>
    have NO := hid (fd_no (L := L) (t := t) (fun x hx e => by have := (h.ri.ok x hx).1; simp [taskB] at ht; omega))
    rw [ht] at IT
    obtain ⟨e1, e2, e3⟩ := NO.out
    rw [ht, if_pos rfl] at e3
    rw [e1, e2, e3]
    clear e1 e2 e3 NO ht h
    go_enter Try.func25, Try.ntmps25
    go_wp2_with (go_at_call 46; refine (IT.out _).mono ?_; rintro e w' ⟨rfl, hw⟩; rw [hw]; clear hw)
    exact bodyPost_ret (v := .tuple #[.agg #[.int .i64 0, .int .i64 0, .string ⟨#[]⟩, .string ⟨#[]⟩], .int .i64 0, .int .i64 1]) (by simp [results, Try.results25, go_sem]) rfl ⟨rfl, B0.out⟩
  | true =>
    rw [ht] at IT
    have CC := hid (h.below B0.out).cells.1
    have MQ0 := hid (h.below B0.out).mq
    have NO := hid (fun q => fd_no (L := L) (t := t) q)
    have HT := hid (fun x hx => fd_hit h.ri (x := x) hx)
    have H1 : Hid (taskB t = true) := ht
    clear h ht
    go_enter Try.func25, Try.ntmps25
    go_wp2_with (first | (go_at_call 46; refine (IT.out _).mono ?_; rintro e w' ⟨rfl, hw⟩; rw [hw]; clear hw) | (at_range; refine range_mq rfl _ 62 rfl 66 Try.underlying62 m f rfl MQ0.out (w.heap.size + 2) (by simp) ?_; intro w3 cnt3 hrg3 hb3 hs3))
    go_frame
    have C3 : Hid (∃ left cnt, FI w w3 m w.heap.size f L t left cnt) := ⟨_, cnt3, hrg3, bl3 B0.out hb3, F0.out.keep (fun x hx => hb3.block x (by simp; omega)), fun x hx _ => by
      show (f x.w.key).isSome = true
      rw [HX.out.dom]
      cases hq : qK L x.w.key with
      | nil => exact absurd (qK_mem.2 ⟨hx, rfl⟩) (by rw [hq]; simp)
      | cons => rfl⟩
    clear hrg3 hb3 hs3 B0 F0 IT CC MQ0
    go_loopw [19] (fun _ wr => ∃ wk, wk = wr ∧ Hid (∃ left cnt, FI w wk m w.heap.size f L t left cnt)) (fun _ wr => wr.rangeLeft m (w.heap.size + 2))
    case atStart => exact ⟨_, rfl, C3⟩
    case round =>
      obtain ⟨wr, rfl, HI⟩ := hrel
      clear C3
      obtain ⟨left, cnt, hfi⟩ := HI.out
      have HC := hid hfi
      clear HI hfi
      go_wp2_with (first | (at_next; refine next_mq rfl _ rfl m (w.heap.size + 2) f left cnt rfl HC.out.rm ?_ ?_))
      · intro hd
        obtain ⟨e1, e2, e3⟩ := NO.out (fun x hx e => by have := HC.out.no x hx e; rw [hd] at this; cases this)
        rw [H1.out, if_neg (by decide)] at e3
        have BL := hid HC.out.bl
        have y1 := HC.out.fb.b1
        have zl : w.heap.size + 1 < wr.heap.size := lt_of_heap y1
        obtain ⟨z0, z1, z2, z3, fz⟩ := cells4 y1
        have E := hid (And.intro e1 (And.intro e2 e3))
        have Y1 := hid y1
        clear hd y1 HC NO HT e1 e2 e3
        go_wp2_with fail
        obtain ⟨q0, q1, q2, q3, _⟩ := cells4 (set4_heap Y1.out (.int .i64 0) (.int .i64 0) (.string ⟨#[]⟩) (.string ⟨#[]⟩))
        have BQ := hid (set4_below BL.out (Nat.le_add_right w.heap.size 1) (.int .i64 0) (.int .i64 0) (.string ⟨#[]⟩) (.string ⟨#[]⟩))
        unfold set4 at q0 q1 q2 q3 BQ
        refine bodyPost_ret (v := .tuple #[.agg #[.int .i64 0, .int .i64 0, .string ⟨#[]⟩, .string ⟨#[]⟩], .int .i64 0, .int .i64 4]) (by simp [results, Try.results25, go_sem, q0, q1, q2, q3]) rfl ⟨ret_find (x := w0) E.out.1.symm E.out.2.1.symm E.out.2.2.symm, BQ.out⟩
      · intro x v w4 cnt4 hx hlx hfx hrg4 hlt hbt4 hs4 hen
        have B4 : Hid (Below w.heap.size w w4) := ⟨hbt4.os.trans HC.out.bl.os, hbt4.tape.trans HC.out.bl.tape, hbt4.output.trans HC.out.bl.output, Nat.le_trans HC.out.bl.size hbt4.size, fun y hy => (hbt4.block y (Nat.lt_of_lt_of_le hy HC.out.bl.size) (by omega)).trans (HC.out.bl.block y hy)⟩
        have F4 : Hid (FB w.heap.size t w4) := HC.out.fb.keep (fun y hy => hbt4.block y (by have := lt_of_heap HC.out.fb.b1; omega) (by omega))
        have OX := hid ((HX.out.below B4.out).own x v hfx)
        have QL : Hid ((qK L x).length ≤ 1000) := by have := qK_len L x; have := HX.out.ri.len; show _ ≤ _; omega
        have C4 := hid (index_any v (qK L x) t w.heap.size w4 (OX.out.gs KC_ok.len) QL.out F4.out.b0)
        have ZW : Hid (wr.rangeLeft m (w.heap.size + 2) = cnt) := HC.out.rm.left_eq
        have NX : Hid (∀ w5, Below w4.heap.size w4 w5 → (∀ y ∈ qK L x, y.w.task ≠ t) → FI w w5 m w.heap.size f L t (fun s => left s && !decide (s = x)) cnt4) := fun w5 hb hn => HC.out.take rfl hrg4 hbt4 hn hb
        have MX := hid (fun y (hy : y ∈ qK L x) => (qK_mem.1 hy).1)
        have MK := hid (fun y (hy : y ∈ qK L x) => (qK_mem.1 hy).2)
        have hqp := List.Pairwise.sublist List.filter_sublist HX.out.ri.tk (l₁ := qK L x)
        have QP := hid hqp
        clear hlx hrg4 hbt4 hs4 hfx hqp
        have LT4 := hid hlt
        clear hlt HC hx
        obtain ⟨pp, cc, hv, hcc⟩ := OX.out.form
        subst hv
        by_cases hi : idxT (qK L x) t 0 = -1
        · rw [hi] at C4
          have NM := hid (idxT_miss _ _ _ (by decide) hi)
          clear hi
          go_wp2_with (go_at_call 47; refine C4.out.mono ?_; rintro e w5 ⟨rfl, hb5⟩; have N5 := hid (NX.out _ hb5 NM.out); clear hb5)
          have L7 : Hid (w5.rangeLeft m (w.heap.size + 2) = cnt4) := N5.out.rm.left_eq
          have N6 : Hid (∃ left cnt, FI w w5 m w.heap.size f L t left cnt) := ⟨_, _, N5.out⟩
          clear N5 NX C4 MX MK OX
          go_roundw
          case rel => exact ⟨_, rfl, N6⟩
          case measure => rw [L7.out, ZW.out]; exact LT4.out
        · obtain ⟨p, h1, h2, h3⟩ := idxT_at _ t 0 (by decide) hi
          rw [Int.zero_add] at h1
          rw [h1] at C4
          have HM := hid (HT.out _ (MX.out _ (List.getElem_mem h2)))
          have HP := hid (MK.out _ (List.getElem_mem h2))
          rw [h3] at HM
          rw [HP.out] at HM
          have HQ := hid h1
          have HE2 : Hid (fdW L t = (qK L x)[p].w ∧ fdP L t = p ∧ fdE L t = 0) := ⟨HM.out.1, HM.out.2.1.trans h1, HM.out.2.2⟩
          have CE : Hid (∀ w5, Below w4.heap.size w4 w5 → ∃ X o, pp = some ⟨X, o, none⟩ ∧ w5.cell? ⟨X, o + p * 5, none⟩ = some (.int .i64 (qK L x)[p].w.task) ∧ w5.cell? ⟨X, o + p * 5 + 1, none⟩ = some (.int .i64 (qK L x)[p].w.kind) ∧ w5.cell? ⟨X, o + p * 5 + 2, none⟩ = some (.string (qK L x)[p].w.key) ∧ w5.cell? ⟨X, o + p * 5 + 3, none⟩ = some (.string (qK L x)[p].w.tok)) := fun w5 hb => by
            obtain ⟨X, o, e1, x0, x1, x2, x3, _⟩ := ((OX.out.gs KC_ok.len).below hb).atC h2
            exact ⟨X, o, e1, x0, x1, x2, x3⟩
          have F5 := hid (fun w5 (hb : Below w4.heap.size w4 w5) => F4.out.keep (w' := w5) (fun y hy => hb.block y (by have := lt_of_heap F4.out.b1; omega)))
          have hpq : p < (qK L x).length := h2
          have hpl := QL.out
          generalize (qK L x)[p] = y at *
          generalize (qK L x).length = n at *
          have hi0 : (0 : Int) ≤ (p : Int) := by omega
          have hi1 : (p : Int) < (n : Int) := by omega
          clear hi h1 h3 HM HT NO HP MX MK NX OX QP HQ h2
          go_wp2_with (go_at_call 47; refine C4.out.mono ?_; rintro e w5 ⟨rfl, hb5⟩; have B5 := hid hb5; clear hb5; obtain ⟨X, o, e1, x0, x1, x2, x3⟩ := CE.out _ B5.out; obtain rfl := e1; have y1 := (F5.out _ B5.out).b1; have zl : w.heap.size + 1 < w5.heap.size := lt_of_heap y1; obtain ⟨z0, z1, z2, z3, fz⟩ := cells4 y1; have Y1 := hid y1; clear y1 CE F5 C4)
          obtain ⟨q0, q1, q2, q3, _⟩ := cells4 (set4_heap Y1.out (.int .i64 y.w.task) (.int .i64 y.w.kind) (.string y.w.key) (.string y.w.tok))
          have BQ := hid (set4_below (bl3 B4.out B5.out) (Nat.le_add_right w.heap.size 1) (.int .i64 y.w.task) (.int .i64 y.w.kind) (.string y.w.key) (.string y.w.tok))
          unfold set4 at q0 q1 q2 q3 BQ
          refine bodyPost_ret (v := .tuple #[.agg #[.int .i64 y.w.task, .int .i64 y.w.kind, .string y.w.key, .string y.w.tok], .int .i64 p, .int .i64 0]) (by simp [results, Try.results25, go_sem, q0, q1, q2, q3]) rfl ⟨ret_find (x := y.w) HE2.out.1.symm HE2.out.2.1.symm HE2.out.2.2.symm, BQ.out⟩
end Go.Proofs.Ytofdfofpdfaimaa
