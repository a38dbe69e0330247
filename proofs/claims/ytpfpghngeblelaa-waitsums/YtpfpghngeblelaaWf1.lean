/- Waiting: what the law WaitFirst calls, one behind the other. -/
import Derived.Test.YtpfpghngeblelaaWe3
namespace Go.Proofs.Ytpfpghngeblelaa
open Go.RowKit Go.Maps

theorem out_all {L : List Wc} {c : Nat} (h : RI L c) (key : ByteArray) : outL L (qK L key) = L.filter fun x => !decide (x.w.key = key) := by
  unfold outL
  refine List.filter_congr (fun x hx => ?_)
  rw [Bool.eq_iff_iff]
  simp only [Bool.not_eq_true', List.any_eq_false, decide_eq_true_eq, decide_eq_false_iff_not]
  constructor
  · intro h1 h2
    exact h1 x (qK_mem.2 ⟨hx, h2⟩) rfl
  · intro h1 y hy e
    obtain ⟨h2, h3⟩ := qK_mem.1 hy
    have := h.uniq h2 hx e
    subst this
    exact h1 h3
theorem filter_two {α : Type} (p : α → Bool) : ∀ l : List α, (l.filter p).length + (l.filter fun x => !p x).length = l.length
  | [] => rfl
  | x :: l => by
    have := filter_two p l
    rw [List.filter_cons, List.filter_cons]
    cases p x <;> simp <;> omega
theorem out_len {L : List Wc} {c : Nat} (h : RI L c) (key : ByteArray) : (qK L key).length + (outL L (qK L key)).length = L.length := by
  rw [out_all h]; exact filter_two _ L
theorem out_none {L : List Wc} {c : Nat} (h : RI L c) (key : ByteArray) : qK (outL L (qK L key)) key = [] := by
  rw [out_all h]
  unfold qK
  rw [List.filter_filter, List.filter_eq_nil_iff]
  intro x _
  simp
/-- Two rooms, and a row. -/
structure PX (w wk : World) (b1 r1 m1 b2 r2 m2 b3 : Nat) (L1 L2 : List Wc) (c1 c2 : Nat) (f1 : ByteArray → Option Value) (vw : Value) (W : List Wt) : Prop where
  x : RX wk b1 r1 m1 L1 c1 f1
  y : ∃ f, RX wk b2 r2 m2 L2 c2 f
  ow : OwnG KW wk b3 vw W
  lt : ∀ b, FP r1 m1 f1 b → b < b2
  bl : Below w.heap.size w wk
  g1 : w.heap.size ≤ b1
theorem PX.below {w wk w2 : World} {b1 r1 m1 b2 r2 m2 b3 : Nat} {L1 L2 : List Wc} {c1 c2 : Nat} {f1 : ByteArray → Option Value} {vw : Value} {W : List Wt} (h : PX w wk b1 r1 m1 b2 r2 m2 b3 L1 L2 c1 c2 f1 vw W) (k : Below wk.heap.size wk w2) : PX w w2 b1 r1 m1 b2 r2 m2 b3 L1 L2 c1 c2 f1 vw W :=
  ⟨h.x.below k, by obtain ⟨f, hf⟩ := h.y; exact ⟨f, hf.below k⟩, h.ow.below k, h.lt, bl3 h.bl k, h.g1⟩
/-- One room, and a row. -/
structure PY (w wk : World) (b2 r2 m2 b3 : Nat) (L2 : List Wc) (c2 : Nat) (vw : Value) (W : List Wt) : Prop where
  y : ∃ f, RX wk b2 r2 m2 L2 c2 f
  ow : OwnG KW wk b3 vw W
  bl : Below w.heap.size w wk
  g2 : w.heap.size ≤ b2
theorem PY.below {w wk w2 : World} {b2 r2 m2 b3 : Nat} {L2 : List Wc} {c2 : Nat} {vw : Value} {W : List Wt} (h : PY w wk b2 r2 m2 b3 L2 c2 vw W) (k : Below wk.heap.size wk w2) : PY w w2 b2 r2 m2 b3 L2 c2 vw W :=
  ⟨by obtain ⟨f, hf⟩ := h.y; exact ⟨f, hf.below k⟩, h.ow.below k, bl3 h.bl k, h.g2⟩
theorem PX.wake {w wk w2 : World} {b1 r1 m1 b2 r2 m2 b3 : Nat} {L1 L2 L1' : List Wc} {c1 c2 c1' : Nat} {f1 : ByteArray → Option Value} {vw : Value} {W : List Wt} (h : PX w wk b1 r1 m1 b2 r2 m2 b3 L1 L2 c1 c2 f1 vw W) (q : RR wk b1 r1 m1 f1 L1' c1' w2) : (∃ f, RX w2 b1 r1 m1 L1' c1' f) ∧ PY w w2 b2 r2 m2 b3 L2 c2 vw W := by
  have q1 := h.x.rq q
  obtain ⟨f, hf⟩ := h.y
  have hx := h.x.lt (Or.inl rfl)
  refine ⟨q1.rx, ⟨f, hf.keep (fun b hb => q.bt.block b (hf.lt hb).2 (fun e => ?_))⟩, h.ow.kp q1.kp (by decide) (by decide), h.bl.trans (q1.bl.mono h.g1), ?_⟩
  · have h1 := h.lt b e; have h2 := (hf.lt hb).1; omega
  · have h1 := h.lt _ (Or.inl rfl); have := h.g1; omega
/-- The calls of the first room. -/
theorem pb_chain {w wk : World} {b1 r1 m1 b2 r2 m2 b3 : Nat} {L L2 : List Wc} {c c2 : Nat} {f1 : ByteArray → Option Value} {vw : Value} {key : ByteArray} (hk : key.size ≤ maxLen) (h : PX w wk b1 r1 m1 b2 r2 m2 b3 L L2 c c2 f1 vw ((qK L key).map fun x => x.w)) :
    Calls Try.prog 22 #[.pointer (some ⟨r1, 0, none⟩), .string key] wk fun e wa => ∃ pa ca, e = .returned (.slice pa (qK L key).length ca) ∧
      Calls Try.prog 17 #[.slice pa (qK L key).length ca, vw] wa fun e wb => e = .returned (.bool true) ∧
        Calls Try.prog 10 #[.pointer (some ⟨r1, 0, none⟩), .string key] wb fun e wc => ∃ pc cc, e = .returned (.slice pc (qK L key).length cc) ∧
          Calls Try.prog 17 #[.slice pc (qK L key).length cc, vw] wc fun e wd => e = .returned (.bool true) ∧
            Calls Try.prog 22 #[.pointer (some ⟨r1, 0, none⟩), .string key] wd fun e we => ∃ pe ce, e = .returned (.slice pe 0 ce) ∧
              Calls Try.prog 23 #[.pointer (some ⟨r1, 0, none⟩)] we fun e wf => e = .returned (.int .i64 ((L.length : Int) - (qK L key).length)) ∧ PY w wf b2 r2 m2 b3 L2 c2 vw ((qK L key).map fun x => x.w) := by
  have hq : ((qK L key).map fun x => x.w).length ≤ 100000000000 := by
    have h1 := qK_len L key
    have h2 := h.x.ri.len
    simp; omega
  refine (queue_any key wk b1 r1 m1 L c f1 h.x hk).mono ?_
  rintro e wa ⟨pa, ca, rfl, oa, ba⟩
  have ha := h.below ba
  refine ⟨pa, ca, rfl, (waiters_same wa _ _ _ (oa.gs KW_ok.len) (ha.ow.gs KW_ok.len) hq).mono ?_⟩
  rintro e wb ⟨rfl, nb, rfl⟩
  have hb := ha.below (drew_below _ nb)
  refine ⟨rfl, (wake_any key _ b1 r1 m1 L c f1 hb.x hk).mono ?_⟩
  rintro e wc ⟨pc, cc, rfl, oc, rc⟩
  obtain ⟨⟨f', xc⟩, yc⟩ := hb.wake rc
  refine ⟨pc, cc, rfl, (waiters_same wc _ _ _ (oc.gs KW_ok.len) (yc.ow.gs KW_ok.len) hq).mono ?_⟩
  rintro e wd ⟨rfl, nd, rfl⟩
  have xd := xc.below (drew_below _ nd)
  have yd := yc.below (drew_below _ nd)
  refine ⟨rfl, (queue_any key _ b1 r1 m1 _ c f' xd hk).mono ?_⟩
  rintro e we ⟨pe, ce, rfl, oe, be⟩
  have ez : (qK (outL L (qK L key)) key).length = 0 := by rw [out_none h.x.ri]; rfl
  refine ⟨pe, ce, by rw [ez], (len_any we b1 r1 m1 _ c f' (xd.below be)).mono ?_⟩
  rintro e wf ⟨rfl, bf⟩
  refine ⟨ret_i ?_, (yd.below be).below bf⟩
  have := out_len h.x.ri key
  omega
/-- One woken. -/
theorem stL_few (n : Int) : ∀ (k : Nat) (l : List Wc), stL (fun j _ => decide ((j : Int) < n)) k l = l.drop (n - k).toNat
  | _, [] => by simp [stL]
  | k, x :: l => by
    rw [stL, stL_few n (k + 1) l]
    by_cases e : (k : Int) < n
    · rw [if_pos (by simpa using e), show (n - (k : Int)).toNat = (n - ((k + 1 : Nat) : Int)).toNat + 1 by omega, List.drop_succ_cons]
    · rw [if_neg (by simpa using e), show (n - (k : Int)).toNat = 0 by omega, show (n - ((k + 1 : Nat) : Int)).toNat = 0 by omega]; rfl
theorem out_take {L : List Wc} {c : Nat} (h : RI L c) (key : ByteArray) (n : Int) : qK (outL L ((qK L key).take n.toNat)) key = (qK L key).drop n.toNat := by
  have h1 := (outL_queue h (fun j _ => decide ((j : Int) < n)) key).1
  rw [gnL_few, stL_few, show n - ((0 : Nat) : Int) = n by omega] at h1
  exact h1
theorem out_gone (L g : List Wc) {x : Wc} (hx : x ∈ g) : ∀ y ∈ outL L g, y.w.task ≠ x.w.task := fun y hy e => by
  unfold outL at hy
  have h2 := (List.mem_filter.1 hy).2
  simp only [Bool.not_eq_true', List.any_eq_false, decide_eq_true_eq] at h2
  exact h2 x hx e.symm
end Go.Proofs.Ytpfpghngeblelaa
