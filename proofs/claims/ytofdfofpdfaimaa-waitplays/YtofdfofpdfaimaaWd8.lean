/- Waiting: Cancel. -/
import Derived.Test.YtofdfofpdfaimaaWd7
namespace Go.Proofs.Ytofdfofpdfaimaa
open Go.RowKit Go.Maps

set_option maxHeartbeats 2000000 in
theorem toks_any (k : Int) (x : Wc) (tok : ByteArray) (B : Nat) (w : World) (hB : w.heap[B]? = some (.cells #[.string tok] 9)) : Calls Try.prog 55 #[.int .i64 k, .agg #[.int .i64 x.w.task, .int .i64 x.w.kind, .string x.w.key, .string x.w.tok, .int .i64 x.came], .pointer (some ⟨B, 0, none⟩)] w fun e w' => e = .returned (.bool (decide (x.w.tok = tok))) ∧ Below w.heap.size w w' := by
  have hl := lt_of_heap hB
  have c0 := box1 hB
  have hne : ¬ B = w.heap.size := by omega
  have AL := hid (fun ob => bal w ob)
  have EQ := hid (eq_list x.w.tok tok)
  clear hB
  obtain ⟨⟨a, kd, ky, tk⟩, cm⟩ := x
  simp only at *
  by_cases e : tk = tok
  · subst e
    go_enter Try.func55, Try.ntmps55
    go_wp2
    go_ret
    exact ⟨ret_bool (by simp), AL.out _⟩
  · have e1 : (tk.toList == tok.toList) = false := by rw [EQ.out, decide_eq_false e]
    go_enter Try.func55, Try.ntmps55
    go_wp2
    go_ret
    exact ⟨ret_bool (by simp [e]), AL.out _⟩
/-- Cancel, under way. -/
structure CI (w wk : World) (base r m : Nat) (f : ByteArray → Option Value) (L : List Wc) (c : Nat) (tok : ByteArray) (P : ByteArray → Bool) (G : List Wc) (vg vt : Value) (T : List ByteArray) (B : Nat) (fk : ByteArray → Option Value) : Prop where
  rx : RX wk base r m (keptL L tok P) c fk
  fp : ∀ x, FP r m fk x → FP r m f x ∨ w.heap.size ≤ x
  bt : But (FP r m f) w wk
  og : OwnG KC wk w.heap.size vg G
  ap : ∀ x, vg.ownBlock = some x → ¬ FP r m fk x
  pm : G.Perm (goneL L tok P)
  bx : wk.heap[B]? = some (.cells #[.string tok] 9)
  ot : OwnG KS wk w.heap.size vt T
theorem CI.turn {w wk w1 w2 : World} {base r m : Nat} {f fk : ByteArray → Option Value} {L : List Wc} {c : Nat} {tok : ByteArray} {P : ByteArray → Bool} {G G2 : List Wc} {vg vt u : Value} {T : List ByteArray} {B : Nat} (h : CI w wk base r m f L c tok P G vg vt T B fk) (hri : RI L c) {key : ByteArray} (hk : P key = false)
    (hg2 : G2 = gnL (fun _ x => decide (x.w.tok = tok)) 0 (qK (keptL L tok P) key)) (r1 : RR wk base r m fk (outL (keptL L tok P) G2) c w1)
    (o2 : OwnG KC w2 w.heap.size u (G ++ G2)) (b2 : Below w.heap.size w1 w2) (k2 : ∀ x, x < w1.heap.size → some x ≠ vg.ownBlock → w2.heap[x]? = w1.heap[x]?) (hu : ∀ x, u.ownBlock = some x → vg.ownBlock = some x ∨ w1.heap.size ≤ x) : ∃ f2, CI w w2 base r m f L c tok (fun s => P s || decide (s = key)) (G ++ G2) u vt T B f2 := by
  subst hg2
  rw [kept_next hri] at r1
  obtain ⟨⟨f1, x1, p1⟩, t1⟩ := r1
  have og1 : OwnG KC w1 w.heap.size vg G := h.og.far (fun x hx => t1.block x (h.og.lt hx).2 (h.ap x hx))
  have ap1 : ∀ x, vg.ownBlock = some x → ¬ FP r m f1 x := fun x hx hf => by
    rcases p1 x hf with e | e
    · exact h.ap x hx e
    · have := (h.og.lt hx).2; omega
  have ot1 : OwnG KS w1 w.heap.size vt T := h.ot.far (fun x hx => t1.block x (h.ot.lt hx).2 (h.rx.notown h.ot (by decide) (by decide) x hx))
  have bx1 : w1.heap[B]? = some (.cells #[.string tok] 9) := (t1.block B (lt_of_heap h.bx) (h.rx.notfp h.bx (by decide) (by decide))).trans h.bx
  have fp1 : ∀ x, FP r m f1 x → FP r m f x ∨ w.heap.size ≤ x := fun x hx => by
    rcases p1 x hx with e | e
    · exact h.fp x e
    · exact Or.inr (Nat.le_trans h.bt.size e)
  have bt1 : But (FP r m f) w w1 := h.bt.trans t1 (fun x hx => h.fp x hx)
  have nvt : ∀ x, vt.ownBlock = some x → some x ≠ vg.ownBlock := fun x hx e => og1.apart ot1 (by decide) hx e.symm
  have nB : some B ≠ vg.ownBlock := fun e => og1.notat bx1 (by decide) e.symm
  refine ⟨f1, x1.keep (fun x hx => k2 x (x1.lt hx).2 (fun e => ap1 x e.symm hx)), fp1, ?_, o2, fun x hx hf => ?_, gone_next tok P key hk h.pm, (k2 B (lt_of_heap bx1) nB).trans bx1, ot1.far (fun x hx => k2 x (ot1.lt hx).2 (nvt x hx))⟩
  · refine ⟨b2.os.trans bt1.os, b2.tape.trans bt1.tape, b2.output.trans bt1.output, Nat.le_trans bt1.size b2.size, fun x hx hn => ?_⟩
    rw [b2.block x hx]; exact bt1.block x hx hn
  · rcases hu x hx with e | e
    · exact ap1 x e hf
    · have := (x1.lt hf).2; omega
end Go.Proofs.Ytofdfofpdfaimaa
