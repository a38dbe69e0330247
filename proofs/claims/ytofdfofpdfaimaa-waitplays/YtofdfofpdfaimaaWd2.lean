/- Waiting: take, whatever it is handed. -/
import Derived.Test.YtofdfofpdfaimaaWd1
namespace Go.Proofs.Ytofdfofpdfaimaa
open Go.RowKit Go.Maps

/-- Who goes, and who stays, of a queue. -/
def gnL (p : Nat → Wc → Bool) : Nat → List Wc → List Wc
  | _, [] => []
  | k, x :: l => if p k x = true then x :: gnL p (k + 1) l else gnL p (k + 1) l
def stL (p : Nat → Wc → Bool) : Nat → List Wc → List Wc
  | _, [] => []
  | k, x :: l => if p k x = true then stL p (k + 1) l else x :: stL p (k + 1) l
theorem gnL_app (p : Nat → Wc → Bool) : ∀ (k : Nat) (l : List Wc) (x : Wc), gnL p k (l ++ [x]) = gnL p k l ++ (if p (k + l.length) x = true then [x] else [])
  | k, [], x => by simp [gnL]
  | k, y :: l, x => by
    rw [List.cons_append, gnL, gnL, gnL_app p (k + 1) l x, show k + 1 + l.length = k + (y :: l).length by simp; omega]
    split <;> simp
theorem stL_app (p : Nat → Wc → Bool) : ∀ (k : Nat) (l : List Wc) (x : Wc), stL p k (l ++ [x]) = stL p k l ++ (if p (k + l.length) x = true then [] else [x])
  | k, [], x => by simp [stL]
  | k, y :: l, x => by
    rw [List.cons_append, stL, stL, stL_app p (k + 1) l x, show k + 1 + l.length = k + (y :: l).length by simp; omega]
    split <;> simp
theorem gnL_sub (p : Nat → Wc → Bool) : ∀ (k : Nat) (l : List Wc), (gnL p k l).Sublist l
  | k, [] => List.Sublist.slnil
  | k, x :: l => by
    rw [gnL]
    split
    · exact (gnL_sub p (k + 1) l).cons_cons x
    · exact (gnL_sub p (k + 1) l).cons x
theorem stL_sub (p : Nat → Wc → Bool) : ∀ (k : Nat) (l : List Wc), (stL p k l).Sublist l
  | k, [] => List.Sublist.slnil
  | k, x :: l => by
    rw [stL]
    split
    · exact (stL_sub p (k + 1) l).cons x
    · exact (stL_sub p (k + 1) l).cons_cons x
/-- The list without these. -/
def outL (L g : List Wc) : List Wc := L.filter fun x => !(g.any fun y => decide (y.w.task = x.w.task))
theorem outL_st (p : Nat → Wc → Bool) : ∀ (k : Nat) (l : List Wc), (l.Pairwise fun a b => a.w.task ≠ b.w.task) → outL l (gnL p k l) = stL p k l
  | k, [], _ => rfl
  | k, x :: l, h => by
    have h2 := List.pairwise_cons.1 h
    have ih := outL_st p (k + 1) l h2.2
    unfold outL at ih ⊢
    have hx : ∀ y ∈ gnL p (k + 1) l, ¬ y.w.task = x.w.task := fun y hy e => h2.1 y ((gnL_sub p (k + 1) l).subset hy) e.symm
    rw [gnL, stL]
    split
    · rw [List.filter_cons_of_neg (by simp), ← ih]
      refine List.filter_congr (fun y hy => ?_)
      have : ¬ x.w.task = y.w.task := h2.1 y hy
      simp [this]
    · rw [List.filter_cons_of_pos (by simpa using hx), ih]
theorem outL_queue {L : List Wc} {c : Nat} (h : RI L c) (p : Nat → Wc → Bool) (key : ByteArray) : qK (outL L (gnL p 0 (qK L key))) key = stL p 0 (qK L key) ∧ ∀ s, s ≠ key → qK (outL L (gnL p 0 (qK L key))) s = qK L s := by
  have comm : ∀ s, qK (outL L (gnL p 0 (qK L key))) s = outL (qK L s) (gnL p 0 (qK L key)) := fun s => by
    unfold qK outL
    rw [List.filter_filter, List.filter_filter]
    refine List.filter_congr (fun x _ => ?_)
    exact Bool.and_comm _ _
  refine ⟨?_, fun s hs => ?_⟩
  · rw [comm]; exact outL_st p 0 (qK L key) (h.tk.sublist List.filter_sublist)
  · rw [comm]
    unfold outL
    rw [List.filter_eq_self]
    intro x hx
    obtain ⟨h1, h2⟩ := qK_mem.1 hx
    simp only [Bool.not_eq_true', List.any_eq_false, decide_eq_true_eq]
    intro y hy e
    obtain ⟨h3, h4⟩ := qK_mem.1 ((gnL_sub p 0 _).subset hy)
    have := h.uniq h3 h1 e
    subst this
    exact hs (h2.symm.trans h4)
theorem outL_ri {L : List Wc} {c : Nat} (h : RI L c) (g : List Wc) : RI (outL L g) c := h.sub List.filter_sublist
/-- What is behind take's last store. -/
theorem rx_take {w w5 w6 : World} {base r m : Nat} {L : List Wc} {c : Nat} {f f' : ByteArray → Option Value} (h : RX w base r m L c f) (h5 : Below w.heap.size w w5) (p : Nat → Wc → Bool) (key : ByteArray) (vs : Value) (ho : OwnG KC w5 w.heap.size vs (stL p 0 (qK L key)))
    (hf : (f' = delF f key ∧ stL p 0 (qK L key) = []) ∨ (f' = putF f key vs ∧ stL p 0 (qK L key) ≠ [])) (hm : MQ w6 m f') (hb : But (fun y => y = m) w5 w6) : RR w base r m f (outL L (gnL p 0 (qK L key))) c w6 := by
  obtain ⟨q1, q2⟩ := outL_queue h.ri p key
  have h5x := h.below h5
  have hf2 : ∀ s, s ≠ key → f' s = f s := fun s hs => by
    rcases hf with ⟨rfl, _⟩ | ⟨rfl, _⟩
    · unfold delF; rw [if_neg hs]
    · unfold putF; rw [if_neg hs]
  have blk : ∀ y, y < w5.heap.size → y ≠ m → w6.heap[y]? = w5.heap[y]? := fun y h1 h2 => hb.block y h1 h2
  have hbase : base ≤ w.heap.size := by have := h.lt (Or.inl rfl); omega
  have hk : ∀ v, f' key = some v → v = vs ∧ stL p 0 (qK L key) ≠ [] := fun v hv => by
    rcases hf with ⟨rfl, _⟩ | ⟨rfl, hne⟩
    · unfold delF at hv; rw [if_pos rfl] at hv; cases hv
    · unfold putF at hv; rw [if_pos rfl] at hv; injection hv with hv; exact ⟨hv.symm, hne⟩
  have nm : ∀ y, vs.ownBlock = some y → y ≠ m := fun y hy e => by
    have := (ho.lt hy).1
    have := h.mq.lt
    omega
  have hn2 : ∀ (v : Value) (y : Nat), f' key = some v → v.ownBlock = some y → w.heap.size ≤ y ∨ ∃ v0, f key = some v0 ∧ v0.ownBlock = some y := fun v y e1 e2 => by
    obtain ⟨rfl, _⟩ := hk v e1
    exact Or.inl (ho.lt e2).1
  refine ⟨⟨f', ?_, ?_⟩, ?_⟩
  · refine h.turn key ?_ hm hf2 (fun s hs => q2 s hs) ?_ (fun v hv => ?_) hn2 (outL_ri h.ri _) (fun y h1 h2 h3 h4 => ?_)
    · rw [blk r (lt_of_heap h5x.hp) h.rm]; exact h5x.hp
    · rw [q1]
      rcases hf with ⟨rfl, e⟩ | ⟨rfl, hne⟩
      · rw [e]; unfold delF; rw [if_pos rfl]; rfl
      · unfold putF; rw [if_pos rfl]
        cases hs : stL p 0 (qK L key) with
        | nil => exact absurd hs hne
        | cons => rfl
    · obtain ⟨rfl, _⟩ := hk v hv
      rw [q1]
      exact (ho.low hbase).far (fun y hy => blk y (ho.lt hy).2 (nm y hy))
    · have := h5.size
      rw [blk y (by omega) h3]; exact h5.block y h1
  · exact fp_turn (w := w) key hf2 hn2
  · refine ⟨hb.os.trans h5.os, hb.tape.trans h5.tape, hb.output.trans h5.output, Nat.le_trans h5.size hb.size, fun y h1 h2 => ?_⟩
    have := h5.size
    rw [blk y (by omega) (fun e => h2 (Or.inr (Or.inl e)))]; exact h5.block y h1
/-- take's two rows. -/
structure TK (w : World) (vg vs : Value) (G T : List Wc) (wk : World) : Prop where
  g : OwnG KC wk w.heap.size vg G
  s : OwnG KC wk w.heap.size vs T
  ap : ∀ x, vg.ownBlock = some x → vs.ownBlock ≠ some x
  bl : Below w.heap.size w wk
theorem TK.below {w wk w2 : World} {vg vs : Value} {G T : List Wc} (h : TK w vg vs G T wk) (k : Below wk.heap.size wk w2) : TK w vg vs G T w2 := ⟨h.g.below k, h.s.below k, h.ap, bl3 h.bl k⟩
theorem TK.pushG {w w0 w1 : World} {vg vs : Value} {G T G2 : List Wc} {g n c : Nat} (h : TK w vg vs G T w0) (o : OwnG KC w1 w.heap.size (.slice (some ⟨g, 0, none⟩) n c) G2) (b : Below w.heap.size w0 w1) (hk : ∀ k, k < w0.heap.size → some k ≠ vg.ownBlock → w1.heap[k]? = w0.heap[k]?) (hg : vg.ownBlock = some g ∨ w0.heap.size ≤ g) : TK w (.slice (some ⟨g, 0, none⟩) n c) vs G2 T w1 := by
  refine ⟨o, h.s.far (fun x hx => hk x (h.s.lt hx).2 (fun e => h.ap x e.symm hx)), fun x hx e => ?_, h.bl.trans b⟩
  have : g = x := by simpa [Value.ownBlock] using hx
  subst this
  rcases hg with q | q
  · exact h.ap g q e
  · have := (h.s.lt e).2; omega
theorem TK.pushS {w w0 w1 : World} {vg vs : Value} {G T T2 : List Wc} {g n c : Nat} (h : TK w vg vs G T w0) (o : OwnG KC w1 w.heap.size (.slice (some ⟨g, 0, none⟩) n c) T2) (b : Below w.heap.size w0 w1) (hk : ∀ k, k < w0.heap.size → some k ≠ vs.ownBlock → w1.heap[k]? = w0.heap[k]?) (hg : vs.ownBlock = some g ∨ w0.heap.size ≤ g) : TK w vg (.slice (some ⟨g, 0, none⟩) n c) G T2 w1 := by
  refine ⟨h.g.far (fun x hx => hk x (h.g.lt hx).2 (fun e => h.ap x hx e.symm)), o, fun x hx e => ?_, h.bl.trans b⟩
  have : g = x := by simpa [Value.ownBlock] using e
  subst this
  rcases hg with q | q
  · exact h.ap g hx q
  · have := (h.g.lt hx).2; omega
theorem TK.keep {w w5 w6 : World} {vg vs : Value} {G T : List Wc} {m : Nat} (h : TK w vg vs G T w5) (hm : m < w.heap.size) (b : But (fun y => y = m) w5 w6) : OwnG KC w6 w.heap.size vg G := h.g.far (fun x hx => b.block x (h.g.lt hx).2 (by have := (h.g.lt hx).1; omega))
end Go.Proofs.Ytofdfofpdfaimaa
