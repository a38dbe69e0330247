/- Waiting: a room, plain and in memory. -/
import Derived.Test.YtofdfofpdfaimaaWc1
namespace Go.Proofs.Ytofdfofpdfaimaa
open Go.RowKit Go.Maps

/-- A key's queue. -/
def qK (L : List Wc) (k : ByteArray) : List Wc := L.filter fun x => decide (x.w.key = k)
/-- What every room keeps to. -/
structure RI (L : List Wc) (c : Nat) : Prop where
  tk : L.Pairwise fun a b => a.w.task ≠ b.w.task
  ok : ∀ x ∈ L, (0 ≤ x.w.task ∧ x.w.task < 128) ∧ x.w.key.size ≤ 4096 ∧ x.w.tok.size ≤ 24
  up : L.Pairwise fun a b => a.came < b.came
  cm : ∀ x ∈ L, x.came < c
theorem RI.len {L : List Wc} {c : Nat} (h : RI L c) : L.length ≤ 128 := by
  have hn : (L.map fun x => x.w.task).Nodup := List.pairwise_map.2 h.tk
  have := sub_len (m := (List.range 128).map fun (n : Nat) => (n : Int)) hn (fun t ht => by
    obtain ⟨x, hx, rfl⟩ := List.mem_map.1 ht
    have := (h.ok x hx).1
    exact List.mem_map.2 ⟨x.w.task.toNat, List.mem_range.2 (by omega), by omega⟩)
  simpa using this
theorem RI.sub {L M : List Wc} {c : Nat} (h : RI L c) (hs : M.Sublist L) : RI M c :=
  ⟨h.tk.sublist hs, fun x hx => h.ok x (hs.subset hx), h.up.sublist hs, fun x hx => h.cm x (hs.subset hx)⟩
theorem RI.nil : RI [] 0 := ⟨List.Pairwise.nil, (fun x hx => by cases hx), List.Pairwise.nil, (fun x hx => by cases hx)⟩
theorem chk_ok {x : Wt} (h : chkE x = 0) : (0 ≤ x.task ∧ x.task < 128) ∧ x.key.size ≤ 4096 ∧ x.tok.size ≤ 24 := by
  unfold chkE at h
  split at h
  · cases h
  · rename_i h1
    split at h
    · cases h
    · split at h
      · cases h
      · rename_i h2 h3
        refine ⟨?_, by omega, ?_⟩
        · have : taskB x.task = true := by simpa using h1
          simpa [taskB] using this
        · have h4 : tokB x.tok = true := by simpa using h3
          by_cases q : x.tok.size ≤ 24
          · exact q
          · rw [tokB_long (by omega)] at h4; cases h4
theorem RI.join {L : List Wc} {c : Nat} (h : RI L c) {x : Wt} (hx : chkE x = 0) (hn : ∀ y ∈ L, y.w.task ≠ x.task) : RI (L ++ [⟨x, c⟩]) (c + 1) := by
  refine ⟨List.pairwise_append.2 ⟨h.tk, List.pairwise_singleton _ _, fun a ha b hb => ?_⟩, fun y hy => ?_, List.pairwise_append.2 ⟨h.up, List.pairwise_singleton _ _, fun a ha b hb => ?_⟩, fun y hy => ?_⟩
  · obtain rfl := List.mem_singleton.1 hb; exact hn a ha
  · rcases List.mem_append.1 hy with e | e
    · exact h.ok y e
    · obtain rfl := List.mem_singleton.1 e; exact chk_ok hx
  · obtain rfl := List.mem_singleton.1 hb; exact h.cm a ha
  · rcases List.mem_append.1 hy with e | e
    · have := h.cm y e; omega
    · obtain rfl := List.mem_singleton.1 e; exact Nat.lt_succ_self _
theorem RI.uniq {L : List Wc} {c : Nat} (h : RI L c) {x y : Wc} (hx : x ∈ L) (hy : y ∈ L) (e : x.w.task = y.w.task) : x = y := by
  obtain ⟨i, hi, rfl⟩ := List.getElem_of_mem hx
  obtain ⟨j, hj, rfl⟩ := List.getElem_of_mem hy
  have pw := List.pairwise_iff_getElem.1 h.tk
  rcases Nat.lt_trichotomy i j with q | q | q
  · exact absurd e (pw i j hi hj q)
  · subst q; rfl
  · exact absurd e.symm (pw j i hj hi q)
theorem qK_mem {L : List Wc} {k : ByteArray} {x : Wc} : x ∈ qK L k ↔ x ∈ L ∧ x.w.key = k := by unfold qK; rw [List.mem_filter]; simp
theorem qK_len (L : List Wc) (k : ByteArray) : (qK L k).length ≤ L.length := List.length_filter_le _ _
theorem qK_app (L M : List Wc) (k : ByteArray) : qK (L ++ M) k = qK L k ++ qK M k := List.filter_append _ _
/-- The blocks of a room. -/
def FP (r m : Nat) (f : ByteArray → Option Value) (x : Nat) : Prop := x = r ∨ x = m ∨ ∃ k v, f k = some v ∧ v.ownBlock = some x
/-- A room in memory. -/
structure RX (w : World) (base r m : Nat) (L : List Wc) (c : Nat) (f : ByteArray → Option Value) : Prop where
  hp : w.heap[r]? = some (.cells #[.map (some m), .int .i64 c] 64)
  mq : MQ w m f
  dom : ∀ k, (f k).isSome = !(qK L k).isEmpty
  own : ∀ k v, f k = some v → OwnG KC w base v (qK L k)
  ap : ∀ k k' v v', f k = some v → f k' = some v' → k ≠ k' → v.ownBlock ≠ v'.ownBlock
  ri : RI L c
  gr : base ≤ r
  gm : base ≤ m
theorem RX.lt {w : World} {base r m : Nat} {L : List Wc} {c : Nat} {f : ByteArray → Option Value} (h : RX w base r m L c f) {x : Nat} (hx : FP r m f x) : base ≤ x ∧ x < w.heap.size := by
  rcases hx with rfl | rfl | ⟨k, v, h1, h2⟩
  · exact ⟨h.gr, lt_of_heap h.hp⟩
  · exact ⟨h.gm, h.mq.lt⟩
  · exact (h.own k v h1).lt h2
theorem RX.keep {w w' : World} {base r m : Nat} {L : List Wc} {c : Nat} {f : ByteArray → Option Value} (h : RX w base r m L c f) (k : ∀ x, FP r m f x → w'.heap[x]? = w.heap[x]?) : RX w' base r m L c f :=
  { h with hp := (k r (Or.inl rfl)).trans h.hp, mq := h.mq.far (k m (Or.inr (Or.inl rfl))), own := fun q v hq => (h.own q v hq).far (fun g hg => k g (Or.inr (Or.inr ⟨q, v, hq, hg⟩))) }
theorem RX.below {w w' : World} {base r m : Nat} {L : List Wc} {c : Nat} {f : ByteArray → Option Value} (h : RX w base r m L c f) (k : Below w.heap.size w w') : RX w' base r m L c f :=
  h.keep (fun x hx => k.block x (h.lt hx).2)
theorem RX.cells {w : World} {base r m : Nat} {L : List Wc} {c : Nat} {f : ByteArray → Option Value} (h : RX w base r m L c f) : w.cell? ⟨r, 0, none⟩ = some (.map (some m)) ∧ w.cell? ⟨r, 1, none⟩ = some (.int .i64 c) ∧ ∀ o, w.frozen? ⟨r, o, none⟩ = false :=
  ⟨cell_of_row _ _ _ _ _ _ h.hp, cell_of_row _ _ _ _ _ _ h.hp, fun o => by simp [World.frozen?, h.hp]⟩
theorem RX.rm {w : World} {base r m : Nat} {L : List Wc} {c : Nat} {f : ByteArray → Option Value} (h : RX w base r m L c f) : r ≠ m := by
  intro e
  subst e
  obtain ⟨D, ⟨es, cl, h1, _⟩, _⟩ := h.mq
  rw [h.hp] at h1; cases h1
theorem RX.ownne {w : World} {base r m : Nat} {L : List Wc} {c : Nat} {f : ByteArray → Option Value} (h : RX w base r m L c f) {k : ByteArray} {v : Value} (hf : f k = some v) {x : Nat} (hx : v.ownBlock = some x) : x ≠ r ∧ x ≠ m := by
  obtain ⟨cur, hc⟩ := (h.own k v hf).ty hx
  refine ⟨fun e => ?_, fun e => ?_⟩
  · subst e
    rw [h.hp] at hc
    injection hc with hc
    injection hc with _ hc _
    exact absurd hc (by decide)
  · subst e
    obtain ⟨D, ⟨es, cl, h1, _⟩, _⟩ := h.mq
    rw [hc] at h1; cases h1
theorem RX.keys {w : World} {base r m : Nat} {L : List Wc} {c : Nat} {f : ByteArray → Option Value} (h : RX w base r m L c f) : ∀ s, (f s).isSome = true → s ∈ L.map fun x => x.w.key := fun s hs => by
  rw [h.dom] at hs
  cases hq : qK L s with
  | nil => rw [hq] at hs; cases hs
  | cons x t =>
    have : x ∈ qK L s := by rw [hq]; simp
    obtain ⟨h1, h2⟩ := qK_mem.1 this
    exact List.mem_map.2 ⟨x, h1, h2⟩
/-- The slice that a look-up gives. -/
theorem RX.at {w : World} {base r m : Nat} {L : List Wc} {c : Nat} {f : ByteArray → Option Value} (h : RX w base r m L c f) (k : ByteArray) : OwnG KC w base ((f k).getD (.slice none 0 0)) (qK L k) := by
  cases hf : f k with
  | some v => exact h.own k v hf
  | none =>
    have := h.dom k
    rw [hf] at this
    have e : qK L k = [] := by simpa using this.symm
    rw [e]
    exact OwnG.nil _ _ _
theorem zeroQ (w : World) : (zeroValue 66).run Try.prog w = .ok (.slice none 0 0) w := by kernel_rfl
theorem RX.look {w : World} {base r m : Nat} {L : List Wc} {c : Nat} {f : ByteArray → Option Value} (h : RX w base r m L c f) {k : ByteArray} (hk : k.size ≤ maxLen) : (Instr.lookup 62 (.map (some m)) (.string k) false).run Try.prog w = .ok ((f k).getD (.slice none 0 0)) w :=
  h.mq.look Try.underlying62 (zeroQ w) hk
/-- The room with another queue in the place of a key's. -/
theorem RX.turn {w w' : World} {base r m : Nat} {L L' : List Wc} {c c' : Nat} {f f' : ByteArray → Option Value} (h : RX w base r m L c f) (k : ByteArray)
    (hp : w'.heap[r]? = some (.cells #[.map (some m), .int .i64 c'] 64)) (hm : MQ w' m f')
    (hf : ∀ s, s ≠ k → f' s = f s) (hq : ∀ s, s ≠ k → qK L' s = qK L s) (hd : (f' k).isSome = !(qK L' k).isEmpty) (ho : ∀ v, f' k = some v → OwnG KC w' base v (qK L' k))
    (hn : ∀ v x, f' k = some v → v.ownBlock = some x → w.heap.size ≤ x ∨ ∃ v0, f k = some v0 ∧ v0.ownBlock = some x)
    (hr : RI L' c') (hb : ∀ x, x < w.heap.size → x ≠ r → x ≠ m → (∀ v, f k = some v → v.ownBlock ≠ some x) → w'.heap[x]? = w.heap[x]?) : RX w' base r m L' c' f' := by
  have keep : ∀ s v, s ≠ k → f s = some v → ∀ g, v.ownBlock = some g → w'.heap[g]? = w.heap[g]? := fun s v hs hv g hg => by
    have h1 := h.ownne hv hg
    refine hb g ((h.own s v hv).lt hg).2 h1.1 h1.2 (fun v0 h0 e => ?_)
    exact h.ap s k v v0 hv h0 hs (hg.trans e.symm)
  refine ⟨hp, hm, fun s => ?_, fun s v hv => ?_, fun s s' v v' hv hv' hss => ?_, hr, h.gr, h.gm⟩
  · by_cases e : s = k
    · subst e; exact hd
    · rw [hf s e, hq s e]; exact h.dom s
  · by_cases e : s = k
    · subst e; exact ho v hv
    · rw [hf s e] at hv
      rw [hq s e]
      exact (h.own s v hv).far (keep s v e hv)
  · have one : ∀ s v v', s ≠ k → f' s = some v → f' k = some v' → v.ownBlock ≠ v'.ownBlock := fun s v v' e hv hv' => by
      rw [hf s e] at hv
      intro q
      cases ho9 : v.ownBlock with
      | none =>
        have h1 := h.own s v hv
        have h2 := h.dom s
        rw [hv] at h2
        rcases h1.2 with ⟨_, e2⟩ | ⟨g, cap, cur, e2, _⟩
        · rw [List.length_eq_zero_iff.1 e2] at h2; cases h2
        · rw [e2] at ho9; cases ho9
      | some x =>
        have hx := (h.own s v hv).lt ho9
        rcases hn v' x hv' (q.symm.trans ho9) with e3 | ⟨v0, e3, e4⟩
        · omega
        · exact h.ap s k v v0 hv e3 e (ho9.trans e4.symm)
    by_cases e : s = k
    · subst e
      exact fun q => one s' v' v (fun e => hss e.symm) hv' hv q.symm
    · by_cases e' : s' = k
      · subst e'; exact one s v v' e hv hv'
      · rw [hf s e] at hv
        rw [hf s' e'] at hv'
        exact h.ap s s' v v' hv hv' hss
/-- What the room's blocks are then. -/
theorem fp_turn {w : World} {r m : Nat} {f f' : ByteArray → Option Value} (k : ByteArray) (hf : ∀ s, s ≠ k → f' s = f s)
    (hn : ∀ v x, f' k = some v → v.ownBlock = some x → w.heap.size ≤ x ∨ ∃ v0, f k = some v0 ∧ v0.ownBlock = some x) : ∀ x, FP r m f' x → FP r m f x ∨ w.heap.size ≤ x := by
  rintro x (rfl | rfl | ⟨s, v, h1, h2⟩)
  · exact Or.inl (Or.inl rfl)
  · exact Or.inl (Or.inr (Or.inl rfl))
  · by_cases e : s = k
    · subst e
      rcases hn v x h1 h2 with q | ⟨v0, q1, q2⟩
      · exact Or.inr q
      · exact Or.inl (Or.inr (Or.inr ⟨s, v0, q1, q2⟩))
    · rw [hf s e] at h1
      exact Or.inl (Or.inr (Or.inr ⟨s, v, h1, h2⟩))
/-- What a call of a room leaves. -/
structure RR (w : World) (base r m : Nat) (f : ByteArray → Option Value) (L' : List Wc) (c' : Nat) (w' : World) : Prop where
  ex : ∃ f', RX w' base r m L' c' f' ∧ (∀ x, FP r m f' x → FP r m f x ∨ w.heap.size ≤ x)
  bt : But (FP r m f) w w'
theorem RX.rr {w w' : World} {base r m : Nat} {L : List Wc} {c : Nat} {f : ByteArray → Option Value} (h : RX w base r m L c f) (k : Below w.heap.size w w') : RR w base r m f L c w' :=
  ⟨⟨f, h.below k, fun _ hx => Or.inl hx⟩, But.of_below k⟩
end Go.Proofs.Ytofdfofpdfaimaa
