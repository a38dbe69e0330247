/- Graph: what stands in memory while the second walk goes on. -/
import Derived.Test.YtghkhceplpjegaaYf2
namespace Go.Proofs.Ytghkhceplpjegaa
open Go.RowKit Go.Shelf

/-- One more, in a round. -/
theorem append_gI {α : Type} {Fc : Fence} {nn : Nat} {P : Program} (K : RK α) (hk : K.Ok P) {ops : Array Oper} {rest : List Oper} {o : Oper} {a : Act} {Q : Exit → Act → World → Prop} (hgd : o.guard = none) (s x : Operand) (t : TypeId)
    (ho : o.op = .call { callee := .builtin .append, args := #[s, x], argTypes := #[t, t] })
    (base : Nat) (ht : P.underlying t = some (.slice K.ty))
    (w0 : World) (cells : Array Value) (tc : TypeId) (v : Value) (l : List α) (f : α) (c : Nat) (hs : a.eval s = v) (hown : OwnG K w0 base v l) (b : Nat) (hb : w0.heap.size = b)
    (hx : a.eval x = .slice (some ⟨b, 0, none⟩) 1 c) (hc : cells.toList = K.f f)
    (hlen : (l.length + 1) * K.B ≤ 140737488355328) (hbase : base ≤ w0.heap.size)
    (h : ∀ p cap w', OwnG K w' base (.slice p (l.length + 1) cap) (l ++ [f]) → Below base w0 w' → (∀ k, k < w0.heap.size → some k ≠ v.ownBlock → w'.heap[k]? = w0.heap[k]?) → wpListIn Fc nn P ops Q rest (a.put o.dst (.slice p (l.length + 1) cap)) w') : wpListIn Fc nn P ops Q (o :: rest) a (w0.alloc (.cells cells tc)) := by
  subst hb
  obtain ⟨i0, hi0, hz0, hz1, hz2⟩ := hk.info
  have hpb := hk.posB
  have hn : l.length + 1 ≤ 140737488355328 := Nat.le_trans (Nat.le_mul_of_pos_right _ hpb) hlen
  have hown2 : (w0.alloc (.cells cells tc)).ownsRow base K.ty K.W v l.length (l.flatMap K.f) := World.ownsRow.alloc hown _
  refine wpListIn_append_own _ hgd s x t ho base K.ty i0 K.z K.W K.B ht hi0 hz0 hz1 hz2 hk.zs hk.pos v l.length (l.flatMap K.f) hs hown2 ⟨w0.heap.size, 0, none⟩ 1 c (K.f f) hx (by rw [hk.len]; omega) (gr_news_at w0 cells tc _ hc) (hk.one f)
    (by unfold maxLen; omega) hlen (by simp; omega) ?_
  intro v' w' ho' hg _
  have ho2 : OwnG K w' base v' (l ++ [f]) := by
    unfold OwnG
    rw [List.length_append, List.flatMap_append]
    simpa using ho'
  have hgb : Below base w0 w' := ((Below.refl base w0).alloc hbase _).grown hg (by simp; omega) (fun q hq => (hown2.lt q hq).1)
  obtain ⟨p, cap, rfl, _⟩ := ho2.form
  have e : (l ++ [f]).length = l.length + 1 := by simp
  rw [e] at ho2 ⊢
  refine h p cap w' ho2 hgb ?_
  intro k hk hne
  rw [hg.block k (by simp; omega) hne]
  exact Below.heap_alloc w0 _ k hk
theorem gb_cells {A B : World} {row : Option Nat} {X : Nat} (hg : A.grownBy B row) (hr : ∀ r, row = some r → X ≤ r ∧ ∃ o : Obj, A.heap[r]? = some o ∧ o.isCells = false) {k : Nat} (hk : k < A.heap.size) (h : k < X ∨ ∃ arr t, A.heap[k]? = some (.cells arr t)) : B.heap[k]? = A.heap[k]? := by
  refine hg.block k hk fun e => ?_
  obtain ⟨h1, o, h2, h3⟩ := hr k e.symm
  rcases h with h | ⟨arr, t, h⟩
  · omega
  · rw [h2] at h
    injection h with h
    subst h
    cases h3
theorem LZ.butF {w w' : World} {base b N : Nat} {vs : List Sl} {R : Nat → List Int} {F : Nat → Prop} (h : LZ w base b N vs R) (k : ∀ x, x < w.heap.size → ¬ F x → w'.heap[x]? = w.heap[x]?) (hb : ¬ F b) (hr : ∀ g, F g → ∀ c, w.heap[g]? ≠ some (.cells c KI.ty)) : LZ w' base b N vs R :=
  ⟨h.len, h.out.far fun g hg => k g (h.out.lt hg).2 (by injection hg with hg; have hg : b = g := hg; rw [← hg]; exact hb), fun i hi => (h.row i hi).far fun g hg => k g ((h.row i hi).lt hg).2 (fun e => by obtain ⟨c, ec⟩ := (h.row i hi).ty hg; exact hr g e c ec), h.ap⟩
theorem not_ki {w : World} {g : Nat} {x : Array Value} {t : TypeId} (h : w.heap[g]? = some (.cells x t)) (hne : t ≠ KI.ty) : ∀ c, w.heap[g]? ≠ some (.cells c KI.ty) := fun c e => by
  rw [h] at e
  injection e with e
  injection e with _ e _
  exact hne e
/-- Between two nodes of the second walk. -/
structure CS (w0 W0 : World) (N bs b8 : Nat) (S : Nat → Bool) (Ps : List (List Int)) (W : World) : Prop where
  bl : Below w0.heap.size w0 W
  ge : W0.heap.size ≤ W.heap.size
  fr : ∀ k, k < W0.heap.size → k ≠ bs → k ≠ b8 → W.heap[k]? = W0.heap[k]?
  sn : OwnG KB W w0.heap.size (.slice (some ⟨bs, 0, none⟩) N N) ((List.range N).map S)
  pb : ∃ (ps : Sl) (vp : List Sl), W.heap[b8]? = some (.cells #[slV ps] 42) ∧ OwnG KS W W0.heap.size (slV ps) vp ∧ vp.length = Ps.length ∧ ∀ i, i < Ps.length → OwnG KI W W0.heap.size (slV (vp.getD i sl0)) (Ps.getD i [])
theorem CS.se {w0 W0 : World} {N bs b8 : Nat} {S : Nat → Bool} {Ps : List (List Int)} {W : World} (h : CS w0 W0 N bs b8 S Ps W) {i : Nat} (hi : i < N) : W.cell? ⟨bs, i, none⟩ = some (.bool (S i)) := by
  obtain ⟨X, o, e, hc⟩ := (h.sn.gs KB_ok.len).atB (k := i) (by simpa using hi)
  injection e with e
  injection e with e1 e2 _
  subst e1 e2
  rw [Nat.zero_add] at hc
  rw [hc]
  simp
theorem CS.grown {w0 W0 : World} {N bs b8 : Nat} {S : Nat → Bool} {Ps : List (List Int)} {A B : World} {row : Option Nat} (hw : w0.heap.size ≤ W0.heap.size) (h : CS w0 W0 N bs b8 S Ps A) (hg : A.grownBy B row) (hr : ∀ r, row = some r → W0.heap.size ≤ r ∧ ∃ o : Obj, A.heap[r]? = some o ∧ o.isCells = false) : CS w0 W0 N bs b8 S Ps B := by
  have own : ∀ {α : Type} {K : RK α} {base : Nat} {v : Value} {l : List α}, OwnG K A base v l → OwnG K B base v l := fun o => o.far fun g hg2 => gb_cells hg hr (o.lt hg2).2 (Or.inr (by obtain ⟨c, e⟩ := o.ty hg2; exact ⟨_, _, e⟩))
  obtain ⟨ps, vp, p1, p2, p3, p4⟩ := h.pb
  exact ⟨h.bl.grown hg h.bl.size (fun r e => Nat.le_trans hw (hr r e).1), Nat.le_trans h.ge hg.size, fun k hk h1 h2 => (gb_cells hg hr (Nat.lt_of_lt_of_le hk h.ge) (Or.inl hk)).trans (h.fr k hk h1 h2), own h.sn, ps, vp, (gb_cells hg hr (lt_of_heap p1) (Or.inr ⟨_, _, p1⟩)).trans p1, own p2, p3, fun i hi => own (p4 i hi)⟩
/-- Behind a node that was not seen. -/
theorem CS.one {w0 W0 : World} {N bs b8 : Nat} {S S' : Nat → Bool} {Ps : List (List Int)} {W Wf : World} {Fb : Nat → Prop} (h : CS w0 W0 N bs b8 S Ps W) (hF : ∀ k, Fb k → k < W0.heap.size ∧ k ≠ bs ∧ k ≠ b8) (h8 : b8 < W0.heap.size) {ps : Sl} {vp : List Sl} (p2 : OwnG KS W W0.heap.size (slV ps) vp) (p3 : vp.length = Ps.length) (p4 : ∀ i, i < Ps.length → OwnG KI W W0.heap.size (slV (vp.getD i sl0)) (Ps.getD i []))
    (hbl : Below w0.heap.size w0 Wf) (hsz : W.heap.size ≤ Wf.heap.size) (hfr : ∀ k, k < W.heap.size → k ≠ bs → k ≠ b8 → (slV ps).ownBlock ≠ some k → Wf.heap[k]? = W.heap[k]?) (hsn : OwnG KB Wf w0.heap.size (.slice (some ⟨bs, 0, none⟩) N N) ((List.range N).map S')) {ps' s : Sl} {row : List Int} (hb8 : Wf.heap[b8]? = some (.cells #[slV ps'] 42)) (ho : OwnG KS Wf W0.heap.size (slV ps') (vp ++ [s])) (hrow : OwnG KI Wf W0.heap.size (slV s) row) :
    KeepsFrom W0.heap.size W Wf ∧ KpB Fb W Wf ∧ CS w0 W0 N bs b8 S' (Ps ++ [row]) Wf := by
  have hps : ∀ k, k < W0.heap.size → (slV ps).ownBlock ≠ some k := fun k hk e => by have := (p2.lt e).1; omega
  refine ⟨⟨hsz, fun k o hk1 hk2 hk3 => ?_⟩, fun k hk => ?_, ⟨hbl, Nat.le_trans h.ge hsz, fun k hk h1 h2 => (hfr k (Nat.lt_of_lt_of_le hk h.ge) h1 h2 (hps k hk)).trans (h.fr k hk h1 h2), hsn, ps', vp ++ [s], hb8, ho, by simp [p3], fun i hi => ?_⟩⟩
  · have nc : ∀ {arr t}, W.heap[k]? = some (.cells arr t) → False := fun e => by rw [hk2] at e; injection e with e; subst e; cases hk3
    rw [hfr k (lt_of_heap hk2) (fun e => by subst e; obtain ⟨c, e2⟩ := h.sn.ty (g := k) rfl; exact nc e2) (fun e => by omega) (fun e => by obtain ⟨c, e2⟩ := p2.ty e; exact nc e2)]
    exact hk2
  · obtain ⟨f1, f2, f3⟩ := hF k hk
    exact hfr k (Nat.lt_of_lt_of_le f1 h.ge) f2 f3 (hps k f1)
  · rw [List.length_append, List.length_singleton] at hi
    by_cases e : i < Ps.length
    · have e1 : (vp ++ [s]).getD i sl0 = vp.getD i sl0 := by simp [List.getD, List.getElem?_append_left (show i < vp.length by omega)]
      have e2 : (Ps ++ [row]).getD i [] = Ps.getD i [] := by simp [List.getD, List.getElem?_append_left e]
      rw [e1, e2]
      have hr := p4 i e
      exact hr.far fun g hg => hfr g (hr.lt hg).2 (fun e => hr.apart h.sn (by decide) (g := g) (by rw [e]; rfl) hg) (fun e => by have := (hr.lt hg).1; omega) (fun e => p2.apart hr (by decide) hg e)
    · obtain rfl : i = Ps.length := by omega
      have e1 : (vp ++ [s]).getD Ps.length sl0 = s := by rw [← p3]; simp [List.getD]
      have e2 : (Ps ++ [row]).getD Ps.length [] = row := by simp [List.getD]
      rw [e1, e2]
      exact hrow
theorem graph_boxF (w : World) (n : Int) (p : Option Addr) (m c : Nat) {W : World} (hW : w.alloc (.cells #[.int .i64 n, .slice p m c] 24) = W) : Below w.heap.size w W ∧ ∀ W', Below W.heap.size W W' → W'.cell? ⟨w.heap.size, 0, none⟩ = some (.int .i64 n) ∧ W'.cell? ⟨w.heap.size, 1, none⟩ = some (.slice p m c) := by
  refine ⟨by rw [← hW]; exact bal _ _, fun W' hb => ?_⟩
  have e : W'.heap[w.heap.size]? = some (.cells #[.int .i64 n, .slice p m c] 24) := (hb.block _ (by rw [← hW, asz]; omega)).trans (by rw [← hW]; exact heap_alloc_new _ _)
  exact ⟨cell_of_row _ _ _ _ _ _ e, cell_of_row _ _ _ _ _ _ e⟩
theorem LZ.box {w : World} {base b N q o : Nat} {vs : List Sl} {R : Nat → List Int} {arr : Array Value} {u : Value} (h : LZ w base b N vs R) (hq : w.heap[q]? = some (.cells arr 57)) : LZ (w.setCell ⟨q, o, none⟩ u) base b N vs R :=
  h.off hq (by decide) (fun e => by
    obtain ⟨c2, h4⟩ := h.out.ty (g := b) rfl
    rw [e, hq] at h4
    injection h4 with h4
    injection h4 with _ h4 _
    revert h4; decide) fun x _ hx => set_far hx
theorem ne_ty {w : World} {a b : Nat} {x y : Array Value} {t u : TypeId} (h : w.heap[a]? = some (.cells x t)) (k : w.heap[b]? = some (.cells y u)) (hne : t ≠ u) : a ≠ b := fun e => by
  rw [e, k] at h
  injection h with h
  injection h with _ h _
  exact hne h.symm
theorem newbox {V w' : World} {v : Value} {t : TypeId} {b : Nat} (h : Below (V.alloc (.cells #[v] t)).heap.size (V.alloc (.cells #[v] t)) w') (hb : V.heap.size = b) : w'.heap[b]? = some (.cells #[v] t) := by
  rw [← hb]
  exact (h.block _ (by rw [asz]; omega)).trans (heap_alloc_new _ _)
theorem newboxD {V w' : World} {v : Value} {t : TypeId} {b : Nat} (h : Below (V.alloc (.cells #[v] t)).drew.heap.size (V.alloc (.cells #[v] t)).drew w') (hb : V.heap.size = b) : w'.heap[b]? = some (.cells #[v] t) := by
  rw [← hb]
  exact (h.block _ (by show V.heap.size < (V.alloc _).heap.size; rw [asz]; omega)).trans (heap_alloc_new _ _)
theorem boxkeep {V w' : World} {arr : Array Value} {t : TypeId} {b : Nat} (h : Below V.heap.size V w') (hb : V.heap[b]? = some (.cells arr t)) : w'.heap[b]? = some (.cells arr t) := (h.block _ (lt_of_heap hb)).trans hb
theorem bx3 {w' : World} {v : Value} {t : TypeId} {b : Nat} (h : w'.heap[b]? = some (.cells #[v] t)) : w'.cell? ⟨b, 0, none⟩ = some v ∧ w'.frozen? ⟨b, 0, none⟩ = false := ⟨cell_of_row _ _ _ _ _ _ h, by simp [World.frozen?, h]⟩
end Go.Proofs.Ytghkhceplpjegaa
