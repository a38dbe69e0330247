/- Graph: the document's order: what stands in memory. -/
import Derived.Test.YthhjknpfaghfbaaYh2
import Derived.Test.YthhjknpfaghfbaaYe6
namespace Go.Proofs.Ythhjknpfaghfbaa
open Go.RowKit

theorem LZ.but {w w' : World} {base b N : Nat} {vs : List Sl} {R : Nat → List Int} {F : Nat → Prop} (h : LZ w base b N vs R) (k : ∀ x, x < w.heap.size → ¬ F x → w'.heap[x]? = w.heap[x]?) (hb : ¬ F b) (hr : ∀ i, i < N → ∀ g, (slV (vs.getD i sl0)).ownBlock = some g → ¬ F g) : LZ w' base b N vs R :=
  ⟨h.len, h.out.far fun g hg => k g (h.out.lt hg).2 (by injection hg with hg; have hg : b = g := hg; rw [← hg]; exact hb), fun i hi => (h.row i hi).far fun g hg => k g ((h.row i hi).lt hg).2 (hr i hi g hg), h.ap⟩
/-- The numbers, and the lists. -/
structure OL (w0 : World) (N X lb : Nat) (vs : List Sl) (R : Nat → List Int) (F : Nat → Int) (W : World) : Prop where
  bl : Below w0.heap.size w0 W
  lf : LFR W w0.heap.size X N F
  lz : LZ W w0.heap.size lb N vs R
  ap : ∀ i, i < N → ∀ g, (slV (vs.getD i sl0)).ownBlock = some g → g ≠ X
theorem OL.nb {w0 : World} {N X lb : Nat} {vs : List Sl} {R : Nat → List Int} {F : Nat → Int} {W : World} (h : OL w0 N X lb vs R F W) : lb ≠ X := fun e => OwnG.apart h.lf h.lz.out (by decide) (g := lb) rfl (by rw [e]; rfl)
theorem OL.imp {w0 : World} {N X lb : Nat} {vs : List Sl} {R Q : Nat → List Int} {F : Nat → Int} {W : World} (h : OL w0 N X lb vs R F W) (k : ∀ i, i < N → R i = Q i) : OL w0 N X lb vs Q F W := ⟨h.bl, h.lf, h.lz.imp k, h.ap⟩
theorem OL.start {w0 : World} {N X : Nat} {F : Nat → Int} {W W' : World} (h : CT w0 X N W F) (hb : Below W.heap.size W W') (ho : OwnG KS W' W.heap.size (.slice (some ⟨W.heap.size, 0, none⟩) N N) (List.replicate N sl0)) : OL w0 N X W.heap.size (List.replicate N sl0) (fun _ => []) F W' :=
  ⟨bl3 h.bl hb, h.lf.far (hb.block X h.lf.lt.2), (LZ.fresh ho).low h.bl.size, fun i hi g hg => by
    have e : (List.replicate N sl0).getD i sl0 = sl0 := by simp [List.getD, hi]
    rw [e] at hg
    cases hg⟩
/-- One more in a list. -/
theorem OL.lane {w0 : World} {N X lb : Nat} {vs : List Sl} {E : List (Nat × Nat)} {F : Nat → Int} {j : Nat} (hj : j < E.length) {W w1 w8 : World} (h : OL w0 N X lb vs (fun i => nI (tg (E.take j) i)) F W) (hf : E[j].1 < N) {p : Option Addr} {cc g8 c8 : Nat} (hs : slV (vs.getD E[j].1 sl0) = .slice p (nI (tg (E.take j) E[j].1)).length cc) (h1 : Below W.heap.size W w1) (ho : OwnG KI w8 w0.heap.size (.slice (some ⟨g8, 0, none⟩) ((nI (tg (E.take j) E[j].1)).length + 1) c8) (nI (tg (E.take j) E[j].1) ++ [(E[j].2 : Int)])) (h8 : Below w0.heap.size w1 w8) (hk : ∀ k, k < w1.heap.size → some k ≠ (Value.slice p (nI (tg (E.take j) E[j].1)).length cc).ownBlock → w8.heap[k]? = w1.heap[k]?) (hg : (Value.slice p (nI (tg (E.take j) E[j].1)).length cc).ownBlock = some g8 ∨ w1.heap.size ≤ g8) :
    OL w0 N X lb (vs.set E[j].1 (some ⟨g8, 0, none⟩, (nI (tg (E.take j) E[j].1)).length + 1, c8)) (fun i => nI (tg (E.take (j + 1)) i)) F (w8.setCell ⟨lb, E[j].1, none⟩ (.slice (some ⟨g8, 0, none⟩) ((nI (tg (E.take j) E[j].1)).length + 1) c8)) ∧ w8.frozen? ⟨lb, E[j].1, none⟩ = false ∧ ∃ u, w8.cell? ⟨lb, E[j].1, none⟩ = some u := by
  have hbb := h.lz.bb
  obtain ⟨m1, m2, m3, m4⟩ := lanes_put (W := w0) hj h.lz h.bl hf hs h1 h.bl.size ho h8 hk hg
  have rowof : (slV (vs.getD E[j].1 sl0)).ownBlock = (Value.slice p (nI (tg (E.take j) E[j].1)).length cc).ownBlock := by rw [hs]
  have old : ∀ k, k < W.heap.size → (slV (vs.getD E[j].1 sl0)).ownBlock ≠ some k → w8.heap[k]? = W.heap[k]? := fun k hkl hn => (hk k (Nat.lt_of_lt_of_le hkl h1.size) (fun e => hn (by rw [rowof]; exact e.symm))).trans (h1.block k hkl)
  have all : ∀ k, k < W.heap.size → k ≠ lb → (slV (vs.getD E[j].1 sl0)).ownBlock ≠ some k → (w8.setCell ⟨lb, E[j].1, none⟩ (.slice (some ⟨g8, 0, none⟩) ((nI (tg (E.take j) E[j].1)).length + 1) c8)).heap[k]? = W.heap[k]? := fun k hkl hkb hn => by rw [set_far hkb]; exact old k hkl hn
  refine ⟨⟨m2, h.lf.far (all X h.lf.lt.2 (fun e => h.nb e.symm) (fun e => h.ap _ hf X e rfl)), m1, fun i hi g hg2 => ?_⟩, m3, m4⟩
  rw [getD_set _ _ _ _ _ (by rw [h.lz.len]; exact hf)] at hg2
  by_cases e : i = E[j].1
  · rw [if_pos e] at hg2
    injection hg2 with hg2
    have hg2 : g8 = g := hg2
    subst hg2
    rcases hg with e2 | e2
    · exact h.ap _ hf g8 (by rw [rowof]; exact e2)
    · intro e3
      have := h.lf.lt.2
      have := h1.size
      omega
  · rw [if_neg e] at hg2
    exact h.ap i hi g hg2
/-- Beside them the order. -/
structure OX (w0 : World) (N X lb : Nat) (vs : List Sl) (R : Nat → List Int) (u : Value) (D : List Nat) (F : Nat → Int) (W : World) : Prop where
  ol : OL w0 N X lb vs R F W
  od : OwnG KI W w0.heap.size u (nI D)
  a2 : u.ownBlock ≠ some X
  a3 : ∀ i, i < N → ∀ g, (slV (vs.getD i sl0)).ownBlock = some g → u.ownBlock ≠ some g
theorem OX.start {w0 : World} {N X lb : Nat} {vs : List Sl} {R : Nat → List Int} {F : Nat → Int} {W : World} (h : OL w0 N X lb vs R F W) : OX w0 N X lb vs R (.slice (some ⟨W.heap.size, 0, none⟩) 0 0) [] F (W.alloc (.cells #[] KI.ty)) := by
  refine ⟨⟨bl3 h.bl (bal _ _), h.lf.far (Below.heap_alloc _ _ _ h.lf.lt.2), h.lz.below (bal _ _), h.ap⟩, (OwnG.empty KI W).low h.bl.size, fun e => ?_, fun i hi g hg e => ?_⟩
  · injection e with e
    have e : W.heap.size = X := e
    have := h.lf.lt.2
    omega
  · injection e with e
    have e : W.heap.size = g := e
    have := ((h.lz.row i hi).lt hg).2
    omega
theorem OX.set {w0 : World} {N X lb : Nat} {vs : List Sl} {R : Nat → List Int} {u : Value} {D : List Nat} {F : Nat → Int} {W : World} (h : OX w0 N X lb vs R u D F W) (i : Nat) (y : Int) : OX w0 N X lb vs R u D (upF F i y) (W.setCell ⟨X, i, none⟩ (.int .i64 y)) :=
  ⟨⟨h.ol.bl.setCell (p := ⟨X, _, none⟩) h.ol.lf.lt.1 _, h.ol.lf.set i y, h.ol.lz.but (F := fun x => x = X) (fun x _ hx => set_far hx) h.ol.nb h.ol.ap, h.ol.ap⟩, h.od.far fun g hg => set_far (fun e => h.a2 (by rw [← e]; exact hg)), h.a2, h.a3⟩
theorem OX.eq {w0 : World} {N X lb : Nat} {vs : List Sl} {R : Nat → List Int} {u : Value} {D : List Nat} {F G : Nat → Int} {W : World} (h : OX w0 N X lb vs R u D F W) (k : ∀ x, F x = G x) : OX w0 N X lb vs R u D G W := by rw [← (funext k : F = G)]; exact h
theorem OX.below {w0 : World} {N X lb : Nat} {vs : List Sl} {R : Nat → List Int} {u : Value} {D : List Nat} {F : Nat → Int} {W W' : World} (h : OX w0 N X lb vs R u D F W) (k : Below W.heap.size W W') : OX w0 N X lb vs R u D F W' :=
  ⟨⟨bl3 h.ol.bl k, h.ol.lf.far (k.block X h.ol.lf.lt.2), h.ol.lz.below k, h.ol.ap⟩, h.od.below k, h.a2, h.a3⟩
theorem OX.app {w0 : World} {N X lb : Nat} {vs : List Sl} {R : Nat → List Int} {u : Value} {D : List Nat} {F : Nat → Int} {W w' : World} (h : OX w0 N X lb vs R u D F W) {x g cap : Nat} (ho : OwnG KI w' w0.heap.size (.slice (some ⟨g, 0, none⟩) ((nI D).length + 1) cap) (nI D ++ [(x : Int)])) (hb : Below w0.heap.size W w') (hk : ∀ k, k < W.heap.size → some k ≠ u.ownBlock → w'.heap[k]? = W.heap[k]?) (hg : u.ownBlock = some g ∨ W.heap.size ≤ g) : OX w0 N X lb vs R (.slice (some ⟨g, 0, none⟩) ((nI D).length + 1) cap) (D ++ [x]) F w' := by
  refine ⟨⟨h.ol.bl.trans hb, h.ol.lf.far (hk X h.ol.lf.lt.2 (fun e => h.a2 e.symm)), h.ol.lz.but (F := fun x => u.ownBlock = some x) (fun x hx hn => hk x hx (fun e => hn e.symm)) (fun e => h.od.apart h.ol.lz.out (by decide) (g := lb) rfl e) (fun i hi g hg e => h.a3 i hi g hg e), h.ol.ap⟩, by rw [nI_app]; exact ho, fun e => ?_, fun i hi g' hg' e => ?_⟩
  · injection e with e
    have e : g = X := e
    rcases hg with q | q
    · exact h.a2 (by rw [q, e])
    · have := h.ol.lf.lt.2; omega
  · injection e with e
    have e : g = g' := e
    subst e
    rcases hg with q | q
    · exact h.a3 i hi g hg' q
    · have := ((h.ol.lz.row i hi).lt hg').2; omega
theorem elE_take {E : List (Nat × Nat)} {i : Nat} (hi : i < E.length) (x : Nat) : (elE (E.take (i + 1)) [] x : Int) = if x = E[i].2 then (elE (E.take i) [] x : Int) + 1 else elE (E.take i) [] x := by
  unfold elE
  rw [List.take_succ_eq_append_getElem hi, List.filter_append, List.length_append]
  by_cases e : x = E[i].2
  · rw [if_pos e]
    simp [e]
  · rw [if_neg e]
    have : ¬ E[i].2 = x := fun q => e q.symm
    simp [this]
theorem CT.edge {w : World} {X N : Nat} {wr : World} {E : List (Nat × Nat)} {i : Nat} (h : CT w X N wr (fun x => (elE (E.take i) [] x : Nat))) (hi : i < E.length) : CT w X N (wr.setCell ⟨X, E[i].2, none⟩ (.int .i64 ((elE (E.take i) [] E[i].2 : Nat) + 1))) (fun x => (elE (E.take (i + 1)) [] x : Nat)) :=
  ⟨h.bl.setCell (p := ⟨X, _, none⟩) h.lf.lt.1 _, (h.lf.set _ _).eq fun x => by
    rw [elE_take hi]
    unfold upF
    split
    · rename_i e; rw [e]
    · rfl⟩
theorem KO.least {N : Nat} {E : List (Nat × Nat)} (hg : GOK N E) {D : List Nat} (h : KO N E D) (hl : D.length < N) (hr : ∀ x, x < N → ¬ Wy (ed E) x x) : ∃ y, y < N ∧ cnd E D y ∧ ∀ m, m < y → ¬ cnd E D m := by
  obtain ⟨x, hx, hc⟩ := h.more hg hl hr
  induction x using Nat.strongRecOn with
  | _ x ih =>
    by_cases q : ∃ m, m < x ∧ cnd E D m
    · obtain ⟨m, q1, q2⟩ := q
      exact ih m q1 (by omega) q2
    · exact ⟨x, hx, hc, fun m hm hm2 => q ⟨m, hm, hm2⟩⟩
theorem elE_nil (x : Nat) : elE [] [] x = 0 := rfl
theorem lfR_nil (E : List (Nat × Nat)) (x : Nat) : lfR E [] x = elE E [] x := by unfold lfR; rw [if_neg (by simp)]
end Go.Proofs.Ythhjknpfaghfbaa
