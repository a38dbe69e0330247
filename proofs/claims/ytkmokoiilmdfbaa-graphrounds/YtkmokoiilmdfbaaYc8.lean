/- Graph: the document's ways. -/
import Derived.Test.YtkmokoiilmdfbaaYc7
namespace Go.Proofs.Ytkmokoiilmdfbaa
open Go.RowKit

/-- The document's search in memory: who was seen, the lists, what is to be done. -/
structure WJ (w0 : World) (N bs lb : Nat) (vs : List Sl) (R : Nat → List Int) (q : Option Addr) (c : Nat) (T : List Int) (S : Nat → Bool) (W : World) : Prop where
  bl : Below w0.heap.size w0 W
  sn : OwnG KB W w0.heap.size (.slice (some ⟨bs, 0, none⟩) N N) ((List.range N).map S)
  lz : LZ W w0.heap.size lb N vs R
  td : OwnG KI W w0.heap.size (.slice q T.length c) T
  ap : ∀ i, i < N → ∀ g, (slV (vs.getD i sl0)).ownBlock = some g → (Value.slice q T.length c).ownBlock ≠ some g
theorem WJ.below {w0 : World} {N bs lb : Nat} {vs : List Sl} {R : Nat → List Int} {q : Option Addr} {c : Nat} {T : List Int} {S : Nat → Bool} {W W' : World} (h : WJ w0 N bs lb vs R q c T S W) (k : Below W.heap.size W W') : WJ w0 N bs lb vs R q c T S W' := ⟨bl3 h.bl k, h.sn.below k, h.lz.below k, h.td.below k, h.ap⟩
theorem WJ.se {w0 : World} {N bs lb : Nat} {vs : List Sl} {R : Nat → List Int} {q : Option Addr} {c : Nat} {T : List Int} {S : Nat → Bool} {W : World} (h : WJ w0 N bs lb vs R q c T S W) {i : Nat} (hi : i < N) : W.cell? ⟨bs, i, none⟩ = some (.bool (S i)) ∧ W.frozen? ⟨bs, i, none⟩ = false := by
  refine ⟨?_, own_frozen h.sn i⟩
  obtain ⟨X, o, e, hc⟩ := (h.sn.gs KB_ok.len).atB (k := i) (by simpa using hi)
  injection e with e
  injection e with e1 e2 _
  subst e1 e2
  rw [Nat.zero_add] at hc
  rw [hc]
  simp
/-- One is seen. -/
theorem WJ.st {w0 : World} {N bs lb : Nat} {vs : List Sl} {R : Nat → List Int} {q : Option Addr} {c : Nat} {T : List Int} {S : Nat → Bool} {W : World} (h : WJ w0 N bs lb vs R q c T S W) (i : Nat) : WJ w0 N bs lb vs R q c T (adP S i) (W.setCell ⟨bs, i, none⟩ (.bool true)) := by
  obtain ⟨cur, hs⟩ := h.sn.ty (g := bs) rfl
  have hlt := h.sn.lt (g := bs) rfl
  have hne : lb ≠ bs := fun e => by
    obtain ⟨c2, h4⟩ := h.lz.out.ty (g := lb) rfl
    rw [e, hs] at h4
    injection h4 with h4
    injection h4 with _ h4 _
    revert h4; decide
  refine ⟨h.bl.setCell (p := ⟨bs, i, none⟩) hlt.1 _, ?_, h.lz.off hs (by decide) hne fun x _ hx => set_far hx, h.td.far fun g hg => set_far (fun e => h.td.notat hs (by decide) (by rw [← e]; exact hg)), h.ap⟩
  have := h.sn.set1 rfl KB_ok.len (k := i) true (.bool true) rfl
  rw [rmap_set] at this
  exact this
/-- One more to do. -/
theorem WJ.push {w0 : World} {N bs lb : Nat} {vs : List Sl} {R : Nat → List Int} {q : Option Addr} {c : Nat} {T : List Int} {S : Nat → Bool} {W w8 : World} (h : WJ w0 N bs lb vs R q c T S W) {x : Int} {g8 c8 : Nat} (ho : OwnG KI w8 w0.heap.size (.slice (some ⟨g8, 0, none⟩) (T.length + 1) c8) (T ++ [x])) (hb8 : Below w0.heap.size W w8) (hk : ∀ k, k < W.heap.size → some k ≠ (Value.slice q T.length c).ownBlock → w8.heap[k]? = W.heap[k]?) (hg : (Value.slice q T.length c).ownBlock = some g8 ∨ W.heap.size ≤ g8) : WJ w0 N bs lb vs R (some ⟨g8, 0, none⟩) c8 (T ++ [x]) S w8 := by
  have old : ∀ k, k < W.heap.size → (Value.slice q T.length c).ownBlock ≠ some k → w8.heap[k]? = W.heap[k]? := fun k hkl hn => hk k hkl (fun e => hn e.symm)
  refine ⟨h.bl.trans hb8, h.sn.far fun g hg2 => old g (h.sn.lt hg2).2 (fun e => h.td.apart h.sn (by decide) hg2 e), ⟨h.lz.len, h.lz.out.far fun g hg2 => old g (h.lz.out.lt hg2).2 (fun e => h.td.apart h.lz.out (by decide) hg2 e), fun i hi => (h.lz.row i hi).far fun g hg2 => old g ((h.lz.row i hi).lt hg2).2 (h.ap i hi g hg2), h.lz.ap⟩, by rw [List.length_append]; exact ho, fun i hi g hg2 e => ?_⟩
  rw [List.length_append] at e
  injection e with e
  have e : g8 = g := e
  subst e
  rcases hg with e | e
  · exact h.ap i hi g8 hg2 e
  · have := ((h.lz.row i hi).lt hg2).2
    omega
/-- The last one is taken. -/
theorem WJ.pop {w0 : World} {N bs lb : Nat} {vs : List Sl} {R : Nat → List Int} {g c : Nat} {T : List Int} {x : Int} {S : Nat → Bool} {W : World} (h : WJ w0 N bs lb vs R (some ⟨g, 0, none⟩) c (T ++ [x]) S W) : WJ w0 N bs lb vs R (some ⟨g, 0, none⟩) c T S W := by
  refine ⟨h.bl, h.sn, h.lz, ?_, h.ap⟩
  have h2 := h.td.cut KI_ok.len T.length (by simp)
  rw [List.take_left] at h2
  exact h2
theorem WJ.form {w0 : World} {N bs lb : Nat} {vs : List Sl} {R : Nat → List Int} {q : Option Addr} {c : Nat} {T : List Int} {S : Nat → Bool} {W : World} (h : WJ w0 N bs lb vs R q c T S W) (hT : T ≠ []) : ∃ g, q = some ⟨g, 0, none⟩ := by
  have hn : (Value.slice q T.length c).ownBlock ≠ none := by
    intro e
    rcases h.td.2 with ⟨_, e3⟩ | ⟨g, cap, cur, e3, _⟩
    · exact hT (List.length_eq_zero_iff.1 e3)
    · rw [e3] at e; cases e
  obtain ⟨g, cap, e, _⟩ := h.td.place hn
  injection e with e _ _
  exact ⟨g, e⟩
/-- One more in a list. -/
theorem WJ.lane {w0 : World} {N bs lb : Nat} {vs : List Sl} {E : List (Nat × Nat)} {j : Nat} (hj : j < E.length) {q : Option Addr} {c : Nat} {T : List Int} {S : Nat → Bool} {W w1 w8 : World} (h : WJ w0 N bs lb vs (fun i => nI (tg (E.take j) i)) q c T S W) (hf : E[j].1 < N) {p : Option Addr} {cc g8 c8 : Nat} (hs : slV (vs.getD E[j].1 sl0) = .slice p (nI (tg (E.take j) E[j].1)).length cc) (h1 : Below W.heap.size W w1) (ho : OwnG KI w8 w0.heap.size (.slice (some ⟨g8, 0, none⟩) ((nI (tg (E.take j) E[j].1)).length + 1) c8) (nI (tg (E.take j) E[j].1) ++ [(E[j].2 : Int)])) (h8 : Below w0.heap.size w1 w8) (hk : ∀ k, k < w1.heap.size → some k ≠ (Value.slice p (nI (tg (E.take j) E[j].1)).length cc).ownBlock → w8.heap[k]? = w1.heap[k]?) (hg : (Value.slice p (nI (tg (E.take j) E[j].1)).length cc).ownBlock = some g8 ∨ w1.heap.size ≤ g8) :
    WJ w0 N bs lb (vs.set E[j].1 (some ⟨g8, 0, none⟩, (nI (tg (E.take j) E[j].1)).length + 1, c8)) (fun i => nI (tg (E.take (j + 1)) i)) q c T S (w8.setCell ⟨lb, E[j].1, none⟩ (.slice (some ⟨g8, 0, none⟩) ((nI (tg (E.take j) E[j].1)).length + 1) c8)) ∧ w8.frozen? ⟨lb, E[j].1, none⟩ = false ∧ ∃ u, w8.cell? ⟨lb, E[j].1, none⟩ = some u := by
  have hbb := h.lz.bb
  obtain ⟨m1, m2, m3, m4⟩ := lanes_put (W := w0) hj h.lz h.bl hf hs h1 h.bl.size ho h8 hk hg
  obtain ⟨cl, hcl⟩ := h.lz.out.ty (g := lb) rfl
  have rowof : (slV (vs.getD E[j].1 sl0)).ownBlock = (Value.slice p (nI (tg (E.take j) E[j].1)).length cc).ownBlock := by rw [hs]
  have old : ∀ k, k < W.heap.size → (slV (vs.getD E[j].1 sl0)).ownBlock ≠ some k → w8.heap[k]? = W.heap[k]? := fun k hkl hn => (hk k (Nat.lt_of_lt_of_le hkl h1.size) (fun e => hn (by rw [rowof]; exact e.symm))).trans (h1.block k hkl)
  have all : ∀ k, k < W.heap.size → k ≠ lb → (slV (vs.getD E[j].1 sl0)).ownBlock ≠ some k → (w8.setCell ⟨lb, E[j].1, none⟩ (.slice (some ⟨g8, 0, none⟩) ((nI (tg (E.take j) E[j].1)).length + 1) c8)).heap[k]? = W.heap[k]? := fun k hkl hkb hn => by rw [set_far hkb]; exact old k hkl hn
  refine ⟨⟨m2, ?_, m1, ?_, ?_⟩, m3, m4⟩
  · exact h.sn.far fun g hg2 => all g (h.sn.lt hg2).2 (fun e => h.sn.apart h.lz.out (by decide) (g := g) (by rw [e]; rfl) hg2) (fun e => (h.lz.row _ hf).apart h.sn (by decide) hg2 e)
  · exact h.td.far fun g hg2 => all g (h.td.lt hg2).2 (fun e => h.td.apart h.lz.out (by decide) (g := g) (by rw [e]; rfl) hg2) (fun e => h.ap _ hf g e hg2)
  · intro i hi g hg2
    rw [getD_set _ _ _ _ _ (by rw [h.lz.len]; exact hf)] at hg2
    by_cases e : i = E[j].1
    · rw [if_pos e] at hg2
      injection hg2 with hg2
      have hg2 : g8 = g := hg2
      subst hg2
      rcases hg with e2 | e2
      · exact h.ap _ hf g8 (by rw [rowof]; exact e2)
      · intro e3
        have := (h.td.lt e3).2
        have := h1.size
        omega
    · rw [if_neg e] at hg2
      exact h.ap i hi g hg2
end Go.Proofs.Ytkmokoiilmdfbaa
