/- Values: value.Sort, walked. -/
import Derived.Test.YtahcllncjpaijaaVt1
import Derived.Test.YtahcllncjpaijaaGr2
namespace Go.Proofs.Ytahcllncjpaijaa
open Go.RowKit

def x0L : Lx := ⟨none, none, 0, 0⟩
theorem made2 (n : Nat) : (madeCells KL.z.cells (n * 2)).toList = (List.replicate n x0L).flatMap KL.f := by
  have h : ∀ i : Nat, (#[.slice none 0 0, .slice none 0 0] : Array Value)[i % 2]! = .slice none 0 0 := by
    intro i
    rcases Nat.mod_two_eq_zero_or_one i with h | h <;> rw [h] <;> rfl
  have e1 : (madeCells KL.z.cells (n * 2)).toList = List.replicate (n * 2) (.slice none 0 0) := by
    unfold madeCells
    show ((Array.range (n * 2)).map (fun i => (#[.slice none 0 0, .slice none 0 0] : Array Value)[i % 2]!)).toList = _
    rw [Array.toList_map, List.eq_replicate_iff]
    refine ⟨by simp, fun b hb => ?_⟩
    obtain ⟨i, _, e⟩ := List.mem_map.1 hb
    rw [← e]; exact h i
  rw [e1]
  clear e1 h
  induction n with
  | zero => rfl
  | succ n ih =>
    have e : (n + 1) * 2 = n * 2 + 2 := by omega
    rw [e]
    show (.slice none 0 0 : Value) :: .slice none 0 0 :: List.replicate (n * 2) (.slice none 0 0) = KL.f x0L ++ (List.replicate n x0L).flatMap KL.f
    rw [ih]
    rfl
theorem flat_set2 (x : Lx) : ∀ (A : List Lx) (k : Nat), k < A.length → (A.set k x).flatMap KL.f = ((A.flatMap KL.f).set (k * 2) (.slice x.p x.n x.c)).set (k * 2 + 1) (.slice x.q x.n x.n)
  | [], k, h => by simp at h
  | a :: A, 0, _ => rfl
  | a :: A, k + 1, h => by
    rw [List.set_cons_succ, List.flatMap_cons, List.flatMap_cons, flat_set2 x A k (by simpa using h)]
    have e : (k + 1) * 2 = k * 2 + 2 := by omega
    rw [e]
    rfl
theorem OwnG.set2 {w : World} {base g n cap : Nat} {A : List Lx} (h : OwnG KL w base (.slice (some ⟨g, 0, none⟩) n cap) A) {k : Nat} (hk : k < A.length) (x : Lx) : OwnG KL ((w.setCell ⟨g, k * 2, none⟩ (.slice x.p x.n x.c)).setCell ⟨g, k * 2 + 1, none⟩ (.slice x.q x.n x.n)) base (.slice (some ⟨g, 0, none⟩) n cap) (A.set k x) := by
  obtain ⟨h1, h2⟩ := h
  rcases h2 with ⟨h2, _⟩ | ⟨g', cp, cur, e1, e2, e3, e4, e5, e6, e7⟩
  · cases h2
  · injection e1 with e1 e8 e9
    injection e1 with e1
    injection e1 with e1 _ _
    subst e1 e9
    have i1 := heap_setCell_same w g (k * 2) cur _ (.slice x.p x.n x.c) e3
    have i2 := heap_setCell_same _ g (k * 2 + 1) _ _ (.slice x.q x.n x.n) i1
    refine ⟨RK.flat_len KL_ok.len _, Or.inr ⟨g, cap, _, by rw [List.length_set, e8], e2, i2, by rw [List.length_set]; exact e4, e5, by simpa using e6, ?_⟩⟩
    rw [flat_set2 x A k hk, List.length_set, Array.toList_setIfInBounds, Array.toList_setIfInBounds]
    have hl : k * 2 + 1 < A.length * KL.W := by show _ < _ * 2; omega
    rw [List.take_set, List.take_set, e7]
set_option maxHeartbeats 2000000 in
theorem make_L (w : World) {ops : Array Oper} {rest : List Oper} {o : Oper} {a : Act} {Q : Exit → Act → World → Prop}
    (hg : o.guard = none) (l c : Operand) (t : TypeId) (hop : o.op = Op.makeSlice t l c) (ht : Try.prog.underlying t = some (.slice KL.ty))
    (n : Nat) (hl : a.eval l = .int .i64 n) (hc : a.eval c = .int .i64 n) (hn : n ≤ 100000)
    (hK : ∀ w', OwnG KL w' w.heap.size (.slice (some ⟨w.heap.size, 0, none⟩) n n) (List.replicate n x0L) → Below w.heap.size w w' → wpList Try.prog ops Q rest (a.put o.dst (.slice (some ⟨w.heap.size, 0, none⟩) n n)) w') : wpList Try.prog ops Q (o :: rest) a w := by
  obtain ⟨i0, hi0, hz0, hz1, hz2⟩ := KL_ok.info
  have hB : KL.B = 48 := rfl
  refine wpList_make_full w hg l c t hop w.heap.size KL.ty i0 KL.z KL.W ht hi0 hz0 hz1 .i64 .i64 n n n hl hc rfl rfl (by rw [hz2, hB]; omega) (by unfold maxLen; omega) (Nat.le_refl _) ?_
  intro w' ho hgr
  refine hK w' ?_ ((Below.refl _ _).grown hgr (Nat.le_refl _) (fun k hk => by cases hk))
  unfold OwnG
  rw [List.length_replicate, ← made2]
  exact ho
def Fg (ga g : Nat) (b : Nat) : Prop := b = ga ∨ b = g
/-- Where value.Sort's first loop stands. -/
structure S1 (w wk : World) (ga vb g n : Nat) (T : List Vt) (A : List Lx) (k : Nat) : Prop where
  va : wk.heap[vb]? = some (.cells #[.slice (some ⟨ga, 0, none⟩) n n] 56)
  oa : OwnG KL wk w.heap.size (.slice (some ⟨ga, 0, none⟩) n n) A
  la : A.length = n
  lx : ∀ i (h : i < A.length) (h2 : i < T.length), i < k → LX wk (Fg ga g) A[i] T[i]
  op : OwnG KI wk w.heap.size (.slice (some ⟨g, 0, none⟩) n n) (plcN k ++ List.replicate (n - k) 0)
  bl : Below w.heap.size w wk
theorem plcN_succ (k : Nat) : plcN (k + 1) = plcN k ++ [(k : Int)] := by unfold plcN; rw [List.range_succ, List.map_append]; rfl
theorem plcN_set {n k : Nat} (h : k < n) : (plcN k ++ List.replicate (n - k) (0 : Int)).set k (k : Int) = plcN (k + 1) ++ List.replicate (n - (k + 1)) 0 := by
  obtain ⟨m, hm⟩ : ∃ m, n - k = m + 1 := ⟨n - k - 1, by omega⟩
  rw [hm, show n - (k + 1) = m by omega, List.set_append_right _ _ (by rw [plcN_len]; exact Nat.le_refl _), plcN_len, Nat.sub_self, List.replicate_succ, List.set_cons_zero, plcN_succ]
  simp
theorem S1.ne {w wk : World} {ga vb g n : Nat} {T : List Vt} {A : List Lx} {k : Nat} (h : S1 w wk ga vb g n T A k) : ga ≠ vb ∧ g ≠ vb ∧ ga ≠ g ∧ ga < wk.heap.size ∧ g < wk.heap.size ∧ vb < wk.heap.size ∧ w.heap.size ≤ g ∧ w.heap.size ≤ ga :=
  ⟨fun e => h.oa.notat h.va (by decide) (by rw [← e]; rfl), fun e => h.op.notat h.va (by decide) (by rw [← e]; rfl), fun e => h.oa.apart h.op (by decide) (g := g) rfl (by rw [e]; rfl), (h.oa.lt rfl).2, (h.op.lt rfl).2, (Array.getElem?_eq_some_iff.1 h.va).1, (h.op.lt rfl).1, (h.oa.lt rfl).1⟩
theorem S1.below {w wk w5 : World} {ga vb g n : Nat} {T : List Vt} {A : List Lx} {k : Nat} (h : S1 w wk ga vb g n T A k) (b : Below wk.heap.size wk w5) : S1 w w5 ga vb g n T A k :=
  ⟨(b.block vb h.ne.2.2.2.2.2.1).trans h.va, h.oa.below b, h.la, fun i h1 h2 h3 => (h.lx i h1 h2 h3).blk b.size (fun j hj _ => b.block j hj), h.op.below b, h.bl.trans (b.mono h.bl.size)⟩
/-- One more is laid out. -/
theorem S1.next {w w5 : World} {ga vb g n : Nat} {T : List Vt} {A : List Lx} {k : Nat} (h : S1 w w5 ga vb g n T A k) (hk : k < n) {x : Lx} (hx : ∀ h2 : k < T.length, LX w5 (Fg ga g) x T[k]) :
    S1 w (((w5.setCell ⟨ga, k * 2, none⟩ (.slice x.p x.n x.c)).setCell ⟨ga, k * 2 + 1, none⟩ (.slice x.q x.n x.n)).setCell ⟨g, k, none⟩ (.int .i64 (k : Int))) ga vb g n T (A.set k x) (k + 1) := by
  obtain ⟨n1, n2, n3, n4, n5, n6, n7, n8⟩ := h.ne
  have hla := h.la
  have kb : ∀ j, ¬ Fg ga g j → (((w5.setCell ⟨ga, k * 2, none⟩ (.slice x.p x.n x.c)).setCell ⟨ga, k * 2 + 1, none⟩ (.slice x.q x.n x.n)).setCell ⟨g, k, none⟩ (.int .i64 (k : Int))).heap[j]? = w5.heap[j]? := fun j hj => by
    rw [Below.heap_setCell _ _ _ _ (fun e => hj (Or.inr e)), Below.heap_setCell _ _ _ _ (fun e => hj (Or.inl e)), Below.heap_setCell _ _ _ _ (fun e => hj (Or.inl e))]
  have hz : w5.heap.size ≤ (((w5.setCell ⟨ga, k * 2, none⟩ (.slice x.p x.n x.c)).setCell ⟨ga, k * 2 + 1, none⟩ (.slice x.q x.n x.n)).setCell ⟨g, k, none⟩ (.int .i64 (k : Int))).heap.size := by simp [World.setCell]
  have o2 := h.oa.set2 (k := k) (by omega) x
  have o3 : OwnG KI ((w5.setCell ⟨ga, k * 2, none⟩ (.slice x.p x.n x.c)).setCell ⟨ga, k * 2 + 1, none⟩ (.slice x.q x.n x.n)) w.heap.size (.slice (some ⟨g, 0, none⟩) n n) (plcN k ++ List.replicate (n - k) 0) := h.op.far (fun b hb => by
    have e : b = g := by simpa [Value.ownBlock] using hb.symm
    rw [e, Below.heap_setCell _ _ _ _ (Ne.symm n3), Below.heap_setCell _ _ _ _ (Ne.symm n3)])
  refine ⟨(kb vb (fun e => e.elim (fun e => n1 e.symm) (fun e => n2 e.symm))).trans h.va, o2.far (fun b hb => ?_), by rw [List.length_set]; exact hla, fun i h1 h2 h3 => ?_, ?_, ((h.bl.setCell n8 _).setCell n8 _).setCell n7 _⟩
  · have e : b = ga := by simpa [Value.ownBlock] using hb.symm
    rw [e]; exact Below.heap_setCell _ _ _ _ n3
  · by_cases e : i = k
    · subst e
      have : (A.set i x)[i]'h1 = x := by simp
      rw [this]
      exact (hx h2).blk hz (fun j _ hj => kb j hj)
    · have : (A.set k x)[i]'h1 = A[i]'(by rw [List.length_set] at h1; exact h1) := by rw [List.getElem_set]; rw [if_neg (Ne.symm e)]
      rw [this]
      exact (h.lx i _ h2 (by omega)).blk hz (fun j _ hj => kb j hj)
  · rw [← plcN_set hk]
    exact o3.set1 rfl KI_ok.len (k : Int) _ rfl
end Go.Proofs.Ytahcllncjpaijaa
