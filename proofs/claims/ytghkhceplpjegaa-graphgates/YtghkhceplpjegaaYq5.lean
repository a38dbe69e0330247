/- Graph: the walk of Gates from the root, whole. -/
import Derived.Test.YtghkhceplpjegaaYq4
import Derived.Test.YtghkhceplpjegaaYf3
import Derived.Deep.RegionHeld3
namespace Go.Proofs.Ytghkhceplpjegaa
open Go.RowKit

/-- The root's walk is done: who is reached, in the order that it was done with them. -/
structure GW (V w0 : World) (N lb B r : Nat) (vs : List Sl) (E : List (Nat × Nat)) (L : List Nat) (W : World) : Prop where
  dl : ∃ S, DL (nx N E) (fun _ => false) [r] S L
  bl : Below w0.heap.size w0 W
  lz : LZ W w0.heap.size lb N vs (fun i => nI (nx N E i))
  bx : ∃ q c, W.heap[B]? = some (.cells #[.slice q L.length c] 25) ∧ OwnG KI W w0.heap.size (.slice q L.length c) (nI L)
  fr : ∀ k, k < V.heap.size → k ≠ B → W.heap[k]? = V.heap[k]?
  sz : V.heap.size ≤ W.heap.size
  ll : L.Nodup ∧ ∀ x ∈ L, x < N
set_option maxRecDepth 100000 in
set_option maxHeartbeats 32000000 in
theorem gt6 {Q : Exit → Act → World → Prop} {V w0 : World} {N lb B b7 rb sz r : Nat} {vs : List Sl} {E : List (Nat × Nat)} {t0 t1 t4 t5 t6 t9 t10 t11 t12 t13 t14 t15 t16 t17 t18 t19 t20 t21 t22 t23 t24 t25 t26 t27 t28 t29 t30 t31 t32 t33 t34 t35 t36 t37 t38 t39 t40 t41 t42 t43 t44 t45 t46 t47 t48 t49 t50 t51 t52 t53 t54 t55 t56 t57 t58 : Value} (hg : GOK N E) (hr : r < N) (hb : Below w0.heap.size w0 V) (hz : LZ V w0.heap.size lb N vs (fun i => nI (nx N E i))) (hB : V.heap[B]? = some (.cells #[.slice none 0 0] 25)) (hBg : w0.heap.size ≤ B) (hBl : B ≠ lb)
    (k1 : sz ≠ B) (k2 : rb ≠ B) (k3 : b7 ≠ B) (v1 : sz < V.heap.size) (v2 : rb < V.heap.size) (v3 : b7 < V.heap.size) (c1 : V.cell? ⟨sz, 0, none⟩ = some (.int .i64 (N : Nat))) (c2 : V.cell? ⟨rb, 0, none⟩ = some (.int .i64 (r : Nat))) (c3 : V.cell? ⟨b7, 0, none⟩ = some (.slice (some ⟨lb, 0, none⟩) N N))
    (h : ∀ (W' : World) (L : List Nat) (x23 x24 x25 x26 x27 x28 x29 : Value), GW V w0 N lb B r vs E L W' → Q .normal { tmps := List.toArray (t0 :: t1 :: (.pointer (some ⟨sz, 0, none⟩)) :: (.pointer (some ⟨rb, 0, none⟩)) :: t4 :: t5 :: t6 :: (.pointer (some ⟨b7, 0, none⟩)) :: (.pointer (some ⟨B, 0, none⟩)) :: t9 :: t10 :: t11 :: t12 :: t13 :: t14 :: t15 :: t16 :: t17 :: t18 :: t19 :: t20 :: t21 :: t22 :: x23 :: x24 :: x25 :: x26 :: x27 :: x28 :: x29 :: t30 :: t31 :: t32 :: t33 :: t34 :: t35 :: t36 :: t37 :: t38 :: t39 :: t40 :: t41 :: t42 :: t43 :: t44 :: t45 :: t46 :: t47 :: t48 :: t49 :: t50 :: t51 :: t52 :: t53 :: t54 :: t55 :: t56 :: t57 :: t58 :: []), defers := [] } W') :
    (Code.region 6 (List.toArray ({ dst := some 23, op := Op.load 57 (Operand.tmp 7), type := 57, pos := "graph.go:185", after := #[], guard := none } :: { dst := some 24, op := Op.load 3 (Operand.tmp 3), type := 3, pos := "graph.go:185", after := #[], guard := none } :: { dst := some 25, op := Op.fieldAddr 24 (Operand.tmp 2) 0, type := 0, pos := "graph.go:185", after := #[], guard := none } :: { dst := some 26, op := Op.load 3 (Operand.tmp 25), type := 3, pos := "graph.go:185", after := #[{ on := 2, ground := Ground.data }], guard := none } :: { dst := some 27, op := Op.makeSlice 49 (Operand.tmp 26) (Operand.tmp 26), type := 49, pos := "graph.go:185", after := #[{ on := 3, ground := Ground.data }, { on := 3, ground := Ground.data }], guard := none } :: { dst := some 28, op := Op.makeFunc (Fn.func 45) #[] #[Operand.tmp 8], type := 67, pos := "graph.go:185", after := #[], guard := none } :: { dst := some 29, op := Op.call { callee := Callee.value (Operand.func 44), args := #[Operand.tmp 23, Operand.tmp 24, Operand.tmp 27, Operand.tmp 28], argTypes := #[57, 3, 49, 67] }, type := 0, pos := "graph.go:185", after := #[{ on := 0, ground := Ground.data }, { on := 1, ground := Ground.data }, { on := 4, ground := Ground.data }, { on := 5, ground := Ground.data }], guard := none } :: [])) true).wp Try.prog Q { tmps := List.toArray (t0 :: t1 :: (.pointer (some ⟨sz, 0, none⟩)) :: (.pointer (some ⟨rb, 0, none⟩)) :: t4 :: t5 :: t6 :: (.pointer (some ⟨b7, 0, none⟩)) :: (.pointer (some ⟨B, 0, none⟩)) :: t9 :: t10 :: t11 :: t12 :: t13 :: t14 :: t15 :: t16 :: t17 :: t18 :: t19 :: t20 :: t21 :: t22 :: t23 :: t24 :: t25 :: t26 :: t27 :: t28 :: t29 :: t30 :: t31 :: t32 :: t33 :: t34 :: t35 :: t36 :: t37 :: t38 :: t39 :: t40 :: t41 :: t42 :: t43 :: t44 :: t45 :: t46 :: t47 :: t48 :: t49 :: t50 :: t51 :: t52 :: t53 :: t54 :: t55 :: t56 :: t57 :: t58 :: []), defers := [] } V := by
  have hH := hid h
  have CZ : Hid (∀ w' : World, (∀ k, k < V.heap.size → k ≠ B → w'.heap[k]? = V.heap[k]?) → w'.cell? ⟨sz, 0, none⟩ = some (.int .i64 (N : Nat)) ∧ w'.cell? ⟨rb, 0, none⟩ = some (.int .i64 (r : Nat)) ∧ w'.cell? ⟨b7, 0, none⟩ = some (.slice (some ⟨lb, 0, none⟩) N N)) := fun w' hk =>
    ⟨(World.cell?_of_block (w := V) (a := ⟨sz, 0, none⟩) (hk sz v1 k1)).trans c1, (World.cell?_of_block (w := V) (a := ⟨rb, 0, none⟩) (hk rb v2 k2)).trans c2, (World.cell?_of_block (w := V) (a := ⟨b7, 0, none⟩) (hk b7 v3 k3)).trans c3⟩
  have x0 := hid (CZ.out V.drew (fun _ _ _ => rfl))
  obtain ⟨wM, rM, oM, bM⟩ := mk_run KB KB_ok false rfl rfl V.drew 49 Try.underlying49 N (by have := hg.n; omega) (by decide)
  have BM : Below V.heap.size V wM := bl3 (drew_below V 1) bM
  have x1 := hid (CZ.out wM (fun k hk _ => BM.block k hk))
  have OS : OwnG KB wM w0.heap.size (.slice (some ⟨V.heap.size, 0, none⟩) N N) ((List.range N).map fun _ => false) := by
    have e : (List.range N).map (fun _ => false) = List.replicate N false := by rw [List.map_const', List.length_range]
    rw [e]
    exact OwnG.low (show OwnG KB wM V.heap.size _ _ from oM) hb.size
  have hBlt := lt_of_heap hB
  have RF : RJF wM w0 N lb V.heap.size B vs (nx N E) wM (fun _ => false) [] := by
    have hB2 := boxkeep BM hB
    refine ⟨⟨bl3 hb BM, hz.below BM, OS, ⟨none, 0, hB2, OwnG.nil _ _ _, fun _ _ _ _ e => by cases e⟩, hBg, hBl, by simp, by simp⟩, Nat.le_refl _, fun _ _ _ _ => rfl, fun q c e g hq => ?_⟩
    rw [hB2] at e
    injection e with e
    injection e with e _
    injection e with e
    injection e with e _
    rw [← e] at hq
    cases hq
  have CW := hid ((walk_all (RJF.wk2 (Wr := wM) (w0 := w0) (lb := lb) (bs := V.heap.size) (B := B) (vs := vs) hg) RF hr).mono (R' := fun e w' => e = .returned (.tuple #[]) ∧ ∃ L, GW V w0 N lb B r vs E L w') fun e w' ⟨h1, S2, L2, d2, j2⟩ => ⟨h1, [] ++ L2, ⟨S2, d2⟩, j2.rj.bl, j2.rj.lz, (by obtain ⟨q, c, q1, q2, _⟩ := j2.rj.bx; exact ⟨q, c, q1, q2⟩), fun k hk hne => (j2.fr k (Nat.lt_of_lt_of_le hk BM.size) (Nat.ne_of_lt hk) hne).trans (BM.block k hk), Nat.le_trans BM.size j2.ge, j2.rj.ll⟩)
  clear h hz hB OS RF hg hb oM c1 c2 c3
  go_region_held3? (fun w' => w'.cell? ⟨sz, 0, none⟩ = some (.int .i64 (N : Nat)) ∧ w'.cell? ⟨rb, 0, none⟩ = some (.int .i64 (r : Nat)) ∧ w'.cell? ⟨b7, 0, none⟩ = some (.slice (some ⟨lb, 0, none⟩) N N)) (first | exact x0.out | exact x1.out | exact CZ.out _ G5.out.fr | go_keep) (first
      | (go_at_call 44; refine CW.out.mono ?_; rintro e w5 ⟨rfl, L, g5⟩; have G5 := hid g5; clear g5)
      | fail)
  all_goals exact hH.out _ _ _ _ _ _ _ _ _ G5.out
end Go.Proofs.Ytghkhceplpjegaa
