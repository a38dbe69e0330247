/- Graph: heaviest's loop. -/
import Derived.Test.YtghkhceplpjegaaYf5
import Derived.Test.YtghkhceplpjegaaYl0
import Derived.Test.YtghkhceplpjegaaYk4
import Derived.Test.YtghkhceplpjegaaYk5
namespace Go.Proofs.Ytghkhceplpjegaa
open Go.RowKit Go.Shelf
attribute [local go_sem] Oper.semAt_some

/-- A row of numbers, one a node, with room behind it. -/
def LFC (w : World) (base X N c : Nat) (F : Nat → Int) : Prop := OwnG KI w base (.slice (some ⟨X, 0, none⟩) N c) ((List.range N).map F)
theorem LFC.set {w : World} {base X N c : Nat} {F : Nat → Int} (h : LFC w base X N c F) (i : Nat) (y : Int) : LFC (w.setCell ⟨X, i, none⟩ (.int .i64 y)) base X N c (upF F i y) := by
  have := OwnG.set1 rfl KI_ok.len h (k := i) y (.int .i64 y) rfl
  rw [rset] at this
  exact this
theorem LFC.at {w : World} {base X N c : Nat} {F : Nat → Int} (h : LFC w base X N c F) {i : Nat} (hi : i < N) : w.cell? ⟨X, i, none⟩ = some (.int .i64 (F i)) ∧ w.frozen? ⟨X, i, none⟩ = false := by
  refine ⟨?_, own_frozen h i⟩
  obtain ⟨Y, o, e, hc⟩ := far_at (OwnG.gs KI_ok.len h) hi
  injection e with e
  injection e with e1 e2 _
  subst e1 e2
  rw [Nat.zero_add] at hc
  exact hc
theorem LFC.far {w w' : World} {base X N c : Nat} {F : Nat → Int} (h : LFC w base X N c F) (k : w'.heap[X]? = w.heap[X]?) : LFC w' base X N c F := OwnG.far h fun g hg => by
  injection hg with hg
  have hg : X = g := hg
  rw [← hg]; exact k
theorem LFC.lt {w : World} {base X N c : Nat} {F : Nat → Int} (h : LFC w base X N c F) : base ≤ X ∧ X < w.heap.size := OwnG.lt h (g := X) rfl
theorem LFC.eq {w : World} {base X N c : Nat} {F G : Nat → Int} (h : LFC w base X N c F) (k : ∀ x, F x = G x) : LFC w base X N c G := by rw [← (funext k : F = G)]; exact h
theorem own_row {w : World} {base N : Nat} {v : Value} {F : Nat → Int} (h : OwnG KI w base v ((List.range N).map F)) (hN : 0 < N) : ∃ X c, v = .slice (some ⟨X, 0, none⟩) N c := by
  have hn : v.ownBlock ≠ none := by
    intro e2
    rcases h.2 with ⟨_, e3⟩ | ⟨g, cap, cur, e3, _⟩
    · simp at e3; omega
    · rw [e3] at e2; cases e2
  obtain ⟨g, cap, e, _⟩ := h.place hn
  exact ⟨g, cap, by rw [e]; simp⟩
/-- While one node's sum is sought. -/
structure HT (W1 w : World) (N X6 c6 X7 c7 : Nat) (F G : Nat → Int) (W' : World) : Prop where
  sz : W'.heap.size = W1.heap.size
  fr : ∀ k, k ≠ X6 → k ≠ X7 → W'.heap[k]? = W1.heap[k]?
  bl : Below w.heap.size w W'
  r6 : LFC W' w.heap.size X6 N c6 F
  r7 : LFC W' w.heap.size X7 N c7 G
theorem HT.set6 {W1 w W' : World} {N X6 c6 X7 c7 : Nat} {F G : Nat → Int} (h : HT W1 w N X6 c6 X7 c7 F G W') (hne : X6 ≠ X7) (i : Nat) (y : Int) : HT W1 w N X6 c6 X7 c7 (upF F i y) G (W'.setCell ⟨X6, i, none⟩ (.int .i64 y)) :=
  ⟨by rw [← h.sz]; simp [World.setCell], fun k h1 h2 => by rw [set_far h1]; exact h.fr k h1 h2, h.bl.setCell (p := ⟨X6, _, none⟩) h.r6.lt.1 _, h.r6.set i y, h.r7.far (set_far fun e => hne e.symm)⟩
theorem HT.set7 {W1 w W' : World} {N X6 c6 X7 c7 : Nat} {F G : Nat → Int} (h : HT W1 w N X6 c6 X7 c7 F G W') (hne : X6 ≠ X7) (i : Nat) (y : Int) : HT W1 w N X6 c6 X7 c7 F (upF G i y) (W'.setCell ⟨X7, i, none⟩ (.int .i64 y)) :=
  ⟨by rw [← h.sz]; simp [World.setCell], fun k h1 h2 => by rw [set_far h2]; exact h.fr k h1 h2, h.bl.setCell (p := ⟨X7, _, none⟩) h.r7.lt.1 _, h.r6.far (set_far hne), h.r7.set i y⟩
theorem HT.drew {W1 w W' : World} {N X6 c6 X7 c7 : Nat} {F G : Nat → Int} (h : HT W1 w N X6 c6 X7 c7 F G W') (n : Nat) : HT W1 w N X6 c6 X7 c7 F G (W'.drewN n) :=
  ⟨h.sz, h.fr, h.bl.trans ((drew_below W' n).mono h.bl.size), h.r6.far rfl, h.r7.far rfl⟩
theorem HT.eq {W1 w W' : World} {N X6 c6 X7 c7 : Nat} {F G G' : Nat → Int} (h : HT W1 w N X6 c6 X7 c7 F G W') (k : ∀ x, G x = G' x) : HT W1 w N X6 c6 X7 c7 F G' W' := ⟨h.sz, h.fr, h.bl, h.r6, h.r7.eq k⟩
/-- Between two nodes. -/
structure HS (w W0 : World) (N : Nat) (v6 v7 : Value) (s : (Nat → Int) × (Nat → Int)) (W' : World) : Prop where
  ge : W0.heap.size ≤ W'.heap.size
  fr : ∀ k, k < W0.heap.size → v6.ownBlock ≠ some k → v7.ownBlock ≠ some k → W'.heap[k]? = W0.heap[k]?
  bl : Below w.heap.size w W'
  r6 : OwnG KI W' w.heap.size v6 ((List.range N).map s.1)
  r7 : OwnG KI W' w.heap.size v7 ((List.range N).map s.2)
theorem HS.grown {w W0 : World} {N : Nat} {v6 v7 : Value} {s : (Nat → Int) × (Nat → Int)} {A B : World} {row : Option Nat} (hw : w.heap.size ≤ W0.heap.size) (h : HS w W0 N v6 v7 s A) (hg : A.grownBy B row) (hr : ∀ r, row = some r → W0.heap.size ≤ r ∧ ∃ o : Obj, A.heap[r]? = some o ∧ o.isCells = false) : HS w W0 N v6 v7 s B := by
  have own : ∀ {α : Type} {K : RK α} {base : Nat} {v : Value} {l : List α}, OwnG K A base v l → OwnG K B base v l := fun o => o.far fun g hg2 => gb_cells hg hr (o.lt hg2).2 (Or.inr (by obtain ⟨c, e⟩ := o.ty hg2; exact ⟨_, _, e⟩))
  exact ⟨Nat.le_trans h.ge hg.size, fun k hk h1 h2 => (gb_cells hg hr (Nat.lt_of_lt_of_le hk h.ge) (Or.inl hk)).trans (h.fr k hk h1 h2), h.bl.grown hg h.bl.size (fun r e => Nat.le_trans hw (hr r e).1), own h.r6, own h.r7⟩
/-- Behind one more node. -/
theorem HT.done {w W0 W1 W' : World} {N X6 c6 X7 c7 : Nat} {F G F' G' : Nat → Int} {Fb : Nat → Prop} (hF : ∀ k, Fb k → k < W0.heap.size ∧ k ≠ X6 ∧ k ≠ X7) (h1 : HS w W0 N (.slice (some ⟨X6, 0, none⟩) N c6) (.slice (some ⟨X7, 0, none⟩) N c7) (F, G) W1) (h : HT W1 w N X6 c6 X7 c7 F' G' W') : KeepsFrom W0.heap.size W1 W' ∧ KpB Fb W1 W' ∧ HS w W0 N (.slice (some ⟨X6, 0, none⟩) N c6) (.slice (some ⟨X7, 0, none⟩) N c7) (F', G') W' := by
  have nc : ∀ {X c : Nat} {l : List Int} {o : Obj}, OwnG KI W1 w.heap.size (.slice (some ⟨X, 0, none⟩) N c) l → W1.heap[X]? = some o → o.isCells = false → False := fun {X} _ _ _ ho e1 e2 => by
    obtain ⟨c, e3⟩ := ho.ty (g := X) rfl
    rw [e1] at e3
    injection e3 with e3
    subst e3
    cases e2
  refine ⟨⟨Nat.le_of_eq h.sz.symm, fun k o _ hk2 hk3 => ?_⟩, fun k hk => ?_, ⟨by rw [h.sz]; exact h1.ge, fun k hk n1 n2 => ?_, h.bl, h.r6, h.r7⟩⟩
  · rw [h.fr k (fun e => nc h1.r6 (by rw [← e]; exact hk2) hk3) (fun e => nc h1.r7 (by rw [← e]; exact hk2) hk3)]
    exact hk2
  · obtain ⟨_, f2, f3⟩ := hF k hk
    exact h.fr k f2 f3
  · exact (h.fr k (fun e => n1 (by rw [e]; rfl)) (fun e => n2 (by rw [e]; rfl))).trans (h1.fr k hk n1 n2)
theorem nxU_put {G : Nat → Int} {x : Nat} {v : Int} {y : Nat} (z : Nat) : upF (nxU G x v) x y z = nxU G x (y : Int) z := by
  unfold nxU
  rw [if_neg (show ¬ (y : Int) < 0 by omega)]
  split
  · rfl
  · unfold upF
    split <;> rfl
theorem hvP_put {F : Nat → Int} {l : List Nat} {j : Nat} (hj : j < l.length) (h : (hvP F (l.take j)).1 < F l[j]) : hvP F (l.take (j + 1)) = (F l[j], (l[j] : Int)) := by
  rw [List.take_succ_eq_append_getElem hj, hvP_snoc, if_pos h]
theorem hvP_skip {F : Nat → Int} {l : List Nat} {j : Nat} (hj : j < l.length) (h : ¬ (hvP F (l.take j)).1 < F l[j]) : hvP F (l.take (j + 1)) = hvP F (l.take j) := by
  rw [List.take_succ_eq_append_getElem hj, hvP_snoc, if_neg h]
set_option maxRecDepth 100000 in
set_option maxHeartbeats 32000000 in
theorem hv_loop {w W0 : World} {N b3 b6 b7 lb zb ob Bs : Nat} {E : List (Nat × Nat)} {L : List Nat} {vs : List Sl} {v6 v7 : Value} {q : Option Addr} {cq : Nat} {Wt : Nat → Int} (hg : GOK N E) (hL : ∀ x ∈ L, x < N) (hLl : L.length ≤ 4096)
    (h0 : HS w W0 N v6 v7 (Wt, fun _ => -1) W0) (hap : ∀ g, v6.ownBlock = some g → v7.ownBlock ≠ some g) (hz : LZ w zb lb N vs (fun i => nI (nx N E i))) (k3 : W0.heap[b3]? = some (.cells #[.slice (some ⟨lb, 0, none⟩) N N] 57)) (k6 : W0.heap[b6]? = some (.cells #[v6] 25)) (k7 : W0.heap[b7]? = some (.cells #[v7] 25)) (kB : W0.heap[Bs]? = some (.cells #[.slice q L.length cq] 25)) (hd : OwnG KI w ob (.slice q L.length cq) (nI L)) (hWW : w.heap.size ≤ W0.heap.size)
    {t0 t1 t2 t4 t5 t8 t9 t10 t11 t12 t13 t14 t15 t16 t17 t18 t19 t21 t22 t23 t24 t25 t26 t27 t28 t29 t30 t31 t32 t33 t34 t35 t36 t37 t38 t39 t40 t41 t42 t43 t44 t45 t46 t47 t48 t49 t50 t51 t52 t53 t54 t55 : Value} (Q : Exit → Act → World → Prop)
    (hdone : ∀ (D : Nat) (W' : World), W0.heap.size ≤ D → HS w W0 N v6 v7 (hvF (nx N E) Wt L.reverse) W' → W'.heap[D]? = some (.deferred (some [])) → Q .normal { tmps := #[t0, t1, t2, .pointer (some ⟨b3, 0, none⟩), t4, t5, .pointer (some ⟨b6, 0, none⟩), .pointer (some ⟨b7, 0, none⟩), t8, t9, t10, t11, t12, t13, t14, t15, t16, t17, t18, t19, .func (.func 68) #[] #[.pointer (some ⟨Bs, 0, none⟩)], t21, t22, t23, t24, t25, t26, t27, t28, t29, t30, t31, t32, t33, t34, t35, t36, t37, t38, t39, t40, t41, t42, t43, t44, t45, t46, t47, t48, t49, t50, t51, t52, t53, t54, t55], defers := [{ target := .collected D, args := #[] }] } W') :
    Code.wp Try.prog (Code.rangeFunc (Operand.tmp 20) #[21, 22] (Code.region 3 #[{ dst := some 9, op := Op.assign (Operand.tmp 22), type := 3, pos := "way.go:34", after := #[], guard := none }] false) (Code.block 1 ((Code.region 4 #[{ dst := some 10, op := Op.assign (Operand.const (Value.int IntKind.i64 0)), type := 3, pos := "way.go:35", after := #[], guard := none }] false).seq (((Code.region 5 #[{ dst := some 23, op := Op.load 57 (Operand.tmp 3), type := 57, pos := "way.go:36", after := #[], guard := none }, { dst := some 24, op := Op.move (Operand.tmp 9), type := 3, pos := "way.go:36", after := #[], guard := none }, { dst := some 25, op := Op.indexAddr 57 (Operand.tmp 23) (Operand.tmp 24), type := 0, pos := "way.go:36", after := #[{ on := 0, ground := Ground.data }, { on := 1, ground := Ground.data }], guard := none }, { dst := some 26, op := Op.load 25 (Operand.tmp 25), type := 25, pos := "way.go:36", after := #[{ on := 2, ground := Ground.data }], guard := none }, { dst := some 27, op := Op.call { callee := Callee.builtin Builtin.len, args := #[Operand.tmp 26], argTypes := #[25] }, type := 3, pos := "way.go:36", after := #[{ on := 3, ground := Ground.data }], guard := none }, { dst := some 28, op := Op.move (Operand.const (Value.int IntKind.i64 0)), type := 3, pos := "way.go:36", after := #[], guard := none }] false).seq (Code.block 2 ((Code.region 6 #[{ dst := some 29, op := Op.binOp BinOp.lss 3 (Operand.tmp 28) (Operand.tmp 27) 3, type := 0, pos := "way.go:36", after := #[], guard := none }] false).seq ((Code.cond (Operand.tmp 29) Code.skip (Code.exit 2)).seq ((Code.block 3 ((Code.region 7 #[{ dst := some 30, op := Op.indexAddr 25 (Operand.tmp 26) (Operand.tmp 28), type := 0, pos := "way.go:36", after := #[], guard := none }, { dst := some 31, op := Op.load 3 (Operand.tmp 30), type := 3, pos := "way.go:36", after := #[{ on := 0, ground := Ground.data }], guard := none }, { dst := some 12, op := Op.assign (Operand.tmp 31), type := 3, pos := "way.go:36", after := #[{ on := 1, ground := Ground.data }, { on := 0, ground := Ground.phase }, { on := 1, ground := Ground.phase }], guard := none }] false).seq ((Code.region 8 #[{ dst := some 32, op := Op.load 25 (Operand.tmp 6), type := 25, pos := "way.go:37", after := #[], guard := none }, { dst := some 33, op := Op.move (Operand.tmp 12), type := 3, pos := "way.go:37", after := #[], guard := none }, { dst := some 34, op := Op.indexAddr 25 (Operand.tmp 32) (Operand.tmp 33), type := 0, pos := "way.go:37", after := #[{ on := 0, ground := Ground.data }, { on := 1, ground := Ground.data }], guard := none }, { dst := some 35, op := Op.load 3 (Operand.tmp 34), type := 3, pos := "way.go:37", after := #[{ on := 2, ground := Ground.data }], guard := none }, { dst := some 36, op := Op.move (Operand.tmp 10), type := 3, pos := "way.go:37", after := #[], guard := none }, { dst := some 37, op := Op.binOp BinOp.gtr 3 (Operand.tmp 35) (Operand.tmp 36) 3, type := 4, pos := "way.go:37", after := #[{ on := 3, ground := Ground.data }, { on := 4, ground := Ground.data }], guard := none }] false).seq (Code.cond (Operand.tmp 37) (Code.region 9 #[{ dst := some 38, op := Op.load 25 (Operand.tmp 7), type := 25, pos := "way.go:38", after := #[{ on := 7, ground := Ground.gcOnly Departure.lateStores }], guard := none }, { dst := some 39, op := Op.move (Operand.tmp 9), type := 3, pos := "way.go:38", after := #[{ on := 7, ground := Ground.gcOnly Departure.lateStores }], guard := none }, { dst := some 40, op := Op.load 25 (Operand.tmp 6), type := 25, pos := "way.go:38", after := #[], guard := none }, { dst := some 41, op := Op.move (Operand.tmp 12), type := 3, pos := "way.go:38", after := #[], guard := none }, { dst := some 42, op := Op.indexAddr 25 (Operand.tmp 40) (Operand.tmp 41), type := 0, pos := "way.go:38", after := #[{ on := 2, ground := Ground.data }, { on := 3, ground := Ground.data }], guard := none }, { dst := some 43, op := Op.load 3 (Operand.tmp 42), type := 3, pos := "way.go:38", after := #[{ on := 4, ground := Ground.data }], guard := none }, { dst := some 44, op := Op.move (Operand.tmp 12), type := 3, pos := "way.go:38", after := #[{ on := 7, ground := Ground.gcOnly Departure.lateStores }], guard := none }, { dst := some 10, op := Op.assign (Operand.tmp 43), type := 3, pos := "way.go:38", after := #[{ on := 5, ground := Ground.data }, { on := 0, ground := Ground.textOnly Departure.lateStores }, { on := 1, ground := Ground.textOnly Departure.lateStores }, { on := 2, ground := Ground.phase }, { on := 3, ground := Ground.phase }, { on := 4, ground := Ground.phase }, { on := 5, ground := Ground.phase }, { on := 6, ground := Ground.textOnly Departure.lateStores }], guard := none }, { dst := some 45, op := Op.indexAddr 25 (Operand.tmp 38) (Operand.tmp 39), type := 0, pos := "way.go:38", after := #[{ on := 0, ground := Ground.data }, { on := 1, ground := Ground.data }, { on := 0, ground := Ground.phase }, { on := 1, ground := Ground.phase }, { on := 2, ground := Ground.phase }, { on := 3, ground := Ground.phase }, { on := 4, ground := Ground.phase }, { on := 5, ground := Ground.phase }, { on := 6, ground := Ground.phase }, { on := 7, ground := Ground.phase }], guard := none }, { dst := none, op := Op.store 3 (Operand.tmp 45) (Operand.tmp 44), type := 0, pos := "way.go:38", after := #[{ on := 8, ground := Ground.data }, { on := 6, ground := Ground.data }, { on := 7, ground := Ground.chain }, { on := 0, ground := Ground.phase }, { on := 1, ground := Ground.phase }, { on := 2, ground := Ground.phase }, { on := 3, ground := Ground.phase }, { on := 4, ground := Ground.phase }, { on := 5, ground := Ground.phase }, { on := 6, ground := Ground.phase }, { on := 7, ground := Ground.phase }], guard := none }] true) Code.skip)))).seq (Code.region 10 #[{ dst := some 46, op := Op.binOp BinOp.add 3 (Operand.tmp 28) (Operand.const (Value.int IntKind.i64 1)) 3, type := 3, pos := "way.go:36", after := #[], guard := none }, { dst := some 28, op := Op.move (Operand.tmp 46), type := 3, pos := "way.go:36", after := #[{ on := 0, ground := Ground.data }], guard := none }] false)))).loop)).seq (Code.region 11 #[{ dst := some 47, op := Op.load 25 (Operand.tmp 6), type := 25, pos := "way.go:41", after := #[], guard := none }, { dst := some 48, op := Op.move (Operand.tmp 9), type := 3, pos := "way.go:41", after := #[], guard := none }, { dst := some 49, op := Op.indexAddr 25 (Operand.tmp 47) (Operand.tmp 48), type := 0, pos := "way.go:41", after := #[{ on := 0, ground := Ground.data }, { on := 1, ground := Ground.data }], guard := none }, { dst := some 50, op := Op.load 3 (Operand.tmp 49), type := 3, pos := "way.go:41", after := #[{ on := 2, ground := Ground.data }], guard := none }, { dst := some 51, op := Op.move (Operand.tmp 10), type := 3, pos := "way.go:41", after := #[], guard := none }, { dst := some 52, op := Op.binOp BinOp.add 3 (Operand.tmp 50) (Operand.tmp 51) 3, type := 3, pos := "way.go:41", after := #[{ on := 3, ground := Ground.data }, { on := 4, ground := Ground.data }], guard := none }, { dst := some 53, op := Op.indexAddr 25 (Operand.tmp 47) (Operand.tmp 48), type := 0, pos := "way.go:41", after := #[{ on := 0, ground := Ground.data }, { on := 1, ground := Ground.data }, { on := 0, ground := Ground.phase }, { on := 1, ground := Ground.phase }, { on := 2, ground := Ground.phase }, { on := 3, ground := Ground.phase }, { on := 4, ground := Ground.phase }, { on := 5, ground := Ground.phase }], guard := none }, { dst := none, op := Op.store 3 (Operand.tmp 53) (Operand.tmp 52), type := 0, pos := "way.go:41", after := #[{ on := 6, ground := Ground.data }, { on := 5, ground := Ground.data }, { on := 0, ground := Ground.phase }, { on := 1, ground := Ground.phase }, { on := 2, ground := Ground.phase }, { on := 3, ground := Ground.phase }, { on := 4, ground := Ground.phase }, { on := 5, ground := Ground.phase }], guard := none }] false))))) Q { tmps := #[t0, t1, t2, .pointer (some ⟨b3, 0, none⟩), t4, t5, .pointer (some ⟨b6, 0, none⟩), .pointer (some ⟨b7, 0, none⟩), t8, t9, t10, t11, t12, t13, t14, t15, t16, t17, t18, t19, .func (.func 68) #[] #[.pointer (some ⟨Bs, 0, none⟩)], t21, t22, t23, t24, t25, t26, t27, t28, t29, t30, t31, t32, t33, t34, t35, t36, t37, t38, t39, t40, t41, t42, t43, t44, t45, t46, t47, t48, t49, t50, t51, t52, t53, t54, t55], defers := [] } W0 := by
  have NB : N ≤ 4096 := hg.n
  have n6 : ∀ {b : Nat} {c : Array Value} {t : TypeId}, W0.heap[b]? = some (.cells c t) → KI.ty ≠ t → v6.ownBlock ≠ some b ∧ v7.ownBlock ≠ some b := fun e ht => ⟨h0.r6.notat e ht, h0.r7.notat e ht⟩
  have hF : ∀ k, (k = Bs ∨ (Value.slice q L.length cq).ownBlock = some k) → k < W0.heap.size ∧ v6.ownBlock ≠ some k ∧ v7.ownBlock ≠ some k := fun k hk => by
    rcases hk with rfl | hk
    · exact ⟨lt_of_heap kB, n6 kB (by decide)⟩
    · have h9 := (hd.lt hk).2
      exact ⟨by omega, fun e => by have := (h0.r6.lt e).1; omega, fun e => by have := (h0.r7.lt e).1; omega⟩
  have hd0 : GS KI W0 (.slice q L.length cq) (nI L) := (hd.below h0.bl).gs KI_ok.len
  have N3 := n6 k3 (by decide)
  have N6 := n6 k6 (by decide)
  have N7 := n6 k7 (by decide)
  refine (wpIn_wide (n := 9)).1 ?_
  refine wpIn_rangeFunc_ownG rfl (by omega) (gf := 68) (lb := #[.pointer (some ⟨Bs, 0, none⟩)]) rfl trivial (enters_of Try.func68 (by kernel_rfl) rfl)
    (backward_stops (N := N) 8 (by omega) Bs (.slice q L.length cq) L hL (by omega) (fun k => k = Bs ∨ (Value.slice q L.length cq).ownBlock = some k) (Or.inl rfl) (fun _ h => Or.inr h) W0 kB hd0 (fun k hk => (hF k hk).1)) (fun h k => h.trans k) (putObj_kp (fun k hk => (hF k hk).1)) (Below.refl _ _) (fun _ => rfl)
    (fun pre W' => HS w W0 N v6 v7 (hvF (nx N E) Wt (pre.map fun (x : BX N) => x.1.2)) W')
    (fun _ _ _ => False)
    (fun s A B row hs hg' hr => hs.grown hWW hg' hr)
    (fun _ _ _ _ _ hs _ _ => hs)
    h0
    (fun x => { tmps := #[t0, t1, t2, .pointer (some ⟨b3, 0, none⟩), t4, t5, .pointer (some ⟨b6, 0, none⟩), .pointer (some ⟨b7, 0, none⟩), t8, .int .i64 (x.1.2 : Nat), t10, t11, t12, t13, t14, t15, t16, t17, t18, t19, .func (.func 68) #[] #[.pointer (some ⟨Bs, 0, none⟩)], .int .i64 (x.1.1 : Nat), .int .i64 (x.1.2 : Nat), t23, t24, t25, t26, t27, t28, t29, t30, t31, t32, t33, t34, t35, t36, t37, t38, t39, t40, t41, t42, t43, t44, t45, t46, t47, t48, t49, t50, t51, t52, t53, t54, t55], defers := [] }) ?assign ?body ?done ?stop
  case assign =>
    intro l x W1 K hK
    gi_wp2
    exact hK
  case stop =>
    rintro D c pre W1 _ _ h _
    exact h.elim
  case done =>
    rintro D ys W1 hD rfl hI hK
    rw [bkL_map] at hI
    exact hdone D W1 hD hI hK
  case body =>
    rintro l pre ⟨⟨xi, x⟩, hx⟩ W1 h1 hlen
    have h1 : HS w W0 N v6 v7 (hvF (nx N E) Wt (pre.map fun (x : BX N) => x.1.2)) W1 := h1
    have e9 : (pre ++ [(⟨(xi, x), hx⟩ : BX N)]).map (fun (x : BX N) => x.1.2) = pre.map (fun (x : BX N) => x.1.2) ++ [x] := by simp
    obtain ⟨X6, c6, rfl⟩ := own_row h1.r6 (by omega)
    obtain ⟨X7, c7, rfl⟩ := own_row h1.r7 (by omega)
    have X67 : Hid (X6 ≠ X7) := fun e => hap X6 rfl (by rw [e]; rfl)
    have hFF : ∀ k, (k = Bs ∨ (Value.slice q L.length cq).ownBlock = some k) → k < W0.heap.size ∧ k ≠ X6 ∧ k ≠ X7 := fun k hk => let ⟨a, b, c⟩ := hF k hk; ⟨a, fun e => b (by rw [e]; rfl), fun e => c (by rw [e]; rfl)⟩
    obtain ⟨F, G, hs⟩ : ∃ F G, hvF (nx N E) Wt (pre.map fun (x : BX N) => x.1.2) = (F, G) := ⟨_, _, rfl⟩
    rw [hs] at h1
    have FIN : Hid (∀ W' u, HT W1 w N X6 c6 X7 c7 F (nxU G x (hvP F (nx N E x)).2) W' → u = IntKind.i64.wrap (F x + (hvP F (nx N E x)).1) → KeepsFrom W0.heap.size W1 (W'.setCell ⟨X6, x, none⟩ (.int .i64 u)) ∧ KpB (fun k => k = Bs ∨ (Value.slice q L.length cq).ownBlock = some k) W1 (W'.setCell ⟨X6, x, none⟩ (.int .i64 u)) ∧ HS w W0 N (.slice (some ⟨X6, 0, none⟩) N c6) (.slice (some ⟨X7, 0, none⟩) N c7) (hvF (nx N E) Wt ((pre ++ [(⟨(xi, x), hx⟩ : BX N)]).map fun (x : BX N) => x.1.2)) (W'.setCell ⟨X6, x, none⟩ (.int .i64 u))) := fun W' u h e => by
      have := HT.done hFF h1 (h.set6 X67.out x u)
      rw [e9, hvF_snoc, hs]
      unfold hvS
      dsimp only
      rw [← e]
      exact this
    have a3 := (h1.fr b3 (lt_of_heap k3) N3.1 N3.2).trans k3
    have a6 := (h1.fr b6 (lt_of_heap k6) N6.1 N6.2).trans k6
    have a7 := (h1.fr b7 (lt_of_heap k7) N7.1 N7.2).trans k7
    obtain ⟨x3, _⟩ := bx3 a3
    have ne : ∀ {b : Nat} {v : Value}, (Value.slice (some ⟨X6, 0, none⟩) N c6).ownBlock ≠ some b ∧ (Value.slice (some ⟨X7, 0, none⟩) N c7).ownBlock ≠ some b → W1.heap[b]? = some (.cells #[v] 25) → ∀ (wq : World), (∀ k, k ≠ X6 → k ≠ X7 → wq.heap[k]? = W1.heap[k]?) → wq.cell? ⟨b, 0, none⟩ = some v := fun {b} {_} hn ha wq hq => cell_of_row _ _ _ _ _ _ ((hq b (fun e => hn.1 (by rw [e]; rfl)) (fun e => hn.2 (by rw [e]; rfl))).trans ha)
    have BQ : Hid (∀ wq F' G', HT W1 w N X6 c6 X7 c7 F' G' wq → wq.cell? ⟨b6, 0, none⟩ = some (.slice (some ⟨X6, 0, none⟩) N c6) ∧ wq.cell? ⟨b7, 0, none⟩ = some (.slice (some ⟨X7, 0, none⟩) N c7)) := fun wq F' G' h => ⟨ne N6 a6 wq h.fr, ne N7 a7 wq h.fr⟩
    obtain ⟨p, cp, l1, _, l3⟩ := hz.at hx
    have lc : W1.cell? ⟨lb, x, none⟩ = some (.slice p (nI (nx N E x)).length cp) := (h1.bl.cell (p := ⟨lb, x, none⟩) hz.bb.2).trans l1
    have GA := hid (fun wq (hb : Below w.heap.size w wq) j (hj : j < (nI (nx N E x)).length) => ((l3.below hb).gs KI_ok.len).atI hj)
    have HV := hid (fun j (hj : j < (nx N E x).length) => (hg.lt _ ((nx_mem hg).1 (List.getElem_mem hj))).2)
    have LK : (nx N E x).length ≤ N := nx_len N E x
    have T0 : Hid (HT W1 w N X6 c6 X7 c7 F G W1) := ⟨rfl, fun _ _ _ => rfl, h1.bl, h1.r6, h1.r7⟩
    rw [nI_len] at lc
    generalize nx N E x = lx at *
    obtain ⟨m, hm⟩ : ∃ m, m = lx.length := ⟨_, rfl⟩
    have M1 : Hid (lx.length = m) := hm.symm
    rw [← hm] at lc LK
    have J0 : Hid (HT W1 w N X6 c6 X7 c7 F (nxU G x (hvP F (lx.take 0)).2) W1) := T0.out
    have R0 : Hid ((0 : Int) = (hvP F (lx.take 0)).1) := rfl
    have TK : Hid (lx.take m = lx) := List.take_of_length_le (by rw [M1.out]; exact Nat.le_refl _)
    have hxi : (x : Int) < (N : Nat) := by omega
    clear h0 hap hz k3 k6 k7 kB hd hdone hF hd0 N3 N6 N7 h1 e9 hFF hs a3 a6 a7 ne l1 l3 T0 hm hL hg n6
    gi_wp2
    gi_loopw [10, 28] (fun v10 v28 wq => ∃ (j : Nat) (r : Int) (wk : World), v10 = .int .i64 r ∧ v28 = .int .i64 j ∧ wk = wq ∧ j ≤ m ∧ Hid (r = (hvP F (lx.take j)).1) ∧ Hid (HT W1 w N X6 c6 X7 c7 F (nxU G x (hvP F (lx.take j)).2) wk)) (fun _ v28 _ => m - (intOf v28).toNat)
    case atStart => exact ⟨0, 0, _, rfl, rfl, rfl, Nat.zero_le _, R0, J0⟩
    case round =>
      obtain ⟨j, r, wq, rfl, rfl, rfl, hj, HR, HJ⟩ := hrel
      clear J0 R0 x3 lc
      obtain ⟨q6, q7⟩ := BQ.out _ _ _ HJ.out
      by_cases hlt : j < m
      · have j1 : j < lx.length := by have := M1.out; omega
        obtain ⟨Y, o, e1, c1⟩ := GA.out wq HJ.out.bl j (by rw [nI_len]; exact j1)
        rw [nI_at j1] at c1
        subst e1
        have hy := HV.out j j1
        obtain ⟨f1, f2⟩ := HJ.out.r6.at hy
        obtain ⟨g1, g2⟩ := HJ.out.r7.at hx
        have hji : (j : Int) < (m : Nat) := by omega
        by_cases hgt : r < F lx[j]
        · have N2 : Hid (HT W1 w N X6 c6 X7 c7 F (nxU G x (hvP F (lx.take (j + 1))).2) (wq.drew.setCell ⟨X7, x, none⟩ (.int .i64 (lx[j] : Nat)))) := by
            show HT _ _ _ _ _ _ _ _ _ _
            rw [hvP_put j1 (by rw [← HR.out]; exact hgt)]
            exact ((HJ.out.drew 1).set7 X67.out x lx[j]).eq nxU_put
          have N1 : Hid (F lx[j] = (hvP F (lx.take (j + 1))).1) := by
            show _ = _
            rw [hvP_put j1 (by rw [← HR.out]; exact hgt)]
          generalize F lx[j] = fy at *
          generalize lx[j] = y at *
          have hyi : (y : Int) < (N : Nat) := by omega
          clear HR HJ GA HV BQ FIN
          gi_wp2
          refine hv9 (N := N) (fun _ _ _ _ _ h => h) hx hy q6 q7 f1 g1 g2 ?_
          gi_wp2
          go_roundw
          case rel => exact ⟨j + 1, fy, _, rfl, by go_num, rfl, by omega, N1, N2⟩
          case measure => simp [intOf]; omega
        · have N2 : Hid (HT W1 w N X6 c6 X7 c7 F (nxU G x (hvP F (lx.take (j + 1))).2) wq) := by
            show HT _ _ _ _ _ _ _ _ _ _
            rw [hvP_skip j1 (by rw [← HR.out]; exact hgt)]
            exact HJ.out
          have N1 : Hid (r = (hvP F (lx.take (j + 1))).1) := by
            show _ = _
            rw [hvP_skip j1 (by rw [← HR.out]; exact hgt)]
            exact HR.out
          generalize F lx[j] = fy at *
          generalize lx[j] = y at *
          have hyi : (y : Int) < (N : Nat) := by omega
          clear HR HJ GA HV BQ FIN
          gi_wp2
          go_roundw
          case rel => exact ⟨j + 1, r, _, rfl, by go_num, rfl, by omega, N1, N2⟩
          case measure => simp [intOf]; omega
      · obtain rfl : j = m := by omega
        obtain ⟨f1, f2⟩ := HJ.out.r6.at hx
        have E1 : Hid (HT W1 w N X6 c6 X7 c7 F (nxU G x (hvP F lx).2) wq) := by have := HJ.out; rw [TK.out] at this; exact this
        have E2 : Hid (r = (hvP F lx).1) := by have := HR.out; rw [TK.out] at this; exact this
        have FI := hid (fun u (e : u = IntKind.i64.wrap (F x + r)) => FIN.out wq u E1.out (by rw [← E2.out]; exact e))
        generalize F x = fx at *
        clear HR HJ GA HV BQ FIN E1 E2
        gi_wp2
        exact FI.out _ (IntWalk.i64_left _).symm
end Go.Proofs.Ytghkhceplpjegaa
