/- Graph: the loop of Gates, last first. -/
import Derived.Test.YtghkhceplpjegaaYq5
import Derived.Test.YtghkhceplpjegaaYk6
namespace Go.Proofs.Ytghkhceplpjegaa
open Go.RowKit
attribute [local go_sem] Oper.semAt_some

/-- Between two gates. -/
structure HGs (w W0 : World) (N : Nat) (v9 : Value) (F : Nat → Int) (W' : World) : Prop where
  ge : W0.heap.size ≤ W'.heap.size
  fr : ∀ k, k < W0.heap.size → v9.ownBlock ≠ some k → W'.heap[k]? = W0.heap[k]?
  bl : Below w.heap.size w W'
  r9 : OwnG KI W' w.heap.size v9 ((List.range N).map F)
theorem HGs.grown {w W0 : World} {N : Nat} {v9 : Value} {F : Nat → Int} {A B : World} {row : Option Nat} (hw : w.heap.size ≤ W0.heap.size) (h : HGs w W0 N v9 F A) (hg : A.grownBy B row) (hr : ∀ r, row = some r → W0.heap.size ≤ r ∧ ∃ o : Obj, A.heap[r]? = some o ∧ o.isCells = false) : HGs w W0 N v9 F B :=
  ⟨Nat.le_trans h.ge hg.size, fun k hk h1 => (gb_cells hg hr (Nat.lt_of_lt_of_le hk h.ge) (Or.inl hk)).trans (h.fr k hk h1), h.bl.grown hg h.bl.size (fun r e => Nat.le_trans hw (hr r e).1), h.r9.far fun g hg2 => gb_cells hg hr (h.r9.lt hg2).2 (Or.inr (by obtain ⟨c, e⟩ := h.r9.ty hg2; exact ⟨_, _, e⟩))⟩
/-- Amid one gate's nodes. -/
structure HI1 (W2 w : World) (N X9 c9 : Nat) (F : Nat → Int) (W' : World) : Prop where
  sz : W'.heap.size = W2.heap.size
  fr : ∀ k, k ≠ X9 → W'.heap[k]? = W2.heap[k]?
  bl : Below w.heap.size w W'
  r9 : LFC W' w.heap.size X9 N c9 F
theorem HI1.set {W2 w W' : World} {N X9 c9 : Nat} {F : Nat → Int} (h : HI1 W2 w N X9 c9 F W') (i : Nat) (y : Int) : HI1 W2 w N X9 c9 (upF F i y) (W'.setCell ⟨X9, i, none⟩ (.int .i64 y)) :=
  ⟨by rw [← h.sz]; simp [World.setCell], fun k h1 => by rw [set_far h1]; exact h.fr k h1, h.bl.setCell (p := ⟨X9, _, none⟩) h.r9.lt.1 _, h.r9.set i y⟩
theorem HI1.on {W2 w W' : World} {N X9 c9 : Nat} {F G : Nat → Int} (h : HI1 W2 w N X9 c9 F W') (k : ∀ x, F x = G x) : HI1 W2 w N X9 c9 G W' := ⟨h.sz, h.fr, h.bl, h.r9.eq k⟩
/-- The first j of the reached looked at. -/
noncomputable def gjF (E : List (Nat × Nat)) (r : Nat) (L : List Nat) (d : Nat) (F : Nat → Int) (j : Nat) (k : Nat) : Int := if k ∈ L.take j ∧ wiB E r d k = false then (d : Int) else F k
theorem gjF_put {E : List (Nat × Nat)} {r : Nat} {L : List Nat} {d : Nat} {F : Nat → Int} {j : Nat} (hj : j < L.length) (h : wiB E r d L[j] = false) (k : Nat) : upF (gjF E r L d F j) L[j] d k = gjF E r L d F (j + 1) k := by
  unfold upF gjF
  rw [List.take_succ_eq_append_getElem hj]
  by_cases e : k = L[j]
  · rw [if_pos e, if_pos ⟨List.mem_append.2 (Or.inr (List.mem_singleton.2 e)), by rw [e]; exact h⟩]
  · rw [if_neg e]
    have : k ∈ L.take j ++ [L[j]] ↔ k ∈ L.take j := by
      rw [List.mem_append, List.mem_singleton]
      exact ⟨fun q => q.resolve_right e, Or.inl⟩
    by_cases z : k ∈ L.take j ∧ wiB E r d k = false
    · rw [if_pos z, if_pos ⟨this.2 z.1, z.2⟩]
    · rw [if_neg z, if_neg (fun z2 => z ⟨this.1 z2.1, z2.2⟩)]
theorem gjF_skip {E : List (Nat × Nat)} {r : Nat} {L : List Nat} {d : Nat} {F : Nat → Int} {j : Nat} (hj : j < L.length) (h : wiB E r d L[j] = true) (k : Nat) : gjF E r L d F j k = gjF E r L d F (j + 1) k := by
  unfold gjF
  rw [List.take_succ_eq_append_getElem hj]
  by_cases e : k = L[j]
  · rw [if_neg (fun q => by rw [e, h] at q; cases q.2), if_neg (fun q => by rw [e, h] at q; cases q.2)]
  · have : k ∈ L.take j ++ [L[j]] ↔ k ∈ L.take j := by
      rw [List.mem_append, List.mem_singleton]
      exact ⟨fun q => q.resolve_right e, Or.inl⟩
    by_cases z : k ∈ L.take j ∧ wiB E r d k = false
    · rw [if_pos z, if_pos ⟨this.2 z.1, z.2⟩]
    · rw [if_neg z, if_neg (fun z2 => z ⟨this.1 z2.1, z2.2⟩)]
theorem HI1.done {w W0 W1 W2 W' : World} {N X9 c9 : Nat} {F F' : Nat → Int} {Fb : Nat → Prop} (hF : ∀ k, Fb k → k < W0.heap.size ∧ k ≠ X9) (h1 : HGs w W0 N (.slice (some ⟨X9, 0, none⟩) N c9) F W1) (b2 : Below W1.heap.size W1 W2) (h : HI1 W2 w N X9 c9 F' W') : KeepsFrom W0.heap.size W1 W' ∧ KpB Fb W1 W' ∧ HGs w W0 N (.slice (some ⟨X9, 0, none⟩) N c9) F' W' := by
  have nc : ∀ {o : Obj}, W1.heap[X9]? = some o → o.isCells = false → False := fun {o} e1 e2 => by
    obtain ⟨c, e3⟩ := h1.r9.ty (g := X9) rfl
    rw [e1] at e3
    injection e3 with e3
    subst e3
    cases e2
  refine ⟨⟨by rw [h.sz]; exact b2.size, fun k o _ hk2 hk3 => ?_⟩, fun k hk => ?_, ⟨by rw [h.sz]; exact Nat.le_trans h1.ge b2.size, fun k hk n1 => ?_, h.bl, h.r9⟩⟩
  · rw [h.fr k (fun e => nc (by rw [← e]; exact hk2) hk3)]
    exact (b2.block k (Array.getElem?_eq_some_iff.1 hk2).1).trans hk2
  · obtain ⟨f1, f2⟩ := hF k hk
    exact (h.fr k f2).trans (b2.block k (Nat.lt_of_lt_of_le f1 h1.ge))
  · exact ((h.fr k (fun e => n1 (by rw [e]; rfl))).trans (b2.block k (Nat.lt_of_lt_of_le hk h1.ge))).trans (h1.fr k hk n1)
set_option maxRecDepth 100000 in
set_option maxHeartbeats 32000000 in
theorem gt_loop {w W0 : World} {N r rb b7 b8 b9 lb zb ob Bs : Nat} {E : List (Nat × Nat)} {L : List Nat} {vs : List Sl} {v9 : Value} {q : Option Addr} {cq : Nat} (hg : GOK N E) (hr : r < N) (hL : ∀ x ∈ L, x < N) (hLl : L.length ≤ 4096)
    (h0 : HGs w W0 N v9 (fun _ => -1) W0) (hz : LZ w zb lb N vs (fun i => nI (nx N E i))) (k3 : W0.heap[rb]? = some (.cells #[.int .i64 (r : Nat)] 3)) (k3n : v9.ownBlock ≠ some rb) (k7 : W0.heap[b7]? = some (.cells #[.slice (some ⟨lb, 0, none⟩) N N] 57)) (k8 : W0.heap[b8]? = some (.cells #[.slice q L.length cq] 25)) (k9 : W0.heap[b9]? = some (.cells #[v9] 25)) (kB : W0.heap[Bs]? = some (.cells #[.slice q L.length cq] 25)) (hd : OwnG KI w ob (.slice q L.length cq) (nI L)) (hWW : w.heap.size ≤ W0.heap.size)
    {t0 t1 t2 t4 t5 t6 t10 t11 t12 t13 t14 t15 t16 t17 t18 t19 t20 t21 t22 t23 t24 t25 t26 t27 t28 t29 t30 t31 t32 t33 t34 t36 t37 t38 t39 t40 t41 t42 t43 t44 t45 t46 t47 t48 t49 t50 t51 t52 t53 t54 t55 t56 t57 t58 : Value} (Q : Exit → Act → World → Prop)
    (hdone : ∀ (D : Nat) (W' : World), W0.heap.size ≤ D → HGs w W0 N v9 (gpF (wiB E r) L L) W' → W'.heap[D]? = some (.deferred (some [])) → Q .normal { tmps := #[t0, t1, t2, .pointer (some ⟨rb, 0, none⟩), t4, t5, t6, .pointer (some ⟨b7, 0, none⟩), .pointer (some ⟨b8, 0, none⟩), .pointer (some ⟨b9, 0, none⟩), t10, t11, t12, t13, t14, t15, t16, t17, t18, t19, t20, t21, t22, t23, t24, t25, t26, t27, t28, t29, t30, t31, t32, t33, t34, .func (.func 68) #[] #[.pointer (some ⟨Bs, 0, none⟩)], t36, t37, t38, t39, t40, t41, t42, t43, t44, t45, t46, t47, t48, t49, t50, t51, t52, t53, t54, t55, t56, t57, t58], defers := [{ target := .collected D, args := #[] }] } W') :
    Code.wp Try.prog (Code.rangeFunc (Operand.tmp 35) #[36, 37] (Code.region 9 #[{ dst := some 11, op := Op.assign (Operand.tmp 37), type := 3, pos := "graph.go:188", after := #[], guard := none }] false) (Code.block 1 ((Code.region 10 #[{ dst := some 38, op := Op.load 57 (Operand.tmp 7), type := 57, pos := "graph.go:189", after := #[], guard := none }, { dst := some 39, op := Op.move (Operand.tmp 11), type := 3, pos := "graph.go:189", after := #[], guard := none }, { dst := some 40, op := Op.load 3 (Operand.tmp 3), type := 3, pos := "graph.go:189", after := #[], guard := none }, { dst := some 41, op := Op.call { callee := Callee.value (Operand.func 48), args := #[Operand.tmp 38, Operand.tmp 39, Operand.tmp 40], argTypes := #[57, 3, 3] }, type := 49, pos := "graph.go:189", after := #[{ on := 0, ground := Ground.data }, { on := 1, ground := Ground.data }, { on := 2, ground := Ground.data }], guard := none }, { dst := some 12, op := Op.assign (Operand.tmp 41), type := 49, pos := "graph.go:189", after := #[{ on := 3, ground := Ground.data }, { on := 3, ground := Ground.chain }, { on := 0, ground := Ground.phase }, { on := 1, ground := Ground.phase }, { on := 2, ground := Ground.phase }, { on := 3, ground := Ground.phase }], guard := none }] false).seq ((Code.region 11 #[{ dst := some 42, op := Op.load 25 (Operand.tmp 8), type := 25, pos := "graph.go:190", after := #[], guard := none }, { dst := some 43, op := Op.call { callee := Callee.builtin Builtin.len, args := #[Operand.tmp 42], argTypes := #[25] }, type := 3, pos := "graph.go:190", after := #[{ on := 0, ground := Ground.data }], guard := none }, { dst := some 44, op := Op.move (Operand.const (Value.int IntKind.i64 0)), type := 3, pos := "graph.go:190", after := #[], guard := none }] false).seq (Code.block 2 ((Code.region 12 #[{ dst := some 45, op := Op.binOp BinOp.lss 3 (Operand.tmp 44) (Operand.tmp 43) 3, type := 0, pos := "graph.go:190", after := #[], guard := none }] false).seq ((Code.cond (Operand.tmp 45) Code.skip (Code.exit 2)).seq ((Code.block 3 ((Code.region 13 #[{ dst := some 46, op := Op.indexAddr 25 (Operand.tmp 42) (Operand.tmp 44), type := 0, pos := "graph.go:190", after := #[], guard := none }, { dst := some 47, op := Op.load 3 (Operand.tmp 46), type := 3, pos := "graph.go:190", after := #[{ on := 0, ground := Ground.data }], guard := none }, { dst := some 14, op := Op.assign (Operand.tmp 47), type := 3, pos := "graph.go:190", after := #[{ on := 1, ground := Ground.data }, { on := 0, ground := Ground.phase }, { on := 1, ground := Ground.phase }], guard := none }] false).seq ((Code.region 14 #[{ dst := some 48, op := Op.move (Operand.tmp 12), type := 49, pos := "graph.go:191", after := #[], guard := none }, { dst := some 49, op := Op.move (Operand.tmp 14), type := 3, pos := "graph.go:191", after := #[], guard := none }, { dst := some 50, op := Op.indexAddr 49 (Operand.tmp 48) (Operand.tmp 49), type := 0, pos := "graph.go:191", after := #[{ on := 0, ground := Ground.data }, { on := 1, ground := Ground.data }], guard := none }, { dst := some 51, op := Op.load 4 (Operand.tmp 50), type := 4, pos := "graph.go:191", after := #[{ on := 2, ground := Ground.data }], guard := none }, { dst := some 52, op := Op.unOp UnOp.not 4 (Operand.tmp 51), type := 4, pos := "graph.go:191", after := #[{ on := 3, ground := Ground.data }], guard := none }] false).seq (Code.cond (Operand.tmp 52) (Code.region 15 #[{ dst := some 53, op := Op.load 25 (Operand.tmp 9), type := 25, pos := "graph.go:192", after := #[], guard := none }, { dst := some 54, op := Op.move (Operand.tmp 14), type := 3, pos := "graph.go:192", after := #[], guard := none }, { dst := some 55, op := Op.move (Operand.tmp 11), type := 3, pos := "graph.go:192", after := #[], guard := none }, { dst := some 56, op := Op.indexAddr 25 (Operand.tmp 53) (Operand.tmp 54), type := 0, pos := "graph.go:192", after := #[{ on := 0, ground := Ground.data }, { on := 1, ground := Ground.data }, { on := 0, ground := Ground.phase }, { on := 1, ground := Ground.phase }, { on := 2, ground := Ground.phase }], guard := none }, { dst := none, op := Op.store 3 (Operand.tmp 56) (Operand.tmp 55), type := 0, pos := "graph.go:192", after := #[{ on := 3, ground := Ground.data }, { on := 2, ground := Ground.data }, { on := 0, ground := Ground.phase }, { on := 1, ground := Ground.phase }, { on := 2, ground := Ground.phase }], guard := none }] false) Code.skip)))).seq (Code.region 16 #[{ dst := some 57, op := Op.binOp BinOp.add 3 (Operand.tmp 44) (Operand.const (Value.int IntKind.i64 1)) 3, type := 3, pos := "graph.go:190", after := #[], guard := none }, { dst := some 44, op := Op.move (Operand.tmp 57), type := 3, pos := "graph.go:190", after := #[{ on := 0, ground := Ground.data }], guard := none }] false)))).loop))))) Q { tmps := #[t0, t1, t2, .pointer (some ⟨rb, 0, none⟩), t4, t5, t6, .pointer (some ⟨b7, 0, none⟩), .pointer (some ⟨b8, 0, none⟩), .pointer (some ⟨b9, 0, none⟩), t10, t11, t12, t13, t14, t15, t16, t17, t18, t19, t20, t21, t22, t23, t24, t25, t26, t27, t28, t29, t30, t31, t32, t33, t34, .func (.func 68) #[] #[.pointer (some ⟨Bs, 0, none⟩)], t36, t37, t38, t39, t40, t41, t42, t43, t44, t45, t46, t47, t48, t49, t50, t51, t52, t53, t54, t55, t56, t57, t58], defers := [] } W0 := by
  have NB : N ≤ 4096 := hg.n
  have n9 : ∀ {b : Nat} {c : Array Value} {t : TypeId}, W0.heap[b]? = some (.cells c t) → KI.ty ≠ t → v9.ownBlock ≠ some b := fun e ht => h0.r9.notat e ht
  have hF : ∀ k, (k = Bs ∨ (Value.slice q L.length cq).ownBlock = some k) → k < W0.heap.size ∧ v9.ownBlock ≠ some k := fun k hk => by
    rcases hk with rfl | hk
    · exact ⟨lt_of_heap kB, n9 kB (by decide)⟩
    · have h9 := (hd.lt hk).2
      exact ⟨by omega, fun e => by have := (h0.r9.lt e).1; omega⟩
  have hd0 : GS KI W0 (.slice q L.length cq) (nI L) := (hd.below h0.bl).gs KI_ok.len
  have N7 := n9 k7 (by decide)
  have N8 := n9 k8 (by decide)
  have N9 := n9 k9 (by decide)
  refine (wpIn_wide (n := 9)).1 ?_
  refine wpIn_rangeFunc_ownG rfl (by omega) (gf := 68) (lb := #[.pointer (some ⟨Bs, 0, none⟩)]) rfl trivial (enters_of Try.func68 (by kernel_rfl) rfl)
    (backward_stops (N := N) 8 (by omega) Bs (.slice q L.length cq) L hL (by omega) (fun k => k = Bs ∨ (Value.slice q L.length cq).ownBlock = some k) (Or.inl rfl) (fun _ h => Or.inr h) W0 kB hd0 (fun k hk => (hF k hk).1)) (fun h k => h.trans k) (putObj_kp (fun k hk => (hF k hk).1)) (Below.refl _ _) (fun _ => rfl)
    (fun pre W' => HGs w W0 N v9 (gpF (wiB E r) L (pre.map fun (x : BX N) => x.1.2).reverse) W')
    (fun _ _ _ => False)
    (fun s A B row hs hg' hr => hs.grown hWW hg' hr)
    (fun _ _ _ _ _ hs _ _ => hs)
    h0
    (fun x => { tmps := #[t0, t1, t2, .pointer (some ⟨rb, 0, none⟩), t4, t5, t6, .pointer (some ⟨b7, 0, none⟩), .pointer (some ⟨b8, 0, none⟩), .pointer (some ⟨b9, 0, none⟩), t10, .int .i64 (x.1.2 : Nat), t12, t13, t14, t15, t16, t17, t18, t19, t20, t21, t22, t23, t24, t25, t26, t27, t28, t29, t30, t31, t32, t33, t34, .func (.func 68) #[] #[.pointer (some ⟨Bs, 0, none⟩)], .int .i64 (x.1.1 : Nat), .int .i64 (x.1.2 : Nat), t38, t39, t40, t41, t42, t43, t44, t45, t46, t47, t48, t49, t50, t51, t52, t53, t54, t55, t56, t57, t58], defers := [] }) ?assign ?body ?done ?stop
  case assign =>
    intro l x W1 K hK
    gi_wp2
    exact hK
  case stop =>
    rintro D c pre W1 _ _ h _
    exact h.elim
  case done =>
    rintro D ys W1 hD rfl hI hK
    rw [bkL_map, List.reverse_reverse] at hI
    exact hdone D W1 hD hI hK
  case body =>
    rintro l pre ⟨⟨xi, x⟩, hx⟩ W1 h1 hlen
    have h1 : HGs w W0 N v9 (gpF (wiB E r) L (pre.map fun (x : BX N) => x.1.2).reverse) W1 := h1
    have e9 : ((pre ++ [(⟨(xi, x), hx⟩ : BX N)]).map (fun (x : BX N) => x.1.2)).reverse = x :: (pre.map (fun (x : BX N) => x.1.2)).reverse := by simp
    obtain ⟨X9, c9, rfl⟩ := own_row h1.r9 (by omega)
    have hFF : ∀ k, (k = Bs ∨ (Value.slice q L.length cq).ownBlock = some k) → k < W0.heap.size ∧ k ≠ X9 := fun k hk => let ⟨a, b⟩ := hF k hk; ⟨a, fun e => b (by rw [e]; rfl)⟩
    have FS : ∀ k, gjF E r L x (gpF (wiB E r) L (pre.map fun (x : BX N) => x.1.2).reverse) L.length k = gpF (wiB E r) L ((pre ++ [(⟨(xi, x), hx⟩ : BX N)]).map (fun (x : BX N) => x.1.2)).reverse k := fun k => by
      rw [e9]
      unfold gjF
      rw [List.take_length]
      rfl
    have J1 : ∀ k, gpF (wiB E r) L (pre.map fun (x : BX N) => x.1.2).reverse k = gjF E r L x (gpF (wiB E r) L (pre.map fun (x : BX N) => x.1.2).reverse) 0 k := fun k => by
      unfold gjF
      rw [if_neg (by simp)]
    obtain ⟨FF, hFFe⟩ : ∃ FF, FF = gpF (wiB E r) L ((pre ++ [(⟨(xi, x), hx⟩ : BX N)]).map (fun (x : BX N) => x.1.2)).reverse := ⟨_, rfl⟩
    show _
    have FIN : Hid (∀ W2 W', Below W1.heap.size W1 W2 → HI1 W2 w N X9 c9 FF W' → KeepsFrom W0.heap.size W1 W' ∧ KpB (fun k => k = Bs ∨ (Value.slice q L.length cq).ownBlock = some k) W1 W' ∧ HGs w W0 N (.slice (some ⟨X9, 0, none⟩) N c9) (gpF (wiB E r) L ((pre ++ [(⟨(xi, x), hx⟩ : BX N)]).map (fun (x : BX N) => x.1.2)).reverse) W') := fun W2 W' b2 h => by
      rw [← hFFe]
      exact HI1.done hFF h1 b2 h
    rw [← hFFe] at FS
    generalize gpF (wiB E r) L (pre.map fun (x : BX N) => x.1.2).reverse = F at *
    have a3 := (h1.fr rb (lt_of_heap k3) k3n).trans k3
    have a7 := (h1.fr b7 (lt_of_heap k7) N7).trans k7
    have a8 := (h1.fr b8 (lt_of_heap k8) N8).trans k8
    have a9 := (h1.fr b9 (lt_of_heap k9) N9).trans k9
    obtain ⟨x3, _⟩ := bx3 a3
    obtain ⟨x7, _⟩ := bx3 a7
    have ne8 : b8 ≠ X9 := fun e => N8 (by rw [e]; rfl)
    have ne9 : b9 ≠ X9 := fun e => N9 (by rw [e]; rfl)
    have X9l := (h1.r9.lt (g := X9) rfl).2
    have CW := hid (without_any W1 N E hg zb lb vs (hz.below h1.bl) x r hx hr)
    have OPN : Hid (∀ W2 bs wq F', Below W1.heap.size W1 W2 → OwnG KB W2 W1.heap.size (.slice (some ⟨bs, 0, none⟩) N N) ((List.range N).map (wiB E r x)) → HI1 W2 w N X9 c9 F' wq → (∀ i, i < N → wq.cell? ⟨bs, i, none⟩ = some (.bool (wiB E r x i))) ∧ wq.cell? ⟨b8, 0, none⟩ = some (.slice q L.length cq) ∧ wq.cell? ⟨b9, 0, none⟩ = some (.slice (some ⟨X9, 0, none⟩) N c9)) := fun W2 bs wq F' b2 o2 h => by
      have hbs := (o2.lt (g := bs) rfl).1
      have o3 : OwnG KB wq W1.heap.size (.slice (some ⟨bs, 0, none⟩) N N) ((List.range N).map (wiB E r x)) := o2.far fun g hg2 => h.fr g (by
        have := (o2.lt hg2).1
        omega)
      refine ⟨fun i hi => ?_, cell_of_row _ _ _ _ _ _ ((h.fr b8 ne8).trans ((b2.block b8 (lt_of_heap a8)).trans a8)), cell_of_row _ _ _ _ _ _ ((h.fr b9 ne9).trans ((b2.block b9 (lt_of_heap a9)).trans a9))⟩
      obtain ⟨X, o, e, hc⟩ := (o3.gs KB_ok.len).atB (k := i) (by simpa using hi)
      injection e with e
      injection e with e1 e2 _
      subst e1 e2
      rw [Nat.zero_add] at hc
      rw [hc]
      simp
    have GL := hid (fun wq (hb : Below w.heap.size w wq) j (hj : j < L.length) => (by
      obtain ⟨X, o, e1, e2⟩ := GS.atI ((hd.below hb).gs KI_ok.len) (k := j) (by rw [nI_len]; exact hj)
      rw [nI_at hj] at e2
      exact ⟨X, o, e1, e2⟩ : ∃ Y oy, q = some ⟨Y, oy, none⟩ ∧ wq.cell? ⟨Y, oy + j, none⟩ = some (.int .i64 (L[j] : Nat))))
    have LL := hid (fun j (hj : j < L.length) => hL _ (List.getElem_mem hj))
    have H1 := hid h1
    have PUT := hid (fun j (hj : j < L.length) (h : wiB E r x L[j] = false) k => gjF_put (F := F) hj h k)
    have SKP := hid (fun j (hj : j < L.length) (h : wiB E r x L[j] = true) k => gjF_skip (F := F) hj h k)
    have JZ := hid J1
    have JE := hid FS
    obtain ⟨m, hm⟩ : ∃ m, m = L.length := ⟨_, rfl⟩
    have M1 : Hid (L.length = m) := hm.symm
    have hxi : (x : Int) < (N : Nat) := by omega
    rw [← hm] at OPN JE hLl
    clear h0 hz k3 k7 k8 k9 kB hd hdone hF hd0 N7 N8 N9 h1 e9 hFF a3 a7 a8 a9 hL hg n9 FS J1 hFFe k3n hm
    gi_wp2_with (refine ⟨trivial, ?_⟩; gi_at_call 48; refine (CallsIn.inRound l (callsIn_wide.2 CW.out)).mono ?_; rintro e w2 ⟨bs, rfl, o2, b2⟩; have J0 : Hid (HI1 w2 w N X9 c9 (gjF E r L x F 0) w2) := (⟨rfl, fun _ _ => rfl, H1.out.bl.trans (b2.mono H1.out.bl.size), (H1.out.r9.below b2 : LFC w2 w.heap.size X9 N c9 F)⟩ : HI1 w2 w N X9 c9 F w2).on JZ.out; have OQ := hid (fun wq F' h => OPN.out w2 bs wq F' b2 o2 h); have B2 := hid b2; obtain ⟨_, y8, y9⟩ := OQ.out _ _ J0.out; clear o2 b2)
    gi_loopw [44] (fun v44 wq => ∃ (j : Nat) (wk : World), v44 = .int .i64 j ∧ wk = wq ∧ j ≤ m ∧ Hid (HI1 w2 w N X9 c9 (gjF E r L x F j) wk)) (fun v44 _ => m - (intOf v44).toNat)
    case atStart => exact ⟨0, _, rfl, rfl, Nat.zero_le _, J0⟩
    case round =>
      obtain ⟨j, wq, rfl, rfl, hj, HJ⟩ := hrel
      clear J0 y8 y9 x3 x7
      obtain ⟨o1, y8, y9⟩ := OQ.out _ _ HJ.out
      by_cases hlt : j < m
      · have j1 : j < L.length := by have := M1.out; omega
        obtain ⟨Y, oy, rfl, cy⟩ := GL.out wq HJ.out.bl j j1
        have hy := LL.out j j1
        have s1 := o1 _ hy
        obtain ⟨f1, f2⟩ := HJ.out.r9.at hy
        have hji : (j : Int) < (m : Nat) := by omega
        have hyi : (L[j] : Int) < (N : Nat) := by omega
        have P1 := PUT.out j j1
        have S1 := SKP.out j j1
        cases hb : wiB E r x L[j] with
        | true =>
          rw [hb] at s1
          have N2 : Hid (HI1 w2 w N X9 c9 (gjF E r L x F (j + 1)) wq) := HJ.out.on (S1 hb)
          generalize L[j] = y at *
          clear HJ P1 S1 o1 f1 f2
          gi_wp2
          go_roundw
          case rel => exact ⟨j + 1, _, by go_num, rfl, by omega, N2⟩
          case measure => simp [intOf]; omega
        | false =>
          rw [hb] at s1
          have N2 : Hid (HI1 w2 w N X9 c9 (gjF E r L x F (j + 1)) (wq.setCell ⟨X9, L[j], none⟩ (.int .i64 x))) := (HJ.out.set L[j] x).on (P1 hb)
          generalize L[j] = y at *
          clear HJ P1 S1 o1
          gi_wp2
          go_roundw
          case rel => exact ⟨j + 1, _, by go_num, rfl, by omega, N2⟩
          case measure => simp [intOf]; omega
      · obtain rfl : j = m := by omega
        have FI := hid (FIN.out w2 wq B2.out (HJ.out.on JE.out))
        clear HJ o1
        gi_wp2
        exact FI.out
end Go.Proofs.Ytghkhceplpjegaa
