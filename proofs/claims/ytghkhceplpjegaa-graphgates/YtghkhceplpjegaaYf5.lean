/- Graph: components' second loop. -/
import Derived.Test.YtghkhceplpjegaaYf3
namespace Go.Proofs.Ytghkhceplpjegaa
open Go.RowKit Go.Shelf
attribute [local go_sem] Oper.semAt_some

/-- Behind so many nodes of the second walk. -/
def CIb (W W0 : World) (N bt b8 : Nat) (E : List (Nat × Nat)) (pre : List (BX N)) (W' : World) : Prop := ∃ S Ps, CS W W0 N bt b8 S Ps W' ∧ KL (nx N (tu E)) (pre.map fun x => x.1.2) S Ps
theorem putObj_kp {Fb : Nat → Prop} {w : World} (hF : ∀ k, Fb k → k < w.heap.size) : ∀ (W : World) (l : Nat) (o o' : Obj), w.heap.size ≤ l → W.heap[l]? = some o → o.isCells = false → o.isWalk = false → KpB Fb W (W.putObj l o') := fun W l o o' hl _ _ _ k hk => World.putObj_heap_other (by have := hF k hk; omega)
set_option maxRecDepth 100000 in
set_option maxHeartbeats 32000000 in
theorem comp_loop {W W0 : World} {N b4 b6 b8 bt lb Bs : Nat} {E : List (Nat × Nat)} {L : List Nat} {vsB : List Sl} {q : Option Addr} {cq : Nat} (hg : GOK N E) (hL : ∀ x ∈ L, x < N) (hLl : L.length ≤ 4096)
    (h0 : CS W W0 N bt b8 (fun _ => false) [] W0) (hz : LZ W0 W.heap.size lb N vsB (fun i => nI (nx N (tu E) i))) (k4 : W0.heap[b4]? = some (.cells #[.slice (some ⟨lb, 0, none⟩) N N] 57)) (k6 : W0.heap[b6]? = some (.cells #[.slice (some ⟨bt, 0, none⟩) N N] 49)) (k8 : ∃ x, W0.heap[b8]? = some (.cells #[x] 42)) (kB : W0.heap[Bs]? = some (.cells #[.slice q L.length cq] 25)) (hd : OwnG KI W0 W.heap.size (.slice q L.length cq) (nI L)) (hWW : W.heap.size ≤ W0.heap.size) (hb8W : W.heap.size ≤ b8)
    {t0 t1 t2 t3 t5 t7 t9 t10 t11 t12 t13 t14 t15 t16 t17 t18 t19 t20 t21 t22 t23 t24 t25 t26 t27 t28 t29 t30 t31 t32 t33 t34 t36 t37 t38 t39 t40 t41 t42 t43 t44 t45 t46 t47 t48 t49 t50 t51 t52 t53 t54 t55 : Value} (Q : Exit → Act → World → Prop)
    (hdone : ∀ (D : Nat) (W' : World), W0.heap.size ≤ D → CIb W W0 N bt b8 E (bkL N L hL) W' → W'.heap[D]? = some (.deferred (some [])) → Q .normal { tmps := #[t0, t1, t2, t3, .pointer (some ⟨b4, 0, none⟩), t5, .pointer (some ⟨b6, 0, none⟩), t7, .pointer (some ⟨b8, 0, none⟩), t9, t10, t11, t12, t13, t14, t15, t16, t17, t18, t19, t20, t21, t22, t23, t24, t25, t26, t27, t28, t29, t30, t31, t32, t33, t34, .func (.func 68) #[] #[.pointer (some ⟨Bs, 0, none⟩)], t36, t37, t38, t39, t40, t41, t42, t43, t44, t45, t46, t47, t48, t49, t50, t51, t52, t53, t54, t55], defers := [{ target := .collected D, args := #[] }] } W') :
    Code.wp Try.prog (Code.rangeFunc (Operand.tmp 35) #[36, 37] (Code.region 12 #[{ dst := some 10, op := Op.assign (Operand.tmp 37), type := 3, pos := "lanes.go:79", after := #[], guard := none }] false) (Code.block 3 (((Code.region 13 #[{ dst := some 38, op := Op.load 49 (Operand.tmp 6), type := 49, pos := "lanes.go:80", after := #[], guard := none }, { dst := some 39, op := Op.move (Operand.tmp 10), type := 3, pos := "lanes.go:80", after := #[], guard := none }, { dst := some 40, op := Op.indexAddr 49 (Operand.tmp 38) (Operand.tmp 39), type := 0, pos := "lanes.go:80", after := #[{ on := 0, ground := Ground.data }, { on := 1, ground := Ground.data }], guard := none }, { dst := some 41, op := Op.load 4 (Operand.tmp 40), type := 4, pos := "lanes.go:80", after := #[{ on := 2, ground := Ground.data }], guard := none }] false).seq (Code.cond (Operand.tmp 41) (Code.exit 3) Code.skip)).seq ((Code.region 14 #[{ dst := some 11, op := Op.alloc 25, type := 0, pos := "lanes.go:83", after := #[], guard := none }] false).seq ((Code.region 15 #[{ dst := some 42, op := Op.load 57 (Operand.tmp 4), type := 57, pos := "lanes.go:84", after := #[], guard := none }, { dst := some 43, op := Op.move (Operand.tmp 10), type := 3, pos := "lanes.go:84", after := #[], guard := none }, { dst := some 44, op := Op.load 49 (Operand.tmp 6), type := 49, pos := "lanes.go:84", after := #[], guard := none }, { dst := some 45, op := Op.makeFunc (Fn.func 70) #[] #[Operand.tmp 11], type := 67, pos := "lanes.go:84", after := #[], guard := none }, { dst := some 46, op := Op.call { callee := Callee.value (Operand.func 44), args := #[Operand.tmp 42, Operand.tmp 43, Operand.tmp 44, Operand.tmp 45], argTypes := #[57, 3, 49, 67] }, type := 0, pos := "lanes.go:84", after := #[{ on := 0, ground := Ground.data }, { on := 1, ground := Ground.data }, { on := 2, ground := Ground.data }, { on := 3, ground := Ground.data }], guard := none }] false).seq ((Code.region 16 #[{ dst := some 47, op := Op.load 25 (Operand.tmp 11), type := 25, pos := "lanes.go:85", after := #[], guard := none }, { dst := some 48, op := Op.call { callee := Callee.value (Operand.func 53), args := #[Operand.tmp 47], argTypes := #[25] }, type := 0, pos := "lanes.go:85", after := #[{ on := 0, ground := Ground.data }], guard := none }] false).seq (Code.region 17 #[{ dst := some 49, op := Op.load 42 (Operand.tmp 8), type := 42, pos := "lanes.go:86", after := #[], guard := none }, { dst := some 50, op := Op.load 25 (Operand.tmp 11), type := 25, pos := "lanes.go:86", after := #[], guard := none }, { dst := some 51, op := Op.buildSlice 42 1 #[(0, Operand.tmp 50)], type := 42, pos := "lanes.go:86", after := #[{ on := 1, ground := Ground.data }], guard := none }, { dst := some 52, op := Op.call { callee := Callee.builtin Builtin.append, args := #[Operand.tmp 49, Operand.tmp 51], argTypes := #[42, 42] }, type := 42, pos := "lanes.go:86", after := #[{ on := 0, ground := Ground.data }, { on := 2, ground := Ground.data }], guard := none }, { dst := none, op := Op.store 42 (Operand.tmp 8) (Operand.tmp 52), type := 0, pos := "lanes.go:86", after := #[{ on := 3, ground := Ground.data }, { on := 3, ground := Ground.chain }, { on := 0, ground := Ground.phase }, { on := 1, ground := Ground.phase }, { on := 2, ground := Ground.phase }, { on := 3, ground := Ground.phase }], guard := none }] false))))))) Q { tmps := #[t0, t1, t2, t3, .pointer (some ⟨b4, 0, none⟩), t5, .pointer (some ⟨b6, 0, none⟩), t7, .pointer (some ⟨b8, 0, none⟩), t9, t10, t11, t12, t13, t14, t15, t16, t17, t18, t19, t20, t21, t22, t23, t24, t25, t26, t27, t28, t29, t30, t31, t32, t33, t34, .func (.func 68) #[] #[.pointer (some ⟨Bs, 0, none⟩)], t36, t37, t38, t39, t40, t41, t42, t43, t44, t45, t46, t47, t48, t49, t50, t51, t52, t53, t54, t55], defers := [] } W0 := by
  have NB : N ≤ 4096 := hg.n
  obtain ⟨x8, k8⟩ := k8
  obtain ⟨ct, kt⟩ := h0.sn.ty (g := bt) rfl
  have hF : ∀ k, (k = Bs ∨ (Value.slice q L.length cq).ownBlock = some k) → k < W0.heap.size ∧ k ≠ bt ∧ k ≠ b8 := fun k hk => by
    rcases hk with rfl | hk
    · exact ⟨lt_of_heap kB, ne_ty kB kt (by decide), ne_ty kB k8 (by decide)⟩
    · obtain ⟨c9, e9⟩ := hd.ty hk
      exact ⟨(hd.lt hk).2, ne_ty e9 kt (by decide), ne_ty e9 k8 (by decide)⟩
  have N4 := And.intro (ne_ty k4 kt (by decide)) (ne_ty k4 k8 (by decide))
  have N6 := And.intro (ne_ty k6 kt (by decide)) (ne_ty k6 k8 (by decide))
  have NL : lb ≠ bt ∧ lb ≠ b8 := by
    obtain ⟨c9, e9⟩ := hz.out.ty (g := lb) rfl
    exact ⟨ne_ty e9 kt (by decide), ne_ty e9 k8 (by decide)⟩
  refine (wpIn_wide (n := 9)).1 ?_
  refine wpIn_rangeFunc_ownG rfl (by omega) (gf := 68) (lb := #[.pointer (some ⟨Bs, 0, none⟩)]) rfl trivial (enters_of Try.func68 (by kernel_rfl) rfl)
    (backward_stops (N := N) 8 (by omega) Bs (.slice q L.length cq) L hL (by omega) (fun k => k = Bs ∨ (Value.slice q L.length cq).ownBlock = some k) (Or.inl rfl) (fun _ h => Or.inr h) W0 kB (hd.gs KI_ok.len) (fun k hk => (hF k hk).1)) (fun h k => h.trans k) (putObj_kp (fun k hk => (hF k hk).1)) (Below.refl _ _) (fun _ => rfl)
    (CIb W W0 N bt b8 E)
    (fun _ _ _ => False)
    (fun s A B row hs hg' hr => by
      obtain ⟨S, Ps, h1, h2⟩ := hs
      exact ⟨S, Ps, h1.grown hWW hg' hr, h2⟩)
    (fun _ _ _ _ _ hs _ _ => hs)
    ⟨_, [], h0, .nil⟩
    (fun x => { tmps := #[t0, t1, t2, t3, .pointer (some ⟨b4, 0, none⟩), t5, .pointer (some ⟨b6, 0, none⟩), t7, .pointer (some ⟨b8, 0, none⟩), t9, .int .i64 (x.1.2 : Nat), t11, t12, t13, t14, t15, t16, t17, t18, t19, t20, t21, t22, t23, t24, t25, t26, t27, t28, t29, t30, t31, t32, t33, t34, .func (.func 68) #[] #[.pointer (some ⟨Bs, 0, none⟩)], .int .i64 (x.1.1 : Nat), .int .i64 (x.1.2 : Nat), t38, t39, t40, t41, t42, t43, t44, t45, t46, t47, t48, t49, t50, t51, t52, t53, t54, t55], defers := [] }) ?assign ?body ?done ?stop
  case assign =>
    intro l x W1 K hK
    gi_wp2
    exact hK
  case stop =>
    rintro D c pre W1 _ _ h _
    exact h.elim
  case done =>
    rintro D ys W1 hD rfl hI hK
    exact hdone D W1 hD hI hK
  case body =>
    rintro l pre ⟨⟨xi, x⟩, hx⟩ W1 ⟨S, Ps, h1, h2⟩ hlen
    have PL : Ps.length ≤ 4096 := by
      have h9 := h2.len
      rw [List.length_map] at h9
      omega
    obtain ⟨y6, _⟩ := bx3 ((h1.fr b6 (lt_of_heap k6) N6.1 N6.2).trans k6)
    have ys := h1.se hx
    have hxi : (x : Int) < (N : Nat) := by omega
    cases hS : S x with
    | true =>
      rw [hS] at ys
      have FIN := hid (And.intro (KeepsFrom.refl W0.heap.size W1) (And.intro (KpB.refl (fun k => k = Bs ∨ (Value.slice q L.length cq).ownBlock = some k) W1) (show CIb W W0 N bt b8 E (pre ++ [⟨(xi, x), hx⟩]) W1 from ⟨S, Ps, h1, by rw [List.map_append]; exact .skip h2 hS⟩)))
      clear h0 hz k4 k6 k8 kB hd hdone h1 h2 kt hF N4 N6 NL hL
      gi_wp2
      exact FIN.out
    | false =>
      rw [hS] at ys
      have F4 := hid ((h1.fr b4 (lt_of_heap k4) N4.1 N4.2).trans k4)
      have F6 := hid ((h1.fr b6 (lt_of_heap k6) N6.1 N6.2).trans k6)
      obtain ⟨ps, vp, p1, p2, p3, p4⟩ := h1.pb
      have h8lt : b8 < W0.heap.size := lt_of_heap k8
      have hbt : bt < W0.heap.size := lt_of_heap kt
      have hlb : lb < W0.heap.size := hz.bb.2
      have z1 : LZ W1 W.heap.size lb N vsB (fun i => nI (nx N (tu E) i)) := hz.butF (F := fun x => x = bt ∨ x = b8) (fun x hx hn => h1.fr x hx (fun e => hn (Or.inl e)) (fun e => hn (Or.inr e))) (fun e => e.elim NL.1 NL.2) (fun g e => by
        rcases e with e | e
        · rw [e]; exact not_ki kt (by decide)
        · rw [e]; exact not_ki k8 (by decide))
      obtain ⟨B, hB⟩ : ∃ B, W1.heap.size = B := ⟨_, rfl⟩
      obtain ⟨Wr, hWr⟩ : ∃ Wr, W1.alloc (.cells #[.slice none 0 0] 25) = Wr := ⟨_, rfl⟩
      have bWr : Below W1.heap.size W1 Wr := by rw [← hWr]; exact bal _ _
      have sWr : Wr.heap.size = B + 1 := by rw [← hWr, asz, hB]
      have eB : Wr.heap[B]? = some (.cells #[.slice none 0 0] 25) := by rw [← hWr, ← hB]; exact heap_alloc_new _ _
      have hge := h1.ge
      have R0 : RJF Wr W N lb bt B vsB (nx N (tu E)) Wr S [] := ⟨⟨bl3 h1.bl bWr, z1.below bWr, h1.sn.below bWr, ⟨none, 0, eB, OwnG.nil _ _ _, fun _ _ _ _ e => by cases e⟩, by have := h1.bl.size; omega, by omega, by simp, by simp⟩, Nat.le_refl _, fun _ _ _ _ => rfl, fun q c e g hg => by
        rw [eB] at e
        injection e with e
        injection e with e _
        have e := congrArg (fun a => a[0]?) e
        simp at e
        rw [← e.1] at hg
        cases hg⟩
      have CW := hid (walk_all (RJF.wk (Wr := Wr) (w0 := W) (lb := lb) (bs := bt) (B := B) (vs := vsB) (tu_ok hg)) R0 hx)
      have hb8r : Wr.heap[b8]? = some (.cells #[slV ps] 42) := (bWr.block b8 (by omega)).trans p1
      have END : Hid (∀ w5 S2 P, DL (nx N (tu E)) S [x] S2 P → RJF Wr W N lb bt B vsB (nx N (tu E)) w5 S2 ([] ++ P) → ∃ q5 c5, w5.cell? ⟨B, 0, none⟩ = some (.slice q5 P.length c5) ∧ Calls Try.prog 53 #[.slice q5 P.length c5] w5 fun e w6 => e = .returned (.tuple #[]) ∧ w6.cell? ⟨B, 0, none⟩ = some (.slice q5 P.length c5) ∧ w6.cell? ⟨b8, 0, none⟩ = some (slV ps) ∧ OwnG KS w6 W0.heap.size (slV ps) vp ∧ W0.heap.size ≤ w6.heap.size ∧
          ∀ p8 cp8 w8, OwnG KS w8 W0.heap.size (.slice p8 (vp.length + 1) cp8) (vp ++ [(q5, P.length, c5)]) → Below W0.heap.size w6 w8 → (∀ k, k < w6.heap.size → some k ≠ (slV ps).ownBlock → w8.heap[k]? = w6.heap[k]?) → w8.cell? ⟨b8, 0, none⟩ = some (slV ps) ∧ w8.frozen? ⟨b8, 0, none⟩ = false ∧ KeepsFrom W0.heap.size W1 (w8.setCell ⟨b8, 0, none⟩ (.slice p8 (vp.length + 1) cp8)) ∧ KpB (fun k => k = Bs ∨ (Value.slice q L.length cq).ownBlock = some k) W1 (w8.setCell ⟨b8, 0, none⟩ (.slice p8 (vp.length + 1) cp8)) ∧ CIb W W0 N bt b8 E (pre ++ [⟨(xi, x), hx⟩]) (w8.setCell ⟨b8, 0, none⟩ (.slice p8 (vp.length + 1) cp8))) := by
        intro w5 S2 P d2 j2
        rw [List.nil_append] at j2
        obtain ⟨q5, c5, e5, o5, _⟩ := j2.rj.bx
        have hP : P.length ≤ N := nd_len j2.rj.ll
        have hnw := j2.nw q5 c5 e5
        have hge5 := j2.ge
        refine ⟨q5, c5, cell_of_row _ _ _ _ _ _ e5, (sortI_any o5 (by rw [nI_len]; omega)).mono ?_⟩
        rintro e w6 ⟨rfl, o6, k6'⟩
        have fr6 : ∀ k, k < Wr.heap.size → k ≠ bt → k ≠ B → w6.heap[k]? = Wr.heap[k]? := fun k hk e1 e2 => (k6'.block k (by omega) (fun e => by have := hnw k e; omega)).trans (j2.fr k hk e1 e2)
        have e6 : w6.heap[B]? = some (.cells #[.slice q5 P.length c5] 25) := (k6'.block B (by omega) (fun e => by have := hnw B e; omega)).trans e5
        have b8w6 : w6.heap[b8]? = some (.cells #[slV ps] 42) := (fr6 b8 (by omega) (ne_ty k8 kt (by decide)) (by omega)).trans hb8r
        have p26 : OwnG KS w6 W0.heap.size (slV ps) vp := p2.far fun g hg => (fr6 g (by have := (p2.lt hg).2; omega) (fun e => by have := (p2.lt hg).1; omega) (by have := (p2.lt hg).2; omega)).trans (bWr.block g (p2.lt hg).2)
        have s6 : w5.heap.size ≤ w6.heap.size := k6'.size
        refine ⟨rfl, cell_of_row _ _ _ _ _ _ e6, cell_of_row _ _ _ _ _ _ b8w6, p26, by omega, fun p8 cp8 w8 ho8 hb8 hk8 => ?_⟩
        have nb8 : (slV ps).ownBlock ≠ some b8 := fun e => by have := (p2.lt e).1; omega
        have b8w8 : w8.heap[b8]? = some (.cells #[slV ps] 42) := (hk8 b8 (by omega) (fun e => nb8 e.symm)).trans b8w6
        refine ⟨cell_of_row _ _ _ _ _ _ b8w8, by simp [World.frozen?, b8w8], ?_⟩
        have s8 : w6.heap.size ≤ w8.heap.size := hb8.size
        have sn5 := j2.rj.sn
        have sn8 : OwnG KB (w8.setCell ⟨b8, 0, none⟩ (.slice p8 (vp.length + 1) cp8)) W.heap.size (.slice (some ⟨bt, 0, none⟩) N N) ((List.range N).map S2) := sn5.far fun g hg => by
          have hg2 := (sn5.lt hg).2
          injection hg with hg
          have hg : bt = g := hg
          subst hg
          rw [set_far (ne_ty kt k8 (by decide)), hk8 bt (by omega) (fun e => by have := (p2.lt e.symm).1; omega)]
          exact k6'.block bt hg2 (fun e => by have := hnw bt e; omega)
        have o8 : OwnG KI (w8.setCell ⟨b8, 0, none⟩ (.slice p8 (vp.length + 1) cp8)) W0.heap.size (slV (q5, P.length, c5)) ((nI P).mergeSort fun x y => decide (x ≤ y)) := by
          have h9 : OwnG KI w6 W0.heap.size (.slice q5 P.length c5) ((nI P).mergeSort fun x y => decide (x ≤ y)) := by
            obtain ⟨a1, a2⟩ := o6
            refine ⟨a1, ?_⟩
            rcases a2 with a2 | ⟨g, cap, cur, e1, e2, e3⟩
            · exact Or.inl a2
            · exact Or.inr ⟨g, cap, cur, e1, by have := hnw g (by rw [e1]; rfl); omega, e3⟩
          exact h9.far fun g hg => by
            rw [set_far (fun e => h9.notat b8w6 (by decide) (by rw [← e]; exact hg))]
            exact hk8 g (h9.lt hg).2 (fun e => p26.apart h9 (by decide) hg e.symm)
        have KLn : KL (nx N (tu E)) ((pre ++ [(⟨(xi, x), hx⟩ : BX N)]).map fun (x : BX N) => x.1.2) S2 (Ps ++ [(nI P).mergeSort fun x y => decide (x ≤ y)]) := by rw [List.map_append]; exact .one h2 hS d2
        have bl8 : Below W.heap.size W (w8.setCell ⟨b8, 0, none⟩ (.slice p8 (vp.length + 1) cp8)) := by
          have b6 : Below W.heap.size W w6 := j2.rj.bl.trans (k6'.below j2.rj.bl.size (fun x hx => by have := hnw x hx; have := h1.bl.size; omega))
          exact (b6.trans (hb8.mono hWW)).setCell (p := ⟨b8, 0, none⟩) hb8W _
        obtain ⟨r1, r2, r3⟩ := CS.one (Fb := fun k => k = Bs ∨ (Value.slice q L.length cq).ownBlock = some k) (ps' := (p8, vp.length + 1, cp8)) (s := (q5, P.length, c5)) h1 hF h8lt p2 p3 p4 bl8 (by simp [World.setCell]; omega) (fun k hk e1 e2 e3 => by
          rw [set_far e2, hk8 k (by omega) (fun e => e3 e.symm), fr6 k (by omega) e1 (by omega)]
          exact bWr.block k hk) sn8 (heap_setCell_same _ _ _ _ _ _ b8w8) (ho8.far fun g hg => set_far (fun e => ho8.notat b8w8 (by decide) (by rw [← e]; exact hg))) o8
        exact ⟨r1, r2, _, _, r3, KLn⟩
      obtain ⟨x4, _⟩ := bx3 ((bWr.block b4 (by have := lt_of_heap k4; omega)).trans F4.out)
      obtain ⟨x6, _⟩ := bx3 ((bWr.block b6 (by have := lt_of_heap k6; omega)).trans F6.out)
      have VL : Hid (vp.length ≤ 4096) := by show _ ≤ _; omega
      have hvl := VL.out
      have PSL : Hid (slV ps = .slice ps.1 vp.length ps.2.2) := by
        obtain ⟨a, b, e, _⟩ := p2.form
        have e : Value.slice ps.1 ps.2.1 ps.2.2 = .slice a vp.length b := e
        injection e with e1 e2 e3
        show Value.slice ps.1 ps.2.1 ps.2.2 = _
        rw [e2]
      rw [PSL.out] at END
      have LS : Hid ((vp.length + 1) * KS.B ≤ 140737488355328) := by show (_ + 1) * 24 ≤ _; omega
      generalize ps.1 = pp at *
      generalize ps.2.2 = pc at *
      clear h0 hz k4 k6 k8 kB hd hdone h1 h2 kt hF N4 N6 NL hL z1 R0 hb8r F4 F6 p1 p2 p3 p4 PSL eB sWr bWr
      gi_wp2_with (first
        | (refine ⟨trivial, ?_⟩; gi_at_call 44; refine (CallsIn.inRound l (callsIn_wide.2 CW.out)).mono ?_; rintro e w5 ⟨rfl, S2, P, d2, j2⟩; obtain ⟨q5, c5, g5, SO⟩ := END.out w5 S2 P d2 j2; have SO := hid SO; clear d2 j2; clear CW)
        | (refine ⟨trivial, ?_⟩; gi_at_call 53; refine (CallsIn.inRound l (callsIn_wide.2 SO.out)).mono ?_; rintro e w6 ⟨rfl, g6, g8, OP, HS6, FN⟩; have OP := hid OP; have HS6 := hid HS6; have FN := hid FN; clear SO)
        | (gi_at_builtin; refine append_gI KS KS_ok rfl (.tmp 49) (.tmp 51) 42 rfl W0.heap.size Try.underlying42 w6 _ _ (.slice pp vp.length pc) vp (q5, P.length, c5) _ rfl OP.out w6.heap.size rfl rfl rfl LS.out HS6.out ?_; intro p8 cp8 w8 ho8 hb8 hk8; obtain ⟨n1, n2, n3⟩ := FN.out p8 cp8 w8 ho8 hb8 hk8; have N3 := hid n3; clear n3 ho8 hb8 hk8))
      exact N3.out
end Go.Proofs.Ytghkhceplpjegaa
