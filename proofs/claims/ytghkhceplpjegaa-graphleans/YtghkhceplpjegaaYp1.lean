/- Graph: the document's Lean: the region that lays one edge more, in whatever order. -/
import Derived.Test.YtghkhceplpjegaaYn3
import Derived.Test.YtghkhceplpjegaaYe5
import Derived.Deep.RegionHeld3
namespace Go.Proofs.Ytghkhceplpjegaa
open Go.RowKit

/-- The lean graph's box, what a node leads to by way of others, and its own row. -/
structure LAS (V : World) (n : Int) (bb bs N : Nat) (S : Nat → Bool) (q : Option Addr) (c : Nat) (L : List (Int × Int)) (pr : Option Addr) (mr cr : Nat) (R : List Int) (wk : World) : Prop where
  la : LAR V n bb bs N S q c L wk
  ro : OwnG KI wk V.heap.size (.slice pr mr cr) R
theorem LAS.push {V : World} {n : Int} {bb bs N : Nat} {S : Nat → Bool} {q : Option Addr} {c : Nat} {L : List (Int × Int)} {pr : Option Addr} {mr cr : Nat} {R : List Int} {wk w1 w8 : World} (h : LAS V n bb bs N S q c L pr mr cr R wk) {x : Int × Int} {g8 c8 : Nat} (h1 : Below wk.heap.size wk w1) (ho : OwnG KE w8 V.heap.size (.slice (some ⟨g8, 0, none⟩) (L.length + 1) c8) (L ++ [x])) (hb8 : Below V.heap.size w1 w8) (hk : ∀ k, k < w1.heap.size → some k ≠ (Value.slice q L.length c).ownBlock → w8.heap[k]? = w1.heap[k]?) : LAS V n bb bs N S (some ⟨g8, 0, none⟩) c8 (L ++ [x]) pr mr cr R (w8.setCell ⟨bb, 1, none⟩ (.slice (some ⟨g8, 0, none⟩) (L.length + 1) c8)) ∧ (w8.cell? ⟨bb, 1, none⟩ = some (.slice q L.length c)) ∧ (∀ o, w8.frozen? ⟨bb, o, none⟩ = false) ∧ OwnG KI w8 V.heap.size (.slice pr mr cr) R := by
  obtain ⟨k1, k2, k3⟩ := h.la.push h1 ho hb8 hk
  have a1 := h.ro.below h1
  have o1 := h.la.tr.ow.below h1
  have hB1 := boxkeep h1 h.la.tr.bx
  have a2 : OwnG KI w8 V.heap.size (.slice pr mr cr) R := a1.far fun g hg => hk g (a1.lt hg).2 (fun e => o1.apart a1 (by decide) hg e.symm)
  refine ⟨⟨k1, ?_⟩, k2, k3, a2⟩
  exact a2.far fun g hg => by rw [set_far (fun e => a1.notat hB1 (by decide) (by rw [← e]; exact hg))]
set_option maxRecDepth 100000 in
set_option maxHeartbeats 32000000 in
theorem rl18 {Q : Exit → Act → World → Prop} {V w : World} {n : Int} {bb bs NN : Nat} {S : Nat → Bool} {q : Option Addr} {c : Nat} {L : List (Int × Int)} {x y j m Z oz cy : Nat} {t0 t1 t2 t3 t4 t5 t9 t11 t12 t13 t14 t15 t16 t17 t18 t19 t20 t21 t22 t23 t24 t25 t26 t27 t28 t29 t30 t31 t32 t33 t34 t35 t36 t37 t38 t39 t40 t41 t42 t43 t44 t45 t46 t47 t48 t49 t50 t51 t52 t53 t54 t55 t56 t57 t58 t59 t60 t61 t62 t63 t64 t65 t66 t67 t68 t69 t70 : Value} {R : List Int} (HA : LAS V n bb bs NN S q c L (some ⟨Z, oz, none⟩) m cy R w) (hj : (j : Int) < (m : Nat)) (hL : L.length ≤ 20480) (hz : ∀ W', OwnG KI W' V.heap.size (.slice (some ⟨Z, oz, none⟩) m cy) R → W'.cell? ⟨Z, oz + j, none⟩ = some (.int .i64 (y : Nat)))
    (h : ∀ (W' : World) (g8 c8 : Nat) (x59 x60 x61 x62 x63 x64 x65 x66 x67 x68 x69 : Value), LAS V n bb bs NN S (some ⟨g8, 0, none⟩) c8 (L ++ [((x : Int), (y : Int))]) (some ⟨Z, oz, none⟩) m cy R W' → Q .normal { tmps := List.toArray (t0 :: t1 :: t2 :: t3 :: t4 :: t5 :: (.pointer (some ⟨bb, 0, none⟩)) :: (.int .i64 (x : Nat)) :: (.slice (some ⟨Z, oz, none⟩) m cy) :: t9 :: (.int .i64 (j : Nat)) :: t11 :: t12 :: t13 :: t14 :: t15 :: t16 :: t17 :: t18 :: t19 :: t20 :: t21 :: t22 :: t23 :: t24 :: t25 :: t26 :: t27 :: t28 :: t29 :: t30 :: t31 :: t32 :: t33 :: t34 :: t35 :: t36 :: t37 :: t38 :: t39 :: t40 :: t41 :: t42 :: t43 :: t44 :: t45 :: t46 :: t47 :: t48 :: t49 :: t50 :: t51 :: t52 :: t53 :: t54 :: t55 :: t56 :: t57 :: t58 :: x59 :: x60 :: x61 :: x62 :: x63 :: x64 :: x65 :: x66 :: x67 :: x68 :: x69 :: t70 :: []), defers := [] } W') :
    (Code.region 18 (List.toArray ({ dst := some 59, op := Op.fieldAddr 24 (Operand.tmp 6) 1, type := 0, pos := "ref.go:330", after := #[], guard := none } :: { dst := some 60, op := Op.load 22 (Operand.tmp 59), type := 22, pos := "ref.go:330", after := #[{ on := 0, ground := Ground.data }], guard := none } :: { dst := some 61, op := Op.move (Operand.tmp 7), type := 3, pos := "ref.go:330", after := #[], guard := none } :: { dst := some 62, op := Op.move (Operand.tmp 8), type := 25, pos := "ref.go:330", after := #[], guard := none } :: { dst := some 63, op := Op.move (Operand.tmp 10), type := 3, pos := "ref.go:330", after := #[], guard := none } :: { dst := some 64, op := Op.indexAddr 25 (Operand.tmp 62) (Operand.tmp 63), type := 0, pos := "ref.go:330", after := #[{ on := 3, ground := Ground.data }, { on := 4, ground := Ground.data }], guard := none } :: { dst := some 65, op := Op.load 3 (Operand.tmp 64), type := 3, pos := "ref.go:330", after := #[{ on := 5, ground := Ground.data }], guard := none } :: { dst := some 66, op := Op.build 47 #[(0, Operand.tmp 61), (1, Operand.tmp 65)], type := 47, pos := "ref.go:330", after := #[{ on := 2, ground := Ground.data }, { on := 6, ground := Ground.data }], guard := none } :: { dst := some 67, op := Op.buildSlice 22 1 #[(0, Operand.tmp 66)], type := 22, pos := "ref.go:330", after := #[{ on := 7, ground := Ground.data }], guard := none } :: { dst := some 68, op := Op.call { callee := Callee.builtin Builtin.append, args := #[Operand.tmp 60, Operand.tmp 67], argTypes := #[22, 22] }, type := 22, pos := "ref.go:330", after := #[{ on := 1, ground := Ground.data }, { on := 8, ground := Ground.data }], guard := none } :: { dst := some 69, op := Op.fieldAddr 24 (Operand.tmp 6) 1, type := 0, pos := "ref.go:330", after := #[{ on := 0, ground := Ground.phase }, { on := 1, ground := Ground.phase }, { on := 2, ground := Ground.phase }, { on := 3, ground := Ground.phase }, { on := 4, ground := Ground.phase }, { on := 5, ground := Ground.phase }, { on := 6, ground := Ground.phase }, { on := 7, ground := Ground.phase }, { on := 8, ground := Ground.phase }, { on := 9, ground := Ground.phase }], guard := none } :: { dst := none, op := Op.store 22 (Operand.tmp 69) (Operand.tmp 68), type := 0, pos := "ref.go:330", after := #[{ on := 10, ground := Ground.data }, { on := 9, ground := Ground.data }, { on := 9, ground := Ground.chain }, { on := 0, ground := Ground.phase }, { on := 1, ground := Ground.phase }, { on := 2, ground := Ground.phase }, { on := 3, ground := Ground.phase }, { on := 4, ground := Ground.phase }, { on := 5, ground := Ground.phase }, { on := 6, ground := Ground.phase }, { on := 7, ground := Ground.phase }, { on := 8, ground := Ground.phase }, { on := 9, ground := Ground.phase }], guard := none } :: [])) true).wp Try.prog Q { tmps := List.toArray (t0 :: t1 :: t2 :: t3 :: t4 :: t5 :: (.pointer (some ⟨bb, 0, none⟩)) :: (.int .i64 (x : Nat)) :: (.slice (some ⟨Z, oz, none⟩) m cy) :: t9 :: (.int .i64 (j : Nat)) :: t11 :: t12 :: t13 :: t14 :: t15 :: t16 :: t17 :: t18 :: t19 :: t20 :: t21 :: t22 :: t23 :: t24 :: t25 :: t26 :: t27 :: t28 :: t29 :: t30 :: t31 :: t32 :: t33 :: t34 :: t35 :: t36 :: t37 :: t38 :: t39 :: t40 :: t41 :: t42 :: t43 :: t44 :: t45 :: t46 :: t47 :: t48 :: t49 :: t50 :: t51 :: t52 :: t53 :: t54 :: t55 :: t56 :: t57 :: t58 :: t59 :: t60 :: t61 :: t62 :: t63 :: t64 :: t65 :: t66 :: t67 :: t68 :: t69 :: t70 :: []), defers := [] } w := by
  have hH := hid h
  have HZ := hid hz
  have RO := hid HA.ro
  have OW := hid HA.la.tr.ow
  have LS : Hid ((L.length + 1) * KE.B ≤ 140737488355328) := by show (_ + 1) * 16 ≤ _; omega
  have BS : Hid (V.heap.size ≤ w.heap.size) := HA.la.tr.bl.size
  have PP := hid (fun w1 w8 g8 c8 (h1 : Below w.heap.size w w1) => HA.push (x := ((x : Int), (y : Int))) (w1 := w1) (w8 := w8) (g8 := g8) (c8 := c8) h1)
  have CX : Hid (∀ W', Below w.heap.size w W' → W'.cell? ⟨bb, 1, none⟩ = some (.slice q L.length c)) := fun W' hb => cell_of_row _ _ _ _ _ _ (boxkeep hb HA.la.tr.bx)
  have y0 := CX.out w.drew (drew_below _ 1)
  have y1 : ∀ ob, (w.alloc ob).drew.cell? ⟨bb, 1, none⟩ = some (.slice q L.length c) := fun ob => CX.out _ (bl3 (bal _ _) (drew_below _ 1))
  have z0 := HZ.out w.drew (RO.out.below (drew_below _ 1))
  clear h hz HA hL
  refine wp_region_noPanic ?_
  refine wp_region_held_drew (S := (fun w' => w'.cell? ⟨Z, oz + j, none⟩ = some (.int .i64 (y : Nat)))) (by kernel_rfl) ?_ (fun hHeld => ?_)
  · exact HZ.out _ (RO.out.below (drew_below _ 1))
  refine wpAnyH_take (i := 0) (oi := { dst := some 59, op := Op.fieldAddr 24 (Operand.tmp 6) 1, type := 0, pos := "ref.go:330", after := #[], guard := none }) (v := ?_) rfl (by kernel_rfl) (by kernel_rfl) (by kernel_rfl) (fun _ _ _ h => h) (Or.inl ⟨by rfl, ?_⟩) (by assumption) ?_
  rotate_left
  · intro w hSw
    try dsimp only at hSw
    go_simp
    try with_reducible rfl
  try simp only [Act.put, List.setIfInBounds_toArray, List.set_cons_zero, List.set_cons_succ]
  refine wpAnyH_take (i := 2) (oi := { dst := some 61, op := Op.move (Operand.tmp 7), type := 3, pos := "ref.go:330", after := #[], guard := none }) (v := ?_) rfl (by kernel_rfl) (by kernel_rfl) (by kernel_rfl) (fun _ _ _ h => h) (Or.inl ⟨by rfl, ?_⟩) (by assumption) ?_
  rotate_left
  · intro w hSw
    try dsimp only at hSw
    go_simp
    try with_reducible rfl
  try simp only [Act.put, List.setIfInBounds_toArray, List.set_cons_zero, List.set_cons_succ]
  refine wpAnyH_take (i := 3) (oi := { dst := some 62, op := Op.move (Operand.tmp 8), type := 25, pos := "ref.go:330", after := #[], guard := none }) (v := ?_) rfl (by kernel_rfl) (by kernel_rfl) (by kernel_rfl) (fun _ _ _ h => h) (Or.inl ⟨by rfl, ?_⟩) (by assumption) ?_
  rotate_left
  · intro w hSw
    try dsimp only at hSw
    go_simp
    try with_reducible rfl
  try simp only [Act.put, List.setIfInBounds_toArray, List.set_cons_zero, List.set_cons_succ]
  refine wpAnyH_take (i := 4) (oi := { dst := some 63, op := Op.move (Operand.tmp 10), type := 3, pos := "ref.go:330", after := #[], guard := none }) (v := ?_) rfl (by kernel_rfl) (by kernel_rfl) (by kernel_rfl) (fun _ _ _ h => h) (Or.inl ⟨by rfl, ?_⟩) (by assumption) ?_
  rotate_left
  · intro w hSw
    try dsimp only at hSw
    go_simp
    try with_reducible rfl
  try simp only [Act.put, List.setIfInBounds_toArray, List.set_cons_zero, List.set_cons_succ]
  refine wpAnyH_take (i := 5) (oi := { dst := some 64, op := Op.indexAddr 25 (Operand.tmp 62) (Operand.tmp 63), type := 0, pos := "ref.go:330", after := #[{ on := 3, ground := Ground.data }, { on := 4, ground := Ground.data }], guard := none }) (v := ?_) rfl (by kernel_rfl) (by kernel_rfl) (by kernel_rfl) (fun _ _ _ h => h) (Or.inl ⟨by rfl, ?_⟩) (by assumption) ?_
  rotate_left
  · intro w hSw
    try dsimp only at hSw
    go_simp
    try with_reducible rfl
  try simp only [Act.put, List.setIfInBounds_toArray, List.set_cons_zero, List.set_cons_succ]
  refine wpAnyH_take (i := 6) (oi := { dst := some 65, op := Op.load 3 (Operand.tmp 64), type := 3, pos := "ref.go:330", after := #[{ on := 5, ground := Ground.data }], guard := none }) (v := ?_) rfl (by kernel_rfl) (by kernel_rfl) (by kernel_rfl) (fun _ _ _ h => h) (Or.inl ⟨by rfl, ?_⟩) (by assumption) ?_
  rotate_left
  · intro w hSw
    try dsimp only at hSw
    go_simp
    try with_reducible rfl
  try simp only [Act.put, List.setIfInBounds_toArray, List.set_cons_zero, List.set_cons_succ]
  refine wpAnyH_take (i := 7) (oi := { dst := some 66, op := Op.build 47 #[(0, Operand.tmp 61), (1, Operand.tmp 65)], type := 47, pos := "ref.go:330", after := #[{ on := 2, ground := Ground.data }, { on := 6, ground := Ground.data }], guard := none }) (v := ?_) rfl (by kernel_rfl) (by kernel_rfl) (by kernel_rfl) (fun _ _ _ h => h) (Or.inl ⟨by rfl, ?_⟩) (by assumption) ?_
  rotate_left
  · intro w hSw
    try dsimp only at hSw
    go_simp
    try with_reducible rfl
  try simp only [Act.put, List.setIfInBounds_toArray, List.set_cons_zero, List.set_cons_succ]
  refine wpAnyH_ready (rs := [1, 8]) (by kernel_rfl) (by simp) ?_
  refine (AllReadyH.cons (o := { dst := some 60, op := Op.load 22 (Operand.tmp 59), type := 22, pos := "ref.go:330", after := #[{ on := 0, ground := Ground.data }], guard := none }) rfl (fun K hK => ?_) (AllReadyH.cons (o := { dst := some 67, op := Op.buildSlice 22 1 #[(0, Operand.tmp 66)], type := 22, pos := "ref.go:330", after := #[{ on := 7, ground := Ground.data }], guard := none }) rfl (fun K hK => ?_) AllReadyH.nil))
  · go_simp
    refine hK.out _ _ ?_ (fun hHeld => ?_)
    · exact HZ.out _ (by first | exact RO.out.below (drew_below _ 1) | exact RO.out.below (bl3 (bal _ _) (drew_below _ 1)))
    clear hK K
    try simp only [Act.put, List.setIfInBounds_toArray, List.set_cons_zero, List.set_cons_succ]
    refine wpAnyH_ready (rs := [8]) (by kernel_rfl) (by simp) ?_
    refine AllReadyH.cons (o := { dst := some 67, op := Op.buildSlice 22 1 #[(0, Operand.tmp 66)], type := 22, pos := "ref.go:330", after := #[{ on := 7, ground := Ground.data }], guard := none }) rfl (fun K hK => ?_) AllReadyH.nil
    go_simp
    refine hK.out _ _ ?_ (fun hHeld => ?_)
    · exact HZ.out _ (by first | exact RO.out.below (drew_below _ 1) | exact RO.out.below (bl3 (bal _ _) (drew_below _ 1)))
    clear hK K
    try simp only [Act.put, List.setIfInBounds_toArray, List.set_cons_zero, List.set_cons_succ]
    refine wpAnyH_ready (rs := [9]) (by kernel_rfl) (by simp) ?_
    refine AllReadyH.cons (o := { dst := some 68, op := Op.call { callee := Callee.builtin Builtin.append, args := #[Operand.tmp 60, Operand.tmp 67], argTypes := #[22, 22] }, type := 22, pos := "ref.go:330", after := #[{ on := 1, ground := Ground.data }, { on := 8, ground := Ground.data }], guard := none }) rfl (fun K hK => ?_) AllReadyH.nil
    refine step_append_g KE KE_ok (by rfl) (.tmp 60) (.tmp 67) 22 (by rfl) V.heap.size Try.underlying22 _ w.heap.size _ _ (heap_alloc_new w _) (.slice q L.length c) L ((x : Int), (y : Int)) _ (by rfl) (OwnG.below OW.out (bl3 (bal _ _) (drew_below _ 1))) (by rfl) (by rfl) LS.out (Nat.le_trans BS.out (bl3 (bal w _) (drew_below _ 1)).size) ?_
    intro g8 c8 wv o8 b8 k8 _
    obtain ⟨k1, k2, k3, k5⟩ := PP.out _ wv g8 c8 (bl3 (bal _ _) (drew_below _ 1)) o8 b8 k8
    have R8 := hid k5
    have K8 := hid k1
    clear k1 k5 o8 b8 k8
    refine hK.out _ _ ?_ (fun hHeld => ?_)
    · exact HZ.out _ R8.out
    clear hK K
    try simp only [Act.put, List.setIfInBounds_toArray, List.set_cons_zero, List.set_cons_succ]
    refine wpAnyH_take (i := 10) (oi := { dst := some 69, op := Op.fieldAddr 24 (Operand.tmp 6) 1, type := 0, pos := "ref.go:330", after := #[{ on := 0, ground := Ground.phase }, { on := 1, ground := Ground.phase }, { on := 2, ground := Ground.phase }, { on := 3, ground := Ground.phase }, { on := 4, ground := Ground.phase }, { on := 5, ground := Ground.phase }, { on := 6, ground := Ground.phase }, { on := 7, ground := Ground.phase }, { on := 8, ground := Ground.phase }, { on := 9, ground := Ground.phase }], guard := none }) (v := ?_) rfl (by kernel_rfl) (by kernel_rfl) (by kernel_rfl) (fun _ _ _ h => h) (Or.inl ⟨by rfl, ?_⟩) (by assumption) ?_
    rotate_left
    · intro w hSw
      try dsimp only at hSw
      go_simp
      try with_reducible rfl
    try simp only [Act.put, List.setIfInBounds_toArray, List.set_cons_zero, List.set_cons_succ]
    refine wpAnyH_ready (rs := [11]) (by kernel_rfl) (by simp) ?_
    refine AllReadyH.cons (o := { dst := none, op := Op.store 22 (Operand.tmp 69) (Operand.tmp 68), type := 0, pos := "ref.go:330", after := #[{ on := 10, ground := Ground.data }, { on := 9, ground := Ground.data }, { on := 9, ground := Ground.chain }, { on := 0, ground := Ground.phase }, { on := 1, ground := Ground.phase }, { on := 2, ground := Ground.phase }, { on := 3, ground := Ground.phase }, { on := 4, ground := Ground.phase }, { on := 5, ground := Ground.phase }, { on := 6, ground := Ground.phase }, { on := 7, ground := Ground.phase }, { on := 8, ground := Ground.phase }, { on := 9, ground := Ground.phase }], guard := none }) rfl (fun K hK => ?_) AllReadyH.nil
    go_simp
    refine hK.out _ _ ?_ (fun hHeld => ?_)
    · exact HZ.out _ K8.out.ro
    clear hK K
    try simp only [Act.put, List.setIfInBounds_toArray, List.set_cons_zero, List.set_cons_succ]
    refine wpAnyH_done (by kernel_rfl) ?_ _
    refine NoPanic.normal ?_
    exact hH.out _ _ _ _ _ _ _ _ _ _ _ _ _ _ K8.out
  · go_simp
    refine hK.out _ _ ?_ (fun hHeld => ?_)
    · exact HZ.out _ (by first | exact RO.out.below (drew_below _ 1) | exact RO.out.below (bl3 (bal _ _) (drew_below _ 1)))
    clear hK K
    try simp only [Act.put, List.setIfInBounds_toArray, List.set_cons_zero, List.set_cons_succ]
    refine wpAnyH_ready (rs := [1]) (by kernel_rfl) (by simp) ?_
    refine AllReadyH.cons (o := { dst := some 60, op := Op.load 22 (Operand.tmp 59), type := 22, pos := "ref.go:330", after := #[{ on := 0, ground := Ground.data }], guard := none }) rfl (fun K hK => ?_) AllReadyH.nil
    go_simp
    refine hK.out _ _ ?_ (fun hHeld => ?_)
    · exact HZ.out _ (by first | exact RO.out.below (drew_below _ 1) | exact RO.out.below (bl3 (bal _ _) (drew_below _ 1)))
    clear hK K
    try simp only [Act.put, List.setIfInBounds_toArray, List.set_cons_zero, List.set_cons_succ]
    refine wpAnyH_ready (rs := [9]) (by kernel_rfl) (by simp) ?_
    refine AllReadyH.cons (o := { dst := some 68, op := Op.call { callee := Callee.builtin Builtin.append, args := #[Operand.tmp 60, Operand.tmp 67], argTypes := #[22, 22] }, type := 22, pos := "ref.go:330", after := #[{ on := 1, ground := Ground.data }, { on := 8, ground := Ground.data }], guard := none }) rfl (fun K hK => ?_) AllReadyH.nil
    refine step_append_g KE KE_ok (by rfl) (.tmp 60) (.tmp 67) 22 (by rfl) V.heap.size Try.underlying22 _ w.heap.size _ _ (heap_alloc_new w _) (.slice q L.length c) L ((x : Int), (y : Int)) _ (by rfl) (OwnG.below OW.out (bl3 (bal _ _) (drew_below _ 1))) (by rfl) (by rfl) LS.out (Nat.le_trans BS.out (bl3 (bal w _) (drew_below _ 1)).size) ?_
    intro g8 c8 wv o8 b8 k8 _
    obtain ⟨k1, k2, k3, k5⟩ := PP.out _ wv g8 c8 (bl3 (bal _ _) (drew_below _ 1)) o8 b8 k8
    have R8 := hid k5
    have K8 := hid k1
    clear k1 k5 o8 b8 k8
    refine hK.out _ _ ?_ (fun hHeld => ?_)
    · exact HZ.out _ R8.out
    clear hK K
    try simp only [Act.put, List.setIfInBounds_toArray, List.set_cons_zero, List.set_cons_succ]
    refine wpAnyH_take (i := 10) (oi := { dst := some 69, op := Op.fieldAddr 24 (Operand.tmp 6) 1, type := 0, pos := "ref.go:330", after := #[{ on := 0, ground := Ground.phase }, { on := 1, ground := Ground.phase }, { on := 2, ground := Ground.phase }, { on := 3, ground := Ground.phase }, { on := 4, ground := Ground.phase }, { on := 5, ground := Ground.phase }, { on := 6, ground := Ground.phase }, { on := 7, ground := Ground.phase }, { on := 8, ground := Ground.phase }, { on := 9, ground := Ground.phase }], guard := none }) (v := ?_) rfl (by kernel_rfl) (by kernel_rfl) (by kernel_rfl) (fun _ _ _ h => h) (Or.inl ⟨by rfl, ?_⟩) (by assumption) ?_
    rotate_left
    · intro w hSw
      try dsimp only at hSw
      go_simp
      try with_reducible rfl
    try simp only [Act.put, List.setIfInBounds_toArray, List.set_cons_zero, List.set_cons_succ]
    refine wpAnyH_ready (rs := [11]) (by kernel_rfl) (by simp) ?_
    refine AllReadyH.cons (o := { dst := none, op := Op.store 22 (Operand.tmp 69) (Operand.tmp 68), type := 0, pos := "ref.go:330", after := #[{ on := 10, ground := Ground.data }, { on := 9, ground := Ground.data }, { on := 9, ground := Ground.chain }, { on := 0, ground := Ground.phase }, { on := 1, ground := Ground.phase }, { on := 2, ground := Ground.phase }, { on := 3, ground := Ground.phase }, { on := 4, ground := Ground.phase }, { on := 5, ground := Ground.phase }, { on := 6, ground := Ground.phase }, { on := 7, ground := Ground.phase }, { on := 8, ground := Ground.phase }, { on := 9, ground := Ground.phase }], guard := none }) rfl (fun K hK => ?_) AllReadyH.nil
    go_simp
    refine hK.out _ _ ?_ (fun hHeld => ?_)
    · exact HZ.out _ K8.out.ro
    clear hK K
    try simp only [Act.put, List.setIfInBounds_toArray, List.set_cons_zero, List.set_cons_succ]
    refine wpAnyH_done (by kernel_rfl) ?_ _
    refine NoPanic.normal ?_
    exact hH.out _ _ _ _ _ _ _ _ _ _ _ _ _ _ K8.out
end Go.Proofs.Ytghkhceplpjegaa
