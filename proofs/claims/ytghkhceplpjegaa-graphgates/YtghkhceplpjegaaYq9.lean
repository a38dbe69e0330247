/- Graph: the law's without: a graph without the edges of a node. -/
import Derived.Test.YtghkhceplpjegaaYq4
import Derived.Test.YtghkhceplpjegaaYd4
import Derived.Test.YtghkhceplpjegaaYf3
import Derived.Test.YtghkhceplpjegaaYh3
import Derived.Deep.RegionHeld3
namespace Go.Proofs.Ytghkhceplpjegaa
open Go.RowKit

set_option maxRecDepth 100000 in
set_option maxHeartbeats 32000000 in
theorem wo6 {Q : Exit → Act → World → Prop} {V w : World} {n : Int} {bb sz : Nat} {q : Option Addr} {c : Nat} {L : List (Int × Int)} {x y j m Z oz cy : Nat} {t0 t1 t3 t4 t7 t8 t9 t10 t11 t12 t13 t14 t15 t16 t17 t18 t19 t20 t21 t22 t23 t24 t25 t26 t27 t28 t29 t30 t31 t32 t33 t34 t35 t36 t37 t38 t39 t40 t41 t42 t43 t44 t45 : Value} (HA : TR V n bb q c L w) (hj : (j : Int) < (m : Nat)) (hL : L.length ≤ 20480) (hz : ∀ w', Below V.heap.size V w' → w'.cell? ⟨sz, 1, none⟩ = some (.slice (some ⟨Z, oz, none⟩) m cy) ∧ w'.cell? ⟨Z, oz + j * 2, none⟩ = some (.int .i64 (x : Nat)) ∧ w'.cell? ⟨Z, oz + j * 2 + 1, none⟩ = some (.int .i64 (y : Nat)))
    (h : ∀ (W' : World) (g8 c8 : Nat) (x35 x36 x37 x38 x39 x40 x41 x42 x43 x44 : Value), TR V n bb (some ⟨g8, 0, none⟩) c8 (L ++ [((x : Int), (y : Int))]) W' → Q .normal { tmps := List.toArray (t0 :: t1 :: (.pointer (some ⟨sz, 0, none⟩)) :: t3 :: t4 :: (.pointer (some ⟨bb, 0, none⟩)) :: (.int .i64 (j : Nat)) :: t7 :: t8 :: t9 :: t10 :: t11 :: t12 :: t13 :: t14 :: t15 :: t16 :: t17 :: t18 :: t19 :: t20 :: t21 :: t22 :: t23 :: t24 :: t25 :: t26 :: t27 :: t28 :: t29 :: t30 :: t31 :: t32 :: t33 :: t34 :: x35 :: x36 :: x37 :: x38 :: x39 :: x40 :: x41 :: x42 :: x43 :: x44 :: t45 :: []), defers := [] } W') :
    (Code.region 6 (List.toArray ({ dst := some 35, op := Op.fieldAddr 24 (Operand.tmp 5) 1, type := 0, pos := "law.go:329", after := #[], guard := none } :: { dst := some 36, op := Op.load 22 (Operand.tmp 35), type := 22, pos := "law.go:329", after := #[{ on := 0, ground := Ground.data }], guard := none } :: { dst := some 37, op := Op.fieldAddr 24 (Operand.tmp 2) 1, type := 0, pos := "law.go:329", after := #[], guard := none } :: { dst := some 38, op := Op.load 22 (Operand.tmp 37), type := 22, pos := "law.go:329", after := #[{ on := 2, ground := Ground.data }], guard := none } :: { dst := some 39, op := Op.move (Operand.tmp 6), type := 3, pos := "law.go:329", after := #[], guard := none } :: { dst := some 40, op := Op.indexAddr 22 (Operand.tmp 38) (Operand.tmp 39), type := 0, pos := "law.go:329", after := #[{ on := 3, ground := Ground.data }, { on := 4, ground := Ground.data }], guard := none } :: { dst := some 41, op := Op.load 47 (Operand.tmp 40), type := 47, pos := "law.go:329", after := #[{ on := 5, ground := Ground.data }], guard := none } :: { dst := some 42, op := Op.buildSlice 22 1 #[(0, Operand.tmp 41)], type := 22, pos := "law.go:329", after := #[{ on := 6, ground := Ground.data }], guard := none } :: { dst := some 43, op := Op.call { callee := Callee.builtin Builtin.append, args := #[Operand.tmp 36, Operand.tmp 42], argTypes := #[22, 22] }, type := 22, pos := "law.go:329", after := #[{ on := 1, ground := Ground.data }, { on := 7, ground := Ground.data }], guard := none } :: { dst := some 44, op := Op.fieldAddr 24 (Operand.tmp 5) 1, type := 0, pos := "law.go:329", after := #[{ on := 0, ground := Ground.phase }, { on := 1, ground := Ground.phase }, { on := 2, ground := Ground.phase }, { on := 3, ground := Ground.phase }, { on := 4, ground := Ground.phase }, { on := 5, ground := Ground.phase }, { on := 6, ground := Ground.phase }, { on := 7, ground := Ground.phase }, { on := 8, ground := Ground.phase }], guard := none } :: { dst := none, op := Op.store 22 (Operand.tmp 44) (Operand.tmp 43), type := 0, pos := "law.go:329", after := #[{ on := 9, ground := Ground.data }, { on := 8, ground := Ground.data }, { on := 8, ground := Ground.chain }, { on := 0, ground := Ground.phase }, { on := 1, ground := Ground.phase }, { on := 2, ground := Ground.phase }, { on := 3, ground := Ground.phase }, { on := 4, ground := Ground.phase }, { on := 5, ground := Ground.phase }, { on := 6, ground := Ground.phase }, { on := 7, ground := Ground.phase }, { on := 8, ground := Ground.phase }], guard := none } :: [])) true).wp Try.prog Q { tmps := List.toArray (t0 :: t1 :: (.pointer (some ⟨sz, 0, none⟩)) :: t3 :: t4 :: (.pointer (some ⟨bb, 0, none⟩)) :: (.int .i64 (j : Nat)) :: t7 :: t8 :: t9 :: t10 :: t11 :: t12 :: t13 :: t14 :: t15 :: t16 :: t17 :: t18 :: t19 :: t20 :: t21 :: t22 :: t23 :: t24 :: t25 :: t26 :: t27 :: t28 :: t29 :: t30 :: t31 :: t32 :: t33 :: t34 :: t35 :: t36 :: t37 :: t38 :: t39 :: t40 :: t41 :: t42 :: t43 :: t44 :: t45 :: []), defers := [] } w := by
  have hH := hid h
  have HZ := hid hz
  have BX := hid HA.bl
  have OW := hid HA.ow
  have LS : Hid ((L.length + 1) * KE.B ≤ 140737488355328) := by show (_ + 1) * 16 ≤ _; omega
  have BS : Hid (V.heap.size ≤ w.heap.size) := HA.bl.size
  have PP := hid (fun w1 w8 g8 c8 (h1 : Below w.heap.size w w1) => HA.push (x := ((x : Int), (y : Int))) (w1 := w1) (w8 := w8) (g8 := g8) (c8 := c8) h1)
  have CX : Hid (∀ W', Below w.heap.size w W' → W'.cell? ⟨bb, 1, none⟩ = some (.slice q L.length c)) := fun W' hb => cell_of_row _ _ _ _ _ _ (boxkeep hb HA.bx)
  have y0 := CX.out w.drew (drew_below _ 1)
  have y1 : ∀ ob, (w.alloc ob).drew.cell? ⟨bb, 1, none⟩ = some (.slice q L.length c) := fun ob => CX.out _ (bl3 (bal _ _) (drew_below _ 1))
  clear h hz HA hL
  refine wp_region_noPanic ?_
  refine wp_region_held_drew (S := (fun w' => w'.cell? ⟨sz, 1, none⟩ = some (.slice (some ⟨Z, oz, none⟩) m cy) ∧ w'.cell? ⟨Z, oz + j * 2, none⟩ = some (.int .i64 (x : Nat)) ∧ w'.cell? ⟨Z, oz + j * 2 + 1, none⟩ = some (.int .i64 (y : Nat)))) (by kernel_rfl) ?_ (fun hHeld => ?_)
  · exact HZ.out _ (bl3 BX.out (drew_below _ 1))
  refine wpAnyH_take (i := 0) (oi := { dst := some 35, op := Op.fieldAddr 24 (Operand.tmp 5) 1, type := 0, pos := "law.go:329", after := #[], guard := none }) (v := ?_) rfl (by kernel_rfl) (by kernel_rfl) (by kernel_rfl) (fun _ _ _ h => h) (Or.inl ⟨by rfl, ?_⟩) (by assumption) ?_
  rotate_left
  · intro w hSw
    try dsimp only at hSw
    go_simp
    try with_reducible rfl
  try simp only [Act.put, List.setIfInBounds_toArray, List.set_cons_zero, List.set_cons_succ]
  refine wpAnyH_take (i := 2) (oi := { dst := some 37, op := Op.fieldAddr 24 (Operand.tmp 2) 1, type := 0, pos := "law.go:329", after := #[], guard := none }) (v := ?_) rfl (by kernel_rfl) (by kernel_rfl) (by kernel_rfl) (fun _ _ _ h => h) (Or.inl ⟨by rfl, ?_⟩) (by assumption) ?_
  rotate_left
  · intro w hSw
    try dsimp only at hSw
    go_simp
    try with_reducible rfl
  try simp only [Act.put, List.setIfInBounds_toArray, List.set_cons_zero, List.set_cons_succ]
  refine wpAnyH_take (i := 3) (oi := { dst := some 38, op := Op.load 22 (Operand.tmp 37), type := 22, pos := "law.go:329", after := #[{ on := 2, ground := Ground.data }], guard := none }) (v := ?_) rfl (by kernel_rfl) (by kernel_rfl) (by kernel_rfl) (fun _ _ _ h => h) (Or.inl ⟨by rfl, ?_⟩) (by assumption) ?_
  rotate_left
  · intro w hSw
    try dsimp only at hSw
    go_simp
    try with_reducible rfl
  try simp only [Act.put, List.setIfInBounds_toArray, List.set_cons_zero, List.set_cons_succ]
  refine wpAnyH_take (i := 4) (oi := { dst := some 39, op := Op.move (Operand.tmp 6), type := 3, pos := "law.go:329", after := #[], guard := none }) (v := ?_) rfl (by kernel_rfl) (by kernel_rfl) (by kernel_rfl) (fun _ _ _ h => h) (Or.inl ⟨by rfl, ?_⟩) (by assumption) ?_
  rotate_left
  · intro w hSw
    try dsimp only at hSw
    go_simp
    try with_reducible rfl
  try simp only [Act.put, List.setIfInBounds_toArray, List.set_cons_zero, List.set_cons_succ]
  refine wpAnyH_take (i := 5) (oi := { dst := some 40, op := Op.indexAddr 22 (Operand.tmp 38) (Operand.tmp 39), type := 0, pos := "law.go:329", after := #[{ on := 3, ground := Ground.data }, { on := 4, ground := Ground.data }], guard := none }) (v := ?_) rfl (by kernel_rfl) (by kernel_rfl) (by kernel_rfl) (fun _ _ _ h => h) (Or.inl ⟨by rfl, ?_⟩) (by assumption) ?_
  rotate_left
  · intro w hSw
    try dsimp only at hSw
    go_simp
    try with_reducible rfl
  try simp only [Act.put, List.setIfInBounds_toArray, List.set_cons_zero, List.set_cons_succ]
  refine wpAnyH_take (i := 6) (oi := { dst := some 41, op := Op.load 47 (Operand.tmp 40), type := 47, pos := "law.go:329", after := #[{ on := 5, ground := Ground.data }], guard := none }) (v := ?_) rfl (by kernel_rfl) (by kernel_rfl) (by kernel_rfl) (fun _ _ _ h => h) (Or.inl ⟨by rfl, ?_⟩) (by assumption) ?_
  rotate_left
  · intro w hSw
    try dsimp only at hSw
    go_simp
    try with_reducible rfl
  try simp only [Act.put, List.setIfInBounds_toArray, List.set_cons_zero, List.set_cons_succ]
  refine wpAnyH_ready (rs := [1, 7]) (by kernel_rfl) (by simp) ?_
  refine (AllReadyH.cons (o := { dst := some 36, op := Op.load 22 (Operand.tmp 35), type := 22, pos := "law.go:329", after := #[{ on := 0, ground := Ground.data }], guard := none }) rfl (fun K hK => ?_) (AllReadyH.cons (o := { dst := some 42, op := Op.buildSlice 22 1 #[(0, Operand.tmp 41)], type := 22, pos := "law.go:329", after := #[{ on := 6, ground := Ground.data }], guard := none }) rfl (fun K hK => ?_) AllReadyH.nil))
  · go_simp
    refine hK.out _ _ ?_ (fun hHeld => ?_)
    · exact HZ.out _ (by first | exact bl3 BX.out (drew_below _ 1) | exact bl3 BX.out (bl3 (bal _ _) (drew_below _ 1)))
    clear hK K
    try simp only [Act.put, List.setIfInBounds_toArray, List.set_cons_zero, List.set_cons_succ]
    refine wpAnyH_ready (rs := [7]) (by kernel_rfl) (by simp) ?_
    refine AllReadyH.cons (o := { dst := some 42, op := Op.buildSlice 22 1 #[(0, Operand.tmp 41)], type := 22, pos := "law.go:329", after := #[{ on := 6, ground := Ground.data }], guard := none }) rfl (fun K hK => ?_) AllReadyH.nil
    go_simp
    refine hK.out _ _ ?_ (fun hHeld => ?_)
    · exact HZ.out _ (by first | exact bl3 BX.out (drew_below _ 1) | exact bl3 BX.out (bl3 (bal _ _) (drew_below _ 1)))
    clear hK K
    try simp only [Act.put, List.setIfInBounds_toArray, List.set_cons_zero, List.set_cons_succ]
    refine wpAnyH_ready (rs := [8]) (by kernel_rfl) (by simp) ?_
    refine AllReadyH.cons (o := { dst := some 43, op := Op.call { callee := Callee.builtin Builtin.append, args := #[Operand.tmp 36, Operand.tmp 42], argTypes := #[22, 22] }, type := 22, pos := "law.go:329", after := #[{ on := 1, ground := Ground.data }, { on := 7, ground := Ground.data }], guard := none }) rfl (fun K hK => ?_) AllReadyH.nil
    refine step_append_g KE KE_ok (by rfl) (.tmp 36) (.tmp 42) 22 (by rfl) V.heap.size Try.underlying22 _ w.heap.size _ _ (heap_alloc_new w _) (.slice q L.length c) L ((x : Int), (y : Int)) _ (by rfl) (OwnG.below OW.out (bl3 (bal _ _) (drew_below _ 1))) (by rfl) (by rfl) LS.out (Nat.le_trans BS.out (bl3 (bal w _) (drew_below _ 1)).size) ?_
    intro g8 c8 wv o8 b8 k8 _
    obtain ⟨k1, k2, k3⟩ := PP.out _ wv g8 c8 (bl3 (bal _ _) (drew_below _ 1)) o8 b8 k8
    have B8 : Hid (Below V.heap.size V wv) := (bl3 BX.out (bl3 (bal _ _) (drew_below _ 1))).trans b8
    have K8 := hid k1
    clear k1 o8 b8 k8
    refine hK.out _ _ ?_ (fun hHeld => ?_)
    · exact HZ.out _ B8.out
    clear hK K
    try simp only [Act.put, List.setIfInBounds_toArray, List.set_cons_zero, List.set_cons_succ]
    refine wpAnyH_take (i := 9) (oi := { dst := some 44, op := Op.fieldAddr 24 (Operand.tmp 5) 1, type := 0, pos := "law.go:329", after := #[{ on := 0, ground := Ground.phase }, { on := 1, ground := Ground.phase }, { on := 2, ground := Ground.phase }, { on := 3, ground := Ground.phase }, { on := 4, ground := Ground.phase }, { on := 5, ground := Ground.phase }, { on := 6, ground := Ground.phase }, { on := 7, ground := Ground.phase }, { on := 8, ground := Ground.phase }], guard := none }) (v := ?_) rfl (by kernel_rfl) (by kernel_rfl) (by kernel_rfl) (fun _ _ _ h => h) (Or.inl ⟨by rfl, ?_⟩) (by assumption) ?_
    rotate_left
    · intro w hSw
      try dsimp only at hSw
      go_simp
      try with_reducible rfl
    try simp only [Act.put, List.setIfInBounds_toArray, List.set_cons_zero, List.set_cons_succ]
    refine wpAnyH_ready (rs := [10]) (by kernel_rfl) (by simp) ?_
    refine AllReadyH.cons (o := { dst := none, op := Op.store 22 (Operand.tmp 44) (Operand.tmp 43), type := 0, pos := "law.go:329", after := #[{ on := 9, ground := Ground.data }, { on := 8, ground := Ground.data }, { on := 8, ground := Ground.chain }, { on := 0, ground := Ground.phase }, { on := 1, ground := Ground.phase }, { on := 2, ground := Ground.phase }, { on := 3, ground := Ground.phase }, { on := 4, ground := Ground.phase }, { on := 5, ground := Ground.phase }, { on := 6, ground := Ground.phase }, { on := 7, ground := Ground.phase }, { on := 8, ground := Ground.phase }], guard := none }) rfl (fun K hK => ?_) AllReadyH.nil
    go_simp
    refine hK.out _ _ ?_ (fun hHeld => ?_)
    · exact HZ.out _ K8.out.bl
    clear hK K
    try simp only [Act.put, List.setIfInBounds_toArray, List.set_cons_zero, List.set_cons_succ]
    refine wpAnyH_done (by kernel_rfl) ?_ _
    refine NoPanic.normal ?_
    exact hH.out _ _ _ _ _ _ _ _ _ _ _ _ _ K8.out
  · go_simp
    refine hK.out _ _ ?_ (fun hHeld => ?_)
    · exact HZ.out _ (by first | exact bl3 BX.out (drew_below _ 1) | exact bl3 BX.out (bl3 (bal _ _) (drew_below _ 1)))
    clear hK K
    try simp only [Act.put, List.setIfInBounds_toArray, List.set_cons_zero, List.set_cons_succ]
    refine wpAnyH_ready (rs := [1]) (by kernel_rfl) (by simp) ?_
    refine AllReadyH.cons (o := { dst := some 36, op := Op.load 22 (Operand.tmp 35), type := 22, pos := "law.go:329", after := #[{ on := 0, ground := Ground.data }], guard := none }) rfl (fun K hK => ?_) AllReadyH.nil
    go_simp
    refine hK.out _ _ ?_ (fun hHeld => ?_)
    · exact HZ.out _ (by first | exact bl3 BX.out (drew_below _ 1) | exact bl3 BX.out (bl3 (bal _ _) (drew_below _ 1)))
    clear hK K
    try simp only [Act.put, List.setIfInBounds_toArray, List.set_cons_zero, List.set_cons_succ]
    refine wpAnyH_ready (rs := [8]) (by kernel_rfl) (by simp) ?_
    refine AllReadyH.cons (o := { dst := some 43, op := Op.call { callee := Callee.builtin Builtin.append, args := #[Operand.tmp 36, Operand.tmp 42], argTypes := #[22, 22] }, type := 22, pos := "law.go:329", after := #[{ on := 1, ground := Ground.data }, { on := 7, ground := Ground.data }], guard := none }) rfl (fun K hK => ?_) AllReadyH.nil
    refine step_append_g KE KE_ok (by rfl) (.tmp 36) (.tmp 42) 22 (by rfl) V.heap.size Try.underlying22 _ w.heap.size _ _ (heap_alloc_new w _) (.slice q L.length c) L ((x : Int), (y : Int)) _ (by rfl) (OwnG.below OW.out (bl3 (bal _ _) (drew_below _ 1))) (by rfl) (by rfl) LS.out (Nat.le_trans BS.out (bl3 (bal w _) (drew_below _ 1)).size) ?_
    intro g8 c8 wv o8 b8 k8 _
    obtain ⟨k1, k2, k3⟩ := PP.out _ wv g8 c8 (bl3 (bal _ _) (drew_below _ 1)) o8 b8 k8
    have B8 : Hid (Below V.heap.size V wv) := (bl3 BX.out (bl3 (bal _ _) (drew_below _ 1))).trans b8
    have K8 := hid k1
    clear k1 o8 b8 k8
    refine hK.out _ _ ?_ (fun hHeld => ?_)
    · exact HZ.out _ B8.out
    clear hK K
    try simp only [Act.put, List.setIfInBounds_toArray, List.set_cons_zero, List.set_cons_succ]
    refine wpAnyH_take (i := 9) (oi := { dst := some 44, op := Op.fieldAddr 24 (Operand.tmp 5) 1, type := 0, pos := "law.go:329", after := #[{ on := 0, ground := Ground.phase }, { on := 1, ground := Ground.phase }, { on := 2, ground := Ground.phase }, { on := 3, ground := Ground.phase }, { on := 4, ground := Ground.phase }, { on := 5, ground := Ground.phase }, { on := 6, ground := Ground.phase }, { on := 7, ground := Ground.phase }, { on := 8, ground := Ground.phase }], guard := none }) (v := ?_) rfl (by kernel_rfl) (by kernel_rfl) (by kernel_rfl) (fun _ _ _ h => h) (Or.inl ⟨by rfl, ?_⟩) (by assumption) ?_
    rotate_left
    · intro w hSw
      try dsimp only at hSw
      go_simp
      try with_reducible rfl
    try simp only [Act.put, List.setIfInBounds_toArray, List.set_cons_zero, List.set_cons_succ]
    refine wpAnyH_ready (rs := [10]) (by kernel_rfl) (by simp) ?_
    refine AllReadyH.cons (o := { dst := none, op := Op.store 22 (Operand.tmp 44) (Operand.tmp 43), type := 0, pos := "law.go:329", after := #[{ on := 9, ground := Ground.data }, { on := 8, ground := Ground.data }, { on := 8, ground := Ground.chain }, { on := 0, ground := Ground.phase }, { on := 1, ground := Ground.phase }, { on := 2, ground := Ground.phase }, { on := 3, ground := Ground.phase }, { on := 4, ground := Ground.phase }, { on := 5, ground := Ground.phase }, { on := 6, ground := Ground.phase }, { on := 7, ground := Ground.phase }, { on := 8, ground := Ground.phase }], guard := none }) rfl (fun K hK => ?_) AllReadyH.nil
    go_simp
    refine hK.out _ _ ?_ (fun hHeld => ?_)
    · exact HZ.out _ K8.out.bl
    clear hK K
    try simp only [Act.put, List.setIfInBounds_toArray, List.set_cons_zero, List.set_cons_succ]
    refine wpAnyH_done (by kernel_rfl) ?_ _
    refine NoPanic.normal ?_
    exact hH.out _ _ _ _ _ _ _ _ _ _ _ _ _ K8.out
/-- A graph's edges without those of d. -/
def woL (E : List (Nat × Nat)) (d : Nat) : List (Nat × Nat) := E.filter fun e => decide (e.1 ≠ d) && decide (e.2 ≠ d)
theorem woL_ed {E : List (Nat × Nat)} {d a b : Nat} : ed (woL E d) a b ↔ edW E d a b := by
  unfold ed woL edW
  rw [List.mem_filter, Bool.and_eq_true, decide_eq_true_iff, decide_eq_true_iff]
  constructor
  · rintro ⟨h1, h2, h3⟩
    have h2 : a ≠ d := h2
    have h3 : b ≠ d := h3
    exact ⟨h1, by omega, by omega⟩
  · rintro ⟨h1, h2, h3⟩
    exact ⟨h1, show a ≠ d by omega, show b ≠ d by omega⟩
theorem woL_ok {N : Nat} {E : List (Nat × Nat)} (hg : GOK N E) (d : Nat) : GOK N (woL E d) := ⟨hg.n, Nat.le_trans (List.length_filter_le _ _) hg.e, fun e he => hg.lt e (List.mem_filter.1 he).1⟩
theorem woL_yes {E : List (Nat × Nat)} {d j : Nat} (hj : j < E.length) (h1 : E[j].1 ≠ d) (h2 : E[j].2 ≠ d) : woL (E.take (j + 1)) d = woL (E.take j) d ++ [E[j]] := by
  unfold woL
  rw [List.take_succ_eq_append_getElem hj, List.filter_append]
  simp [h1, h2]
theorem woL_no {E : List (Nat × Nat)} {d j : Nat} (hj : j < E.length) (h : E[j].1 = d ∨ E[j].2 = d) : woL (E.take (j + 1)) d = woL (E.take j) d := by
  unfold woL
  rw [List.take_succ_eq_append_getElem hj, List.filter_append]
  rcases h with h | h <;> simp [h]
set_option maxRecDepth 100000 in
set_option maxHeartbeats 32000000 in
theorem wolaw_any (w : World) (N : Nat) (E : List (Nat × Nat)) (hE : E.length ≤ 16384) (p : Option Addr) (c : Nat) (hv : GS KE w (.slice p E.length c) (eI E)) (d : Nat) : Calls Try.prog 30 #[.agg #[.int .i64 N, .slice p E.length c], .int .i64 (d : Nat)] w fun e w' => ∃ q c, e = .returned (.agg #[.int .i64 N, .slice q (woL E d).length c]) ∧ GS KE w' (.slice q (woL E d).length c) (eI (woL E d)) ∧ Below w.heap.size w w' := by
  have TB := hid (TB2.mk_ w N (.slice p E.length c))
  generalize hW : (w.alloc (.cells #[.int .i64 N, .slice p E.length c] 24)).alloc (.cells #[.int .i64 0, .slice none 0 0] 24) = W at *
  obtain ⟨⟨d0, d1⟩, _, d2, d3, d4⟩ := TB.out.at (Below.refl _ _)
  have AT := hid (fun W' (hb : Below W.heap.size W W') => TB.out.at hb)
  have PU := hid (fun W' (hb : Below W.heap.size W W') a b => TB.out.put hb a b)
  have GE := hid (fun W' (hb : Below W.heap.size W W') j (hj : j < E.length) => GS.atN ((hv.below TB.out.bl).below hb) hj)
  have YES := hid (fun j (hj : j < E.length) h1 h2 => woL_yes (d := d) hj h1 h2)
  have NO := hid (fun j (hj : j < E.length) h => woL_no (d := d) hj h)
  have LEN := hid (fun j => (Nat.le_trans (List.length_filter_le _ _) (by rw [List.length_take]; omega) : (woL (E.take j) d).length ≤ 16384))
  have TK : Hid (E.take E.length = E) := List.take_length
  obtain ⟨m, hm⟩ : ∃ m, m = E.length := ⟨_, rfl⟩
  have MM : Hid (E.length = m) := hm.symm
  have SWs : Hid (w.heap.size ≤ W.heap.size) := TB.out.bl.size
  rw [← hm] at d1 AT TB hW TK hE ⊢
  clear hv hm
  go_enter Try.func30, Try.ntmps30
  have Q0 : Hid (TR W N W.heap.size none 0 (eI (woL (E.take 0) d)) (W.alloc (.cells #[.int .i64 N, .slice none 0 0] 24))) := ⟨bal _ _, heap_alloc_new _ _, OwnG.nil _ _ _, Nat.le_refl _⟩
  go_upto_region 2 with fail
  obtain ⟨bb, hbb⟩ : ∃ bb, bb = W.heap.size := ⟨_, rfl⟩
  rw [← hbb] at Q0 ⊢
  generalize W.alloc (.cells #[.int .i64 N, .slice none 0 0] 24) = V8 at *
  obtain ⟨sz, hsz⟩ : ∃ sz, sz = w.heap.size := ⟨_, rfl⟩
  rw [← hsz] at AT PU d0 d1 d2 d3 d4 ⊢
  have HZ := hid hsz
  clear hbb hsz d0 d1 d2 d3 d4 hW TB
  go_wp2_with fail
  go_loopw [6] (fun v6 wr => ∃ (j : Nat) (L : List (Int × Int)) (q : Option Addr) (cq : Nat) (wk : World), v6 = .int .i64 j ∧ wk = wr ∧ j ≤ m ∧ Hid (L = eI (woL (E.take j) d)) ∧ Hid (TR W N bb q cq L wk)) (fun v6 _ => m - (intOf v6).toNat)
  case atStart => exact ⟨0, _, none, 0, _, rfl, rfl, Nat.zero_le _, rfl, Q0⟩
  case round =>
    obtain ⟨j, L, q, cq, wr, rfl, rfl, hj, HQ, HT⟩ := hrel
    clear Q0
    obtain ⟨⟨y0, y1⟩, _, y2, y3, y4⟩ := AT.out wr HT.out.bl
    by_cases hlt : j < m
    · have j1 : j < E.length := by have := MM.out; omega
      obtain ⟨Z, oz, rfl, c1, c2⟩ := GE.out wr HT.out.bl j j1
      have CZ : Hid (∀ w', Below W.heap.size W w' → w'.cell? ⟨sz, 1, none⟩ = some (.slice (some ⟨Z, oz, none⟩) m c) ∧ w'.cell? ⟨Z, oz + j * 2, none⟩ = some (.int .i64 (E[j].1 : Nat)) ∧ w'.cell? ⟨Z, oz + j * 2 + 1, none⟩ = some (.int .i64 (E[j].2 : Nat))) := fun w' hb => by
        obtain ⟨X, o, e1, e2, e3⟩ := GE.out w' hb j j1
        injection e1 with e1
        injection e1 with e4 e5 _
        subst e4 e5
        exact ⟨(AT.out w' hb).1.2, e2, e3⟩
      have Y1 := YES.out j j1
      have N1 := NO.out j j1
      have EA : ∀ (L0 : List (Nat × Nat)), eI (L0 ++ [E[j]]) = eI L0 ++ [((E[j].1 : Int), (E[j].2 : Int))] := fun L0 => by unfold eI; rw [List.map_append]; rfl
      have LL : L.length ≤ 20480 := by rw [HQ.out, eI_len]; have := LEN.out j; omega
      have hji : (j : Int) < (m : Nat) := by omega
      by_cases h1 : E[j].1 = d
      · have L2 : Hid (L = eI (woL (E.take (j + 1)) d)) := by show _ = _; rw [N1 (Or.inl h1)]; exact HQ.out
        have T2 := hid HT.out
        have q1 : ((E[j].1 : Int) == (d : Int)) = true := by simp [h1]
        have q2 : ((E[j].1 : Int) != (d : Int)) = false := by simp [h1]
        have q3 : (E[j].1 : Int) = (d : Int) := by omega
        generalize E[j].1 = a at *
        generalize E[j].2 = b at *
        clear HT HQ Y1 N1 EA
        go_wp2_with fail
        go_roundw
        case rel => exact ⟨j + 1, _, _, _, _, by go_num, rfl, by omega, L2, T2⟩
        case measure => simp [intOf]; omega
      · have q1 : ((E[j].1 : Int) == (d : Int)) = false := by simp; omega
        have q2 : ¬ (E[j].1 : Int) = (d : Int) := by omega
        have q6 : ((E[j].1 : Int) != (d : Int)) = true := by simp; omega
        by_cases h2 : E[j].2 = d
        · have L2 : Hid (L = eI (woL (E.take (j + 1)) d)) := by show _ = _; rw [N1 (Or.inr h2)]; exact HQ.out
          have T2 := hid HT.out
          have q3 : ((E[j].2 : Int) == (d : Int)) = true := by simp [h2]
          have q4 : (E[j].2 : Int) = (d : Int) := by omega
          have q5 : ((E[j].2 : Int) != (d : Int)) = false := by simp [h2]
          generalize E[j].1 = a at *
          generalize E[j].2 = b at *
          clear HT HQ Y1 N1 EA
          go_wp2_with fail
          go_roundw
          case rel => exact ⟨j + 1, _, _, _, _, by go_num, rfl, by omega, L2, T2⟩
          case measure => simp [intOf]; omega
        · have L2 : Hid (L ++ [((E[j].1 : Int), (E[j].2 : Int))] = eI (woL (E.take (j + 1)) d)) := by show _ = _; rw [Y1 h1 h2, EA, HQ.out]
          have T2 := hid HT.out
          have q3 : ((E[j].2 : Int) == (d : Int)) = false := by simp; omega
          have q4 : ¬ (E[j].2 : Int) = (d : Int) := by omega
          have q5 : ((E[j].2 : Int) != (d : Int)) = true := by simp; omega
          generalize E[j].1 = a at *
          generalize E[j].2 = b at *
          clear HT HQ Y1 N1 EA
          go_wp2_with fail
          refine wo6 T2.out hji LL CZ.out ?_
          intro W' g8 c8 x35 x36 x37 x38 x39 x40 x41 x42 x43 x44 hW'
          have K8 := hid hW'
          clear hW'
          go_wp2_with fail
          go_roundw
          case rel => exact ⟨j + 1, L ++ [((a : Int), (b : Int))], some ⟨g8, 0, none⟩, c8, _, by go_num, rfl, by omega, L2, K8⟩
          case measure => simp [intOf]; omega
    · obtain rfl : j = m := by omega
      have GL : Hid (L = eI (woL E d)) := by show _ = _; rw [← TK.out]; exact HQ.out
      have x1 : wr.cell? ⟨bb, 1, none⟩ = some (.slice q L.length cq) := cell_of_row _ _ _ _ _ _ HT.out.bx
      have x0 : wr.cell? ⟨bb, 0, none⟩ = some (.int .i64 N) := cell_of_row _ _ _ _ _ _ HT.out.bx
      obtain ⟨⟨r0, r1⟩, f2, f3⟩ := PU.out wr HT.out.bl (.int .i64 N) (.slice q L.length cq)
      have F2 := hid f2
      have F3 := hid (f3 _ _ HT.out.ow)
      rw [HZ.out] at y0 y1 y2 y3 y4 r0 r1 F2 F3 ⊢
      clear HT HQ f2 f3
      go_wp2_with fail
      refine bodyPost_ret (v := .agg #[.int .i64 N, .slice q L.length cq]) (by simp [results, Try.results30, go_sem, r0, r1]) rfl ?_
      have EL : (woL E d).length = L.length := by rw [GL.out, eI_len]
      rw [EL, ← GL.out]
      exact ⟨q, cq, rfl, F3.out.gs KE_ok.len, F2.out⟩
end Go.Proofs.Ytghkhceplpjegaa
