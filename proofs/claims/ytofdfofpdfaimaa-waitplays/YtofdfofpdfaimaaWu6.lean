/- Waiting: the law's told. -/
import Derived.Test.YtofdfofpdfaimaaWu4
namespace Go.Proofs.Ytofdfofpdfaimaa
open Go.RowKit Go.Maps

set_option maxRecDepth 100000 in
set_option maxHeartbeats 32000000 in
theorem wt7 {Q : Exit → Act → World → Prop} {W : World} {r yb kb nl cc ck tl : Nat} {q qk : Option Addr} {s : ByteArray} {GK : World → Value → Prop} {t1 t2 t4 t7 t8 t9 t10 t11 t12 t13 t14 t15 t16 t17 t18 t19 t20 t21 t22 t23 t24 t25 t26 t27 t28 t29 t30 t31 t32 t33 t34 t35 t36 t37 t38 t39 t40 t41 t42 t43 t44 t45 t46 t47 t48 t49 t50 t51 t52 t53 t54 t55 t56 t57 t58 t59 t60 t61 t62 t63 t64 t65 t66 t67 t68 t69 t70 t71 t72 t73 t74 t75 t76 t77 t78 t79 t80 t81 t82 t83 t84 t85 t86 t87 t88 t89 t90 t91 t92 t93 t94 t95 t96 t97 t98 t99 t100 t101 t102 t103 t104 t105 t106 t107 t108 t109 t110 t111 t112 t113 t114 t115 t116 t117 t118 t119 t120 t121 t122 t123 t124 : Value} (ht : (tl : Int) < 1000)
    (hF : ∀ w', Below W.heap.size W w' → w'.cell? ⟨yb, 0, none⟩ = some (.slice q nl cc) ∧ w'.cell? ⟨kb, 0, none⟩ = some (.slice qk tl ck))
    (hL : ∀ w', Below W.heap.size W w' → Calls Try.prog 23 #[.pointer (some ⟨r, 0, none⟩)] w' fun e w2 => e = .returned (.int .i64 (nl : Nat)) ∧ Below w'.heap.size w' w2)
    (hK : ∀ w', Below W.heap.size W w' → Calls Try.prog 26 #[.pointer (some ⟨r, 0, none⟩)] w' fun e w2 => ∃ q2 c2, e = .returned (.slice q2 tl c2) ∧ GK w2 (.slice q2 tl c2) ∧ Below w'.heap.size w' w2)
    (hS : ∀ w' q2 c2, Below W.heap.size W w' → GK w' (.slice q2 tl c2) → Calls Try.prog 39 #[.slice q2 tl c2, .slice qk tl ck] w' fun e w2 => e = .returned (.bool true) ∧ Below w'.heap.size w' w2)
    (hQ : ∀ w', Below W.heap.size W w' → Calls Try.prog 22 #[.pointer (some ⟨r, 0, none⟩), .string s] w' fun e w2 => ∃ q2 c2, e = .returned (.slice q2 0 c2) ∧ Below w'.heap.size w' w2)
    (h : ∀ (W' : World) (x29 x30 x31 x32 x33 x34 x35 x36 x37 x38 x39 x40 x41 x42 x43 x44 x45 x46 x47 x48 x49 x50 x51 x52 : Value), Below W.heap.size W W' → Q .normal { tmps := List.toArray ((.pointer (some ⟨r, 0, none⟩)) :: t1 :: t2 :: (.pointer (some ⟨yb, 0, none⟩)) :: t4 :: (.pointer (some ⟨kb, 0, none⟩)) :: (.string s) :: t7 :: t8 :: t9 :: t10 :: t11 :: t12 :: t13 :: t14 :: t15 :: t16 :: t17 :: t18 :: t19 :: t20 :: t21 :: t22 :: t23 :: t24 :: t25 :: t26 :: t27 :: t28 :: x29 :: x30 :: x31 :: x32 :: x33 :: x34 :: x35 :: x36 :: x37 :: x38 :: x39 :: x40 :: x41 :: x42 :: x43 :: x44 :: x45 :: x46 :: x47 :: x48 :: x49 :: x50 :: x51 :: x52 :: (.bool false) :: t54 :: t55 :: t56 :: t57 :: t58 :: t59 :: t60 :: t61 :: t62 :: t63 :: t64 :: t65 :: t66 :: t67 :: t68 :: t69 :: t70 :: t71 :: t72 :: t73 :: t74 :: t75 :: t76 :: t77 :: t78 :: t79 :: t80 :: t81 :: t82 :: t83 :: t84 :: t85 :: t86 :: t87 :: t88 :: t89 :: t90 :: t91 :: t92 :: t93 :: t94 :: t95 :: t96 :: t97 :: t98 :: t99 :: t100 :: t101 :: t102 :: t103 :: t104 :: t105 :: t106 :: t107 :: t108 :: t109 :: t110 :: t111 :: t112 :: t113 :: t114 :: t115 :: t116 :: t117 :: t118 :: t119 :: t120 :: t121 :: t122 :: t123 :: t124 :: []), defers := [] } W') :
    (Code.region 7 (List.toArray ({ dst := some 29, op := Op.move (Operand.tmp 0), type := 23, pos := "law.go:48", after := #[], guard := none } :: { dst := some 30, op := Op.call { callee := Callee.value (Operand.func 23), args := #[Operand.tmp 29], argTypes := #[23] }, type := 3, pos := "law.go:48", after := #[{ on := 0, ground := Ground.data }], guard := none } :: { dst := some 31, op := Op.fieldAddr 27 (Operand.tmp 3) 0, type := 0, pos := "law.go:48", after := #[], guard := none } :: { dst := some 32, op := Op.load 25 (Operand.tmp 31), type := 25, pos := "law.go:48", after := #[{ on := 2, ground := Ground.data }], guard := none } :: { dst := some 33, op := Op.call { callee := Callee.builtin Builtin.len, args := #[Operand.tmp 32], argTypes := #[25] }, type := 3, pos := "law.go:48", after := #[{ on := 3, ground := Ground.data }], guard := none } :: { dst := some 34, op := Op.binOp BinOp.neq 3 (Operand.tmp 30) (Operand.tmp 33) 3, type := 4, pos := "law.go:48", after := #[{ on := 1, ground := Ground.data }, { on := 4, ground := Ground.data }], guard := none } :: { dst := some 35, op := Op.move (Operand.tmp 34), type := 4, pos := "law.go:48", after := #[{ on := 5, ground := Ground.data }, { on := 1, ground := Ground.chain }], guard := none } :: { dst := some 36, op := Op.move (Operand.tmp 0), type := 23, pos := "law.go:48", after := #[{ on := 6, ground := Ground.guard }], guard := some (6, false) } :: { dst := some 37, op := Op.call { callee := Callee.value (Operand.func 26), args := #[Operand.tmp 36], argTypes := #[23] }, type := 45, pos := "law.go:48", after := #[{ on := 7, ground := Ground.data }, { on := 6, ground := Ground.chain }, { on := 6, ground := Ground.guard }], guard := some (6, false) } :: { dst := some 38, op := Op.load 45 (Operand.tmp 5), type := 45, pos := "law.go:48", after := #[{ on := 6, ground := Ground.guard }], guard := some (6, false) } :: { dst := some 39, op := Op.call { callee := Callee.value (Operand.func 39), args := #[Operand.tmp 37, Operand.tmp 38], argTypes := #[45, 45] }, type := 4, pos := "law.go:48", after := #[{ on := 8, ground := Ground.data }, { on := 9, ground := Ground.data }, { on := 8, ground := Ground.chain }, { on := 6, ground := Ground.guard }], guard := some (6, false) } :: { dst := some 40, op := Op.unOp UnOp.not 4 (Operand.tmp 39), type := 4, pos := "law.go:48", after := #[{ on := 10, ground := Ground.data }, { on := 6, ground := Ground.guard }], guard := some (6, false) } :: { dst := some 41, op := Op.pick (Operand.tmp 35) (Operand.const (Value.bool true)) (Operand.tmp 40), type := 4, pos := "law.go:48", after := #[{ on := 6, ground := Ground.data }, { on := 11, ground := Ground.data }], guard := none } :: { dst := some 42, op := Op.move (Operand.tmp 41), type := 4, pos := "law.go:48", after := #[{ on := 12, ground := Ground.data }, { on := 10, ground := Ground.chain }], guard := none } :: { dst := some 43, op := Op.load 45 (Operand.tmp 5), type := 45, pos := "law.go:48", after := #[{ on := 13, ground := Ground.guard }], guard := some (13, false) } :: { dst := some 44, op := Op.call { callee := Callee.builtin Builtin.len, args := #[Operand.tmp 43], argTypes := #[45] }, type := 3, pos := "law.go:48", after := #[{ on := 14, ground := Ground.data }, { on := 13, ground := Ground.guard }], guard := some (13, false) } :: { dst := some 45, op := Op.binOp BinOp.lss 3 (Operand.tmp 44) (Operand.const (Value.int IntKind.i64 1000)) 3, type := 4, pos := "law.go:48", after := #[{ on := 15, ground := Ground.data }, { on := 13, ground := Ground.guard }], guard := some (13, false) } :: { dst := some 46, op := Op.move (Operand.tmp 45), type := 4, pos := "law.go:48", after := #[{ on := 16, ground := Ground.data }, { on := 13, ground := Ground.chain }, { on := 13, ground := Ground.guard }], guard := some (13, false) } :: { dst := some 47, op := Op.move (Operand.tmp 0), type := 23, pos := "law.go:48", after := #[{ on := 17, ground := Ground.guard }], guard := some (17, true) } :: { dst := some 48, op := Op.move (Operand.tmp 6), type := 9, pos := "law.go:48", after := #[{ on := 17, ground := Ground.guard }], guard := some (17, true) } :: { dst := some 49, op := Op.call { callee := Callee.value (Operand.func 22), args := #[Operand.tmp 47, Operand.tmp 48], argTypes := #[23, 9] }, type := 25, pos := "law.go:48", after := #[{ on := 18, ground := Ground.data }, { on := 19, ground := Ground.data }, { on := 17, ground := Ground.chain }, { on := 17, ground := Ground.guard }], guard := some (17, true) } :: { dst := some 50, op := Op.call { callee := Callee.builtin Builtin.len, args := #[Operand.tmp 49], argTypes := #[25] }, type := 3, pos := "law.go:48", after := #[{ on := 20, ground := Ground.data }, { on := 17, ground := Ground.guard }], guard := some (17, true) } :: { dst := some 51, op := Op.binOp BinOp.neq 3 (Operand.tmp 50) (Operand.const (Value.int IntKind.i64 0)) 3, type := 4, pos := "law.go:48", after := #[{ on := 21, ground := Ground.data }, { on := 17, ground := Ground.guard }], guard := some (17, true) } :: { dst := some 52, op := Op.pick (Operand.tmp 46) (Operand.tmp 51) (Operand.const (Value.bool false)), type := 4, pos := "law.go:48", after := #[{ on := 17, ground := Ground.data }, { on := 22, ground := Ground.data }, { on := 13, ground := Ground.guard }], guard := some (13, false) } :: { dst := some 53, op := Op.pick (Operand.tmp 42) (Operand.const (Value.bool true)) (Operand.tmp 52), type := 4, pos := "law.go:48", after := #[{ on := 13, ground := Ground.data }, { on := 23, ground := Ground.data }], guard := none } :: [])) true).wp Try.prog Q { tmps := List.toArray ((.pointer (some ⟨r, 0, none⟩)) :: t1 :: t2 :: (.pointer (some ⟨yb, 0, none⟩)) :: t4 :: (.pointer (some ⟨kb, 0, none⟩)) :: (.string s) :: t7 :: t8 :: t9 :: t10 :: t11 :: t12 :: t13 :: t14 :: t15 :: t16 :: t17 :: t18 :: t19 :: t20 :: t21 :: t22 :: t23 :: t24 :: t25 :: t26 :: t27 :: t28 :: t29 :: t30 :: t31 :: t32 :: t33 :: t34 :: t35 :: t36 :: t37 :: t38 :: t39 :: t40 :: t41 :: t42 :: t43 :: t44 :: t45 :: t46 :: t47 :: t48 :: t49 :: t50 :: t51 :: t52 :: t53 :: t54 :: t55 :: t56 :: t57 :: t58 :: t59 :: t60 :: t61 :: t62 :: t63 :: t64 :: t65 :: t66 :: t67 :: t68 :: t69 :: t70 :: t71 :: t72 :: t73 :: t74 :: t75 :: t76 :: t77 :: t78 :: t79 :: t80 :: t81 :: t82 :: t83 :: t84 :: t85 :: t86 :: t87 :: t88 :: t89 :: t90 :: t91 :: t92 :: t93 :: t94 :: t95 :: t96 :: t97 :: t98 :: t99 :: t100 :: t101 :: t102 :: t103 :: t104 :: t105 :: t106 :: t107 :: t108 :: t109 :: t110 :: t111 :: t112 :: t113 :: t114 :: t115 :: t116 :: t117 :: t118 :: t119 :: t120 :: t121 :: t122 :: t123 :: t124 :: []), defers := [] } W := by
  have FA := hid hF
  have HL := hid hL
  have HK := hid hK
  have HS := hid hS
  have HQ := hid hQ
  have hH := hid h
  clear h hF hL hK hS hQ
  refine wp_region_noPanic ?_
  refine wp_region_held_drew (S := (fun w' => Below W.heap.size W w')) (by kernel_rfl) ?_ (fun hHeld => ?_)
  · exact (Below.refl _ _).drew
  have B0 : Hid (Below W.heap.size W W.drew) := (Below.refl _ _).drew
  refine wpAnyH_take (i := 0) (oi := { dst := some 29, op := Op.move (Operand.tmp 0), type := 23, pos := "law.go:48", after := #[], guard := none }) (v := ?_) rfl (by kernel_rfl) (by kernel_rfl) (by kernel_rfl) (fun _ _ _ h => h) (Or.inl ⟨by rfl, ?_⟩) (by assumption) ?_
  rotate_left
  · intro w hSw
    go_simp
    try with_reducible rfl
  try simp only [Act.put, List.setIfInBounds_toArray, List.set_cons_zero, List.set_cons_succ]
  refine wpAnyH_take (i := 2) (oi := { dst := some 31, op := Op.fieldAddr 27 (Operand.tmp 3) 0, type := 0, pos := "law.go:48", after := #[], guard := none }) (v := ?_) rfl (by kernel_rfl) (by kernel_rfl) (by kernel_rfl) (fun _ _ _ h => h) (Or.inl ⟨by rfl, ?_⟩) (by assumption) ?_
  rotate_left
  · intro w hSw
    go_simp
    try with_reducible rfl
  try simp only [Act.put, List.setIfInBounds_toArray, List.set_cons_zero, List.set_cons_succ]
  refine wpAnyH_take (i := 3) (oi := { dst := some 32, op := Op.load 25 (Operand.tmp 31), type := 25, pos := "law.go:48", after := #[{ on := 2, ground := Ground.data }], guard := none }) (v := ?_) rfl (by kernel_rfl) (by kernel_rfl) (by kernel_rfl) (fun _ _ _ h => h) (Or.inl ⟨by rfl, ?_⟩) (by assumption) ?_
  rotate_left
  · intro w hSw
    obtain ⟨cy, ck2⟩ := FA.out w hSw
    go_simp
    try with_reducible rfl
  try simp only [Act.put, List.setIfInBounds_toArray, List.set_cons_zero, List.set_cons_succ]
  refine wpAnyH_take (i := 4) (oi := { dst := some 33, op := Op.call { callee := Callee.builtin Builtin.len, args := #[Operand.tmp 32], argTypes := #[25] }, type := 3, pos := "law.go:48", after := #[{ on := 3, ground := Ground.data }], guard := none }) (v := ?_) rfl (by kernel_rfl) (by kernel_rfl) (by kernel_rfl) (fun _ _ _ h => h) (Or.inl ⟨by rfl, ?_⟩) (by assumption) ?_
  rotate_left
  · intro w hSw
    go_simp
    try with_reducible rfl
  try simp only [Act.put, List.setIfInBounds_toArray, List.set_cons_zero, List.set_cons_succ]
  refine wpAnyH_ready (rs := [1]) (by kernel_rfl) (by simp) ?_
  refine AllReadyH.cons (o := { dst := some 30, op := Op.call { callee := Callee.value (Operand.func 23), args := #[Operand.tmp 29], argTypes := #[23] }, type := 3, pos := "law.go:48", after := #[{ on := 0, ground := Ground.data }], guard := none }) rfl (fun K hK => ?_) AllReadyH.nil
  go_simp
  go_at_call 23
  refine (HL.out _ B0.out).mono ?_
  rintro e w1 ⟨rfl, w1b⟩
  have Bw1 : Hid (Below W.heap.size W w1) := hid (bl3 B0.out w1b)
  clear w1b
  go_wp2_with fail
  refine hK.out _ _ ?_ (fun hHeld => ?_)
  · exact Bw1.out
  clear hK K
  try simp only [Act.put, List.setIfInBounds_toArray, List.set_cons_zero, List.set_cons_succ]
  refine wpAnyH_take (i := 5) (oi := { dst := some 34, op := Op.binOp BinOp.neq 3 (Operand.tmp 30) (Operand.tmp 33) 3, type := 4, pos := "law.go:48", after := #[{ on := 1, ground := Ground.data }, { on := 4, ground := Ground.data }], guard := none }) (v := ?_) rfl (by kernel_rfl) (by kernel_rfl) (by kernel_rfl) (fun _ _ _ h => h) (Or.inl ⟨by rfl, ?_⟩) (by assumption) ?_
  rotate_left
  · intro w hSw
    go_simp
    try with_reducible rfl
  try simp only [Act.put, List.setIfInBounds_toArray, List.set_cons_zero, List.set_cons_succ]
  refine wpAnyH_take (i := 6) (oi := { dst := some 35, op := Op.move (Operand.tmp 34), type := 4, pos := "law.go:48", after := #[{ on := 5, ground := Ground.data }, { on := 1, ground := Ground.chain }], guard := none }) (v := ?_) rfl (by kernel_rfl) (by kernel_rfl) (by kernel_rfl) (fun _ _ _ h => h) (Or.inl ⟨by rfl, ?_⟩) (by assumption) ?_
  rotate_left
  · intro w hSw
    go_simp
    try with_reducible rfl
  try simp only [Act.put, List.setIfInBounds_toArray, List.set_cons_zero, List.set_cons_succ]
  refine wpAnyH_take (i := 7) (oi := { dst := some 36, op := Op.move (Operand.tmp 0), type := 23, pos := "law.go:48", after := #[{ on := 6, ground := Ground.guard }], guard := some (6, false) }) (v := ?_) rfl (by kernel_rfl) (by kernel_rfl) (by kernel_rfl) (fun _ _ _ h => h) (Or.inl ⟨by rfl, ?_⟩) (by assumption) ?_
  rotate_left
  · intro w hSw
    go_simp
    try with_reducible rfl
  try simp only [Act.put, List.setIfInBounds_toArray, List.set_cons_zero, List.set_cons_succ]
  refine wpAnyH_take (i := 9) (oi := { dst := some 38, op := Op.load 45 (Operand.tmp 5), type := 45, pos := "law.go:48", after := #[{ on := 6, ground := Ground.guard }], guard := some (6, false) }) (v := ?_) rfl (by kernel_rfl) (by kernel_rfl) (by kernel_rfl) (fun _ _ _ h => h) (Or.inl ⟨by rfl, ?_⟩) (by assumption) ?_
  rotate_left
  · intro w hSw
    obtain ⟨cy, ck2⟩ := FA.out w hSw
    go_simp
    try with_reducible rfl
  try simp only [Act.put, List.setIfInBounds_toArray, List.set_cons_zero, List.set_cons_succ]
  refine wpAnyH_ready (rs := [8]) (by kernel_rfl) (by simp) ?_
  refine AllReadyH.cons (o := { dst := some 37, op := Op.call { callee := Callee.value (Operand.func 26), args := #[Operand.tmp 36], argTypes := #[23] }, type := 45, pos := "law.go:48", after := #[{ on := 7, ground := Ground.data }, { on := 6, ground := Ground.chain }, { on := 6, ground := Ground.guard }], guard := some (6, false) }) rfl (fun K hK => ?_) AllReadyH.nil
  go_simp
  go_at_call 26
  refine (HK.out _ Bw1.out).mono ?_
  rintro e w2 ⟨q2, c2, rfl, k2, w2b⟩
  have Bw2 : Hid (Below W.heap.size W w2) := hid (bl3 Bw1.out w2b)
  have K2 := hid k2
  clear w2b k2
  go_wp2_with fail
  refine hK.out _ _ ?_ (fun hHeld => ?_)
  · exact Bw2.out
  clear hK K
  try simp only [Act.put, List.setIfInBounds_toArray, List.set_cons_zero, List.set_cons_succ]
  refine wpAnyH_ready (rs := [10]) (by kernel_rfl) (by simp) ?_
  refine AllReadyH.cons (o := { dst := some 39, op := Op.call { callee := Callee.value (Operand.func 39), args := #[Operand.tmp 37, Operand.tmp 38], argTypes := #[45, 45] }, type := 4, pos := "law.go:48", after := #[{ on := 8, ground := Ground.data }, { on := 9, ground := Ground.data }, { on := 8, ground := Ground.chain }, { on := 6, ground := Ground.guard }], guard := some (6, false) }) rfl (fun K hK => ?_) AllReadyH.nil
  go_simp
  go_at_call 39
  refine (HS.out _ _ _ Bw2.out K2.out).mono ?_
  rintro e w3 ⟨rfl, w3b⟩
  have Bw3 : Hid (Below W.heap.size W w3) := hid (bl3 Bw2.out w3b)
  clear w3b
  go_wp2_with fail
  refine hK.out _ _ ?_ (fun hHeld => ?_)
  · exact Bw3.out
  clear hK K
  try simp only [Act.put, List.setIfInBounds_toArray, List.set_cons_zero, List.set_cons_succ]
  refine wpAnyH_take (i := 11) (oi := { dst := some 40, op := Op.unOp UnOp.not 4 (Operand.tmp 39), type := 4, pos := "law.go:48", after := #[{ on := 10, ground := Ground.data }, { on := 6, ground := Ground.guard }], guard := some (6, false) }) (v := ?_) rfl (by kernel_rfl) (by kernel_rfl) (by kernel_rfl) (fun _ _ _ h => h) (Or.inl ⟨by rfl, ?_⟩) (by assumption) ?_
  rotate_left
  · intro w hSw
    go_simp
    try with_reducible rfl
  try simp only [Act.put, List.setIfInBounds_toArray, List.set_cons_zero, List.set_cons_succ]
  refine wpAnyH_take (i := 12) (oi := { dst := some 41, op := Op.pick (Operand.tmp 35) (Operand.const (Value.bool true)) (Operand.tmp 40), type := 4, pos := "law.go:48", after := #[{ on := 6, ground := Ground.data }, { on := 11, ground := Ground.data }], guard := none }) (v := ?_) rfl (by kernel_rfl) (by kernel_rfl) (by kernel_rfl) (fun _ _ _ h => h) (Or.inl ⟨by rfl, ?_⟩) (by assumption) ?_
  rotate_left
  · intro w hSw
    go_simp
    try with_reducible rfl
  try simp only [Act.put, List.setIfInBounds_toArray, List.set_cons_zero, List.set_cons_succ]
  refine wpAnyH_take (i := 13) (oi := { dst := some 42, op := Op.move (Operand.tmp 41), type := 4, pos := "law.go:48", after := #[{ on := 12, ground := Ground.data }, { on := 10, ground := Ground.chain }], guard := none }) (v := ?_) rfl (by kernel_rfl) (by kernel_rfl) (by kernel_rfl) (fun _ _ _ h => h) (Or.inl ⟨by rfl, ?_⟩) (by assumption) ?_
  rotate_left
  · intro w hSw
    go_simp
    try with_reducible rfl
  try simp only [Act.put, List.setIfInBounds_toArray, List.set_cons_zero, List.set_cons_succ]
  refine wpAnyH_take (i := 14) (oi := { dst := some 43, op := Op.load 45 (Operand.tmp 5), type := 45, pos := "law.go:48", after := #[{ on := 13, ground := Ground.guard }], guard := some (13, false) }) (v := ?_) rfl (by kernel_rfl) (by kernel_rfl) (by kernel_rfl) (fun _ _ _ h => h) (Or.inl ⟨by rfl, ?_⟩) (by assumption) ?_
  rotate_left
  · intro w hSw
    obtain ⟨cy, ck2⟩ := FA.out w hSw
    go_simp
    try with_reducible rfl
  try simp only [Act.put, List.setIfInBounds_toArray, List.set_cons_zero, List.set_cons_succ]
  refine wpAnyH_take (i := 15) (oi := { dst := some 44, op := Op.call { callee := Callee.builtin Builtin.len, args := #[Operand.tmp 43], argTypes := #[45] }, type := 3, pos := "law.go:48", after := #[{ on := 14, ground := Ground.data }, { on := 13, ground := Ground.guard }], guard := some (13, false) }) (v := ?_) rfl (by kernel_rfl) (by kernel_rfl) (by kernel_rfl) (fun _ _ _ h => h) (Or.inl ⟨by rfl, ?_⟩) (by assumption) ?_
  rotate_left
  · intro w hSw
    go_simp
    try with_reducible rfl
  try simp only [Act.put, List.setIfInBounds_toArray, List.set_cons_zero, List.set_cons_succ]
  refine wpAnyH_take (i := 16) (oi := { dst := some 45, op := Op.binOp BinOp.lss 3 (Operand.tmp 44) (Operand.const (Value.int IntKind.i64 1000)) 3, type := 4, pos := "law.go:48", after := #[{ on := 15, ground := Ground.data }, { on := 13, ground := Ground.guard }], guard := some (13, false) }) (v := ?_) rfl (by kernel_rfl) (by kernel_rfl) (by kernel_rfl) (fun _ _ _ h => h) (Or.inl ⟨by rfl, ?_⟩) (by assumption) ?_
  rotate_left
  · intro w hSw
    go_simp
    try with_reducible rfl
  try simp only [Act.put, List.setIfInBounds_toArray, List.set_cons_zero, List.set_cons_succ]
  refine wpAnyH_take (i := 17) (oi := { dst := some 46, op := Op.move (Operand.tmp 45), type := 4, pos := "law.go:48", after := #[{ on := 16, ground := Ground.data }, { on := 13, ground := Ground.chain }, { on := 13, ground := Ground.guard }], guard := some (13, false) }) (v := ?_) rfl (by kernel_rfl) (by kernel_rfl) (by kernel_rfl) (fun _ _ _ h => h) (Or.inl ⟨by rfl, ?_⟩) (by assumption) ?_
  rotate_left
  · intro w hSw
    go_simp
    try with_reducible rfl
  try simp only [Act.put, List.setIfInBounds_toArray, List.set_cons_zero, List.set_cons_succ]
  refine wpAnyH_take (i := 18) (oi := { dst := some 47, op := Op.move (Operand.tmp 0), type := 23, pos := "law.go:48", after := #[{ on := 17, ground := Ground.guard }], guard := some (17, true) }) (v := ?_) rfl (by kernel_rfl) (by kernel_rfl) (by kernel_rfl) (fun _ _ _ h => h) (Or.inl ⟨by rfl, ?_⟩) (by assumption) ?_
  rotate_left
  · intro w hSw
    go_simp
    try with_reducible rfl
  try simp only [Act.put, List.setIfInBounds_toArray, List.set_cons_zero, List.set_cons_succ]
  refine wpAnyH_take (i := 19) (oi := { dst := some 48, op := Op.move (Operand.tmp 6), type := 9, pos := "law.go:48", after := #[{ on := 17, ground := Ground.guard }], guard := some (17, true) }) (v := ?_) rfl (by kernel_rfl) (by kernel_rfl) (by kernel_rfl) (fun _ _ _ h => h) (Or.inl ⟨by rfl, ?_⟩) (by assumption) ?_
  rotate_left
  · intro w hSw
    go_simp
    try with_reducible rfl
  try simp only [Act.put, List.setIfInBounds_toArray, List.set_cons_zero, List.set_cons_succ]
  refine wpAnyH_ready (rs := [20]) (by kernel_rfl) (by simp) ?_
  refine AllReadyH.cons (o := { dst := some 49, op := Op.call { callee := Callee.value (Operand.func 22), args := #[Operand.tmp 47, Operand.tmp 48], argTypes := #[23, 9] }, type := 25, pos := "law.go:48", after := #[{ on := 18, ground := Ground.data }, { on := 19, ground := Ground.data }, { on := 17, ground := Ground.chain }, { on := 17, ground := Ground.guard }], guard := some (17, true) }) rfl (fun K hK => ?_) AllReadyH.nil
  go_simp
  go_at_call 22
  refine (HQ.out _ Bw3.out).mono ?_
  rintro e w4 ⟨q4, c4, rfl, w4b⟩
  have Bw4 : Hid (Below W.heap.size W w4) := hid (bl3 Bw3.out w4b)
  clear w4b
  go_wp2_with fail
  refine hK.out _ _ ?_ (fun hHeld => ?_)
  · exact Bw4.out
  clear hK K
  try simp only [Act.put, List.setIfInBounds_toArray, List.set_cons_zero, List.set_cons_succ]
  refine wpAnyH_take (i := 21) (oi := { dst := some 50, op := Op.call { callee := Callee.builtin Builtin.len, args := #[Operand.tmp 49], argTypes := #[25] }, type := 3, pos := "law.go:48", after := #[{ on := 20, ground := Ground.data }, { on := 17, ground := Ground.guard }], guard := some (17, true) }) (v := ?_) rfl (by kernel_rfl) (by kernel_rfl) (by kernel_rfl) (fun _ _ _ h => h) (Or.inl ⟨by rfl, ?_⟩) (by assumption) ?_
  rotate_left
  · intro w hSw
    go_simp
    try with_reducible rfl
  try simp only [Act.put, List.setIfInBounds_toArray, List.set_cons_zero, List.set_cons_succ]
  refine wpAnyH_take (i := 22) (oi := { dst := some 51, op := Op.binOp BinOp.neq 3 (Operand.tmp 50) (Operand.const (Value.int IntKind.i64 0)) 3, type := 4, pos := "law.go:48", after := #[{ on := 21, ground := Ground.data }, { on := 17, ground := Ground.guard }], guard := some (17, true) }) (v := ?_) rfl (by kernel_rfl) (by kernel_rfl) (by kernel_rfl) (fun _ _ _ h => h) (Or.inl ⟨by rfl, ?_⟩) (by assumption) ?_
  rotate_left
  · intro w hSw
    go_simp
    try with_reducible rfl
  try simp only [Act.put, List.setIfInBounds_toArray, List.set_cons_zero, List.set_cons_succ]
  refine wpAnyH_take (i := 23) (oi := { dst := some 52, op := Op.pick (Operand.tmp 46) (Operand.tmp 51) (Operand.const (Value.bool false)), type := 4, pos := "law.go:48", after := #[{ on := 17, ground := Ground.data }, { on := 22, ground := Ground.data }, { on := 13, ground := Ground.guard }], guard := some (13, false) }) (v := ?_) rfl (by kernel_rfl) (by kernel_rfl) (by kernel_rfl) (fun _ _ _ h => h) (Or.inl ⟨by rfl, ?_⟩) (by assumption) ?_
  rotate_left
  · intro w hSw
    go_simp
    try with_reducible rfl
  try simp only [Act.put, List.setIfInBounds_toArray, List.set_cons_zero, List.set_cons_succ]
  refine wpAnyH_take (i := 24) (oi := { dst := some 53, op := Op.pick (Operand.tmp 42) (Operand.const (Value.bool true)) (Operand.tmp 52), type := 4, pos := "law.go:48", after := #[{ on := 13, ground := Ground.data }, { on := 23, ground := Ground.data }], guard := none }) (v := ?_) rfl (by kernel_rfl) (by kernel_rfl) (by kernel_rfl) (fun _ _ _ h => h) (Or.inl ⟨by rfl, ?_⟩) (by assumption) ?_
  rotate_left
  · intro w hSw
    go_simp
    try with_reducible rfl
  try simp only [Act.put, List.setIfInBounds_toArray, List.set_cons_zero, List.set_cons_succ]
  refine wpAnyH_done (by kernel_rfl) ?_ _
  refine NoPanic.normal ?_
  exact hH.out _ _ _ _ _ _ _ _ _ _ _ _ _ _ _ _ _ _ _ _ _ _ _ _ _ Bw4.out
set_option maxRecDepth 100000 in
set_option maxHeartbeats 32000000 in
theorem wt13 {Q : Exit → Act → World → Prop} {W : World} {yb kb nl cc ck tl i X o nq cq : Nat} {q pq : Option Addr} {key : ByteArray} {GK : World → Value → Prop} {t0 t1 t2 t4 t6 t7 t10 t11 t12 t13 t14 t15 t16 t17 t18 t19 t20 t21 t22 t23 t24 t25 t26 t27 t28 t29 t30 t31 t32 t33 t34 t35 t36 t37 t38 t39 t40 t41 t42 t43 t44 t45 t46 t47 t48 t49 t50 t51 t52 t53 t54 t55 t56 t57 t58 t59 t60 t61 t62 t63 t64 t65 t66 t67 t68 t69 t70 t71 t72 t73 t74 t75 t76 t77 t78 t79 t80 t81 t82 t83 t84 t85 t86 t87 t88 t89 t90 t91 t92 t93 t94 t95 t96 t97 t98 t99 t100 t101 t102 t103 t104 t105 t106 t107 t108 t109 t110 t111 t112 t113 t114 t115 t116 t117 t118 t119 t120 t121 t122 t123 t124 : Value} (hi : (i : Int) < (tl : Nat))
    (hF : ∀ w', Below W.heap.size W w' → w'.cell? ⟨yb, 0, none⟩ = some (.slice q nl cc) ∧ w'.cell? ⟨kb, 0, none⟩ = some (.slice (some ⟨X, o, none⟩) tl ck) ∧ w'.cell? ⟨X, o + i, none⟩ = some (.string key))
    (hR : ∀ w', Below W.heap.size W w' → Calls Try.prog 18 #[.agg #[.slice q nl cc], .string key] w' fun e w2 => ∃ q2 c2, e = .returned (.slice q2 nq c2) ∧ GK w2 (.slice q2 nq c2) ∧ Below w'.heap.size w' w2)
    (hW : ∀ w' q2 c2, Below W.heap.size W w' → GK w' (.slice q2 nq c2) → Calls Try.prog 17 #[.slice pq nq cq, .slice q2 nq c2] w' fun e w2 => e = .returned (.bool true) ∧ Below w'.heap.size w' w2)
    (h : ∀ (W' : World) (x66 x67 x68 x69 x70 x71 x72 x73 : Value), Below W.heap.size W W' → Q .normal { tmps := List.toArray (t0 :: t1 :: t2 :: (.pointer (some ⟨yb, 0, none⟩)) :: t4 :: (.pointer (some ⟨kb, 0, none⟩)) :: t6 :: t7 :: (.int .i64 (i : Nat)) :: (.slice pq nq cq) :: t10 :: t11 :: t12 :: t13 :: t14 :: t15 :: t16 :: t17 :: t18 :: t19 :: t20 :: t21 :: t22 :: t23 :: t24 :: t25 :: t26 :: t27 :: t28 :: t29 :: t30 :: t31 :: t32 :: t33 :: t34 :: t35 :: t36 :: t37 :: t38 :: t39 :: t40 :: t41 :: t42 :: t43 :: t44 :: t45 :: t46 :: t47 :: t48 :: t49 :: t50 :: t51 :: t52 :: t53 :: t54 :: t55 :: t56 :: t57 :: t58 :: t59 :: t60 :: t61 :: t62 :: t63 :: t64 :: t65 :: x66 :: x67 :: x68 :: x69 :: x70 :: x71 :: x72 :: x73 :: (.bool false) :: t75 :: t76 :: t77 :: t78 :: t79 :: t80 :: t81 :: t82 :: t83 :: t84 :: t85 :: t86 :: t87 :: t88 :: t89 :: t90 :: t91 :: t92 :: t93 :: t94 :: t95 :: t96 :: t97 :: t98 :: t99 :: t100 :: t101 :: t102 :: t103 :: t104 :: t105 :: t106 :: t107 :: t108 :: t109 :: t110 :: t111 :: t112 :: t113 :: t114 :: t115 :: t116 :: t117 :: t118 :: t119 :: t120 :: t121 :: t122 :: t123 :: t124 :: []), defers := [] } W') :
    (Code.region 13 (List.toArray ({ dst := some 66, op := Op.move (Operand.tmp 9), type := 25, pos := "law.go:53", after := #[], guard := none } :: { dst := some 67, op := Op.load 27 (Operand.tmp 3), type := 27, pos := "law.go:53", after := #[], guard := none } :: { dst := some 68, op := Op.load 45 (Operand.tmp 5), type := 45, pos := "law.go:53", after := #[], guard := none } :: { dst := some 69, op := Op.move (Operand.tmp 8), type := 3, pos := "law.go:53", after := #[], guard := none } :: { dst := some 70, op := Op.indexAddr 45 (Operand.tmp 68) (Operand.tmp 69), type := 0, pos := "law.go:53", after := #[{ on := 2, ground := Ground.data }, { on := 3, ground := Ground.data }], guard := none } :: { dst := some 71, op := Op.load 9 (Operand.tmp 70), type := 9, pos := "law.go:53", after := #[{ on := 4, ground := Ground.data }], guard := none } :: { dst := some 72, op := Op.call { callee := Callee.value (Operand.func 18), args := #[Operand.tmp 67, Operand.tmp 71], argTypes := #[27, 9] }, type := 25, pos := "law.go:53", after := #[{ on := 1, ground := Ground.data }, { on := 5, ground := Ground.data }], guard := none } :: { dst := some 73, op := Op.call { callee := Callee.value (Operand.func 17), args := #[Operand.tmp 66, Operand.tmp 72], argTypes := #[25, 25] }, type := 4, pos := "law.go:53", after := #[{ on := 0, ground := Ground.data }, { on := 6, ground := Ground.data }, { on := 6, ground := Ground.chain }], guard := none } :: { dst := some 74, op := Op.unOp UnOp.not 4 (Operand.tmp 73), type := 4, pos := "law.go:53", after := #[{ on := 7, ground := Ground.data }], guard := none } :: [])) true).wp Try.prog Q { tmps := List.toArray (t0 :: t1 :: t2 :: (.pointer (some ⟨yb, 0, none⟩)) :: t4 :: (.pointer (some ⟨kb, 0, none⟩)) :: t6 :: t7 :: (.int .i64 (i : Nat)) :: (.slice pq nq cq) :: t10 :: t11 :: t12 :: t13 :: t14 :: t15 :: t16 :: t17 :: t18 :: t19 :: t20 :: t21 :: t22 :: t23 :: t24 :: t25 :: t26 :: t27 :: t28 :: t29 :: t30 :: t31 :: t32 :: t33 :: t34 :: t35 :: t36 :: t37 :: t38 :: t39 :: t40 :: t41 :: t42 :: t43 :: t44 :: t45 :: t46 :: t47 :: t48 :: t49 :: t50 :: t51 :: t52 :: t53 :: t54 :: t55 :: t56 :: t57 :: t58 :: t59 :: t60 :: t61 :: t62 :: t63 :: t64 :: t65 :: t66 :: t67 :: t68 :: t69 :: t70 :: t71 :: t72 :: t73 :: t74 :: t75 :: t76 :: t77 :: t78 :: t79 :: t80 :: t81 :: t82 :: t83 :: t84 :: t85 :: t86 :: t87 :: t88 :: t89 :: t90 :: t91 :: t92 :: t93 :: t94 :: t95 :: t96 :: t97 :: t98 :: t99 :: t100 :: t101 :: t102 :: t103 :: t104 :: t105 :: t106 :: t107 :: t108 :: t109 :: t110 :: t111 :: t112 :: t113 :: t114 :: t115 :: t116 :: t117 :: t118 :: t119 :: t120 :: t121 :: t122 :: t123 :: t124 :: []), defers := [] } W := by
  have FA := hid hF
  have HR := hid hR
  have HW := hid hW
  have hH := hid h
  clear h hF hR hW
  refine wp_region_noPanic ?_
  refine wp_region_held_drew (S := (fun w' => Below W.heap.size W w')) (by kernel_rfl) ?_ (fun hHeld => ?_)
  · exact (Below.refl _ _).drew
  have B0 : Hid (Below W.heap.size W W.drew) := (Below.refl _ _).drew
  refine wpAnyH_take (i := 0) (oi := { dst := some 66, op := Op.move (Operand.tmp 9), type := 25, pos := "law.go:53", after := #[], guard := none }) (v := ?_) rfl (by kernel_rfl) (by kernel_rfl) (by kernel_rfl) (fun _ _ _ h => h) (Or.inl ⟨by rfl, ?_⟩) (by assumption) ?_
  rotate_left
  · intro w hSw
    go_simp
    try with_reducible rfl
  try simp only [Act.put, List.setIfInBounds_toArray, List.set_cons_zero, List.set_cons_succ]
  refine wpAnyH_take (i := 1) (oi := { dst := some 67, op := Op.load 27 (Operand.tmp 3), type := 27, pos := "law.go:53", after := #[], guard := none }) (v := ?_) rfl (by kernel_rfl) (by kernel_rfl) (by kernel_rfl) (fun _ _ _ h => h) (Or.inl ⟨by rfl, ?_⟩) (by assumption) ?_
  rotate_left
  · intro w hSw
    obtain ⟨cy, ck2, cx⟩ := FA.out w hSw
    go_simp
    try with_reducible rfl
  try simp only [Act.put, List.setIfInBounds_toArray, List.set_cons_zero, List.set_cons_succ]
  refine wpAnyH_take (i := 2) (oi := { dst := some 68, op := Op.load 45 (Operand.tmp 5), type := 45, pos := "law.go:53", after := #[], guard := none }) (v := ?_) rfl (by kernel_rfl) (by kernel_rfl) (by kernel_rfl) (fun _ _ _ h => h) (Or.inl ⟨by rfl, ?_⟩) (by assumption) ?_
  rotate_left
  · intro w hSw
    obtain ⟨cy, ck2, cx⟩ := FA.out w hSw
    go_simp
    try with_reducible rfl
  try simp only [Act.put, List.setIfInBounds_toArray, List.set_cons_zero, List.set_cons_succ]
  refine wpAnyH_take (i := 3) (oi := { dst := some 69, op := Op.move (Operand.tmp 8), type := 3, pos := "law.go:53", after := #[], guard := none }) (v := ?_) rfl (by kernel_rfl) (by kernel_rfl) (by kernel_rfl) (fun _ _ _ h => h) (Or.inl ⟨by rfl, ?_⟩) (by assumption) ?_
  rotate_left
  · intro w hSw
    go_simp
    try with_reducible rfl
  try simp only [Act.put, List.setIfInBounds_toArray, List.set_cons_zero, List.set_cons_succ]
  refine wpAnyH_take (i := 4) (oi := { dst := some 70, op := Op.indexAddr 45 (Operand.tmp 68) (Operand.tmp 69), type := 0, pos := "law.go:53", after := #[{ on := 2, ground := Ground.data }, { on := 3, ground := Ground.data }], guard := none }) (v := ?_) rfl (by kernel_rfl) (by kernel_rfl) (by kernel_rfl) (fun _ _ _ h => h) (Or.inl ⟨by rfl, ?_⟩) (by assumption) ?_
  rotate_left
  · intro w hSw
    go_simp
    try with_reducible rfl
  try simp only [Act.put, List.setIfInBounds_toArray, List.set_cons_zero, List.set_cons_succ]
  refine wpAnyH_take (i := 5) (oi := { dst := some 71, op := Op.load 9 (Operand.tmp 70), type := 9, pos := "law.go:53", after := #[{ on := 4, ground := Ground.data }], guard := none }) (v := ?_) rfl (by kernel_rfl) (by kernel_rfl) (by kernel_rfl) (fun _ _ _ h => h) (Or.inl ⟨by rfl, ?_⟩) (by assumption) ?_
  rotate_left
  · intro w hSw
    obtain ⟨cy, ck2, cx⟩ := FA.out w hSw
    go_simp
    try with_reducible rfl
  try simp only [Act.put, List.setIfInBounds_toArray, List.set_cons_zero, List.set_cons_succ]
  refine wpAnyH_ready (rs := [6]) (by kernel_rfl) (by simp) ?_
  refine AllReadyH.cons (o := { dst := some 72, op := Op.call { callee := Callee.value (Operand.func 18), args := #[Operand.tmp 67, Operand.tmp 71], argTypes := #[27, 9] }, type := 25, pos := "law.go:53", after := #[{ on := 1, ground := Ground.data }, { on := 5, ground := Ground.data }], guard := none }) rfl (fun K hK => ?_) AllReadyH.nil
  go_simp
  go_at_call 18
  refine (HR.out _ B0.out).mono ?_
  rintro e w1 ⟨q2, c2, rfl, k2, w1b⟩
  have Bw1 : Hid (Below W.heap.size W w1) := hid (bl3 B0.out w1b)
  have K2 := hid k2
  clear w1b k2
  go_wp2_with fail
  refine hK.out _ _ ?_ (fun hHeld => ?_)
  · exact Bw1.out
  clear hK K
  try simp only [Act.put, List.setIfInBounds_toArray, List.set_cons_zero, List.set_cons_succ]
  refine wpAnyH_ready (rs := [7]) (by kernel_rfl) (by simp) ?_
  refine AllReadyH.cons (o := { dst := some 73, op := Op.call { callee := Callee.value (Operand.func 17), args := #[Operand.tmp 66, Operand.tmp 72], argTypes := #[25, 25] }, type := 4, pos := "law.go:53", after := #[{ on := 0, ground := Ground.data }, { on := 6, ground := Ground.data }, { on := 6, ground := Ground.chain }], guard := none }) rfl (fun K hK => ?_) AllReadyH.nil
  go_simp
  go_at_call 17
  refine (HW.out _ _ _ Bw1.out K2.out).mono ?_
  rintro e w2 ⟨rfl, w2b⟩
  have Bw2 : Hid (Below W.heap.size W w2) := hid (bl3 Bw1.out w2b)
  clear w2b
  go_wp2_with fail
  refine hK.out _ _ ?_ (fun hHeld => ?_)
  · exact Bw2.out
  clear hK K
  try simp only [Act.put, List.setIfInBounds_toArray, List.set_cons_zero, List.set_cons_succ]
  refine wpAnyH_take (i := 8) (oi := { dst := some 74, op := Op.unOp UnOp.not 4 (Operand.tmp 73), type := 4, pos := "law.go:53", after := #[{ on := 7, ground := Ground.data }], guard := none }) (v := ?_) rfl (by kernel_rfl) (by kernel_rfl) (by kernel_rfl) (fun _ _ _ h => h) (Or.inl ⟨by rfl, ?_⟩) (by assumption) ?_
  rotate_left
  · intro w hSw
    go_simp
    try with_reducible rfl
  try simp only [Act.put, List.setIfInBounds_toArray, List.set_cons_zero, List.set_cons_succ]
  refine wpAnyH_done (by kernel_rfl) ?_ _
  refine NoPanic.normal ?_
  exact hH.out _ _ _ _ _ _ _ _ _ Bw2.out
end Go.Proofs.Ytofdfofpdfaimaa
namespace Go.Proofs.Ytofdfofpdfaimaa
open Go.RowKit Go.Shelf Go.Maps
attribute [local go_sem] Oper.semAt_some

/-- Where it stands behind k rounds: all stays but the counter. -/
structure TS (w V : World) (nb k : Nat) (W : World) : Prop where
  bl : Below w.heap.size w W
  sz : V.heap.size ≤ W.heap.size
  kp : ∀ g, g < V.heap.size → g ≠ nb → W.heap[g]? = V.heap[g]?
  ct : W.heap[nb]? = some (.cells #[.int .i64 (k : Nat)] 3)
theorem TS.below {w V A B : World} {nb k : Nat} (h : TS w V nb k A) (hn : nb < V.heap.size) (hw : w.heap.size ≤ V.heap.size) (b : Below A.heap.size A B) : TS w V nb k B :=
  ⟨h.bl.trans (b.mono (Nat.le_trans hw h.sz)), Nat.le_trans h.sz b.size, fun g hg hne => (b.block g (Nat.lt_of_lt_of_le hg h.sz)).trans (h.kp g hg hne), (b.block nb (Nat.lt_of_lt_of_le hn h.sz)).trans h.ct⟩
theorem TS.put {w V A : World} {nb k l : Nat} {o : Obj} (h : TS w V nb k A) (hn : nb < V.heap.size) (hw : w.heap.size ≤ V.heap.size) (hl : V.heap.size ≤ l) : TS w V nb k (A.putObj l o) :=
  ⟨⟨h.bl.os, h.bl.tape, h.bl.output, by simpa using h.bl.size, fun g hg => (World.putObj_heap_other (by omega)).trans (h.bl.block g hg)⟩, by simpa using h.sz, fun g hg hne => (World.putObj_heap_other (by omega)).trans (h.kp g hg hne), (World.putObj_heap_other (by omega)).trans h.ct⟩
set_option maxRecDepth 100000 in
set_option maxHeartbeats 32000000 in
theorem told_range {w V : World} {yb kb tb nb B Z r' m' c tn cc ck tl bs : Nat} {L : List Wc} {T : List ByteArray} {f' : ByteArray → Option Value} {q qk : Option Addr} {ds : List Deferred} {t0 t1 t2 t4 t6 t7 t8 t9 t10 t13 t14 t15 t16 t17 t18 t19 t20 t21 t22 t23 t24 t25 t26 t27 t28 t29 t30 t31 t32 t33 t34 t35 t36 t37 t38 t39 t40 t41 t42 t43 t44 t45 t46 t47 t48 t49 t50 t51 t52 t53 t54 t55 t56 t57 t58 t59 t60 t61 t62 t63 t64 t65 t66 t67 t68 t69 t70 t71 t72 t73 t74 t75 t76 t77 t78 t79 t80 t81 t82 t83 t84 t86 t87 t88 t89 t90 t91 t92 t93 t94 t95 t96 t97 t98 t99 t100 t101 t102 t103 t104 t105 t106 t107 t108 t109 t110 t111 t112 t113 t114 t115 t116 t117 t118 t119 t120 t121 t122 t123 t124 : Value} (Q : Exit → Act → World → Prop) (htn : tn ≤ 1) (htl : tl = T.length) (hbl : Below w.heap.size w V) (hbx : V.heap[B]? = some (.cells #[.pointer (some ⟨r', 0, none⟩)] 23)) (hnw : RX V Z r' m' L c f') (hn0 : ¬ FP r' m' f' nb)
    (hy : V.heap[yb]? = some (.cells #[.slice q L.length cc] 27)) (hkk : V.heap[kb]? = some (.cells #[.slice qk tl ck] 45)) (ht : V.heap[tb]? = some (.cells #[.int .i64 (tn : Nat)] 3)) (hnn : V.heap[nb]? = some (.cells #[.int .i64 (0 : Nat)] 3)) (hnt : nb ≠ tb) (hwn : w.heap.size ≤ nb) (hOS : OwnG KS V bs (.slice qk tl ck) T) (hG : ∀ W', Below w.heap.size w W' → GS KW W' (.slice q L.length cc) (wL L)) (hT : Srt T (fun s => !(qK L s).isEmpty)) (h128 : tl ≤ 128)
    (hQ : ∀ D k W', V.heap.size ≤ D → (k = tl ∨ tn = 0) → TS w V nb k W' → W'.heap[D]? = some (.deferred (some [])) → Q .normal { tmps := #[t0, t1, t2, .pointer (some ⟨yb, 0, none⟩), t4, .pointer (some ⟨kb, 0, none⟩), t6, t7, t8, t9, t10, .pointer (some ⟨tb, 0, none⟩), .pointer (some ⟨nb, 0, none⟩), t13, t14, t15, t16, t17, t18, t19, t20, t21, t22, t23, t24, t25, t26, t27, t28, t29, t30, t31, t32, t33, t34, t35, t36, t37, t38, t39, t40, t41, t42, t43, t44, t45, t46, t47, t48, t49, t50, t51, t52, t53, t54, t55, t56, t57, t58, t59, t60, t61, t62, t63, t64, t65, t66, t67, t68, t69, t70, t71, t72, t73, t74, t75, t76, t77, t78, t79, t80, t81, t82, t83, t84, .func (.func 43) #[] #[.pointer (some ⟨B, 0, none⟩)], t86, t87, t88, t89, t90, t91, t92, t93, t94, t95, t96, t97, t98, t99, t100, t101, t102, t103, t104, t105, t106, t107, t108, t109, t110, t111, t112, t113, t114, t115, t116, t117, t118, t119, t120, t121, t122, t123, t124], defers := { target := .collected D, args := #[] } :: ds } W') :
    (Code.rangeFunc (Operand.tmp 85) #[86, 87] ((Code.region 24 #[{ dst := some 13, op := Op.assign (Operand.tmp 86), type := 9, pos := "law.go:64", after := #[], guard := none }] false).seq (Code.region 25 #[{ dst := some 14, op := Op.assign (Operand.tmp 87), type := 25, pos := "law.go:64", after := #[], guard := none }] false)) (Code.block 7 (((Code.region 26 #[{ dst := some 88, op := Op.load 3 (Operand.tmp 12), type := 3, pos := "law.go:65", after := #[], guard := none }, { dst := some 89, op := Op.load 45 (Operand.tmp 5), type := 45, pos := "law.go:65", after := #[], guard := none }, { dst := some 90, op := Op.call { callee := Callee.builtin Builtin.len, args := #[Operand.tmp 89], argTypes := #[45] }, type := 3, pos := "law.go:65", after := #[{ on := 1, ground := Ground.data }], guard := none }, { dst := some 91, op := Op.binOp BinOp.geq 3 (Operand.tmp 88) (Operand.tmp 90) 3, type := 4, pos := "law.go:65", after := #[{ on := 0, ground := Ground.data }, { on := 2, ground := Ground.data }], guard := none }, { dst := some 92, op := Op.move (Operand.tmp 91), type := 4, pos := "law.go:65", after := #[{ on := 3, ground := Ground.data }], guard := none }, { dst := some 93, op := Op.move (Operand.tmp 13), type := 9, pos := "law.go:65", after := #[{ on := 4, ground := Ground.guard }], guard := some (4, false) }, { dst := some 94, op := Op.load 45 (Operand.tmp 5), type := 45, pos := "law.go:65", after := #[{ on := 4, ground := Ground.guard }], guard := some (4, false) }, { dst := some 95, op := Op.load 3 (Operand.tmp 12), type := 3, pos := "law.go:65", after := #[{ on := 4, ground := Ground.guard }], guard := some (4, false) }, { dst := some 96, op := Op.indexAddr 45 (Operand.tmp 94) (Operand.tmp 95), type := 0, pos := "law.go:65", after := #[{ on := 6, ground := Ground.data }, { on := 7, ground := Ground.data }, { on := 4, ground := Ground.guard }], guard := some (4, false) }, { dst := some 97, op := Op.load 9 (Operand.tmp 96), type := 9, pos := "law.go:65", after := #[{ on := 8, ground := Ground.data }, { on := 4, ground := Ground.guard }], guard := some (4, false) }, { dst := some 98, op := Op.binOp BinOp.neq 9 (Operand.tmp 93) (Operand.tmp 97) 9, type := 4, pos := "law.go:65", after := #[{ on := 5, ground := Ground.data }, { on := 9, ground := Ground.data }, { on := 4, ground := Ground.guard }], guard := some (4, false) }, { dst := some 99, op := Op.pick (Operand.tmp 92) (Operand.const (Value.bool true)) (Operand.tmp 98), type := 4, pos := "law.go:65", after := #[{ on := 4, ground := Ground.data }, { on := 10, ground := Ground.data }], guard := none }, { dst := some 100, op := Op.move (Operand.tmp 99), type := 4, pos := "law.go:65", after := #[{ on := 11, ground := Ground.data }, { on := 4, ground := Ground.chain }], guard := none }, { dst := some 101, op := Op.move (Operand.tmp 14), type := 25, pos := "law.go:65", after := #[{ on := 12, ground := Ground.guard }], guard := some (12, false) }, { dst := some 102, op := Op.load 27 (Operand.tmp 3), type := 27, pos := "law.go:65", after := #[{ on := 12, ground := Ground.guard }], guard := some (12, false) }, { dst := some 103, op := Op.move (Operand.tmp 13), type := 9, pos := "law.go:65", after := #[{ on := 12, ground := Ground.guard }], guard := some (12, false) }, { dst := some 104, op := Op.call { callee := Callee.value (Operand.func 18), args := #[Operand.tmp 102, Operand.tmp 103], argTypes := #[27, 9] }, type := 25, pos := "law.go:65", after := #[{ on := 14, ground := Ground.data }, { on := 15, ground := Ground.data }, { on := 12, ground := Ground.chain }, { on := 12, ground := Ground.guard }], guard := some (12, false) }, { dst := some 105, op := Op.call { callee := Callee.value (Operand.func 17), args := #[Operand.tmp 101, Operand.tmp 104], argTypes := #[25, 25] }, type := 4, pos := "law.go:65", after := #[{ on := 13, ground := Ground.data }, { on := 16, ground := Ground.data }, { on := 16, ground := Ground.chain }, { on := 12, ground := Ground.guard }], guard := some (12, false) }, { dst := some 106, op := Op.unOp UnOp.not 4 (Operand.tmp 105), type := 4, pos := "law.go:65", after := #[{ on := 17, ground := Ground.data }, { on := 12, ground := Ground.guard }], guard := some (12, false) }, { dst := some 107, op := Op.pick (Operand.tmp 100) (Operand.const (Value.bool true)) (Operand.tmp 106), type := 4, pos := "law.go:65", after := #[{ on := 12, ground := Ground.data }, { on := 18, ground := Ground.data }], guard := none }] false).seq (Code.cond (Operand.tmp 107) ((Code.region 27 #[{ dst := none, op := Op.store 4 (Operand.tmp 4) (Operand.const (Value.bool false)), type := 0, pos := "law.go:66", after := #[], guard := none }] false).seq Code.ret) Code.skip)).seq ((Code.region 28 #[{ dst := some 108, op := Op.load 3 (Operand.tmp 12), type := 3, pos := "law.go:68", after := #[], guard := none }, { dst := some 109, op := Op.binOp BinOp.add 3 (Operand.tmp 108) (Operand.const (Value.int IntKind.i64 1)) 3, type := 3, pos := "law.go:68", after := #[{ on := 0, ground := Ground.data }], guard := none }, { dst := none, op := Op.store 3 (Operand.tmp 12) (Operand.tmp 109), type := 0, pos := "law.go:68", after := #[{ on := 1, ground := Ground.data }, { on := 0, ground := Ground.phase }, { on := 1, ground := Ground.phase }], guard := none }] false).seq ((Code.region 29 #[{ dst := some 110, op := Op.load 3 (Operand.tmp 11), type := 3, pos := "law.go:69", after := #[], guard := none }, { dst := some 111, op := Op.binOp BinOp.eql 3 (Operand.tmp 110) (Operand.const (Value.int IntKind.i64 0)) 3, type := 4, pos := "law.go:69", after := #[{ on := 0, ground := Ground.data }], guard := none }, { dst := some 112, op := Op.move (Operand.tmp 111), type := 4, pos := "law.go:69", after := #[{ on := 1, ground := Ground.data }], guard := none }, { dst := some 113, op := Op.load 3 (Operand.tmp 12), type := 3, pos := "law.go:69", after := #[{ on := 2, ground := Ground.guard }], guard := some (2, true) }, { dst := some 114, op := Op.binOp BinOp.eql 3 (Operand.tmp 113) (Operand.const (Value.int IntKind.i64 2)) 3, type := 4, pos := "law.go:69", after := #[{ on := 3, ground := Ground.data }, { on := 2, ground := Ground.guard }], guard := some (2, true) }, { dst := some 115, op := Op.pick (Operand.tmp 112) (Operand.tmp 114) (Operand.const (Value.bool false)), type := 4, pos := "law.go:69", after := #[{ on := 2, ground := Ground.data }, { on := 4, ground := Ground.data }], guard := none }] false).seq (Code.cond (Operand.tmp 115) (Code.exit 6) Code.skip)))))).wp Try.prog (Exit.inBlock 6 Q) { tmps := #[t0, t1, t2, .pointer (some ⟨yb, 0, none⟩), t4, .pointer (some ⟨kb, 0, none⟩), t6, t7, t8, t9, t10, .pointer (some ⟨tb, 0, none⟩), .pointer (some ⟨nb, 0, none⟩), t13, t14, t15, t16, t17, t18, t19, t20, t21, t22, t23, t24, t25, t26, t27, t28, t29, t30, t31, t32, t33, t34, t35, t36, t37, t38, t39, t40, t41, t42, t43, t44, t45, t46, t47, t48, t49, t50, t51, t52, t53, t54, t55, t56, t57, t58, t59, t60, t61, t62, t63, t64, t65, t66, t67, t68, t69, t70, t71, t72, t73, t74, t75, t76, t77, t78, t79, t80, t81, t82, t83, t84, .func (.func 43) #[] #[.pointer (some ⟨B, 0, none⟩)], t86, t87, t88, t89, t90, t91, t92, t93, t94, t95, t96, t97, t98, t99, t100, t101, t102, t103, t104, t105, t106, t107, t108, t109, t110, t111, t112, t113, t114, t115, t116, t117, t118, t119, t120, t121, t122, t123, t124], defers := ds } V := by
  have nbV := lt_of_heap hnn
  have wV := hbl.size
  have ri := hid hnw.ri
  have l128 := hnw.ri.len
  have rel := weach_rel 8 (by omega) hbx hnw (nb := nb) (fun e => by
    have h1 := hbx
    rw [← e, hnn] at h1
    injection h1 with h1
    injection h1 with _ h1 _
    revert h1; decide) hn0 nbV hT
  rw [← htl] at rel
  have y1 : yb ≠ nb := fun e => by rw [e, hnn] at hy; injection hy with hy; injection hy with _ hy _; revert hy; decide
  have y2 : kb ≠ nb := fun e => by rw [e, hnn] at hkk; injection hkk with hkk; injection hkk with _ hkk _; revert hkk; decide
  have lty := lt_of_heap hy
  have ltk := lt_of_heap hkk
  have ltt := lt_of_heap ht
  have HQ := hid hQ
  have HG := hid hG
  have HOS := hid hOS
  have HT := hid hT
  refine (wpIn_wide (n := 9)).1 ?_
  refine wpIn_range_rel2 rfl (by omega) (gf := 43) (lb := #[.pointer (some ⟨B, 0, none⟩)]) rfl trivial (enters_of Try.func43 (by kernel_rfl) rfl)
    rel (fun h k => h.trans k) (fun h => KpW.below h) (fun W l r r' _ hl => KpW.put hl) (KpW.refl _ _)
    (fun k x W hx => by obtain ⟨_, _, _, _, rfl, _⟩ := hx; rfl)
    (TS w V nb) (fun cd k W => cd = .exit 6 ∧ tn = 0 ∧ TS w V nb k W)
    (fun k A B hA b => hA.below nbV wV b)
    (fun k A l r r' hA hl _ => hA.put nbV wV hl)
    (fun _ k A l r r' hA hl _ => ⟨hA.1, hA.2.1, hA.2.2.put nbV wV hl⟩)
    ⟨hbl, Nat.le_refl _, fun _ _ _ => rfl, hnn⟩
    (fun i x a' W => ∃ (hi : i < T.length) (q' : Option Addr) (c' : Nat), x = #[.string T[i], .slice q' (qK L T[i]).length c'] ∧ OwnG KW W V.heap.size (.slice q' (qK L T[i]).length c') ((qK L T[i]).map fun x => x.w) ∧ a' = { tmps := #[t0, t1, t2, .pointer (some ⟨yb, 0, none⟩), t4, .pointer (some ⟨kb, 0, none⟩), t6, t7, t8, t9, t10, .pointer (some ⟨tb, 0, none⟩), .pointer (some ⟨nb, 0, none⟩), x.getD 0 undef, x.getD 1 undef, t15, t16, t17, t18, t19, t20, t21, t22, t23, t24, t25, t26, t27, t28, t29, t30, t31, t32, t33, t34, t35, t36, t37, t38, t39, t40, t41, t42, t43, t44, t45, t46, t47, t48, t49, t50, t51, t52, t53, t54, t55, t56, t57, t58, t59, t60, t61, t62, t63, t64, t65, t66, t67, t68, t69, t70, t71, t72, t73, t74, t75, t76, t77, t78, t79, t80, t81, t82, t83, t84, .func (.func 43) #[] #[.pointer (some ⟨B, 0, none⟩)], x.getD 0 undef, x.getD 1 undef, t88, t89, t90, t91, t92, t93, t94, t95, t96, t97, t98, t99, t100, t101, t102, t103, t104, t105, t106, t107, t108, t109, t110, t111, t112, t113, t114, t115, t116, t117, t118, t119, t120, t121, t122, t123, t124], defers := [] })
    (fun i x a' A l r r' h hl ho => by
      obtain ⟨hi, q', c', e1, e2, e3⟩ := h
      refine ⟨hi, q', c', e1, e2.far fun g hg => World.putObj_heap_other fun e => ?_, e3⟩
      obtain ⟨cur, hc⟩ := e2.ty hg
      rw [e, ho] at hc
      cases hc)
    ?assign ?body ?done ?stop
  case stop =>
    rintro D cd i W1 hD ⟨rfl, h1, h2⟩ hk
    exact wpIn_exit (HQ.out D i W1 hD (Or.inr h1) h2 hk)
  case assign =>
    rintro l2 i x W1 K hI ⟨hi, q', c', b', rfl, ow, hb⟩ hK
    have KK := hid (fun a' (ha : a' = _) => hK a' W1 (Below.refl _ _) ⟨hi, q', c', rfl, ow.low hb, ha⟩)
    clear hK ow rel
    gi_wp2_with fail
    exact KK.out _ rfl
  case done =>
    intro D W1 hD hI hk
    exact HQ.out D tl W1 hD (Or.inl rfl) hI hk
  case body =>
    rintro l2 i x a' W2 hl2 hr hI ⟨hi, q', c', rfl, ow, rfl⟩ hk
    have OS2 : OwnG KS W2 bs (.slice qk tl ck) T := HOS.out.far fun g hg => hI.kp g (HOS.out.lt hg).2 (fun e => HOS.out.notat hnn (by decide) (by rw [← e]; exact hg))
    obtain ⟨X, o, e1, x0⟩ := GS.atS (OS2.gs KS_ok.len) hi
    obtain rfl : qk = some ⟨X, o, none⟩ := e1
    have cn : W2.cell? ⟨nb, 0, none⟩ = some (.int .i64 (i : Nat)) := cell_of_row _ _ _ _ _ _ hI.ct
    have ck2 : W2.cell? ⟨kb, 0, none⟩ = some (.slice (some ⟨X, o, none⟩) tl ck) := cell_of_row _ _ _ _ _ _ ((hI.kp kb ltk y2).trans hkk)
    have cy : W2.cell? ⟨yb, 0, none⟩ = some (.slice q L.length cc) := cell_of_row _ _ _ _ _ _ ((hI.kp yb lty y1).trans hy)
    have hii : (i : Int) < (tl : Nat) := by omega
    have hi3 : ¬ (tl : Int) ≤ (i : Nat) := by omega
    have RQ2 := hid (rqueue_any (.slice q L.length cc) (wL L) T[i] W2 (HG.out W2 hI.bl) (by have := wL_len ri.out; omega))
    rw [← wL_queue] at RQ2
    unfold wL at RQ2
    simp only [List.length_map] at RQ2
    have OW := hid ow
    have HI := hid hI
    have hl128 : (qK L T[i]).length ≤ 100000000 := by have := qK_len L T[i]; omega
    have TB : Hid (∀ W', Below W2.heap.size W2 W' → W'.cell? ⟨tb, 0, none⟩ = some (.int .i64 (tn : Nat))) := fun W' b => cell_of_row _ _ _ _ _ _ (((HI.out.below nbV wV b).kp tb ltt (fun e => hnt e.symm)).trans ht)
    clear ow hI OS2 rel HOS HG HQ hOS hG hT HT hbx hnw hn0 hy hkk hbl
    gi_wp2_with fail
    refine ⟨trivial, (CallsIn.inRound l2 (callsIn_wide.2 RQ2.out)).mono ?_⟩
    rintro e w6 ⟨pq, cq, rfl, oq, b6⟩
    have WS := hid (waiters_same w6 (.slice q' (qK L T[i]).length c') (.slice pq (qK L T[i]).length cq) ((qK L T[i]).map fun x => x.w) ((OW.out.below b6).gs KW_ok.len) (oq.gs KW_ok.len) (by rw [List.length_map]; omega))
    have B6 := hid b6
    clear RQ2 oq b6 cn ck2 cy x0
    gi_wp2_with fail
    refine ⟨trivial, (CallsIn.inRound l2 (callsIn_wide.2 WS.out)).mono ?_⟩
    rintro e w7 ⟨rfl, nd, e7⟩
    have B7 : Hid (Below W2.heap.size W2 w7) := by rw [e7]; exact bl3 B6.out (drew_below w6 nd)
    have ct7 := (B7.out.block nb (lt_of_heap HI.out.ct)).trans HI.out.ct
    have c7 : w7.cell? ⟨nb, 0, none⟩ = some (.int .i64 (i : Nat)) := cell_of_row _ _ _ _ _ _ ct7
    have f7 : w7.frozen? ⟨nb, 0, none⟩ = false := by simp [World.frozen?, ct7]
    have d7 := TB.out w7 B7.out
    have CT7 := hid ct7
    clear e7 WS B6 ct7
    have hnt2 : ¬ tb = nb := fun e => hnt e.symm
    have FAR : ∀ u, ∀ g, g ≠ nb → g < W2.heap.size → (w7.setCell ⟨nb, 0, none⟩ u).heap[g]? = W2.heap[g]? := fun u g h1 h2 => (Below.heap_setCell _ _ _ _ h1).trans (B7.out.block g h2)
    have sz2 : ∀ u, W2.heap.size ≤ (w7.setCell ⟨nb, 0, none⟩ u).heap.size := fun u => by simp [World.setCell]; exact B7.out.size
    have NX : Hid (TS w V nb (i + 1) (w7.setCell ⟨nb, 0, none⟩ (.int .i64 ((i : Int) + 1))) ∧ KeepsFrom V.heap.size W2 (w7.setCell ⟨nb, 0, none⟩ (.int .i64 ((i : Int) + 1))) ∧ KpW nb W2 (w7.setCell ⟨nb, 0, none⟩ (.int .i64 ((i : Int) + 1)))) := by
      have hz := HI.out.sz
      refine ⟨⟨(HI.out.bl.trans (B7.out.mono (by omega))).setCell (p := ⟨nb, 0, none⟩) (by show w.heap.size ≤ nb; exact hwn) _, Nat.le_trans hz (sz2 _), fun g h1 h2 => (FAR _ g h2 (by omega)).trans (HI.out.kp g h1 h2), heap_setCell_same w7 nb 0 _ _ _ CT7.out⟩, ⟨sz2 _, fun y ob _ hy ho => (FAR _ y (fun e => ?_) (lt_of_heap hy)).trans hy⟩, ⟨sz2 _, fun y ob hy n1 _ _ => (FAR _ y n1 (lt_of_heap hy)).trans hy⟩⟩
      rw [e, HI.out.ct] at hy
      injection hy with hy
      subst hy
      cases ho
    clear FAR sz2 CT7 HI OW B7 TB
    have e0 : (w7.setCell ⟨nb, 0, none⟩ (.int .i64 ((i : Int) + 1))).cell? ⟨tb, 0, none⟩ = some (.int .i64 (tn : Nat)) := by
      rw [← d7]
      exact World.cell?_setCell_far _ _ _ _ (by show nb ≠ tb; exact hnt)
    by_cases hb1 : tn = 0
    · subst hb1
      by_cases hb2 : i = 1
      · subst hb2
        gi_wp2_with fail
        exact ⟨NX.out.2.1, rfl, NX.out.1⟩
      · have e2 : (((i : Int) + 1) == 2) = false := by simp; omega
        have e3 : ¬ ((i : Int) + 1) = 2 := by omega
        gi_wp2_with fail
        exact ⟨NX.out.2.1, NX.out.2.2, NX.out.1⟩
    · have hb3 : tn = 1 := by omega
      subst hb3
      gi_wp2_with fail
      exact ⟨NX.out.2.1, NX.out.2.2, NX.out.1⟩
end Go.Proofs.Ytofdfofpdfaimaa
namespace Go.Proofs.Ytofdfofpdfaimaa
open Go.RowKit Go.Shelf Go.Maps
attribute [local go_sem] Oper.semAt_some

theorem qK_key {L : List Wc} {c : Nat} (h : RI L c) {T : List ByteArray} (hT : Srt T (fun s => !(qK L s).isEmpty)) {s : ByteArray} (hs : s ∈ T) : s.size ≤ 4096 ∧ qK L s ≠ [] := by
  have h1 := (hT.mem s).1 hs
  have h2 : qK L s ≠ [] := by intro e; rw [e] at h1; simp at h1
  obtain ⟨x, q⟩ := List.exists_mem_of_ne_nil _ h2
  obtain ⟨q1, q2⟩ := qK_mem.1 q
  have := (h.ok x q1).2.1
  rw [q2] at this
  exact ⟨this, h2⟩
/-- Before and between the ranges: what they go over stands; all that was there stays. -/
structure TM (w V W : World) (B r' Z m' : Nat) (L : List Wc) (c : Nat) (f' : ByteArray → Option Value) : Prop where
  bl : Below V.heap.size V W
  bx : W.heap[B]? = some (.cells #[.pointer (some ⟨r', 0, none⟩)] 23)
  nw : RX W Z r' m' L c f'
theorem TM.ts {w V W V3 W' : World} {B r' Z m' c nb k : Nat} {L : List Wc} {f' : ByteArray → Option Value} (h : TM w V W B r' Z m' L c f') (b : Below W.heap.size W V3) (hn : W.heap.size ≤ nb) (hV : V.heap.size ≤ W.heap.size) (_ : w.heap.size ≤ V.heap.size) (t : TS w V3 nb k W') (bw : Below w.heap.size w V) : TM w V W' B r' Z m' L c f' := by
  have K : ∀ g, g < W.heap.size → W'.heap[g]? = W.heap[g]? := fun g hg => (t.kp g (Nat.lt_of_lt_of_le hg b.size) (by omega)).trans (b.block g hg)
  refine ⟨⟨?_, ?_, ?_, ?_, fun g hg => (K g (by omega)).trans (h.bl.block g hg)⟩, (K _ (lt_of_heap h.bx)).trans h.bx, h.nw.keep fun x hx => K x (h.nw.lt hx).2⟩
  · exact t.bl.os.trans bw.os.symm
  · exact t.bl.tape.trans bw.tape.symm
  · exact t.bl.output.trans bw.output.symm
  · have := b.size; have := t.sz; omega
set_option maxRecDepth 100000 in
set_option maxHeartbeats 32000000 in
theorem told_any (w : World) (b r m : Nat) (L : List Wc) (c : Nat) (f : ByteArray → Option Value) (h : RX w b r m L c f) (q : Option Addr) (cc : Nat) (hv : GS KW w (.slice q L.length cc) (wL L)) : Calls Try.prog 13 #[.pointer (some ⟨r, 0, none⟩), .agg #[.slice q L.length cc]] w fun e w' => e = .returned (.bool true) ∧ Below w.heap.size w w' := by
  obtain ⟨W, hW⟩ : ∃ W, W = (w.alloc (.cells #[.slice q L.length cc] 27)).alloc (.cells #[.bool false] 4) := ⟨_, rfl⟩
  have BW : Hid (Below w.heap.size w W) := by rw [hW]; exact bl3 (bal _ _) (bal _ _)
  have kY : W.heap[w.heap.size]? = some (.cells #[.slice q L.length cc] 27) := by rw [hW]; exact ((bal _ _).block _ (by simp)).trans (heap_alloc_new _ _)
  have kR : W.heap[w.heap.size + 1]? = some (.cells #[.bool false] 4) := by
    have := heap_alloc_new (w.alloc (.cells #[.slice q L.length cc] 27)) (.cells #[.bool false] 4)
    rw [World.size_alloc] at this
    rw [hW]; exact this
  have RX1 := hid (fun W' (hb : Below w.heap.size w W') => h.below hb)
  have GV := hid (fun W' (hb : Below w.heap.size w W') => hv.below hb)
  have RI1 := hid h.ri
  have l128 := h.ri.len
  have RK := hid (rkeys_any (.slice q L.length cc) (wL L) W (GV.out W BW.out) (wL_len RI1.out))
  have KY := hid kY
  have KR := hid kR
  have y0 : W.cell? ⟨w.heap.size, 0, none⟩ = some (.slice q L.length cc) := cell_of_row _ _ _ _ _ _ kY
  clear h hv kY kR
  refine callsIn_wide (n := 9) |>.1 ?_
  refine callsIn_of_wp_marks Try.func13 rfl trivial ?_ rfl
  refine (wpIn_wide (n := 9)).2 ?_
  simp only [Try.ntmps13, List.size_toArray, List.length_cons, List.length_nil, Nat.reduceAdd, Nat.reduceSub, Array.replicate_succ, Array.replicate_zero, List.push_toArray, List.append_toArray, List.nil_append, List.cons_append]
  go_upto_region 1 with fail
  rw [← hW]
  clear hW
  go_upto_region 2 with (go_at_call 16; refine RK.out.mono ?_; rintro e w5 ⟨qk, ck, T, hT, rfl, oT, b5⟩; have ST := hid (keys_same hT); have TL := hid (hT.len); have OT := hid oT; have B5 := hid b5; clear hT oT b5)
  obtain ⟨kb, hkb⟩ : ∃ kb, kb = w5.heap.size := ⟨_, rfl⟩
  generalize hV : w5.alloc (.cells #[.slice qk T.length ck] 45) = V
  have bV : Below w5.heap.size w5 V := by rw [← hV]; exact bal _ _
  have kK : V.heap[kb]? = some (.cells #[.slice qk T.length ck] 45) := by rw [← hV, hkb]; exact heap_alloc_new _ _
  have KK := hid kK
  have BV := hid (bl3 BW.out (bl3 B5.out bV))
  have OV := hid (OT.out.below bV)
  have kY := ((bl3 B5.out bV).block _ (lt_of_heap KY.out)).trans KY.out
  have kR := ((bl3 B5.out bV).block _ (lt_of_heap KR.out)).trans KR.out
  have CY := hid (fun W' (hb : Below V.heap.size V W') => (⟨cell_of_row _ _ _ _ _ _ ((hb.block _ (lt_of_heap kY)).trans kY), cell_of_row _ _ _ _ _ _ ((hb.block _ (lt_of_heap kK)).trans kK)⟩ : W'.cell? ⟨w.heap.size, 0, none⟩ = some (.slice q L.length cc) ∧ W'.cell? ⟨kb, 0, none⟩ = some (.slice qk T.length ck)))
  have CX := hid (fun W' (hb : Below V.heap.size V W') i (hi : i < T.length) => GS.atS ((OV.out.below hb).gs KS_ok.len) hi)
  have KYV := hid kY
  have KRV := hid kR
  have t128 : T.length ≤ 128 := by
    have h1 := TL.out
    rw [List.length_map] at h1
    have := wL_len RI1.out
    omega
  obtain ⟨tl, htl⟩ : ∃ tl, tl = T.length := ⟨_, rfl⟩
  have MT := hid htl
  rw [← htl] at t128 CY hV kK KK
  rw [← hkb, ← htl]
  clear hkb hV htl bV kY kR kK OT B5 BW KY KR RK y0 TL
  obtain ⟨y0, k0⟩ := CY.out V (Below.refl _ _)
  go_upto_region 4 with fail
  go_wp2_with fail
  go_loopw [6, 7] (fun v6 v7 wr => ∃ (i : Nat) (s : ByteArray) (wk : World), v6 = .string s ∧ v7 = .int .i64 i ∧ wk = wr ∧ i ≤ tl ∧ 11 ≤ s.size ∧ s.size ≤ 11 + i * 4096 ∧ Hid (∀ k (hk : k < T.length), k < i → T[k].size + 11 ≤ s.size) ∧ Hid (Below V.heap.size V wk)) (fun _ v7 _ => tl - (intOf v7).toNat)
  case atStart => exact ⟨0, _, _, rfl, rfl, rfl, Nat.zero_le _, by decide, by decide, fun k hk h => absurd h (Nat.not_lt_zero k), Below.refl _ _⟩
  case round =>
    obtain ⟨i, s, wr, rfl, rfl, rfl, hi, hs1, hs2, HS, HB⟩ := hrel
    clear y0 k0
    obtain ⟨y0, k0⟩ := CY.out wr HB.out
    by_cases hlt : i < tl
    · have hii : (i : Int) < (tl : Nat) := by omega
      have hil : i < T.length := by have := MT.out; omega
      obtain ⟨X, o, e1, x0⟩ := CX.out wr HB.out i hil
      obtain rfl : qk = some ⟨X, o, none⟩ := e1
      have hk := (qK_key RI1.out ST.out (List.getElem_mem hil)).1
      have hsum : s.size + T[i].size ≤ 9223372036854775807 := by omega
      have NS : Hid (∀ k (hk : k < T.length), k < i + 1 → T[k].size + 11 ≤ (s ++ T[i]).size) := fun k hk2 h9 => by
        rw [ByteArray.size_append]
        by_cases e : k = i
        · subst e; omega
        · have := HS.out k hk2 (by omega); omega
      have n1 : 11 ≤ (s ++ T[i]).size := by rw [ByteArray.size_append]; omega
      have n2 : (s ++ T[i]).size ≤ 11 + (i + 1) * 4096 := by rw [ByteArray.size_append]; omega
      clear HS
      generalize T[i] = t at *
      go_wp2_with fail
      go_roundw
      case rel => exact ⟨i + 1, s ++ t, _, rfl, by go_num, rfl, by omega, n1, n2, NS, HB⟩
      case measure => simp [intOf]; omega
    · obtain rfl : i = tl := by omega
      have qn : qK L s = [] := Classical.byContradiction fun e => by
        have hm : s ∈ T := (ST.out.mem s).2 (by simpa using e)
        obtain ⟨k, hk, e2⟩ := List.getElem_of_mem hm
        have h9 := HS.out k hk (by have := MT.out; omega)
        rw [e2] at h9
        omega
      have ss : s.size ≤ maxLen := by unfold maxLen; omega
      have XR := hid (fun W' (hb : Below wr.heap.size wr W') => RX1.out W' (bl3 BV.out (bl3 HB.out hb)))
      have TU := hid (fun T' (h : Srt T' (fun s => !(qK L s).isEmpty)) => h.uniq ST.out)
      have KS1 : ∀ w', Below wr.heap.size wr w' → Calls Try.prog 26 #[.pointer (some ⟨r, 0, none⟩)] w' fun e w2 => ∃ q2 c2, e = .returned (.slice q2 i c2) ∧ GS KS w2 (.slice q2 i c2) T ∧ Below w'.heap.size w' w2 := fun w' hb => by
        refine (keys_any w' b r m L c f (XR.out w' hb)).mono ?_
        rintro e w2 ⟨q2, c2, T', rfl, o2, hs, b2⟩
        have eT := TU.out T' hs
        rw [eT] at o2 ⊢
        rw [← MT.out] at o2 ⊢
        exact ⟨q2, c2, rfl, o2.gs KS_ok.len, b2⟩
      have QN : ∀ w', Below wr.heap.size wr w' → Calls Try.prog 22 #[.pointer (some ⟨r, 0, none⟩), .string s] w' fun e w2 => ∃ q2 c2, e = .returned (.slice q2 0 c2) ∧ Below w'.heap.size w' w2 := fun w' hb => by
        refine (queue_any s w' b r m L c f (XR.out w' hb) ss).mono ?_
        rintro e w2 ⟨q2, c2, rfl, _, b2⟩
        rw [qn]
        exact ⟨q2, c2, rfl, b2⟩
      have SM : ∀ w' q2 c2, Below wr.heap.size wr w' → GS KS w' (.slice q2 i c2) T → Calls Try.prog 39 #[.slice q2 i c2, .slice qk i ck] w' fun e w2 => e = .returned (.bool true) ∧ Below w'.heap.size w' w2 := fun w' q2 c2 hb hg => by
        have o2 := (OV.out.below (bl3 HB.out hb)).gs KS_ok.len
        rw [← MT.out] at o2
        refine (sameTextsG w' _ _ T hg o2 (by have := MT.out; omega)).mono ?_
        rintro e w2 ⟨rfl, nd, rfl⟩
        exact ⟨rfl, drew_below w' nd⟩
      go_upto_region 7 with fail
      clear y0 k0
      refine wt7 (GK := fun w' v => GS KS w' v T) (by omega) (fun w' hb => CY.out w' (bl3 HB.out hb)) (fun w' hb => len_any w' b r m L c f (XR.out w' hb)) KS1 SM QN ?_
      intro W1 _ _ _ _ _ _ _ _ _ _ _ _ _ _ _ _ _ _ _ _ _ _ _ _ hW1
      have HB1 := hid (bl3 HB.out hW1)
      clear KS1 QN SM XR TU ss qn HS hs1 hs2 HB hW1 hi hlt
      obtain ⟨y0, k0⟩ := CY.out W1 HB1.out
      go_wp2_with fail
      go_loopw [8] (fun v8 wr => ∃ (j : Nat) (wk : World), v8 = .int .i64 j ∧ wk = wr ∧ j ≤ i ∧ Hid (Below V.heap.size V wk)) (fun v8 _ => i - (intOf v8).toNat)
      case atStart => exact ⟨0, _, rfl, rfl, Nat.zero_le _, HB1⟩
      case round =>
        obtain ⟨j, wr2, rfl, rfl, hj, HB⟩ := hrel
        clear HB1 y0 k0
        obtain ⟨y0, k0⟩ := CY.out wr2 HB.out
        by_cases hlt : j < i
        · have hji : (j : Int) < (i : Nat) := by omega
          have hjl : j < T.length := by have := MT.out; omega
          obtain ⟨X, o, e1, x0⟩ := CX.out wr2 HB.out j hjl
          obtain rfl : qk = some ⟨X, o, none⟩ := e1
          obtain ⟨hk, hne⟩ := qK_key RI1.out ST.out (List.getElem_mem hjl)
          have CK : Hid (∀ w', Below V.heap.size V w' → w'.cell? ⟨X, o + j, none⟩ = some (.string T[j])) := fun w' hb => by
            obtain ⟨X2, o2, e2, x2⟩ := CX.out w' hb j hjl
            injection e2 with e2
            injection e2 with e2 e3
            subst e2 e3
            exact x2
          have QA := hid (queue_any T[j] wr2 b r m L c f (RX1.out wr2 (bl3 BV.out HB.out)) (by unfold maxLen; omega))
          have RQ := hid (fun w' (hb : Below V.heap.size V w') => rqueue_any (.slice q L.length cc) (wL L) T[j] w' (GV.out w' (bl3 BV.out hb)) (by have := wL_len RI1.out; omega))
          rw [← wL_queue] at RQ
          unfold wL at RQ
          simp only [List.length_map] at RQ
          have hql : (qK L T[j]).length ≤ 100000 := by have := qK_len L T[j]; omega
          generalize T[j] = t at *
          go_upto_region 13 with (go_at_call 22; refine QA.out.mono ?_; rintro e w6 ⟨pq, cq, rfl, oq, b6⟩; have OQ := hid oq; have B6 := hid (bl3 HB.out b6); clear oq b6)
          clear QA x0 y0 k0
          refine wt13 (GK := fun w' v => GS KW w' v ((qK L t).map fun x => x.w)) hji (fun w' hb => ⟨(CY.out w' (bl3 B6.out hb)).1, (CY.out w' (bl3 B6.out hb)).2, CK.out w' (bl3 B6.out hb)⟩) (fun w' hb => (RQ.out w' (bl3 B6.out hb)).mono fun e w2 ⟨q2, c2, h1, h2, h3⟩ => ⟨q2, c2, h1, h2.gs KW_ok.len, h3⟩) (fun w' q2 c2 hb hg => (waiters_same w' _ _ ((qK L t).map fun x => x.w) ((OQ.out.below hb).gs KW_ok.len) hg (by rw [List.length_map]; omega)).mono fun e w2 ⟨h1, nd, h2⟩ => ⟨h1, by rw [h2]; exact drew_below w' nd⟩) ?_
          intro W3 _ _ _ _ _ _ _ _ hW3
          have OQ3 := hid (OQ.out.below hW3)
          obtain ⟨g, rfl⟩ : ∃ g, pq = some ⟨g, 0, none⟩ := by
            rcases OQ3.out.2 with ⟨_, e3⟩ | ⟨g, cap, cur, e3, _⟩
            · exact absurd (List.length_eq_zero_iff.1 (by simpa using e3)) hne
            · injection e3 with e3 e5 e6
              exact ⟨g, e3⟩
          have SP := hid (spoil_own g _ cq _ W3 wr2.heap.size OQ3.out)
          have gz := (OQ3.out.lt (g := g) rfl).1
          have B3 := hid (bl3 B6.out hW3)
          have sV := HB.out.size
          clear OQ OQ3 B6 hW3 RQ CK
          go_wp2_with (go_at_call 19; refine SP.out.mono ?_; rintro e w8 ⟨rfl, b8⟩; have B8 : Hid (Below V.heap.size V w8) := ⟨b8.os.trans B3.out.os, b8.tape.trans B3.out.tape, b8.output.trans B3.out.output, Nat.le_trans B3.out.size b8.size, fun x hx => (b8.block x (Nat.lt_of_lt_of_le hx B3.out.size) (by show ¬ x = g; omega)).trans (B3.out.block x hx)⟩; clear b8)
          go_roundw
          case rel => exact ⟨j + 1, _, by go_num, rfl, by omega, B8⟩
          case measure => simp [intOf]; omega
        · obtain rfl : j = i := by omega
          have EA := hid (each2_any wr2 b r m L c f (RX1.out wr2 (bl3 BV.out HB.out)))
          have EF := eqIt 43
          go_upto_region 19 with (go_at_call 15; refine EA.out.mono ?_; rintro e w2 ⟨B, r', m', f', rfl, hb2, hB, hx2, hk2⟩; have X2 := hid hx2; have BX := hid hb2; have BK := hid (bl3 HB.out hk2); clear hb2 hx2 hk2 hB)
          clear EA EF HB
          go_upto_region 20 with fail
          obtain ⟨tb, htb⟩ : ∃ tb, tb = w2.heap.size := ⟨_, rfl⟩
          generalize hV2 : w2.alloc (.cells #[.int .i64 0] 3) = V2
          have b2 : Below w2.heap.size w2 V2 := by rw [← hV2]; exact bal _ _
          have kT : V2.heap[tb]? = some (.cells #[.int .i64 (0 : Nat)] 3) := by rw [← hV2, htb]; exact heap_alloc_new _ _
          rw [← htb]
          have M0 : Hid (TM w V V2 B r' wr2.heap.size m' L c f') := ⟨bl3 BK.out b2, (b2.block _ (lt_of_heap BX.out)).trans BX.out, X2.out.below b2⟩
          have tV : V.heap.size ≤ tb := by rw [htb]; exact BK.out.size
          have KT := hid kT
          clear hV2 htb kT b2 BK BX X2
          refine wp_loop_rounds 3 ?_
          rw [rounds_succ]
          have t0 : V2.cell? ⟨tb, 0, none⟩ = some (.int .i64 (0 : Nat)) := cell_of_row _ _ _ _ _ _ KT.out
          have t0 : V2.cell? ⟨tb, 0, none⟩ = some (.int .i64 0) := t0
          go_wp2_with fail
          clear t0
          obtain ⟨n1, hn1⟩ : ∃ n1, n1 = V2.heap.size := ⟨_, rfl⟩
          generalize hV3 : V2.alloc (.cells #[.int .i64 0] 3) = V3
          have b3 : Below V2.heap.size V2 V3 := by rw [← hV3]; exact bal _ _
          have kN1 : V3.heap[n1]? = some (.cells #[.int .i64 (0 : Nat)] 3) := by rw [← hV3, hn1]; exact heap_alloc_new _ _
          have v3 : V3.heap.size = n1 + 1 := by rw [← hV3, hn1]; simp
          rw [← hn1]
          have VW := BV.out.size
          have OVj : Hid (OwnG KS V (W.heap.size + 1) (.slice qk j ck) T) := by have h9 := OV.out; rw [← MT.out] at h9; exact h9
          have VM := M0.out.bl.size
          have ltT := lt_of_heap KT.out
          refine told_range (w := w) (bs := W.heap.size + 1) (tn := 0) _ (by omega) MT.out (bl3 BV.out (bl3 M0.out.bl b3)) ((b3.block _ (lt_of_heap M0.out.bx)).trans M0.out.bx) (M0.out.nw.below b3) (fun e => by have := (M0.out.nw.lt e).2; omega) (((bl3 M0.out.bl b3).block _ (lt_of_heap KYV.out)).trans KYV.out) (((bl3 M0.out.bl b3).block _ (lt_of_heap KK.out)).trans KK.out) ((b3.block _ ltT).trans KT.out) kN1 (by omega) (by omega) (OVj.out.below (bl3 M0.out.bl b3)) (fun W' hb => GV.out W' hb) ST.out (by omega) ?_
          intro D1 k1 W4 hD1 _ ts1 hd1
          have M1 := hid (M0.out.ts b3 (by omega) VM (by omega) ts1 BV.out)
          have kT4 : W4.heap[tb]? = some (.cells #[.int .i64 (0 : Nat)] 3) := (ts1.kp tb (by omega) (by omega)).trans ((b3.block _ ltT).trans KT.out)
          have t4 : W4.cell? ⟨tb, 0, none⟩ = some (.int .i64 0) := cell_of_row _ _ _ _ _ _ kT4
          have DD1 := hid hd1
          have lR0 := lt_of_heap KRV.out
          have w1D : w.heap.size + 1 < D1 := by omega
          clear hV3 hn1 b3 kN1 v3 ts1 hd1 M0 KT kT4 VM ltT
          go_wp2_with fail
          rw [rounds_succ]
          clear t4
          obtain ⟨tb2, htb2⟩ : ∃ tb2, tb2 = W4.heap.size := ⟨_, rfl⟩
          generalize hV5 : W4.alloc (.cells #[.int .i64 1] 3) = V5
          have b5 : Below W4.heap.size W4 V5 := by rw [← hV5]; exact bal _ _
          have kT5 : V5.heap[tb2]? = some (.cells #[.int .i64 (1 : Nat)] 3) := by rw [← hV5, htb2]; exact heap_alloc_new _ _
          have v5 : V5.heap.size = tb2 + 1 := by rw [← hV5, htb2]; simp
          rw [← htb2]
          have t5 : V5.cell? ⟨tb2, 0, none⟩ = some (.int .i64 1) := cell_of_row _ _ _ _ _ _ kT5
          have KT5 := hid kT5
          have Z5 := hid v5
          have B45 := hid b5
          have HT2 := hid htb2
          clear hV5 htb2 kT5 v5 b5
          go_wp2_with fail
          clear t5
          obtain ⟨n2, hn2⟩ : ∃ n2, n2 = V5.heap.size := ⟨_, rfl⟩
          generalize hV6 : V5.alloc (.cells #[.int .i64 0] 3) = V6
          have b6 : Below V5.heap.size V5 V6 := by rw [← hV6]; exact bal _ _
          have kN2 : V6.heap[n2]? = some (.cells #[.int .i64 (0 : Nat)] 3) := by rw [← hV6, hn2]; exact heap_alloc_new _ _
          have v6 : V6.heap.size = n2 + 1 := by rw [← hV6, hn2]; simp
          rw [← hn2]
          have VM1 := M1.out.bl.size
          have b46 : Below W4.heap.size W4 V6 := bl3 B45.out b6
          have z5 := Z5.out
          have z4 := HT2.out
          have lD1 := lt_of_heap DD1.out
          refine told_range (w := w) (bs := W.heap.size + 1) (tn := 1) _ (by omega) MT.out (bl3 BV.out (bl3 M1.out.bl b46)) ((b46.block _ (lt_of_heap M1.out.bx)).trans M1.out.bx) (M1.out.nw.below b46) (fun e => by have := (M1.out.nw.lt e).2; omega) (((bl3 M1.out.bl b46).block _ (lt_of_heap KYV.out)).trans KYV.out) (((bl3 M1.out.bl b46).block _ (lt_of_heap KK.out)).trans KK.out) ((b6.block _ (by omega)).trans KT5.out) kN2 (by omega) (by omega) (OVj.out.below (bl3 M1.out.bl b46)) (fun W' hb => GV.out W' hb) ST.out (by omega) ?_
          intro D2 k2 W7 hD2 hk2 ts2 hd2
          have ek : k2 = j := by omega
          subst ek
          have kT7 : W7.heap[tb2]? = some (.cells #[.int .i64 (1 : Nat)] 3) := (ts2.kp tb2 (by omega) (by omega)).trans ((b6.block _ (by omega)).trans KT5.out)
          have t7 : W7.cell? ⟨tb2, 0, none⟩ = some (.int .i64 1) := cell_of_row _ _ _ _ _ _ kT7
          have n7 : W7.cell? ⟨n2, 0, none⟩ = some (.int .i64 (k2 : Nat)) := cell_of_row _ _ _ _ _ _ ts2.ct
          have lK := lt_of_heap KK.out
          have k7 : W7.cell? ⟨kb, 0, none⟩ = some (.slice qk k2 ck) := cell_of_row _ _ _ _ _ _ ((ts2.kp kb (by omega) (by omega)).trans (((bl3 M1.out.bl b46).block _ lK).trans KK.out))
          have lR := lt_of_heap KRV.out
          have kR7 := (ts2.kp (w.heap.size + 1) (by omega) (by omega)).trans (((bl3 M1.out.bl b46).block _ lR).trans KRV.out)
          have d17 : W7.heap[D1]? = some (.deferred (some [])) := (ts2.kp D1 (by omega) (by omega)).trans ((b46.block _ lD1).trans DD1.out)
          have BL7 := hid ts2.bl
          have sz7 := ts2.sz
          have KR7 := hid kR7
          have D17 := hid d17
          have D27 := hid hd2
          have lR7 := lt_of_heap kR7
          have nums : w.heap.size + 1 < D1 ∧ w.heap.size + 1 < D2 ∧ D1 < D2 := by omega
          clear hn2 hV6 b6 kN2 v6 b46 z5 z4 ts2 kT7 M1 KT5 Z5 B45 HT2 DD1 d17 hd2 hk2 kR7 VM1 lK
          go_wp2_with fail
          rw [rounds_succ]
          generalize hV8 : W7.alloc (.cells #[.int .i64 2] 3) = V8
          have b8 : Below W7.heap.size W7 V8 := by rw [← hV8]; exact bal _ _
          have t8 : V8.cell? ⟨W7.heap.size, 0, none⟩ = some (.int .i64 2) := cell_of_row _ _ _ _ _ _ (by rw [← hV8]; exact heap_alloc_new _ _ : V8.heap[W7.heap.size]? = some (.cells #[.int .i64 2] 3))
          have kR8 := (b8.block _ lR7).trans KR7.out
          have c8 : V8.cell? ⟨w.heap.size + 1, 0, none⟩ = some (.bool false) := cell_of_row _ _ _ _ _ _ kR8
          have f8 : V8.frozen? ⟨w.heap.size + 1, 0, none⟩ = false := by simp [World.frozen?, kR8]
          have D18 := hid ((b8.block _ (lt_of_heap D17.out)).trans D17.out)
          have D28 := hid ((b8.block _ (lt_of_heap D27.out)).trans D27.out)
          have BL8 := hid (bl3 BL7.out b8)
          clear hV8 b8 kR8 KR7 D17 D27 BL7 t7 n7 k7
          go_wp2_with fail
          obtain ⟨u1, u2, u3⟩ := nums
          have r1 : (V8.setCell ⟨w.heap.size + 1, 0, none⟩ (.bool true)).cell? ⟨w.heap.size + 1, 0, none⟩ = some (.bool true) := by simp [go_sem, c8]
          have h28 : (V8.setCell ⟨w.heap.size + 1, 0, none⟩ (.bool true)).heap[D2]? = some (.deferred (some [])) := (Below.heap_setCell _ _ _ _ (by show D2 ≠ w.heap.size + 1; omega)).trans D28.out
          have h18 : ((V8.setCell ⟨w.heap.size + 1, 0, none⟩ (.bool true)).putObj D2 (.deferred none)).heap[D1]? = some (.deferred (some [])) := (World.putObj_heap_other (by omega)).trans ((Below.heap_setCell _ _ _ _ (by show D1 ≠ w.heap.size + 1; omega)).trans D18.out)
          refine ⟨by simp, .inl ⟨_, _, rfl, run_takeDeferred h28, by simp, .inl ⟨_, _, rfl, run_takeDeferred h18, ?_⟩⟩⟩
          have r2 : (((V8.setCell ⟨w.heap.size + 1, 0, none⟩ (.bool true)).putObj D2 (.deferred none)).putObj D1 (.deferred none)).cell? ⟨w.heap.size + 1, 0, none⟩ = some (.bool true) := (World.cell?_of_block (World.putObj_heap_other (by show w.heap.size + 1 ≠ D1; omega))).trans ((World.cell?_of_block (World.putObj_heap_other (by show w.heap.size + 1 ≠ D2; omega))).trans r1)
          refine ⟨.bool true, by simp [results, Try.results13, go_sem, r2], rfl, ?_⟩
          have b9 : Below w.heap.size w (V8.setCell ⟨w.heap.size + 1, 0, none⟩ (.bool true)) := BL8.out.setCell (p := ⟨w.heap.size + 1, 0, none⟩) (by show w.heap.size ≤ w.heap.size + 1; omega) _
          exact ⟨b9.os, b9.tape, b9.output, Nat.le_trans b9.size (by simp), fun x hx => (World.putObj_heap_other (by omega)).trans ((World.putObj_heap_other (by omega)).trans (b9.block x hx))⟩
end Go.Proofs.Ytofdfofpdfaimaa
