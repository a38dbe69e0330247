/- Graph: the law GraphGates: the region that asks a way without another node. -/
import Derived.Test.YtghkhceplpjegaaYr1
import Derived.Test.YtghkhceplpjegaaYm2
import Derived.Deep.RegionHeld3
namespace Go.Proofs.Ytghkhceplpjegaa
open Go.RowKit

set_option maxRecDepth 100000 in
set_option maxHeartbeats 32000000 in
theorem gg22c {Q : Exit → Act → World → Prop} {N sz Y oy r n d v m ml c cy : Nat} {p : Option Addr} {M : List (Int × Int)} {g : Bool} {w : World} {t0 t3 t4 t6 t10 t11 t12 t13 t14 t15 t16 t17 t18 t19 t20 t21 t22 t23 t24 t25 t26 t27 t28 t29 t30 t31 t32 t33 t34 t35 t36 t37 t38 t39 t40 t41 t42 t43 t44 t45 t46 t47 t48 t49 t50 t51 t52 t53 t54 t55 t56 t57 t58 t59 t60 t61 t62 t63 t64 t65 t66 t67 t68 t69 t70 t71 t72 t73 t74 t75 t76 t77 t78 t79 t80 t81 t82 t83 t84 t85 t86 t87 t88 t89 t90 t91 t92 t93 t94 t95 t96 t97 t98 t99 t100 t101 t102 t103 t104 t105 t106 t107 t108 t109 t110 t111 t112 t113 t114 t115 t116 t117 t118 t119 t120 t121 t122 t123 t124 t125 t126 t127 t128 t129 t130 t131 t132 t133 t134 t135 t136 t137 : Value} (hn : (n : Int) < (N : Nat)) (c1 : ((d : Int) == (v : Nat)) = false) (c2 : ((d : Int) != (v : Nat)) = true) (_c3 : ¬ (d : Int) = (v : Nat))
    (hS : ∀ W', Below w.heap.size w W' → W'.cell? ⟨Y, oy + n, none⟩ = some (.int .i64 (v : Nat)) ∧ W'.cell? ⟨sz, 0, none⟩ = some (.int .i64 (N : Nat)) ∧ W'.cell? ⟨sz, 1, none⟩ = some (.slice p m c))
    (hW : ∀ W', Below w.heap.size w W' → Calls Try.prog 30 #[.agg #[.int .i64 N, .slice p m c], .int .i64 (d : Nat)] W' fun e w' => ∃ q c, e = .returned (.agg #[.int .i64 N, .slice q ml c]) ∧ GS KE w' (.slice q ml c) M ∧ Below W'.heap.size W' w')
    (hY : ∀ W' q c, GS KE W' (.slice q ml c) M → Calls Try.prog 23 #[.agg #[.int .i64 N, .slice q ml c], .int .i64 (r : Nat), .int .i64 (v : Nat)] W' fun e w' => e = .returned (.bool g) ∧ Below W'.heap.size W' w')
    (h : ∀ (W' : World) (x106 x107 x108 x109 x110 x111 x112 x113 x114 x115 x116 x117 x118 x119 x120 x121 x122 x123 x124 x125 x126 x127 x128 x129 x130 x131 x132 x133 x134 x135 x136 : Value), Below w.heap.size w W' → Q .normal { tmps := List.toArray (t0 :: (.int .i64 (r : Nat)) :: (.pointer (some ⟨sz, 0, none⟩)) :: t3 :: t4 :: (.slice (some ⟨Y, oy, none⟩) N cy) :: t6 :: (.int .i64 (n : Nat)) :: (.int .i64 (d : Nat)) :: (.bool true) :: t10 :: t11 :: t12 :: t13 :: t14 :: t15 :: t16 :: t17 :: t18 :: t19 :: t20 :: t21 :: t22 :: t23 :: t24 :: t25 :: t26 :: t27 :: t28 :: t29 :: t30 :: t31 :: t32 :: t33 :: t34 :: t35 :: t36 :: t37 :: t38 :: t39 :: t40 :: t41 :: t42 :: t43 :: t44 :: t45 :: t46 :: t47 :: t48 :: t49 :: t50 :: t51 :: t52 :: t53 :: t54 :: t55 :: t56 :: t57 :: t58 :: t59 :: t60 :: t61 :: t62 :: t63 :: t64 :: t65 :: t66 :: t67 :: t68 :: t69 :: t70 :: t71 :: t72 :: t73 :: t74 :: t75 :: t76 :: t77 :: t78 :: t79 :: t80 :: t81 :: t82 :: t83 :: t84 :: t85 :: t86 :: t87 :: t88 :: t89 :: t90 :: t91 :: t92 :: t93 :: t94 :: t95 :: t96 :: t97 :: t98 :: t99 :: t100 :: t101 :: t102 :: t103 :: t104 :: t105 :: x106 :: x107 :: x108 :: x109 :: x110 :: x111 :: x112 :: x113 :: x114 :: x115 :: x116 :: x117 :: x118 :: x119 :: x120 :: x121 :: x122 :: x123 :: x124 :: x125 :: x126 :: x127 :: x128 :: x129 :: x130 :: x131 :: x132 :: x133 :: x134 :: x135 :: x136 :: (.bool g) :: []), defers := [] } W') :
    (Code.region 22 (List.toArray ({ dst := some 106, op := Op.move (Operand.tmp 8), type := 3, pos := "law.go:316", after := #[], guard := none } :: { dst := some 107, op := Op.move (Operand.tmp 5), type := 25, pos := "law.go:316", after := #[], guard := none } :: { dst := some 108, op := Op.move (Operand.tmp 7), type := 3, pos := "law.go:316", after := #[], guard := none } :: { dst := some 109, op := Op.indexAddr 25 (Operand.tmp 107) (Operand.tmp 108), type := 0, pos := "law.go:316", after := #[{ on := 1, ground := Ground.data }, { on := 2, ground := Ground.data }], guard := none } :: { dst := some 110, op := Op.load 3 (Operand.tmp 109), type := 3, pos := "law.go:316", after := #[{ on := 3, ground := Ground.data }], guard := none } :: { dst := some 111, op := Op.binOp BinOp.eql 3 (Operand.tmp 106) (Operand.tmp 110) 3, type := 4, pos := "law.go:316", after := #[{ on := 0, ground := Ground.data }, { on := 4, ground := Ground.data }], guard := none } :: { dst := some 112, op := Op.move (Operand.tmp 111), type := 4, pos := "law.go:316", after := #[{ on := 5, ground := Ground.data }], guard := none } :: { dst := some 113, op := Op.move (Operand.tmp 9), type := 4, pos := "law.go:316", after := #[{ on := 6, ground := Ground.guard }], guard := some (6, true) } :: { dst := some 114, op := Op.unOp UnOp.not 4 (Operand.tmp 113), type := 4, pos := "law.go:316", after := #[{ on := 7, ground := Ground.data }, { on := 6, ground := Ground.guard }], guard := some (6, true) } :: { dst := some 115, op := Op.pick (Operand.tmp 112) (Operand.tmp 114) (Operand.const (Value.bool false)), type := 4, pos := "law.go:316", after := #[{ on := 6, ground := Ground.data }, { on := 8, ground := Ground.data }], guard := none } :: { dst := some 116, op := Op.move (Operand.tmp 115), type := 4, pos := "law.go:316", after := #[{ on := 9, ground := Ground.data }, { on := 6, ground := Ground.chain }], guard := none } :: { dst := some 117, op := Op.move (Operand.tmp 9), type := 4, pos := "law.go:316", after := #[{ on := 10, ground := Ground.guard }], guard := some (10, false) } :: { dst := some 118, op := Op.move (Operand.tmp 117), type := 4, pos := "law.go:316", after := #[{ on := 11, ground := Ground.data }, { on := 10, ground := Ground.chain }, { on := 10, ground := Ground.guard }], guard := some (10, false) } :: { dst := some 119, op := Op.move (Operand.tmp 8), type := 3, pos := "law.go:316", after := #[{ on := 12, ground := Ground.guard }], guard := some (12, true) } :: { dst := some 120, op := Op.move (Operand.tmp 5), type := 25, pos := "law.go:316", after := #[{ on := 12, ground := Ground.guard }], guard := some (12, true) } :: { dst := some 121, op := Op.move (Operand.tmp 7), type := 3, pos := "law.go:316", after := #[{ on := 12, ground := Ground.guard }], guard := some (12, true) } :: { dst := some 122, op := Op.indexAddr 25 (Operand.tmp 120) (Operand.tmp 121), type := 0, pos := "law.go:316", after := #[{ on := 14, ground := Ground.data }, { on := 15, ground := Ground.data }, { on := 12, ground := Ground.guard }], guard := some (12, true) } :: { dst := some 123, op := Op.load 3 (Operand.tmp 122), type := 3, pos := "law.go:316", after := #[{ on := 16, ground := Ground.data }, { on := 12, ground := Ground.guard }], guard := some (12, true) } :: { dst := some 124, op := Op.binOp BinOp.neq 3 (Operand.tmp 119) (Operand.tmp 123) 3, type := 4, pos := "law.go:316", after := #[{ on := 13, ground := Ground.data }, { on := 17, ground := Ground.data }, { on := 12, ground := Ground.guard }], guard := some (12, true) } :: { dst := some 125, op := Op.pick (Operand.tmp 118) (Operand.tmp 124) (Operand.const (Value.bool false)), type := 4, pos := "law.go:316", after := #[{ on := 12, ground := Ground.data }, { on := 18, ground := Ground.data }, { on := 10, ground := Ground.guard }], guard := some (10, false) } :: { dst := some 126, op := Op.move (Operand.tmp 125), type := 4, pos := "law.go:316", after := #[{ on := 19, ground := Ground.data }, { on := 12, ground := Ground.chain }, { on := 10, ground := Ground.guard }], guard := some (10, false) } :: { dst := some 127, op := Op.load 24 (Operand.tmp 2), type := 24, pos := "law.go:316", after := #[{ on := 20, ground := Ground.guard }], guard := some (20, true) } :: { dst := some 128, op := Op.move (Operand.tmp 8), type := 3, pos := "law.go:316", after := #[{ on := 20, ground := Ground.guard }], guard := some (20, true) } :: { dst := some 129, op := Op.call { callee := Callee.value (Operand.func 30), args := #[Operand.tmp 127, Operand.tmp 128], argTypes := #[24, 3] }, type := 24, pos := "law.go:316", after := #[{ on := 21, ground := Ground.data }, { on := 22, ground := Ground.data }, { on := 20, ground := Ground.chain }, { on := 20, ground := Ground.guard }], guard := some (20, true) } :: { dst := some 130, op := Op.move (Operand.tmp 1), type := 3, pos := "law.go:316", after := #[{ on := 20, ground := Ground.guard }], guard := some (20, true) } :: { dst := some 131, op := Op.move (Operand.tmp 5), type := 25, pos := "law.go:316", after := #[{ on := 20, ground := Ground.guard }], guard := some (20, true) } :: { dst := some 132, op := Op.move (Operand.tmp 7), type := 3, pos := "law.go:316", after := #[{ on := 20, ground := Ground.guard }], guard := some (20, true) } :: { dst := some 133, op := Op.indexAddr 25 (Operand.tmp 131) (Operand.tmp 132), type := 0, pos := "law.go:316", after := #[{ on := 25, ground := Ground.data }, { on := 26, ground := Ground.data }, { on := 20, ground := Ground.guard }], guard := some (20, true) } :: { dst := some 134, op := Op.load 3 (Operand.tmp 133), type := 3, pos := "law.go:316", after := #[{ on := 27, ground := Ground.data }, { on := 20, ground := Ground.guard }], guard := some (20, true) } :: { dst := some 135, op := Op.call { callee := Callee.value (Operand.func 23), args := #[Operand.tmp 129, Operand.tmp 130, Operand.tmp 134], argTypes := #[24, 3, 3] }, type := 4, pos := "law.go:316", after := #[{ on := 23, ground := Ground.data }, { on := 24, ground := Ground.data }, { on := 28, ground := Ground.data }, { on := 23, ground := Ground.chain }, { on := 20, ground := Ground.guard }], guard := some (20, true) } :: { dst := some 136, op := Op.pick (Operand.tmp 126) (Operand.tmp 135) (Operand.const (Value.bool false)), type := 4, pos := "law.go:316", after := #[{ on := 20, ground := Ground.data }, { on := 29, ground := Ground.data }, { on := 10, ground := Ground.guard }], guard := some (10, false) } :: { dst := some 137, op := Op.pick (Operand.tmp 116) (Operand.const (Value.bool true)) (Operand.tmp 136), type := 4, pos := "law.go:316", after := #[{ on := 10, ground := Ground.data }, { on := 30, ground := Ground.data }], guard := none } :: [])) true).wp Try.prog Q { tmps := List.toArray (t0 :: (.int .i64 (r : Nat)) :: (.pointer (some ⟨sz, 0, none⟩)) :: t3 :: t4 :: (.slice (some ⟨Y, oy, none⟩) N cy) :: t6 :: (.int .i64 (n : Nat)) :: (.int .i64 (d : Nat)) :: (.bool true) :: t10 :: t11 :: t12 :: t13 :: t14 :: t15 :: t16 :: t17 :: t18 :: t19 :: t20 :: t21 :: t22 :: t23 :: t24 :: t25 :: t26 :: t27 :: t28 :: t29 :: t30 :: t31 :: t32 :: t33 :: t34 :: t35 :: t36 :: t37 :: t38 :: t39 :: t40 :: t41 :: t42 :: t43 :: t44 :: t45 :: t46 :: t47 :: t48 :: t49 :: t50 :: t51 :: t52 :: t53 :: t54 :: t55 :: t56 :: t57 :: t58 :: t59 :: t60 :: t61 :: t62 :: t63 :: t64 :: t65 :: t66 :: t67 :: t68 :: t69 :: t70 :: t71 :: t72 :: t73 :: t74 :: t75 :: t76 :: t77 :: t78 :: t79 :: t80 :: t81 :: t82 :: t83 :: t84 :: t85 :: t86 :: t87 :: t88 :: t89 :: t90 :: t91 :: t92 :: t93 :: t94 :: t95 :: t96 :: t97 :: t98 :: t99 :: t100 :: t101 :: t102 :: t103 :: t104 :: t105 :: t106 :: t107 :: t108 :: t109 :: t110 :: t111 :: t112 :: t113 :: t114 :: t115 :: t116 :: t117 :: t118 :: t119 :: t120 :: t121 :: t122 :: t123 :: t124 :: t125 :: t126 :: t127 :: t128 :: t129 :: t130 :: t131 :: t132 :: t133 :: t134 :: t135 :: t136 :: t137 :: []), defers := [] } w := by
  have hH := hid h
  have SS := hid hS
  have WO := hid hW
  have WY := hid hY
  clear h hS hW hY
  refine wp_region_noPanic ?_
  refine wp_region_held_drew (S := (fun w' => w'.cell? ⟨Y, oy + n, none⟩ = some (.int .i64 (v : Nat)) ∧ w'.cell? ⟨sz, 0, none⟩ = some (.int .i64 (N : Nat)) ∧ w'.cell? ⟨sz, 1, none⟩ = some (.slice p m c))) (by kernel_rfl) ?_ (fun hHeld => ?_)
  · exact SS.out _ (drew_below _ 1)
  refine wpAnyH_take (i := 0) (oi := { dst := some 106, op := Op.move (Operand.tmp 8), type := 3, pos := "law.go:316", after := #[], guard := none }) (v := ?_) rfl (by kernel_rfl) (by kernel_rfl) (by kernel_rfl) (fun _ _ _ h => h) (Or.inl ⟨by rfl, ?_⟩) (by assumption) ?_
  rotate_left
  · intro w hSw
    try dsimp only at hSw
    go_simp
    try with_reducible rfl
  try simp only [Act.put, List.setIfInBounds_toArray, List.set_cons_zero, List.set_cons_succ]
  refine wpAnyH_take (i := 1) (oi := { dst := some 107, op := Op.move (Operand.tmp 5), type := 25, pos := "law.go:316", after := #[], guard := none }) (v := ?_) rfl (by kernel_rfl) (by kernel_rfl) (by kernel_rfl) (fun _ _ _ h => h) (Or.inl ⟨by rfl, ?_⟩) (by assumption) ?_
  rotate_left
  · intro w hSw
    try dsimp only at hSw
    go_simp
    try with_reducible rfl
  try simp only [Act.put, List.setIfInBounds_toArray, List.set_cons_zero, List.set_cons_succ]
  refine wpAnyH_take (i := 2) (oi := { dst := some 108, op := Op.move (Operand.tmp 7), type := 3, pos := "law.go:316", after := #[], guard := none }) (v := ?_) rfl (by kernel_rfl) (by kernel_rfl) (by kernel_rfl) (fun _ _ _ h => h) (Or.inl ⟨by rfl, ?_⟩) (by assumption) ?_
  rotate_left
  · intro w hSw
    try dsimp only at hSw
    go_simp
    try with_reducible rfl
  try simp only [Act.put, List.setIfInBounds_toArray, List.set_cons_zero, List.set_cons_succ]
  refine wpAnyH_take (i := 3) (oi := { dst := some 109, op := Op.indexAddr 25 (Operand.tmp 107) (Operand.tmp 108), type := 0, pos := "law.go:316", after := #[{ on := 1, ground := Ground.data }, { on := 2, ground := Ground.data }], guard := none }) (v := ?_) rfl (by kernel_rfl) (by kernel_rfl) (by kernel_rfl) (fun _ _ _ h => h) (Or.inl ⟨by rfl, ?_⟩) (by assumption) ?_
  rotate_left
  · intro w hSw
    try dsimp only at hSw
    go_simp
    try with_reducible rfl
  try simp only [Act.put, List.setIfInBounds_toArray, List.set_cons_zero, List.set_cons_succ]
  refine wpAnyH_take (i := 4) (oi := { dst := some 110, op := Op.load 3 (Operand.tmp 109), type := 3, pos := "law.go:316", after := #[{ on := 3, ground := Ground.data }], guard := none }) (v := ?_) rfl (by kernel_rfl) (by kernel_rfl) (by kernel_rfl) (fun _ _ _ h => h) (Or.inl ⟨by rfl, ?_⟩) (by assumption) ?_
  rotate_left
  · intro w hSw
    try dsimp only at hSw
    go_simp
    try with_reducible rfl
  try simp only [Act.put, List.setIfInBounds_toArray, List.set_cons_zero, List.set_cons_succ]
  refine wpAnyH_take (i := 5) (oi := { dst := some 111, op := Op.binOp BinOp.eql 3 (Operand.tmp 106) (Operand.tmp 110) 3, type := 4, pos := "law.go:316", after := #[{ on := 0, ground := Ground.data }, { on := 4, ground := Ground.data }], guard := none }) (v := ?_) rfl (by kernel_rfl) (by kernel_rfl) (by kernel_rfl) (fun _ _ _ h => h) (Or.inl ⟨by rfl, ?_⟩) (by assumption) ?_
  rotate_left
  · intro w hSw
    try dsimp only at hSw
    go_simp
    try with_reducible rfl
  try simp only [Act.put, List.setIfInBounds_toArray, List.set_cons_zero, List.set_cons_succ]
  refine wpAnyH_take (i := 6) (oi := { dst := some 112, op := Op.move (Operand.tmp 111), type := 4, pos := "law.go:316", after := #[{ on := 5, ground := Ground.data }], guard := none }) (v := ?_) rfl (by kernel_rfl) (by kernel_rfl) (by kernel_rfl) (fun _ _ _ h => h) (Or.inl ⟨by rfl, ?_⟩) (by assumption) ?_
  rotate_left
  · intro w hSw
    try dsimp only at hSw
    go_simp
    try with_reducible rfl
  try simp only [Act.put, List.setIfInBounds_toArray, List.set_cons_zero, List.set_cons_succ]
  refine wpAnyH_take (i := 7) (oi := { dst := some 113, op := Op.move (Operand.tmp 9), type := 4, pos := "law.go:316", after := #[{ on := 6, ground := Ground.guard }], guard := some (6, true) }) (v := undef) rfl (by kernel_rfl) (by kernel_rfl) (by kernel_rfl) (fun _ _ _ h => h) (Or.inr ⟨by rfl, rfl⟩) (by assumption) ?_
  try simp only [Act.put, List.setIfInBounds_toArray, List.set_cons_zero, List.set_cons_succ]
  refine wpAnyH_take (i := 8) (oi := { dst := some 114, op := Op.unOp UnOp.not 4 (Operand.tmp 113), type := 4, pos := "law.go:316", after := #[{ on := 7, ground := Ground.data }, { on := 6, ground := Ground.guard }], guard := some (6, true) }) (v := undef) rfl (by kernel_rfl) (by kernel_rfl) (by kernel_rfl) (fun _ _ _ h => h) (Or.inr ⟨by rfl, rfl⟩) (by assumption) ?_
  try simp only [Act.put, List.setIfInBounds_toArray, List.set_cons_zero, List.set_cons_succ]
  refine wpAnyH_take (i := 9) (oi := { dst := some 115, op := Op.pick (Operand.tmp 112) (Operand.tmp 114) (Operand.const (Value.bool false)), type := 4, pos := "law.go:316", after := #[{ on := 6, ground := Ground.data }, { on := 8, ground := Ground.data }], guard := none }) (v := ?_) rfl (by kernel_rfl) (by kernel_rfl) (by kernel_rfl) (fun _ _ _ h => h) (Or.inl ⟨by rfl, ?_⟩) (by assumption) ?_
  rotate_left
  · intro w hSw
    try dsimp only at hSw
    go_simp
    try with_reducible rfl
  try simp only [Act.put, List.setIfInBounds_toArray, List.set_cons_zero, List.set_cons_succ]
  refine wpAnyH_take (i := 10) (oi := { dst := some 116, op := Op.move (Operand.tmp 115), type := 4, pos := "law.go:316", after := #[{ on := 9, ground := Ground.data }, { on := 6, ground := Ground.chain }], guard := none }) (v := ?_) rfl (by kernel_rfl) (by kernel_rfl) (by kernel_rfl) (fun _ _ _ h => h) (Or.inl ⟨by rfl, ?_⟩) (by assumption) ?_
  rotate_left
  · intro w hSw
    try dsimp only at hSw
    go_simp
    try with_reducible rfl
  try simp only [Act.put, List.setIfInBounds_toArray, List.set_cons_zero, List.set_cons_succ]
  refine wpAnyH_take (i := 11) (oi := { dst := some 117, op := Op.move (Operand.tmp 9), type := 4, pos := "law.go:316", after := #[{ on := 10, ground := Ground.guard }], guard := some (10, false) }) (v := ?_) rfl (by kernel_rfl) (by kernel_rfl) (by kernel_rfl) (fun _ _ _ h => h) (Or.inl ⟨by rfl, ?_⟩) (by assumption) ?_
  rotate_left
  · intro w hSw
    try dsimp only at hSw
    go_simp
    try with_reducible rfl
  try simp only [Act.put, List.setIfInBounds_toArray, List.set_cons_zero, List.set_cons_succ]
  refine wpAnyH_take (i := 12) (oi := { dst := some 118, op := Op.move (Operand.tmp 117), type := 4, pos := "law.go:316", after := #[{ on := 11, ground := Ground.data }, { on := 10, ground := Ground.chain }, { on := 10, ground := Ground.guard }], guard := some (10, false) }) (v := ?_) rfl (by kernel_rfl) (by kernel_rfl) (by kernel_rfl) (fun _ _ _ h => h) (Or.inl ⟨by rfl, ?_⟩) (by assumption) ?_
  rotate_left
  · intro w hSw
    try dsimp only at hSw
    go_simp
    try with_reducible rfl
  try simp only [Act.put, List.setIfInBounds_toArray, List.set_cons_zero, List.set_cons_succ]
  refine wpAnyH_take (i := 13) (oi := { dst := some 119, op := Op.move (Operand.tmp 8), type := 3, pos := "law.go:316", after := #[{ on := 12, ground := Ground.guard }], guard := some (12, true) }) (v := ?_) rfl (by kernel_rfl) (by kernel_rfl) (by kernel_rfl) (fun _ _ _ h => h) (Or.inl ⟨by rfl, ?_⟩) (by assumption) ?_
  rotate_left
  · intro w hSw
    try dsimp only at hSw
    go_simp
    try with_reducible rfl
  try simp only [Act.put, List.setIfInBounds_toArray, List.set_cons_zero, List.set_cons_succ]
  refine wpAnyH_take (i := 14) (oi := { dst := some 120, op := Op.move (Operand.tmp 5), type := 25, pos := "law.go:316", after := #[{ on := 12, ground := Ground.guard }], guard := some (12, true) }) (v := ?_) rfl (by kernel_rfl) (by kernel_rfl) (by kernel_rfl) (fun _ _ _ h => h) (Or.inl ⟨by rfl, ?_⟩) (by assumption) ?_
  rotate_left
  · intro w hSw
    try dsimp only at hSw
    go_simp
    try with_reducible rfl
  try simp only [Act.put, List.setIfInBounds_toArray, List.set_cons_zero, List.set_cons_succ]
  refine wpAnyH_take (i := 15) (oi := { dst := some 121, op := Op.move (Operand.tmp 7), type := 3, pos := "law.go:316", after := #[{ on := 12, ground := Ground.guard }], guard := some (12, true) }) (v := ?_) rfl (by kernel_rfl) (by kernel_rfl) (by kernel_rfl) (fun _ _ _ h => h) (Or.inl ⟨by rfl, ?_⟩) (by assumption) ?_
  rotate_left
  · intro w hSw
    try dsimp only at hSw
    go_simp
    try with_reducible rfl
  try simp only [Act.put, List.setIfInBounds_toArray, List.set_cons_zero, List.set_cons_succ]
  refine wpAnyH_take (i := 16) (oi := { dst := some 122, op := Op.indexAddr 25 (Operand.tmp 120) (Operand.tmp 121), type := 0, pos := "law.go:316", after := #[{ on := 14, ground := Ground.data }, { on := 15, ground := Ground.data }, { on := 12, ground := Ground.guard }], guard := some (12, true) }) (v := ?_) rfl (by kernel_rfl) (by kernel_rfl) (by kernel_rfl) (fun _ _ _ h => h) (Or.inl ⟨by rfl, ?_⟩) (by assumption) ?_
  rotate_left
  · intro w hSw
    try dsimp only at hSw
    go_simp
    try with_reducible rfl
  try simp only [Act.put, List.setIfInBounds_toArray, List.set_cons_zero, List.set_cons_succ]
  refine wpAnyH_take (i := 17) (oi := { dst := some 123, op := Op.load 3 (Operand.tmp 122), type := 3, pos := "law.go:316", after := #[{ on := 16, ground := Ground.data }, { on := 12, ground := Ground.guard }], guard := some (12, true) }) (v := ?_) rfl (by kernel_rfl) (by kernel_rfl) (by kernel_rfl) (fun _ _ _ h => h) (Or.inl ⟨by rfl, ?_⟩) (by assumption) ?_
  rotate_left
  · intro w hSw
    try dsimp only at hSw
    go_simp
    try with_reducible rfl
  try simp only [Act.put, List.setIfInBounds_toArray, List.set_cons_zero, List.set_cons_succ]
  refine wpAnyH_take (i := 18) (oi := { dst := some 124, op := Op.binOp BinOp.neq 3 (Operand.tmp 119) (Operand.tmp 123) 3, type := 4, pos := "law.go:316", after := #[{ on := 13, ground := Ground.data }, { on := 17, ground := Ground.data }, { on := 12, ground := Ground.guard }], guard := some (12, true) }) (v := ?_) rfl (by kernel_rfl) (by kernel_rfl) (by kernel_rfl) (fun _ _ _ h => h) (Or.inl ⟨by rfl, ?_⟩) (by assumption) ?_
  rotate_left
  · intro w hSw
    try dsimp only at hSw
    go_simp
    try with_reducible rfl
  try simp only [Act.put, List.setIfInBounds_toArray, List.set_cons_zero, List.set_cons_succ]
  refine wpAnyH_take (i := 19) (oi := { dst := some 125, op := Op.pick (Operand.tmp 118) (Operand.tmp 124) (Operand.const (Value.bool false)), type := 4, pos := "law.go:316", after := #[{ on := 12, ground := Ground.data }, { on := 18, ground := Ground.data }, { on := 10, ground := Ground.guard }], guard := some (10, false) }) (v := ?_) rfl (by kernel_rfl) (by kernel_rfl) (by kernel_rfl) (fun _ _ _ h => h) (Or.inl ⟨by rfl, ?_⟩) (by assumption) ?_
  rotate_left
  · intro w hSw
    try dsimp only at hSw
    go_simp
    try with_reducible rfl
  try simp only [Act.put, List.setIfInBounds_toArray, List.set_cons_zero, List.set_cons_succ]
  refine wpAnyH_take (i := 20) (oi := { dst := some 126, op := Op.move (Operand.tmp 125), type := 4, pos := "law.go:316", after := #[{ on := 19, ground := Ground.data }, { on := 12, ground := Ground.chain }, { on := 10, ground := Ground.guard }], guard := some (10, false) }) (v := ?_) rfl (by kernel_rfl) (by kernel_rfl) (by kernel_rfl) (fun _ _ _ h => h) (Or.inl ⟨by rfl, ?_⟩) (by assumption) ?_
  rotate_left
  · intro w hSw
    try dsimp only at hSw
    go_simp
    try with_reducible rfl
  try simp only [Act.put, List.setIfInBounds_toArray, List.set_cons_zero, List.set_cons_succ]
  refine wpAnyH_take (i := 21) (oi := { dst := some 127, op := Op.load 24 (Operand.tmp 2), type := 24, pos := "law.go:316", after := #[{ on := 20, ground := Ground.guard }], guard := some (20, true) }) (v := ?_) rfl (by kernel_rfl) (by kernel_rfl) (by kernel_rfl) (fun _ _ _ h => h) (Or.inl ⟨by rfl, ?_⟩) (by assumption) ?_
  rotate_left
  · intro w hSw
    try dsimp only at hSw
    go_simp
    try with_reducible rfl
  try simp only [Act.put, List.setIfInBounds_toArray, List.set_cons_zero, List.set_cons_succ]
  refine wpAnyH_take (i := 22) (oi := { dst := some 128, op := Op.move (Operand.tmp 8), type := 3, pos := "law.go:316", after := #[{ on := 20, ground := Ground.guard }], guard := some (20, true) }) (v := ?_) rfl (by kernel_rfl) (by kernel_rfl) (by kernel_rfl) (fun _ _ _ h => h) (Or.inl ⟨by rfl, ?_⟩) (by assumption) ?_
  rotate_left
  · intro w hSw
    try dsimp only at hSw
    go_simp
    try with_reducible rfl
  try simp only [Act.put, List.setIfInBounds_toArray, List.set_cons_zero, List.set_cons_succ]
  refine wpAnyH_take (i := 24) (oi := { dst := some 130, op := Op.move (Operand.tmp 1), type := 3, pos := "law.go:316", after := #[{ on := 20, ground := Ground.guard }], guard := some (20, true) }) (v := ?_) rfl (by kernel_rfl) (by kernel_rfl) (by kernel_rfl) (fun _ _ _ h => h) (Or.inl ⟨by rfl, ?_⟩) (by assumption) ?_
  rotate_left
  · intro w hSw
    try dsimp only at hSw
    go_simp
    try with_reducible rfl
  try simp only [Act.put, List.setIfInBounds_toArray, List.set_cons_zero, List.set_cons_succ]
  refine wpAnyH_take (i := 25) (oi := { dst := some 131, op := Op.move (Operand.tmp 5), type := 25, pos := "law.go:316", after := #[{ on := 20, ground := Ground.guard }], guard := some (20, true) }) (v := ?_) rfl (by kernel_rfl) (by kernel_rfl) (by kernel_rfl) (fun _ _ _ h => h) (Or.inl ⟨by rfl, ?_⟩) (by assumption) ?_
  rotate_left
  · intro w hSw
    try dsimp only at hSw
    go_simp
    try with_reducible rfl
  try simp only [Act.put, List.setIfInBounds_toArray, List.set_cons_zero, List.set_cons_succ]
  refine wpAnyH_take (i := 26) (oi := { dst := some 132, op := Op.move (Operand.tmp 7), type := 3, pos := "law.go:316", after := #[{ on := 20, ground := Ground.guard }], guard := some (20, true) }) (v := ?_) rfl (by kernel_rfl) (by kernel_rfl) (by kernel_rfl) (fun _ _ _ h => h) (Or.inl ⟨by rfl, ?_⟩) (by assumption) ?_
  rotate_left
  · intro w hSw
    try dsimp only at hSw
    go_simp
    try with_reducible rfl
  try simp only [Act.put, List.setIfInBounds_toArray, List.set_cons_zero, List.set_cons_succ]
  refine wpAnyH_take (i := 27) (oi := { dst := some 133, op := Op.indexAddr 25 (Operand.tmp 131) (Operand.tmp 132), type := 0, pos := "law.go:316", after := #[{ on := 25, ground := Ground.data }, { on := 26, ground := Ground.data }, { on := 20, ground := Ground.guard }], guard := some (20, true) }) (v := ?_) rfl (by kernel_rfl) (by kernel_rfl) (by kernel_rfl) (fun _ _ _ h => h) (Or.inl ⟨by rfl, ?_⟩) (by assumption) ?_
  rotate_left
  · intro w hSw
    try dsimp only at hSw
    go_simp
    try with_reducible rfl
  try simp only [Act.put, List.setIfInBounds_toArray, List.set_cons_zero, List.set_cons_succ]
  refine wpAnyH_take (i := 28) (oi := { dst := some 134, op := Op.load 3 (Operand.tmp 133), type := 3, pos := "law.go:316", after := #[{ on := 27, ground := Ground.data }, { on := 20, ground := Ground.guard }], guard := some (20, true) }) (v := ?_) rfl (by kernel_rfl) (by kernel_rfl) (by kernel_rfl) (fun _ _ _ h => h) (Or.inl ⟨by rfl, ?_⟩) (by assumption) ?_
  rotate_left
  · intro w hSw
    try dsimp only at hSw
    go_simp
    try with_reducible rfl
  try simp only [Act.put, List.setIfInBounds_toArray, List.set_cons_zero, List.set_cons_succ]
  refine wpAnyH_ready (rs := [23]) (by kernel_rfl) (by simp) ?_
  refine AllReadyH.cons (o := { dst := some 129, op := Op.call { callee := Callee.value (Operand.func 30), args := #[Operand.tmp 127, Operand.tmp 128], argTypes := #[24, 3] }, type := 24, pos := "law.go:316", after := #[{ on := 21, ground := Ground.data }, { on := 22, ground := Ground.data }, { on := 20, ground := Ground.chain }, { on := 20, ground := Ground.guard }], guard := some (20, true) }) rfl (fun K hK => ?_) AllReadyH.nil
  go_simp
  go_at_call 30
  refine (WO.out _ (drew_below _ 1)).mono ?_
  rintro e w6 ⟨q6, c6, rfl, h6, b6⟩
  have G6 := hid h6
  have B6 : Hid (Below w.heap.size w w6) := bl3 (drew_below _ 1) b6
  clear h6 b6
  go_wp2_with fail
  refine hK.out _ _ ?_ (fun hHeld => ?_)
  · exact SS.out _ B6.out
  clear hK K
  try simp only [Act.put, List.setIfInBounds_toArray, List.set_cons_zero, List.set_cons_succ]
  refine wpAnyH_ready (rs := [29]) (by kernel_rfl) (by simp) ?_
  refine AllReadyH.cons (o := { dst := some 135, op := Op.call { callee := Callee.value (Operand.func 23), args := #[Operand.tmp 129, Operand.tmp 130, Operand.tmp 134], argTypes := #[24, 3, 3] }, type := 4, pos := "law.go:316", after := #[{ on := 23, ground := Ground.data }, { on := 24, ground := Ground.data }, { on := 28, ground := Ground.data }, { on := 23, ground := Ground.chain }, { on := 20, ground := Ground.guard }], guard := some (20, true) }) rfl (fun K hK => ?_) AllReadyH.nil
  go_simp
  go_at_call 23
  refine (WY.out _ _ _ G6.out).mono ?_
  rintro e w7 ⟨rfl, b7⟩
  have B7 : Hid (Below w.heap.size w w7) := bl3 B6.out b7
  clear b7
  go_wp2_with fail
  refine hK.out _ _ ?_ (fun hHeld => ?_)
  · exact SS.out _ B7.out
  clear hK K
  try simp only [Act.put, List.setIfInBounds_toArray, List.set_cons_zero, List.set_cons_succ]
  refine wpAnyH_take (i := 30) (oi := { dst := some 136, op := Op.pick (Operand.tmp 126) (Operand.tmp 135) (Operand.const (Value.bool false)), type := 4, pos := "law.go:316", after := #[{ on := 20, ground := Ground.data }, { on := 29, ground := Ground.data }, { on := 10, ground := Ground.guard }], guard := some (10, false) }) (v := ?_) rfl (by kernel_rfl) (by kernel_rfl) (by kernel_rfl) (fun _ _ _ h => h) (Or.inl ⟨by rfl, ?_⟩) (by assumption) ?_
  rotate_left
  · intro w hSw
    try dsimp only at hSw
    go_simp
    try with_reducible rfl
  try simp only [Act.put, List.setIfInBounds_toArray, List.set_cons_zero, List.set_cons_succ]
  refine wpAnyH_take (i := 31) (oi := { dst := some 137, op := Op.pick (Operand.tmp 116) (Operand.const (Value.bool true)) (Operand.tmp 136), type := 4, pos := "law.go:316", after := #[{ on := 10, ground := Ground.data }, { on := 30, ground := Ground.data }], guard := none }) (v := ?_) rfl (by kernel_rfl) (by kernel_rfl) (by kernel_rfl) (fun _ _ _ h => h) (Or.inl ⟨by rfl, ?_⟩) (by assumption) ?_
  rotate_left
  · intro w hSw
    try dsimp only at hSw
    go_simp
    try with_reducible rfl
  try simp only [Act.put, List.setIfInBounds_toArray, List.set_cons_zero, List.set_cons_succ]
  refine wpAnyH_done (by kernel_rfl) ?_ _
  refine NoPanic.normal ?_
  exact hH.out _ _ _ _ _ _ _ _ _ _ _ _ _ _ _ _ _ _ _ _ _ _ _ _ _ _ _ _ _ _ _ _ B7.out
end Go.Proofs.Ytghkhceplpjegaa
