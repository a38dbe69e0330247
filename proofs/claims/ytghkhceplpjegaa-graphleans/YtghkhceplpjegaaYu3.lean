/- Graph: the document's Gates: the second region that draws its order. -/
import Derived.Test.YtghkhceplpjegaaYu2
namespace Go.Proofs.Ytghkhceplpjegaa
open Go.RowKit

set_option maxRecDepth 100000 in
set_option maxHeartbeats 32000000 in
theorem dg31_0 {Q : Exit → Act → World → Prop} {N r k m bs bo bd bt : Nat} {a : Bool} {wr : World} {t0 t2 t3 t4 t5 t6 t11 t12 t13 t16 t17 t18 t19 t20 t21 t22 t23 t24 t25 t26 t27 t28 t29 t30 t31 t32 t33 t34 t35 t36 t37 t38 t39 t40 t41 t42 t43 t44 t45 t46 t47 t48 t49 t50 t51 t52 t53 t54 t55 t56 t57 t58 t59 t60 t61 t62 t63 t64 t65 t66 t67 t68 t69 t70 t71 t72 t73 t74 t75 t76 t77 t78 t79 t80 t81 t82 t83 t84 t85 t86 t87 t88 t89 t90 t91 t92 t93 t94 t95 t96 t97 t98 t99 t100 t101 t102 t103 t104 t105 t106 t107 t108 t109 t110 t111 t112 t113 t114 t115 t116 t117 t118 t119 t120 t121 t122 t123 t124 t125 t126 t127 t128 t129 t130 t131 t132 t133 t134 t135 t136 t137 t138 t139 t140 t141 t142 t143 t144 t145 t146 t147 t148 t149 t150 t151 t152 t153 t154 t155 t156 t157 t158 t159 t160 t161 t162 t163 t164 t165 t166 t167 t168 t169 t170 t171 t172 t173 t174 t175 t176 t177 t178 t179 t180 t181 t182 t183 t184 : Value} (_hm : (m : Int) < (N : Nat)) (_hk : (k : Int) < (N : Nat)) (c1 : ((m : Int) != (r : Nat)) = false) (z0 : wr.drew.cell? ⟨bs, m, none⟩ = some (.bool a))
    (h : ∀ (x140 x141 x142 x143 x144 x145 x146 x147 x148 x149 x150 x151 x152 x153 x154 x155 x156 x157 x158 x159 x160 x161 x162 x163 x164 x165 x166 x167 x168 x169 x170 x171 x172 x173 x174 x175 x176 x177 x178 : Value),  Q .normal { tmps := List.toArray (t0 :: (.int .i64 (r : Nat)) :: t2 :: t3 :: t4 :: t5 :: t6 :: (.slice (some ⟨bs, 0, none⟩) N N) :: (.slice (some ⟨bo, 0, none⟩) N N) :: (.slice (some ⟨bd, 0, none⟩) N N) :: (.slice (some ⟨bt, 0, none⟩) N N) :: t11 :: t12 :: t13 :: (.int .i64 (k : Nat)) :: (.int .i64 (m : Nat)) :: t16 :: t17 :: t18 :: t19 :: t20 :: t21 :: t22 :: t23 :: t24 :: t25 :: t26 :: t27 :: t28 :: t29 :: t30 :: t31 :: t32 :: t33 :: t34 :: t35 :: t36 :: t37 :: t38 :: t39 :: t40 :: t41 :: t42 :: t43 :: t44 :: t45 :: t46 :: t47 :: t48 :: t49 :: t50 :: t51 :: t52 :: t53 :: t54 :: t55 :: t56 :: t57 :: t58 :: t59 :: t60 :: t61 :: t62 :: t63 :: t64 :: t65 :: t66 :: t67 :: t68 :: t69 :: t70 :: t71 :: t72 :: t73 :: t74 :: t75 :: t76 :: t77 :: t78 :: t79 :: t80 :: t81 :: t82 :: t83 :: t84 :: t85 :: t86 :: t87 :: t88 :: t89 :: t90 :: t91 :: t92 :: t93 :: t94 :: t95 :: t96 :: t97 :: t98 :: t99 :: t100 :: t101 :: t102 :: t103 :: t104 :: t105 :: t106 :: t107 :: t108 :: t109 :: t110 :: t111 :: t112 :: t113 :: t114 :: t115 :: t116 :: t117 :: t118 :: t119 :: t120 :: t121 :: t122 :: t123 :: t124 :: t125 :: t126 :: t127 :: t128 :: t129 :: t130 :: t131 :: t132 :: t133 :: t134 :: t135 :: t136 :: t137 :: t138 :: t139 :: x140 :: x141 :: x142 :: x143 :: x144 :: x145 :: x146 :: x147 :: x148 :: x149 :: x150 :: x151 :: x152 :: x153 :: x154 :: x155 :: x156 :: x157 :: x158 :: x159 :: x160 :: x161 :: x162 :: x163 :: x164 :: x165 :: x166 :: x167 :: x168 :: x169 :: x170 :: x171 :: x172 :: x173 :: x174 :: x175 :: x176 :: x177 :: x178 :: (.bool false) :: t180 :: t181 :: t182 :: t183 :: t184 :: []), defers := [] } wr.drew) :
    (Code.region 31 (List.toArray ({ dst := some 140, op := Op.move (Operand.tmp 15), type := 3, pos := "ref.go:370", after := #[], guard := none } :: { dst := some 141, op := Op.move (Operand.tmp 1), type := 3, pos := "ref.go:370", after := #[], guard := none } :: { dst := some 142, op := Op.binOp BinOp.neq 3 (Operand.tmp 140) (Operand.tmp 141) 3, type := 4, pos := "ref.go:370", after := #[{ on := 0, ground := Ground.data }, { on := 1, ground := Ground.data }], guard := none } :: { dst := some 143, op := Op.move (Operand.tmp 142), type := 4, pos := "ref.go:370", after := #[{ on := 2, ground := Ground.data }], guard := none } :: { dst := some 144, op := Op.move (Operand.tmp 7), type := 49, pos := "ref.go:370", after := #[{ on := 3, ground := Ground.guard }], guard := some (3, true) } :: { dst := some 145, op := Op.move (Operand.tmp 15), type := 3, pos := "ref.go:370", after := #[{ on := 3, ground := Ground.guard }], guard := some (3, true) } :: { dst := some 146, op := Op.indexAddr 49 (Operand.tmp 144) (Operand.tmp 145), type := 0, pos := "ref.go:370", after := #[{ on := 4, ground := Ground.data }, { on := 5, ground := Ground.data }, { on := 3, ground := Ground.guard }], guard := some (3, true) } :: { dst := some 147, op := Op.load 4 (Operand.tmp 146), type := 4, pos := "ref.go:370", after := #[{ on := 6, ground := Ground.data }, { on := 3, ground := Ground.guard }], guard := some (3, true) } :: { dst := some 148, op := Op.pick (Operand.tmp 143) (Operand.tmp 147) (Operand.const (Value.bool false)), type := 4, pos := "ref.go:370", after := #[{ on := 3, ground := Ground.data }, { on := 7, ground := Ground.data }], guard := none } :: { dst := some 149, op := Op.move (Operand.tmp 148), type := 4, pos := "ref.go:370", after := #[{ on := 8, ground := Ground.data }, { on := 3, ground := Ground.chain }], guard := none } :: { dst := some 150, op := Op.move (Operand.tmp 10), type := 73, pos := "ref.go:370", after := #[{ on := 9, ground := Ground.guard }], guard := some (9, true) } :: { dst := some 151, op := Op.move (Operand.tmp 15), type := 3, pos := "ref.go:370", after := #[{ on := 9, ground := Ground.guard }], guard := some (9, true) } :: { dst := some 152, op := Op.indexAddr 73 (Operand.tmp 150) (Operand.tmp 151), type := 0, pos := "ref.go:370", after := #[{ on := 10, ground := Ground.data }, { on := 11, ground := Ground.data }, { on := 9, ground := Ground.guard }], guard := some (9, true) } :: { dst := some 153, op := Op.load 49 (Operand.tmp 152), type := 49, pos := "ref.go:370", after := #[{ on := 12, ground := Ground.data }, { on := 9, ground := Ground.guard }], guard := some (9, true) } :: { dst := some 154, op := Op.move (Operand.tmp 14), type := 3, pos := "ref.go:370", after := #[{ on := 9, ground := Ground.guard }], guard := some (9, true) } :: { dst := some 155, op := Op.indexAddr 49 (Operand.tmp 153) (Operand.tmp 154), type := 0, pos := "ref.go:370", after := #[{ on := 13, ground := Ground.data }, { on := 14, ground := Ground.data }, { on := 9, ground := Ground.guard }], guard := some (9, true) } :: { dst := some 156, op := Op.load 4 (Operand.tmp 155), type := 4, pos := "ref.go:370", after := #[{ on := 15, ground := Ground.data }, { on := 9, ground := Ground.guard }], guard := some (9, true) } :: { dst := some 157, op := Op.pick (Operand.tmp 149) (Operand.tmp 156) (Operand.const (Value.bool false)), type := 4, pos := "ref.go:370", after := #[{ on := 9, ground := Ground.data }, { on := 16, ground := Ground.data }], guard := none } :: { dst := some 158, op := Op.move (Operand.tmp 157), type := 4, pos := "ref.go:370", after := #[{ on := 17, ground := Ground.data }, { on := 9, ground := Ground.chain }], guard := none } :: { dst := some 159, op := Op.move (Operand.tmp 8), type := 25, pos := "ref.go:370", after := #[{ on := 18, ground := Ground.guard }], guard := some (18, true) } :: { dst := some 160, op := Op.move (Operand.tmp 14), type := 3, pos := "ref.go:370", after := #[{ on := 18, ground := Ground.guard }], guard := some (18, true) } :: { dst := some 161, op := Op.indexAddr 25 (Operand.tmp 159) (Operand.tmp 160), type := 0, pos := "ref.go:370", after := #[{ on := 19, ground := Ground.data }, { on := 20, ground := Ground.data }, { on := 18, ground := Ground.guard }], guard := some (18, true) } :: { dst := some 162, op := Op.load 3 (Operand.tmp 161), type := 3, pos := "ref.go:370", after := #[{ on := 21, ground := Ground.data }, { on := 18, ground := Ground.guard }], guard := some (18, true) } :: { dst := some 163, op := Op.move (Operand.tmp 1), type := 3, pos := "ref.go:370", after := #[{ on := 18, ground := Ground.guard }], guard := some (18, true) } :: { dst := some 164, op := Op.binOp BinOp.eql 3 (Operand.tmp 162) (Operand.tmp 163) 3, type := 4, pos := "ref.go:370", after := #[{ on := 22, ground := Ground.data }, { on := 23, ground := Ground.data }, { on := 18, ground := Ground.guard }], guard := some (18, true) } :: { dst := some 165, op := Op.move (Operand.tmp 164), type := 4, pos := "ref.go:370", after := #[{ on := 24, ground := Ground.data }, { on := 18, ground := Ground.chain }, { on := 18, ground := Ground.guard }], guard := some (18, true) } :: { dst := some 166, op := Op.move (Operand.tmp 9), type := 25, pos := "ref.go:370", after := #[{ on := 25, ground := Ground.guard }], guard := some (25, false) } :: { dst := some 167, op := Op.move (Operand.tmp 15), type := 3, pos := "ref.go:370", after := #[{ on := 25, ground := Ground.guard }], guard := some (25, false) } :: { dst := some 168, op := Op.indexAddr 25 (Operand.tmp 166) (Operand.tmp 167), type := 0, pos := "ref.go:370", after := #[{ on := 26, ground := Ground.data }, { on := 27, ground := Ground.data }, { on := 25, ground := Ground.guard }], guard := some (25, false) } :: { dst := some 169, op := Op.load 3 (Operand.tmp 168), type := 3, pos := "ref.go:370", after := #[{ on := 28, ground := Ground.data }, { on := 25, ground := Ground.guard }], guard := some (25, false) } :: { dst := some 170, op := Op.move (Operand.tmp 9), type := 25, pos := "ref.go:370", after := #[{ on := 25, ground := Ground.guard }], guard := some (25, false) } :: { dst := some 171, op := Op.move (Operand.tmp 8), type := 25, pos := "ref.go:370", after := #[{ on := 25, ground := Ground.guard }], guard := some (25, false) } :: { dst := some 172, op := Op.move (Operand.tmp 14), type := 3, pos := "ref.go:370", after := #[{ on := 25, ground := Ground.guard }], guard := some (25, false) } :: { dst := some 173, op := Op.indexAddr 25 (Operand.tmp 171) (Operand.tmp 172), type := 0, pos := "ref.go:370", after := #[{ on := 31, ground := Ground.data }, { on := 32, ground := Ground.data }, { on := 25, ground := Ground.guard }], guard := some (25, false) } :: { dst := some 174, op := Op.load 3 (Operand.tmp 173), type := 3, pos := "ref.go:370", after := #[{ on := 33, ground := Ground.data }, { on := 25, ground := Ground.guard }], guard := some (25, false) } :: { dst := some 175, op := Op.indexAddr 25 (Operand.tmp 170) (Operand.tmp 174), type := 0, pos := "ref.go:370", after := #[{ on := 30, ground := Ground.data }, { on := 34, ground := Ground.data }, { on := 25, ground := Ground.guard }], guard := some (25, false) } :: { dst := some 176, op := Op.load 3 (Operand.tmp 175), type := 3, pos := "ref.go:370", after := #[{ on := 35, ground := Ground.data }, { on := 25, ground := Ground.guard }], guard := some (25, false) } :: { dst := some 177, op := Op.binOp BinOp.gtr 3 (Operand.tmp 169) (Operand.tmp 176) 3, type := 4, pos := "ref.go:370", after := #[{ on := 29, ground := Ground.data }, { on := 36, ground := Ground.data }, { on := 25, ground := Ground.guard }], guard := some (25, false) } :: { dst := some 178, op := Op.pick (Operand.tmp 165) (Operand.const (Value.bool true)) (Operand.tmp 177), type := 4, pos := "ref.go:370", after := #[{ on := 25, ground := Ground.data }, { on := 37, ground := Ground.data }, { on := 18, ground := Ground.guard }], guard := some (18, true) } :: { dst := some 179, op := Op.pick (Operand.tmp 158) (Operand.tmp 178) (Operand.const (Value.bool false)), type := 4, pos := "ref.go:370", after := #[{ on := 18, ground := Ground.data }, { on := 38, ground := Ground.data }], guard := none } :: [])) true).wp Try.prog Q { tmps := List.toArray (t0 :: (.int .i64 (r : Nat)) :: t2 :: t3 :: t4 :: t5 :: t6 :: (.slice (some ⟨bs, 0, none⟩) N N) :: (.slice (some ⟨bo, 0, none⟩) N N) :: (.slice (some ⟨bd, 0, none⟩) N N) :: (.slice (some ⟨bt, 0, none⟩) N N) :: t11 :: t12 :: t13 :: (.int .i64 (k : Nat)) :: (.int .i64 (m : Nat)) :: t16 :: t17 :: t18 :: t19 :: t20 :: t21 :: t22 :: t23 :: t24 :: t25 :: t26 :: t27 :: t28 :: t29 :: t30 :: t31 :: t32 :: t33 :: t34 :: t35 :: t36 :: t37 :: t38 :: t39 :: t40 :: t41 :: t42 :: t43 :: t44 :: t45 :: t46 :: t47 :: t48 :: t49 :: t50 :: t51 :: t52 :: t53 :: t54 :: t55 :: t56 :: t57 :: t58 :: t59 :: t60 :: t61 :: t62 :: t63 :: t64 :: t65 :: t66 :: t67 :: t68 :: t69 :: t70 :: t71 :: t72 :: t73 :: t74 :: t75 :: t76 :: t77 :: t78 :: t79 :: t80 :: t81 :: t82 :: t83 :: t84 :: t85 :: t86 :: t87 :: t88 :: t89 :: t90 :: t91 :: t92 :: t93 :: t94 :: t95 :: t96 :: t97 :: t98 :: t99 :: t100 :: t101 :: t102 :: t103 :: t104 :: t105 :: t106 :: t107 :: t108 :: t109 :: t110 :: t111 :: t112 :: t113 :: t114 :: t115 :: t116 :: t117 :: t118 :: t119 :: t120 :: t121 :: t122 :: t123 :: t124 :: t125 :: t126 :: t127 :: t128 :: t129 :: t130 :: t131 :: t132 :: t133 :: t134 :: t135 :: t136 :: t137 :: t138 :: t139 :: t140 :: t141 :: t142 :: t143 :: t144 :: t145 :: t146 :: t147 :: t148 :: t149 :: t150 :: t151 :: t152 :: t153 :: t154 :: t155 :: t156 :: t157 :: t158 :: t159 :: t160 :: t161 :: t162 :: t163 :: t164 :: t165 :: t166 :: t167 :: t168 :: t169 :: t170 :: t171 :: t172 :: t173 :: t174 :: t175 :: t176 :: t177 :: t178 :: t179 :: t180 :: t181 :: t182 :: t183 :: t184 :: []), defers := [] } wr := by
  have hH := hid h
  clear h
  refine wp_region_noPanic ?_
  refine wp_region_held_drew (S := (fun w' => w'.cell? ⟨bs, m, none⟩ = some (.bool a))) (by kernel_rfl) ?_ (fun hHeld => ?_)
  · exact z0
  refine wpAnyH_take (i := 0) (oi := { dst := some 140, op := Op.move (Operand.tmp 15), type := 3, pos := "ref.go:370", after := #[], guard := none }) (v := ?_) rfl (by kernel_rfl) (by kernel_rfl) (by kernel_rfl) (fun _ _ _ h => h) (Or.inl ⟨by rfl, ?_⟩) (by assumption) ?_
  rotate_left
  · intro w hSw
    try dsimp only at hSw
    go_simp
    try with_reducible rfl
  try simp only [Act.put, List.setIfInBounds_toArray, List.set_cons_zero, List.set_cons_succ]
  refine wpAnyH_take (i := 1) (oi := { dst := some 141, op := Op.move (Operand.tmp 1), type := 3, pos := "ref.go:370", after := #[], guard := none }) (v := ?_) rfl (by kernel_rfl) (by kernel_rfl) (by kernel_rfl) (fun _ _ _ h => h) (Or.inl ⟨by rfl, ?_⟩) (by assumption) ?_
  rotate_left
  · intro w hSw
    try dsimp only at hSw
    go_simp
    try with_reducible rfl
  try simp only [Act.put, List.setIfInBounds_toArray, List.set_cons_zero, List.set_cons_succ]
  refine wpAnyH_take (i := 2) (oi := { dst := some 142, op := Op.binOp BinOp.neq 3 (Operand.tmp 140) (Operand.tmp 141) 3, type := 4, pos := "ref.go:370", after := #[{ on := 0, ground := Ground.data }, { on := 1, ground := Ground.data }], guard := none }) (v := ?_) rfl (by kernel_rfl) (by kernel_rfl) (by kernel_rfl) (fun _ _ _ h => h) (Or.inl ⟨by rfl, ?_⟩) (by assumption) ?_
  rotate_left
  · intro w hSw
    try dsimp only at hSw
    go_simp
    try with_reducible rfl
  try simp only [Act.put, List.setIfInBounds_toArray, List.set_cons_zero, List.set_cons_succ]
  refine wpAnyH_take (i := 3) (oi := { dst := some 143, op := Op.move (Operand.tmp 142), type := 4, pos := "ref.go:370", after := #[{ on := 2, ground := Ground.data }], guard := none }) (v := ?_) rfl (by kernel_rfl) (by kernel_rfl) (by kernel_rfl) (fun _ _ _ h => h) (Or.inl ⟨by rfl, ?_⟩) (by assumption) ?_
  rotate_left
  · intro w hSw
    try dsimp only at hSw
    go_simp
    try with_reducible rfl
  try simp only [Act.put, List.setIfInBounds_toArray, List.set_cons_zero, List.set_cons_succ]
  refine wpAnyH_take (i := 4) (oi := { dst := some 144, op := Op.move (Operand.tmp 7), type := 49, pos := "ref.go:370", after := #[{ on := 3, ground := Ground.guard }], guard := some (3, true) }) (v := undef) rfl (by kernel_rfl) (by kernel_rfl) (by kernel_rfl) (fun _ _ _ h => h) (Or.inr ⟨by rfl, rfl⟩) (by assumption) ?_
  try simp only [Act.put, List.setIfInBounds_toArray, List.set_cons_zero, List.set_cons_succ]
  refine wpAnyH_take (i := 5) (oi := { dst := some 145, op := Op.move (Operand.tmp 15), type := 3, pos := "ref.go:370", after := #[{ on := 3, ground := Ground.guard }], guard := some (3, true) }) (v := undef) rfl (by kernel_rfl) (by kernel_rfl) (by kernel_rfl) (fun _ _ _ h => h) (Or.inr ⟨by rfl, rfl⟩) (by assumption) ?_
  try simp only [Act.put, List.setIfInBounds_toArray, List.set_cons_zero, List.set_cons_succ]
  refine wpAnyH_take (i := 6) (oi := { dst := some 146, op := Op.indexAddr 49 (Operand.tmp 144) (Operand.tmp 145), type := 0, pos := "ref.go:370", after := #[{ on := 4, ground := Ground.data }, { on := 5, ground := Ground.data }, { on := 3, ground := Ground.guard }], guard := some (3, true) }) (v := undef) rfl (by kernel_rfl) (by kernel_rfl) (by kernel_rfl) (fun _ _ _ h => h) (Or.inr ⟨by rfl, rfl⟩) (by assumption) ?_
  try simp only [Act.put, List.setIfInBounds_toArray, List.set_cons_zero, List.set_cons_succ]
  refine wpAnyH_take (i := 7) (oi := { dst := some 147, op := Op.load 4 (Operand.tmp 146), type := 4, pos := "ref.go:370", after := #[{ on := 6, ground := Ground.data }, { on := 3, ground := Ground.guard }], guard := some (3, true) }) (v := undef) rfl (by kernel_rfl) (by kernel_rfl) (by kernel_rfl) (fun _ _ _ h => h) (Or.inr ⟨by rfl, rfl⟩) (by assumption) ?_
  try simp only [Act.put, List.setIfInBounds_toArray, List.set_cons_zero, List.set_cons_succ]
  refine wpAnyH_take (i := 8) (oi := { dst := some 148, op := Op.pick (Operand.tmp 143) (Operand.tmp 147) (Operand.const (Value.bool false)), type := 4, pos := "ref.go:370", after := #[{ on := 3, ground := Ground.data }, { on := 7, ground := Ground.data }], guard := none }) (v := ?_) rfl (by kernel_rfl) (by kernel_rfl) (by kernel_rfl) (fun _ _ _ h => h) (Or.inl ⟨by rfl, ?_⟩) (by assumption) ?_
  rotate_left
  · intro w hSw
    try dsimp only at hSw
    go_simp
    try with_reducible rfl
  try simp only [Act.put, List.setIfInBounds_toArray, List.set_cons_zero, List.set_cons_succ]
  refine wpAnyH_take (i := 9) (oi := { dst := some 149, op := Op.move (Operand.tmp 148), type := 4, pos := "ref.go:370", after := #[{ on := 8, ground := Ground.data }, { on := 3, ground := Ground.chain }], guard := none }) (v := ?_) rfl (by kernel_rfl) (by kernel_rfl) (by kernel_rfl) (fun _ _ _ h => h) (Or.inl ⟨by rfl, ?_⟩) (by assumption) ?_
  rotate_left
  · intro w hSw
    try dsimp only at hSw
    go_simp
    try with_reducible rfl
  try simp only [Act.put, List.setIfInBounds_toArray, List.set_cons_zero, List.set_cons_succ]
  refine wpAnyH_take (i := 10) (oi := { dst := some 150, op := Op.move (Operand.tmp 10), type := 73, pos := "ref.go:370", after := #[{ on := 9, ground := Ground.guard }], guard := some (9, true) }) (v := undef) rfl (by kernel_rfl) (by kernel_rfl) (by kernel_rfl) (fun _ _ _ h => h) (Or.inr ⟨by rfl, rfl⟩) (by assumption) ?_
  try simp only [Act.put, List.setIfInBounds_toArray, List.set_cons_zero, List.set_cons_succ]
  refine wpAnyH_take (i := 11) (oi := { dst := some 151, op := Op.move (Operand.tmp 15), type := 3, pos := "ref.go:370", after := #[{ on := 9, ground := Ground.guard }], guard := some (9, true) }) (v := undef) rfl (by kernel_rfl) (by kernel_rfl) (by kernel_rfl) (fun _ _ _ h => h) (Or.inr ⟨by rfl, rfl⟩) (by assumption) ?_
  try simp only [Act.put, List.setIfInBounds_toArray, List.set_cons_zero, List.set_cons_succ]
  refine wpAnyH_take (i := 12) (oi := { dst := some 152, op := Op.indexAddr 73 (Operand.tmp 150) (Operand.tmp 151), type := 0, pos := "ref.go:370", after := #[{ on := 10, ground := Ground.data }, { on := 11, ground := Ground.data }, { on := 9, ground := Ground.guard }], guard := some (9, true) }) (v := undef) rfl (by kernel_rfl) (by kernel_rfl) (by kernel_rfl) (fun _ _ _ h => h) (Or.inr ⟨by rfl, rfl⟩) (by assumption) ?_
  try simp only [Act.put, List.setIfInBounds_toArray, List.set_cons_zero, List.set_cons_succ]
  refine wpAnyH_take (i := 13) (oi := { dst := some 153, op := Op.load 49 (Operand.tmp 152), type := 49, pos := "ref.go:370", after := #[{ on := 12, ground := Ground.data }, { on := 9, ground := Ground.guard }], guard := some (9, true) }) (v := undef) rfl (by kernel_rfl) (by kernel_rfl) (by kernel_rfl) (fun _ _ _ h => h) (Or.inr ⟨by rfl, rfl⟩) (by assumption) ?_
  try simp only [Act.put, List.setIfInBounds_toArray, List.set_cons_zero, List.set_cons_succ]
  refine wpAnyH_take (i := 14) (oi := { dst := some 154, op := Op.move (Operand.tmp 14), type := 3, pos := "ref.go:370", after := #[{ on := 9, ground := Ground.guard }], guard := some (9, true) }) (v := undef) rfl (by kernel_rfl) (by kernel_rfl) (by kernel_rfl) (fun _ _ _ h => h) (Or.inr ⟨by rfl, rfl⟩) (by assumption) ?_
  try simp only [Act.put, List.setIfInBounds_toArray, List.set_cons_zero, List.set_cons_succ]
  refine wpAnyH_take (i := 15) (oi := { dst := some 155, op := Op.indexAddr 49 (Operand.tmp 153) (Operand.tmp 154), type := 0, pos := "ref.go:370", after := #[{ on := 13, ground := Ground.data }, { on := 14, ground := Ground.data }, { on := 9, ground := Ground.guard }], guard := some (9, true) }) (v := undef) rfl (by kernel_rfl) (by kernel_rfl) (by kernel_rfl) (fun _ _ _ h => h) (Or.inr ⟨by rfl, rfl⟩) (by assumption) ?_
  try simp only [Act.put, List.setIfInBounds_toArray, List.set_cons_zero, List.set_cons_succ]
  refine wpAnyH_take (i := 16) (oi := { dst := some 156, op := Op.load 4 (Operand.tmp 155), type := 4, pos := "ref.go:370", after := #[{ on := 15, ground := Ground.data }, { on := 9, ground := Ground.guard }], guard := some (9, true) }) (v := undef) rfl (by kernel_rfl) (by kernel_rfl) (by kernel_rfl) (fun _ _ _ h => h) (Or.inr ⟨by rfl, rfl⟩) (by assumption) ?_
  try simp only [Act.put, List.setIfInBounds_toArray, List.set_cons_zero, List.set_cons_succ]
  refine wpAnyH_take (i := 17) (oi := { dst := some 157, op := Op.pick (Operand.tmp 149) (Operand.tmp 156) (Operand.const (Value.bool false)), type := 4, pos := "ref.go:370", after := #[{ on := 9, ground := Ground.data }, { on := 16, ground := Ground.data }], guard := none }) (v := ?_) rfl (by kernel_rfl) (by kernel_rfl) (by kernel_rfl) (fun _ _ _ h => h) (Or.inl ⟨by rfl, ?_⟩) (by assumption) ?_
  rotate_left
  · intro w hSw
    try dsimp only at hSw
    go_simp
    try with_reducible rfl
  try simp only [Act.put, List.setIfInBounds_toArray, List.set_cons_zero, List.set_cons_succ]
  refine wpAnyH_take (i := 18) (oi := { dst := some 158, op := Op.move (Operand.tmp 157), type := 4, pos := "ref.go:370", after := #[{ on := 17, ground := Ground.data }, { on := 9, ground := Ground.chain }], guard := none }) (v := ?_) rfl (by kernel_rfl) (by kernel_rfl) (by kernel_rfl) (fun _ _ _ h => h) (Or.inl ⟨by rfl, ?_⟩) (by assumption) ?_
  rotate_left
  · intro w hSw
    try dsimp only at hSw
    go_simp
    try with_reducible rfl
  try simp only [Act.put, List.setIfInBounds_toArray, List.set_cons_zero, List.set_cons_succ]
  refine wpAnyH_take (i := 19) (oi := { dst := some 159, op := Op.move (Operand.tmp 8), type := 25, pos := "ref.go:370", after := #[{ on := 18, ground := Ground.guard }], guard := some (18, true) }) (v := undef) rfl (by kernel_rfl) (by kernel_rfl) (by kernel_rfl) (fun _ _ _ h => h) (Or.inr ⟨by rfl, rfl⟩) (by assumption) ?_
  try simp only [Act.put, List.setIfInBounds_toArray, List.set_cons_zero, List.set_cons_succ]
  refine wpAnyH_take (i := 20) (oi := { dst := some 160, op := Op.move (Operand.tmp 14), type := 3, pos := "ref.go:370", after := #[{ on := 18, ground := Ground.guard }], guard := some (18, true) }) (v := undef) rfl (by kernel_rfl) (by kernel_rfl) (by kernel_rfl) (fun _ _ _ h => h) (Or.inr ⟨by rfl, rfl⟩) (by assumption) ?_
  try simp only [Act.put, List.setIfInBounds_toArray, List.set_cons_zero, List.set_cons_succ]
  refine wpAnyH_take (i := 21) (oi := { dst := some 161, op := Op.indexAddr 25 (Operand.tmp 159) (Operand.tmp 160), type := 0, pos := "ref.go:370", after := #[{ on := 19, ground := Ground.data }, { on := 20, ground := Ground.data }, { on := 18, ground := Ground.guard }], guard := some (18, true) }) (v := undef) rfl (by kernel_rfl) (by kernel_rfl) (by kernel_rfl) (fun _ _ _ h => h) (Or.inr ⟨by rfl, rfl⟩) (by assumption) ?_
  try simp only [Act.put, List.setIfInBounds_toArray, List.set_cons_zero, List.set_cons_succ]
  refine wpAnyH_take (i := 22) (oi := { dst := some 162, op := Op.load 3 (Operand.tmp 161), type := 3, pos := "ref.go:370", after := #[{ on := 21, ground := Ground.data }, { on := 18, ground := Ground.guard }], guard := some (18, true) }) (v := undef) rfl (by kernel_rfl) (by kernel_rfl) (by kernel_rfl) (fun _ _ _ h => h) (Or.inr ⟨by rfl, rfl⟩) (by assumption) ?_
  try simp only [Act.put, List.setIfInBounds_toArray, List.set_cons_zero, List.set_cons_succ]
  refine wpAnyH_take (i := 23) (oi := { dst := some 163, op := Op.move (Operand.tmp 1), type := 3, pos := "ref.go:370", after := #[{ on := 18, ground := Ground.guard }], guard := some (18, true) }) (v := undef) rfl (by kernel_rfl) (by kernel_rfl) (by kernel_rfl) (fun _ _ _ h => h) (Or.inr ⟨by rfl, rfl⟩) (by assumption) ?_
  try simp only [Act.put, List.setIfInBounds_toArray, List.set_cons_zero, List.set_cons_succ]
  refine wpAnyH_take (i := 24) (oi := { dst := some 164, op := Op.binOp BinOp.eql 3 (Operand.tmp 162) (Operand.tmp 163) 3, type := 4, pos := "ref.go:370", after := #[{ on := 22, ground := Ground.data }, { on := 23, ground := Ground.data }, { on := 18, ground := Ground.guard }], guard := some (18, true) }) (v := undef) rfl (by kernel_rfl) (by kernel_rfl) (by kernel_rfl) (fun _ _ _ h => h) (Or.inr ⟨by rfl, rfl⟩) (by assumption) ?_
  try simp only [Act.put, List.setIfInBounds_toArray, List.set_cons_zero, List.set_cons_succ]
  refine wpAnyH_take (i := 25) (oi := { dst := some 165, op := Op.move (Operand.tmp 164), type := 4, pos := "ref.go:370", after := #[{ on := 24, ground := Ground.data }, { on := 18, ground := Ground.chain }, { on := 18, ground := Ground.guard }], guard := some (18, true) }) (v := undef) rfl (by kernel_rfl) (by kernel_rfl) (by kernel_rfl) (fun _ _ _ h => h) (Or.inr ⟨by rfl, rfl⟩) (by assumption) ?_
  try simp only [Act.put, List.setIfInBounds_toArray, List.set_cons_zero, List.set_cons_succ]
  refine wpAnyH_take (i := 26) (oi := { dst := some 166, op := Op.move (Operand.tmp 9), type := 25, pos := "ref.go:370", after := #[{ on := 25, ground := Ground.guard }], guard := some (25, false) }) (v := undef) rfl (by kernel_rfl) (by kernel_rfl) (by kernel_rfl) (fun _ _ _ h => h) (Or.inr ⟨by rfl, rfl⟩) (by assumption) ?_
  try simp only [Act.put, List.setIfInBounds_toArray, List.set_cons_zero, List.set_cons_succ]
  refine wpAnyH_take (i := 27) (oi := { dst := some 167, op := Op.move (Operand.tmp 15), type := 3, pos := "ref.go:370", after := #[{ on := 25, ground := Ground.guard }], guard := some (25, false) }) (v := undef) rfl (by kernel_rfl) (by kernel_rfl) (by kernel_rfl) (fun _ _ _ h => h) (Or.inr ⟨by rfl, rfl⟩) (by assumption) ?_
  try simp only [Act.put, List.setIfInBounds_toArray, List.set_cons_zero, List.set_cons_succ]
  refine wpAnyH_take (i := 28) (oi := { dst := some 168, op := Op.indexAddr 25 (Operand.tmp 166) (Operand.tmp 167), type := 0, pos := "ref.go:370", after := #[{ on := 26, ground := Ground.data }, { on := 27, ground := Ground.data }, { on := 25, ground := Ground.guard }], guard := some (25, false) }) (v := undef) rfl (by kernel_rfl) (by kernel_rfl) (by kernel_rfl) (fun _ _ _ h => h) (Or.inr ⟨by rfl, rfl⟩) (by assumption) ?_
  try simp only [Act.put, List.setIfInBounds_toArray, List.set_cons_zero, List.set_cons_succ]
  refine wpAnyH_take (i := 29) (oi := { dst := some 169, op := Op.load 3 (Operand.tmp 168), type := 3, pos := "ref.go:370", after := #[{ on := 28, ground := Ground.data }, { on := 25, ground := Ground.guard }], guard := some (25, false) }) (v := undef) rfl (by kernel_rfl) (by kernel_rfl) (by kernel_rfl) (fun _ _ _ h => h) (Or.inr ⟨by rfl, rfl⟩) (by assumption) ?_
  try simp only [Act.put, List.setIfInBounds_toArray, List.set_cons_zero, List.set_cons_succ]
  refine wpAnyH_take (i := 30) (oi := { dst := some 170, op := Op.move (Operand.tmp 9), type := 25, pos := "ref.go:370", after := #[{ on := 25, ground := Ground.guard }], guard := some (25, false) }) (v := undef) rfl (by kernel_rfl) (by kernel_rfl) (by kernel_rfl) (fun _ _ _ h => h) (Or.inr ⟨by rfl, rfl⟩) (by assumption) ?_
  try simp only [Act.put, List.setIfInBounds_toArray, List.set_cons_zero, List.set_cons_succ]
  refine wpAnyH_take (i := 31) (oi := { dst := some 171, op := Op.move (Operand.tmp 8), type := 25, pos := "ref.go:370", after := #[{ on := 25, ground := Ground.guard }], guard := some (25, false) }) (v := undef) rfl (by kernel_rfl) (by kernel_rfl) (by kernel_rfl) (fun _ _ _ h => h) (Or.inr ⟨by rfl, rfl⟩) (by assumption) ?_
  try simp only [Act.put, List.setIfInBounds_toArray, List.set_cons_zero, List.set_cons_succ]
  refine wpAnyH_take (i := 32) (oi := { dst := some 172, op := Op.move (Operand.tmp 14), type := 3, pos := "ref.go:370", after := #[{ on := 25, ground := Ground.guard }], guard := some (25, false) }) (v := undef) rfl (by kernel_rfl) (by kernel_rfl) (by kernel_rfl) (fun _ _ _ h => h) (Or.inr ⟨by rfl, rfl⟩) (by assumption) ?_
  try simp only [Act.put, List.setIfInBounds_toArray, List.set_cons_zero, List.set_cons_succ]
  refine wpAnyH_take (i := 33) (oi := { dst := some 173, op := Op.indexAddr 25 (Operand.tmp 171) (Operand.tmp 172), type := 0, pos := "ref.go:370", after := #[{ on := 31, ground := Ground.data }, { on := 32, ground := Ground.data }, { on := 25, ground := Ground.guard }], guard := some (25, false) }) (v := undef) rfl (by kernel_rfl) (by kernel_rfl) (by kernel_rfl) (fun _ _ _ h => h) (Or.inr ⟨by rfl, rfl⟩) (by assumption) ?_
  try simp only [Act.put, List.setIfInBounds_toArray, List.set_cons_zero, List.set_cons_succ]
  refine wpAnyH_take (i := 34) (oi := { dst := some 174, op := Op.load 3 (Operand.tmp 173), type := 3, pos := "ref.go:370", after := #[{ on := 33, ground := Ground.data }, { on := 25, ground := Ground.guard }], guard := some (25, false) }) (v := undef) rfl (by kernel_rfl) (by kernel_rfl) (by kernel_rfl) (fun _ _ _ h => h) (Or.inr ⟨by rfl, rfl⟩) (by assumption) ?_
  try simp only [Act.put, List.setIfInBounds_toArray, List.set_cons_zero, List.set_cons_succ]
  refine wpAnyH_take (i := 35) (oi := { dst := some 175, op := Op.indexAddr 25 (Operand.tmp 170) (Operand.tmp 174), type := 0, pos := "ref.go:370", after := #[{ on := 30, ground := Ground.data }, { on := 34, ground := Ground.data }, { on := 25, ground := Ground.guard }], guard := some (25, false) }) (v := undef) rfl (by kernel_rfl) (by kernel_rfl) (by kernel_rfl) (fun _ _ _ h => h) (Or.inr ⟨by rfl, rfl⟩) (by assumption) ?_
  try simp only [Act.put, List.setIfInBounds_toArray, List.set_cons_zero, List.set_cons_succ]
  refine wpAnyH_take (i := 36) (oi := { dst := some 176, op := Op.load 3 (Operand.tmp 175), type := 3, pos := "ref.go:370", after := #[{ on := 35, ground := Ground.data }, { on := 25, ground := Ground.guard }], guard := some (25, false) }) (v := undef) rfl (by kernel_rfl) (by kernel_rfl) (by kernel_rfl) (fun _ _ _ h => h) (Or.inr ⟨by rfl, rfl⟩) (by assumption) ?_
  try simp only [Act.put, List.setIfInBounds_toArray, List.set_cons_zero, List.set_cons_succ]
  refine wpAnyH_take (i := 37) (oi := { dst := some 177, op := Op.binOp BinOp.gtr 3 (Operand.tmp 169) (Operand.tmp 176) 3, type := 4, pos := "ref.go:370", after := #[{ on := 29, ground := Ground.data }, { on := 36, ground := Ground.data }, { on := 25, ground := Ground.guard }], guard := some (25, false) }) (v := undef) rfl (by kernel_rfl) (by kernel_rfl) (by kernel_rfl) (fun _ _ _ h => h) (Or.inr ⟨by rfl, rfl⟩) (by assumption) ?_
  try simp only [Act.put, List.setIfInBounds_toArray, List.set_cons_zero, List.set_cons_succ]
  refine wpAnyH_take (i := 38) (oi := { dst := some 178, op := Op.pick (Operand.tmp 165) (Operand.const (Value.bool true)) (Operand.tmp 177), type := 4, pos := "ref.go:370", after := #[{ on := 25, ground := Ground.data }, { on := 37, ground := Ground.data }, { on := 18, ground := Ground.guard }], guard := some (18, true) }) (v := undef) rfl (by kernel_rfl) (by kernel_rfl) (by kernel_rfl) (fun _ _ _ h => h) (Or.inr ⟨by rfl, rfl⟩) (by assumption) ?_
  try simp only [Act.put, List.setIfInBounds_toArray, List.set_cons_zero, List.set_cons_succ]
  refine wpAnyH_take (i := 39) (oi := { dst := some 179, op := Op.pick (Operand.tmp 158) (Operand.tmp 178) (Operand.const (Value.bool false)), type := 4, pos := "ref.go:370", after := #[{ on := 18, ground := Ground.data }, { on := 38, ground := Ground.data }], guard := none }) (v := ?_) rfl (by kernel_rfl) (by kernel_rfl) (by kernel_rfl) (fun _ _ _ h => h) (Or.inl ⟨by rfl, ?_⟩) (by assumption) ?_
  rotate_left
  · intro w hSw
    try dsimp only at hSw
    go_simp
    try with_reducible rfl
  try simp only [Act.put, List.setIfInBounds_toArray, List.set_cons_zero, List.set_cons_succ]
  refine wpAnyH_done (by kernel_rfl) ?_ _
  refine NoPanic.normal ?_
  exact hH.out _ _ _ _ _ _ _ _ _ _ _ _ _ _ _ _ _ _ _ _ _ _ _ _ _ _ _ _ _ _ _ _ _ _ _ _ _ _ _
set_option maxRecDepth 100000 in
set_option maxHeartbeats 32000000 in
theorem dg31_1 {Q : Exit → Act → World → Prop} {N r k m bs bo bd bt : Nat} {wr : World} {t0 t2 t3 t4 t5 t6 t11 t12 t13 t16 t17 t18 t19 t20 t21 t22 t23 t24 t25 t26 t27 t28 t29 t30 t31 t32 t33 t34 t35 t36 t37 t38 t39 t40 t41 t42 t43 t44 t45 t46 t47 t48 t49 t50 t51 t52 t53 t54 t55 t56 t57 t58 t59 t60 t61 t62 t63 t64 t65 t66 t67 t68 t69 t70 t71 t72 t73 t74 t75 t76 t77 t78 t79 t80 t81 t82 t83 t84 t85 t86 t87 t88 t89 t90 t91 t92 t93 t94 t95 t96 t97 t98 t99 t100 t101 t102 t103 t104 t105 t106 t107 t108 t109 t110 t111 t112 t113 t114 t115 t116 t117 t118 t119 t120 t121 t122 t123 t124 t125 t126 t127 t128 t129 t130 t131 t132 t133 t134 t135 t136 t137 t138 t139 t140 t141 t142 t143 t144 t145 t146 t147 t148 t149 t150 t151 t152 t153 t154 t155 t156 t157 t158 t159 t160 t161 t162 t163 t164 t165 t166 t167 t168 t169 t170 t171 t172 t173 t174 t175 t176 t177 t178 t179 t180 t181 t182 t183 t184 : Value} (_hm : (m : Int) < (N : Nat)) (_hk : (k : Int) < (N : Nat)) (c1 : ((m : Int) != (r : Nat)) = true) (_c1 : ¬ (m : Int) = (r : Nat)) (z0 : wr.drew.cell? ⟨bs, m, none⟩ = some (.bool false))
    (h : ∀ (x140 x141 x142 x143 x144 x145 x146 x147 x148 x149 x150 x151 x152 x153 x154 x155 x156 x157 x158 x159 x160 x161 x162 x163 x164 x165 x166 x167 x168 x169 x170 x171 x172 x173 x174 x175 x176 x177 x178 : Value),  Q .normal { tmps := List.toArray (t0 :: (.int .i64 (r : Nat)) :: t2 :: t3 :: t4 :: t5 :: t6 :: (.slice (some ⟨bs, 0, none⟩) N N) :: (.slice (some ⟨bo, 0, none⟩) N N) :: (.slice (some ⟨bd, 0, none⟩) N N) :: (.slice (some ⟨bt, 0, none⟩) N N) :: t11 :: t12 :: t13 :: (.int .i64 (k : Nat)) :: (.int .i64 (m : Nat)) :: t16 :: t17 :: t18 :: t19 :: t20 :: t21 :: t22 :: t23 :: t24 :: t25 :: t26 :: t27 :: t28 :: t29 :: t30 :: t31 :: t32 :: t33 :: t34 :: t35 :: t36 :: t37 :: t38 :: t39 :: t40 :: t41 :: t42 :: t43 :: t44 :: t45 :: t46 :: t47 :: t48 :: t49 :: t50 :: t51 :: t52 :: t53 :: t54 :: t55 :: t56 :: t57 :: t58 :: t59 :: t60 :: t61 :: t62 :: t63 :: t64 :: t65 :: t66 :: t67 :: t68 :: t69 :: t70 :: t71 :: t72 :: t73 :: t74 :: t75 :: t76 :: t77 :: t78 :: t79 :: t80 :: t81 :: t82 :: t83 :: t84 :: t85 :: t86 :: t87 :: t88 :: t89 :: t90 :: t91 :: t92 :: t93 :: t94 :: t95 :: t96 :: t97 :: t98 :: t99 :: t100 :: t101 :: t102 :: t103 :: t104 :: t105 :: t106 :: t107 :: t108 :: t109 :: t110 :: t111 :: t112 :: t113 :: t114 :: t115 :: t116 :: t117 :: t118 :: t119 :: t120 :: t121 :: t122 :: t123 :: t124 :: t125 :: t126 :: t127 :: t128 :: t129 :: t130 :: t131 :: t132 :: t133 :: t134 :: t135 :: t136 :: t137 :: t138 :: t139 :: x140 :: x141 :: x142 :: x143 :: x144 :: x145 :: x146 :: x147 :: x148 :: x149 :: x150 :: x151 :: x152 :: x153 :: x154 :: x155 :: x156 :: x157 :: x158 :: x159 :: x160 :: x161 :: x162 :: x163 :: x164 :: x165 :: x166 :: x167 :: x168 :: x169 :: x170 :: x171 :: x172 :: x173 :: x174 :: x175 :: x176 :: x177 :: x178 :: (.bool false) :: t180 :: t181 :: t182 :: t183 :: t184 :: []), defers := [] } wr.drew) :
    (Code.region 31 (List.toArray ({ dst := some 140, op := Op.move (Operand.tmp 15), type := 3, pos := "ref.go:370", after := #[], guard := none } :: { dst := some 141, op := Op.move (Operand.tmp 1), type := 3, pos := "ref.go:370", after := #[], guard := none } :: { dst := some 142, op := Op.binOp BinOp.neq 3 (Operand.tmp 140) (Operand.tmp 141) 3, type := 4, pos := "ref.go:370", after := #[{ on := 0, ground := Ground.data }, { on := 1, ground := Ground.data }], guard := none } :: { dst := some 143, op := Op.move (Operand.tmp 142), type := 4, pos := "ref.go:370", after := #[{ on := 2, ground := Ground.data }], guard := none } :: { dst := some 144, op := Op.move (Operand.tmp 7), type := 49, pos := "ref.go:370", after := #[{ on := 3, ground := Ground.guard }], guard := some (3, true) } :: { dst := some 145, op := Op.move (Operand.tmp 15), type := 3, pos := "ref.go:370", after := #[{ on := 3, ground := Ground.guard }], guard := some (3, true) } :: { dst := some 146, op := Op.indexAddr 49 (Operand.tmp 144) (Operand.tmp 145), type := 0, pos := "ref.go:370", after := #[{ on := 4, ground := Ground.data }, { on := 5, ground := Ground.data }, { on := 3, ground := Ground.guard }], guard := some (3, true) } :: { dst := some 147, op := Op.load 4 (Operand.tmp 146), type := 4, pos := "ref.go:370", after := #[{ on := 6, ground := Ground.data }, { on := 3, ground := Ground.guard }], guard := some (3, true) } :: { dst := some 148, op := Op.pick (Operand.tmp 143) (Operand.tmp 147) (Operand.const (Value.bool false)), type := 4, pos := "ref.go:370", after := #[{ on := 3, ground := Ground.data }, { on := 7, ground := Ground.data }], guard := none } :: { dst := some 149, op := Op.move (Operand.tmp 148), type := 4, pos := "ref.go:370", after := #[{ on := 8, ground := Ground.data }, { on := 3, ground := Ground.chain }], guard := none } :: { dst := some 150, op := Op.move (Operand.tmp 10), type := 73, pos := "ref.go:370", after := #[{ on := 9, ground := Ground.guard }], guard := some (9, true) } :: { dst := some 151, op := Op.move (Operand.tmp 15), type := 3, pos := "ref.go:370", after := #[{ on := 9, ground := Ground.guard }], guard := some (9, true) } :: { dst := some 152, op := Op.indexAddr 73 (Operand.tmp 150) (Operand.tmp 151), type := 0, pos := "ref.go:370", after := #[{ on := 10, ground := Ground.data }, { on := 11, ground := Ground.data }, { on := 9, ground := Ground.guard }], guard := some (9, true) } :: { dst := some 153, op := Op.load 49 (Operand.tmp 152), type := 49, pos := "ref.go:370", after := #[{ on := 12, ground := Ground.data }, { on := 9, ground := Ground.guard }], guard := some (9, true) } :: { dst := some 154, op := Op.move (Operand.tmp 14), type := 3, pos := "ref.go:370", after := #[{ on := 9, ground := Ground.guard }], guard := some (9, true) } :: { dst := some 155, op := Op.indexAddr 49 (Operand.tmp 153) (Operand.tmp 154), type := 0, pos := "ref.go:370", after := #[{ on := 13, ground := Ground.data }, { on := 14, ground := Ground.data }, { on := 9, ground := Ground.guard }], guard := some (9, true) } :: { dst := some 156, op := Op.load 4 (Operand.tmp 155), type := 4, pos := "ref.go:370", after := #[{ on := 15, ground := Ground.data }, { on := 9, ground := Ground.guard }], guard := some (9, true) } :: { dst := some 157, op := Op.pick (Operand.tmp 149) (Operand.tmp 156) (Operand.const (Value.bool false)), type := 4, pos := "ref.go:370", after := #[{ on := 9, ground := Ground.data }, { on := 16, ground := Ground.data }], guard := none } :: { dst := some 158, op := Op.move (Operand.tmp 157), type := 4, pos := "ref.go:370", after := #[{ on := 17, ground := Ground.data }, { on := 9, ground := Ground.chain }], guard := none } :: { dst := some 159, op := Op.move (Operand.tmp 8), type := 25, pos := "ref.go:370", after := #[{ on := 18, ground := Ground.guard }], guard := some (18, true) } :: { dst := some 160, op := Op.move (Operand.tmp 14), type := 3, pos := "ref.go:370", after := #[{ on := 18, ground := Ground.guard }], guard := some (18, true) } :: { dst := some 161, op := Op.indexAddr 25 (Operand.tmp 159) (Operand.tmp 160), type := 0, pos := "ref.go:370", after := #[{ on := 19, ground := Ground.data }, { on := 20, ground := Ground.data }, { on := 18, ground := Ground.guard }], guard := some (18, true) } :: { dst := some 162, op := Op.load 3 (Operand.tmp 161), type := 3, pos := "ref.go:370", after := #[{ on := 21, ground := Ground.data }, { on := 18, ground := Ground.guard }], guard := some (18, true) } :: { dst := some 163, op := Op.move (Operand.tmp 1), type := 3, pos := "ref.go:370", after := #[{ on := 18, ground := Ground.guard }], guard := some (18, true) } :: { dst := some 164, op := Op.binOp BinOp.eql 3 (Operand.tmp 162) (Operand.tmp 163) 3, type := 4, pos := "ref.go:370", after := #[{ on := 22, ground := Ground.data }, { on := 23, ground := Ground.data }, { on := 18, ground := Ground.guard }], guard := some (18, true) } :: { dst := some 165, op := Op.move (Operand.tmp 164), type := 4, pos := "ref.go:370", after := #[{ on := 24, ground := Ground.data }, { on := 18, ground := Ground.chain }, { on := 18, ground := Ground.guard }], guard := some (18, true) } :: { dst := some 166, op := Op.move (Operand.tmp 9), type := 25, pos := "ref.go:370", after := #[{ on := 25, ground := Ground.guard }], guard := some (25, false) } :: { dst := some 167, op := Op.move (Operand.tmp 15), type := 3, pos := "ref.go:370", after := #[{ on := 25, ground := Ground.guard }], guard := some (25, false) } :: { dst := some 168, op := Op.indexAddr 25 (Operand.tmp 166) (Operand.tmp 167), type := 0, pos := "ref.go:370", after := #[{ on := 26, ground := Ground.data }, { on := 27, ground := Ground.data }, { on := 25, ground := Ground.guard }], guard := some (25, false) } :: { dst := some 169, op := Op.load 3 (Operand.tmp 168), type := 3, pos := "ref.go:370", after := #[{ on := 28, ground := Ground.data }, { on := 25, ground := Ground.guard }], guard := some (25, false) } :: { dst := some 170, op := Op.move (Operand.tmp 9), type := 25, pos := "ref.go:370", after := #[{ on := 25, ground := Ground.guard }], guard := some (25, false) } :: { dst := some 171, op := Op.move (Operand.tmp 8), type := 25, pos := "ref.go:370", after := #[{ on := 25, ground := Ground.guard }], guard := some (25, false) } :: { dst := some 172, op := Op.move (Operand.tmp 14), type := 3, pos := "ref.go:370", after := #[{ on := 25, ground := Ground.guard }], guard := some (25, false) } :: { dst := some 173, op := Op.indexAddr 25 (Operand.tmp 171) (Operand.tmp 172), type := 0, pos := "ref.go:370", after := #[{ on := 31, ground := Ground.data }, { on := 32, ground := Ground.data }, { on := 25, ground := Ground.guard }], guard := some (25, false) } :: { dst := some 174, op := Op.load 3 (Operand.tmp 173), type := 3, pos := "ref.go:370", after := #[{ on := 33, ground := Ground.data }, { on := 25, ground := Ground.guard }], guard := some (25, false) } :: { dst := some 175, op := Op.indexAddr 25 (Operand.tmp 170) (Operand.tmp 174), type := 0, pos := "ref.go:370", after := #[{ on := 30, ground := Ground.data }, { on := 34, ground := Ground.data }, { on := 25, ground := Ground.guard }], guard := some (25, false) } :: { dst := some 176, op := Op.load 3 (Operand.tmp 175), type := 3, pos := "ref.go:370", after := #[{ on := 35, ground := Ground.data }, { on := 25, ground := Ground.guard }], guard := some (25, false) } :: { dst := some 177, op := Op.binOp BinOp.gtr 3 (Operand.tmp 169) (Operand.tmp 176) 3, type := 4, pos := "ref.go:370", after := #[{ on := 29, ground := Ground.data }, { on := 36, ground := Ground.data }, { on := 25, ground := Ground.guard }], guard := some (25, false) } :: { dst := some 178, op := Op.pick (Operand.tmp 165) (Operand.const (Value.bool true)) (Operand.tmp 177), type := 4, pos := "ref.go:370", after := #[{ on := 25, ground := Ground.data }, { on := 37, ground := Ground.data }, { on := 18, ground := Ground.guard }], guard := some (18, true) } :: { dst := some 179, op := Op.pick (Operand.tmp 158) (Operand.tmp 178) (Operand.const (Value.bool false)), type := 4, pos := "ref.go:370", after := #[{ on := 18, ground := Ground.data }, { on := 38, ground := Ground.data }], guard := none } :: [])) true).wp Try.prog Q { tmps := List.toArray (t0 :: (.int .i64 (r : Nat)) :: t2 :: t3 :: t4 :: t5 :: t6 :: (.slice (some ⟨bs, 0, none⟩) N N) :: (.slice (some ⟨bo, 0, none⟩) N N) :: (.slice (some ⟨bd, 0, none⟩) N N) :: (.slice (some ⟨bt, 0, none⟩) N N) :: t11 :: t12 :: t13 :: (.int .i64 (k : Nat)) :: (.int .i64 (m : Nat)) :: t16 :: t17 :: t18 :: t19 :: t20 :: t21 :: t22 :: t23 :: t24 :: t25 :: t26 :: t27 :: t28 :: t29 :: t30 :: t31 :: t32 :: t33 :: t34 :: t35 :: t36 :: t37 :: t38 :: t39 :: t40 :: t41 :: t42 :: t43 :: t44 :: t45 :: t46 :: t47 :: t48 :: t49 :: t50 :: t51 :: t52 :: t53 :: t54 :: t55 :: t56 :: t57 :: t58 :: t59 :: t60 :: t61 :: t62 :: t63 :: t64 :: t65 :: t66 :: t67 :: t68 :: t69 :: t70 :: t71 :: t72 :: t73 :: t74 :: t75 :: t76 :: t77 :: t78 :: t79 :: t80 :: t81 :: t82 :: t83 :: t84 :: t85 :: t86 :: t87 :: t88 :: t89 :: t90 :: t91 :: t92 :: t93 :: t94 :: t95 :: t96 :: t97 :: t98 :: t99 :: t100 :: t101 :: t102 :: t103 :: t104 :: t105 :: t106 :: t107 :: t108 :: t109 :: t110 :: t111 :: t112 :: t113 :: t114 :: t115 :: t116 :: t117 :: t118 :: t119 :: t120 :: t121 :: t122 :: t123 :: t124 :: t125 :: t126 :: t127 :: t128 :: t129 :: t130 :: t131 :: t132 :: t133 :: t134 :: t135 :: t136 :: t137 :: t138 :: t139 :: t140 :: t141 :: t142 :: t143 :: t144 :: t145 :: t146 :: t147 :: t148 :: t149 :: t150 :: t151 :: t152 :: t153 :: t154 :: t155 :: t156 :: t157 :: t158 :: t159 :: t160 :: t161 :: t162 :: t163 :: t164 :: t165 :: t166 :: t167 :: t168 :: t169 :: t170 :: t171 :: t172 :: t173 :: t174 :: t175 :: t176 :: t177 :: t178 :: t179 :: t180 :: t181 :: t182 :: t183 :: t184 :: []), defers := [] } wr := by
  have hH := hid h
  clear h
  refine wp_region_noPanic ?_
  refine wp_region_held_drew (S := (fun w' => w'.cell? ⟨bs, m, none⟩ = some (.bool false))) (by kernel_rfl) ?_ (fun hHeld => ?_)
  · exact z0
  refine wpAnyH_take (i := 0) (oi := { dst := some 140, op := Op.move (Operand.tmp 15), type := 3, pos := "ref.go:370", after := #[], guard := none }) (v := ?_) rfl (by kernel_rfl) (by kernel_rfl) (by kernel_rfl) (fun _ _ _ h => h) (Or.inl ⟨by rfl, ?_⟩) (by assumption) ?_
  rotate_left
  · intro w hSw
    try dsimp only at hSw
    go_simp
    try with_reducible rfl
  try simp only [Act.put, List.setIfInBounds_toArray, List.set_cons_zero, List.set_cons_succ]
  refine wpAnyH_take (i := 1) (oi := { dst := some 141, op := Op.move (Operand.tmp 1), type := 3, pos := "ref.go:370", after := #[], guard := none }) (v := ?_) rfl (by kernel_rfl) (by kernel_rfl) (by kernel_rfl) (fun _ _ _ h => h) (Or.inl ⟨by rfl, ?_⟩) (by assumption) ?_
  rotate_left
  · intro w hSw
    try dsimp only at hSw
    go_simp
    try with_reducible rfl
  try simp only [Act.put, List.setIfInBounds_toArray, List.set_cons_zero, List.set_cons_succ]
  refine wpAnyH_take (i := 2) (oi := { dst := some 142, op := Op.binOp BinOp.neq 3 (Operand.tmp 140) (Operand.tmp 141) 3, type := 4, pos := "ref.go:370", after := #[{ on := 0, ground := Ground.data }, { on := 1, ground := Ground.data }], guard := none }) (v := ?_) rfl (by kernel_rfl) (by kernel_rfl) (by kernel_rfl) (fun _ _ _ h => h) (Or.inl ⟨by rfl, ?_⟩) (by assumption) ?_
  rotate_left
  · intro w hSw
    try dsimp only at hSw
    go_simp
    try with_reducible rfl
  try simp only [Act.put, List.setIfInBounds_toArray, List.set_cons_zero, List.set_cons_succ]
  refine wpAnyH_take (i := 3) (oi := { dst := some 143, op := Op.move (Operand.tmp 142), type := 4, pos := "ref.go:370", after := #[{ on := 2, ground := Ground.data }], guard := none }) (v := ?_) rfl (by kernel_rfl) (by kernel_rfl) (by kernel_rfl) (fun _ _ _ h => h) (Or.inl ⟨by rfl, ?_⟩) (by assumption) ?_
  rotate_left
  · intro w hSw
    try dsimp only at hSw
    go_simp
    try with_reducible rfl
  try simp only [Act.put, List.setIfInBounds_toArray, List.set_cons_zero, List.set_cons_succ]
  refine wpAnyH_take (i := 4) (oi := { dst := some 144, op := Op.move (Operand.tmp 7), type := 49, pos := "ref.go:370", after := #[{ on := 3, ground := Ground.guard }], guard := some (3, true) }) (v := ?_) rfl (by kernel_rfl) (by kernel_rfl) (by kernel_rfl) (fun _ _ _ h => h) (Or.inl ⟨by rfl, ?_⟩) (by assumption) ?_
  rotate_left
  · intro w hSw
    try dsimp only at hSw
    go_simp
    try with_reducible rfl
  try simp only [Act.put, List.setIfInBounds_toArray, List.set_cons_zero, List.set_cons_succ]
  refine wpAnyH_take (i := 5) (oi := { dst := some 145, op := Op.move (Operand.tmp 15), type := 3, pos := "ref.go:370", after := #[{ on := 3, ground := Ground.guard }], guard := some (3, true) }) (v := ?_) rfl (by kernel_rfl) (by kernel_rfl) (by kernel_rfl) (fun _ _ _ h => h) (Or.inl ⟨by rfl, ?_⟩) (by assumption) ?_
  rotate_left
  · intro w hSw
    try dsimp only at hSw
    go_simp
    try with_reducible rfl
  try simp only [Act.put, List.setIfInBounds_toArray, List.set_cons_zero, List.set_cons_succ]
  refine wpAnyH_take (i := 6) (oi := { dst := some 146, op := Op.indexAddr 49 (Operand.tmp 144) (Operand.tmp 145), type := 0, pos := "ref.go:370", after := #[{ on := 4, ground := Ground.data }, { on := 5, ground := Ground.data }, { on := 3, ground := Ground.guard }], guard := some (3, true) }) (v := ?_) rfl (by kernel_rfl) (by kernel_rfl) (by kernel_rfl) (fun _ _ _ h => h) (Or.inl ⟨by rfl, ?_⟩) (by assumption) ?_
  rotate_left
  · intro w hSw
    try dsimp only at hSw
    go_simp
    try with_reducible rfl
  try simp only [Act.put, List.setIfInBounds_toArray, List.set_cons_zero, List.set_cons_succ]
  refine wpAnyH_take (i := 7) (oi := { dst := some 147, op := Op.load 4 (Operand.tmp 146), type := 4, pos := "ref.go:370", after := #[{ on := 6, ground := Ground.data }, { on := 3, ground := Ground.guard }], guard := some (3, true) }) (v := ?_) rfl (by kernel_rfl) (by kernel_rfl) (by kernel_rfl) (fun _ _ _ h => h) (Or.inl ⟨by rfl, ?_⟩) (by assumption) ?_
  rotate_left
  · intro w hSw
    try dsimp only at hSw
    go_simp
    try with_reducible rfl
  try simp only [Act.put, List.setIfInBounds_toArray, List.set_cons_zero, List.set_cons_succ]
  refine wpAnyH_take (i := 8) (oi := { dst := some 148, op := Op.pick (Operand.tmp 143) (Operand.tmp 147) (Operand.const (Value.bool false)), type := 4, pos := "ref.go:370", after := #[{ on := 3, ground := Ground.data }, { on := 7, ground := Ground.data }], guard := none }) (v := ?_) rfl (by kernel_rfl) (by kernel_rfl) (by kernel_rfl) (fun _ _ _ h => h) (Or.inl ⟨by rfl, ?_⟩) (by assumption) ?_
  rotate_left
  · intro w hSw
    try dsimp only at hSw
    go_simp
    try with_reducible rfl
  try simp only [Act.put, List.setIfInBounds_toArray, List.set_cons_zero, List.set_cons_succ]
  refine wpAnyH_take (i := 9) (oi := { dst := some 149, op := Op.move (Operand.tmp 148), type := 4, pos := "ref.go:370", after := #[{ on := 8, ground := Ground.data }, { on := 3, ground := Ground.chain }], guard := none }) (v := ?_) rfl (by kernel_rfl) (by kernel_rfl) (by kernel_rfl) (fun _ _ _ h => h) (Or.inl ⟨by rfl, ?_⟩) (by assumption) ?_
  rotate_left
  · intro w hSw
    try dsimp only at hSw
    go_simp
    try with_reducible rfl
  try simp only [Act.put, List.setIfInBounds_toArray, List.set_cons_zero, List.set_cons_succ]
  refine wpAnyH_take (i := 10) (oi := { dst := some 150, op := Op.move (Operand.tmp 10), type := 73, pos := "ref.go:370", after := #[{ on := 9, ground := Ground.guard }], guard := some (9, true) }) (v := undef) rfl (by kernel_rfl) (by kernel_rfl) (by kernel_rfl) (fun _ _ _ h => h) (Or.inr ⟨by rfl, rfl⟩) (by assumption) ?_
  try simp only [Act.put, List.setIfInBounds_toArray, List.set_cons_zero, List.set_cons_succ]
  refine wpAnyH_take (i := 11) (oi := { dst := some 151, op := Op.move (Operand.tmp 15), type := 3, pos := "ref.go:370", after := #[{ on := 9, ground := Ground.guard }], guard := some (9, true) }) (v := undef) rfl (by kernel_rfl) (by kernel_rfl) (by kernel_rfl) (fun _ _ _ h => h) (Or.inr ⟨by rfl, rfl⟩) (by assumption) ?_
  try simp only [Act.put, List.setIfInBounds_toArray, List.set_cons_zero, List.set_cons_succ]
  refine wpAnyH_take (i := 12) (oi := { dst := some 152, op := Op.indexAddr 73 (Operand.tmp 150) (Operand.tmp 151), type := 0, pos := "ref.go:370", after := #[{ on := 10, ground := Ground.data }, { on := 11, ground := Ground.data }, { on := 9, ground := Ground.guard }], guard := some (9, true) }) (v := undef) rfl (by kernel_rfl) (by kernel_rfl) (by kernel_rfl) (fun _ _ _ h => h) (Or.inr ⟨by rfl, rfl⟩) (by assumption) ?_
  try simp only [Act.put, List.setIfInBounds_toArray, List.set_cons_zero, List.set_cons_succ]
  refine wpAnyH_take (i := 13) (oi := { dst := some 153, op := Op.load 49 (Operand.tmp 152), type := 49, pos := "ref.go:370", after := #[{ on := 12, ground := Ground.data }, { on := 9, ground := Ground.guard }], guard := some (9, true) }) (v := undef) rfl (by kernel_rfl) (by kernel_rfl) (by kernel_rfl) (fun _ _ _ h => h) (Or.inr ⟨by rfl, rfl⟩) (by assumption) ?_
  try simp only [Act.put, List.setIfInBounds_toArray, List.set_cons_zero, List.set_cons_succ]
  refine wpAnyH_take (i := 14) (oi := { dst := some 154, op := Op.move (Operand.tmp 14), type := 3, pos := "ref.go:370", after := #[{ on := 9, ground := Ground.guard }], guard := some (9, true) }) (v := undef) rfl (by kernel_rfl) (by kernel_rfl) (by kernel_rfl) (fun _ _ _ h => h) (Or.inr ⟨by rfl, rfl⟩) (by assumption) ?_
  try simp only [Act.put, List.setIfInBounds_toArray, List.set_cons_zero, List.set_cons_succ]
  refine wpAnyH_take (i := 15) (oi := { dst := some 155, op := Op.indexAddr 49 (Operand.tmp 153) (Operand.tmp 154), type := 0, pos := "ref.go:370", after := #[{ on := 13, ground := Ground.data }, { on := 14, ground := Ground.data }, { on := 9, ground := Ground.guard }], guard := some (9, true) }) (v := undef) rfl (by kernel_rfl) (by kernel_rfl) (by kernel_rfl) (fun _ _ _ h => h) (Or.inr ⟨by rfl, rfl⟩) (by assumption) ?_
  try simp only [Act.put, List.setIfInBounds_toArray, List.set_cons_zero, List.set_cons_succ]
  refine wpAnyH_take (i := 16) (oi := { dst := some 156, op := Op.load 4 (Operand.tmp 155), type := 4, pos := "ref.go:370", after := #[{ on := 15, ground := Ground.data }, { on := 9, ground := Ground.guard }], guard := some (9, true) }) (v := undef) rfl (by kernel_rfl) (by kernel_rfl) (by kernel_rfl) (fun _ _ _ h => h) (Or.inr ⟨by rfl, rfl⟩) (by assumption) ?_
  try simp only [Act.put, List.setIfInBounds_toArray, List.set_cons_zero, List.set_cons_succ]
  refine wpAnyH_take (i := 17) (oi := { dst := some 157, op := Op.pick (Operand.tmp 149) (Operand.tmp 156) (Operand.const (Value.bool false)), type := 4, pos := "ref.go:370", after := #[{ on := 9, ground := Ground.data }, { on := 16, ground := Ground.data }], guard := none }) (v := ?_) rfl (by kernel_rfl) (by kernel_rfl) (by kernel_rfl) (fun _ _ _ h => h) (Or.inl ⟨by rfl, ?_⟩) (by assumption) ?_
  rotate_left
  · intro w hSw
    try dsimp only at hSw
    go_simp
    try with_reducible rfl
  try simp only [Act.put, List.setIfInBounds_toArray, List.set_cons_zero, List.set_cons_succ]
  refine wpAnyH_take (i := 18) (oi := { dst := some 158, op := Op.move (Operand.tmp 157), type := 4, pos := "ref.go:370", after := #[{ on := 17, ground := Ground.data }, { on := 9, ground := Ground.chain }], guard := none }) (v := ?_) rfl (by kernel_rfl) (by kernel_rfl) (by kernel_rfl) (fun _ _ _ h => h) (Or.inl ⟨by rfl, ?_⟩) (by assumption) ?_
  rotate_left
  · intro w hSw
    try dsimp only at hSw
    go_simp
    try with_reducible rfl
  try simp only [Act.put, List.setIfInBounds_toArray, List.set_cons_zero, List.set_cons_succ]
  refine wpAnyH_take (i := 19) (oi := { dst := some 159, op := Op.move (Operand.tmp 8), type := 25, pos := "ref.go:370", after := #[{ on := 18, ground := Ground.guard }], guard := some (18, true) }) (v := undef) rfl (by kernel_rfl) (by kernel_rfl) (by kernel_rfl) (fun _ _ _ h => h) (Or.inr ⟨by rfl, rfl⟩) (by assumption) ?_
  try simp only [Act.put, List.setIfInBounds_toArray, List.set_cons_zero, List.set_cons_succ]
  refine wpAnyH_take (i := 20) (oi := { dst := some 160, op := Op.move (Operand.tmp 14), type := 3, pos := "ref.go:370", after := #[{ on := 18, ground := Ground.guard }], guard := some (18, true) }) (v := undef) rfl (by kernel_rfl) (by kernel_rfl) (by kernel_rfl) (fun _ _ _ h => h) (Or.inr ⟨by rfl, rfl⟩) (by assumption) ?_
  try simp only [Act.put, List.setIfInBounds_toArray, List.set_cons_zero, List.set_cons_succ]
  refine wpAnyH_take (i := 21) (oi := { dst := some 161, op := Op.indexAddr 25 (Operand.tmp 159) (Operand.tmp 160), type := 0, pos := "ref.go:370", after := #[{ on := 19, ground := Ground.data }, { on := 20, ground := Ground.data }, { on := 18, ground := Ground.guard }], guard := some (18, true) }) (v := undef) rfl (by kernel_rfl) (by kernel_rfl) (by kernel_rfl) (fun _ _ _ h => h) (Or.inr ⟨by rfl, rfl⟩) (by assumption) ?_
  try simp only [Act.put, List.setIfInBounds_toArray, List.set_cons_zero, List.set_cons_succ]
  refine wpAnyH_take (i := 22) (oi := { dst := some 162, op := Op.load 3 (Operand.tmp 161), type := 3, pos := "ref.go:370", after := #[{ on := 21, ground := Ground.data }, { on := 18, ground := Ground.guard }], guard := some (18, true) }) (v := undef) rfl (by kernel_rfl) (by kernel_rfl) (by kernel_rfl) (fun _ _ _ h => h) (Or.inr ⟨by rfl, rfl⟩) (by assumption) ?_
  try simp only [Act.put, List.setIfInBounds_toArray, List.set_cons_zero, List.set_cons_succ]
  refine wpAnyH_take (i := 23) (oi := { dst := some 163, op := Op.move (Operand.tmp 1), type := 3, pos := "ref.go:370", after := #[{ on := 18, ground := Ground.guard }], guard := some (18, true) }) (v := undef) rfl (by kernel_rfl) (by kernel_rfl) (by kernel_rfl) (fun _ _ _ h => h) (Or.inr ⟨by rfl, rfl⟩) (by assumption) ?_
  try simp only [Act.put, List.setIfInBounds_toArray, List.set_cons_zero, List.set_cons_succ]
  refine wpAnyH_take (i := 24) (oi := { dst := some 164, op := Op.binOp BinOp.eql 3 (Operand.tmp 162) (Operand.tmp 163) 3, type := 4, pos := "ref.go:370", after := #[{ on := 22, ground := Ground.data }, { on := 23, ground := Ground.data }, { on := 18, ground := Ground.guard }], guard := some (18, true) }) (v := undef) rfl (by kernel_rfl) (by kernel_rfl) (by kernel_rfl) (fun _ _ _ h => h) (Or.inr ⟨by rfl, rfl⟩) (by assumption) ?_
  try simp only [Act.put, List.setIfInBounds_toArray, List.set_cons_zero, List.set_cons_succ]
  refine wpAnyH_take (i := 25) (oi := { dst := some 165, op := Op.move (Operand.tmp 164), type := 4, pos := "ref.go:370", after := #[{ on := 24, ground := Ground.data }, { on := 18, ground := Ground.chain }, { on := 18, ground := Ground.guard }], guard := some (18, true) }) (v := undef) rfl (by kernel_rfl) (by kernel_rfl) (by kernel_rfl) (fun _ _ _ h => h) (Or.inr ⟨by rfl, rfl⟩) (by assumption) ?_
  try simp only [Act.put, List.setIfInBounds_toArray, List.set_cons_zero, List.set_cons_succ]
  refine wpAnyH_take (i := 26) (oi := { dst := some 166, op := Op.move (Operand.tmp 9), type := 25, pos := "ref.go:370", after := #[{ on := 25, ground := Ground.guard }], guard := some (25, false) }) (v := undef) rfl (by kernel_rfl) (by kernel_rfl) (by kernel_rfl) (fun _ _ _ h => h) (Or.inr ⟨by rfl, rfl⟩) (by assumption) ?_
  try simp only [Act.put, List.setIfInBounds_toArray, List.set_cons_zero, List.set_cons_succ]
  refine wpAnyH_take (i := 27) (oi := { dst := some 167, op := Op.move (Operand.tmp 15), type := 3, pos := "ref.go:370", after := #[{ on := 25, ground := Ground.guard }], guard := some (25, false) }) (v := undef) rfl (by kernel_rfl) (by kernel_rfl) (by kernel_rfl) (fun _ _ _ h => h) (Or.inr ⟨by rfl, rfl⟩) (by assumption) ?_
  try simp only [Act.put, List.setIfInBounds_toArray, List.set_cons_zero, List.set_cons_succ]
  refine wpAnyH_take (i := 28) (oi := { dst := some 168, op := Op.indexAddr 25 (Operand.tmp 166) (Operand.tmp 167), type := 0, pos := "ref.go:370", after := #[{ on := 26, ground := Ground.data }, { on := 27, ground := Ground.data }, { on := 25, ground := Ground.guard }], guard := some (25, false) }) (v := undef) rfl (by kernel_rfl) (by kernel_rfl) (by kernel_rfl) (fun _ _ _ h => h) (Or.inr ⟨by rfl, rfl⟩) (by assumption) ?_
  try simp only [Act.put, List.setIfInBounds_toArray, List.set_cons_zero, List.set_cons_succ]
  refine wpAnyH_take (i := 29) (oi := { dst := some 169, op := Op.load 3 (Operand.tmp 168), type := 3, pos := "ref.go:370", after := #[{ on := 28, ground := Ground.data }, { on := 25, ground := Ground.guard }], guard := some (25, false) }) (v := undef) rfl (by kernel_rfl) (by kernel_rfl) (by kernel_rfl) (fun _ _ _ h => h) (Or.inr ⟨by rfl, rfl⟩) (by assumption) ?_
  try simp only [Act.put, List.setIfInBounds_toArray, List.set_cons_zero, List.set_cons_succ]
  refine wpAnyH_take (i := 30) (oi := { dst := some 170, op := Op.move (Operand.tmp 9), type := 25, pos := "ref.go:370", after := #[{ on := 25, ground := Ground.guard }], guard := some (25, false) }) (v := undef) rfl (by kernel_rfl) (by kernel_rfl) (by kernel_rfl) (fun _ _ _ h => h) (Or.inr ⟨by rfl, rfl⟩) (by assumption) ?_
  try simp only [Act.put, List.setIfInBounds_toArray, List.set_cons_zero, List.set_cons_succ]
  refine wpAnyH_take (i := 31) (oi := { dst := some 171, op := Op.move (Operand.tmp 8), type := 25, pos := "ref.go:370", after := #[{ on := 25, ground := Ground.guard }], guard := some (25, false) }) (v := undef) rfl (by kernel_rfl) (by kernel_rfl) (by kernel_rfl) (fun _ _ _ h => h) (Or.inr ⟨by rfl, rfl⟩) (by assumption) ?_
  try simp only [Act.put, List.setIfInBounds_toArray, List.set_cons_zero, List.set_cons_succ]
  refine wpAnyH_take (i := 32) (oi := { dst := some 172, op := Op.move (Operand.tmp 14), type := 3, pos := "ref.go:370", after := #[{ on := 25, ground := Ground.guard }], guard := some (25, false) }) (v := undef) rfl (by kernel_rfl) (by kernel_rfl) (by kernel_rfl) (fun _ _ _ h => h) (Or.inr ⟨by rfl, rfl⟩) (by assumption) ?_
  try simp only [Act.put, List.setIfInBounds_toArray, List.set_cons_zero, List.set_cons_succ]
  refine wpAnyH_take (i := 33) (oi := { dst := some 173, op := Op.indexAddr 25 (Operand.tmp 171) (Operand.tmp 172), type := 0, pos := "ref.go:370", after := #[{ on := 31, ground := Ground.data }, { on := 32, ground := Ground.data }, { on := 25, ground := Ground.guard }], guard := some (25, false) }) (v := undef) rfl (by kernel_rfl) (by kernel_rfl) (by kernel_rfl) (fun _ _ _ h => h) (Or.inr ⟨by rfl, rfl⟩) (by assumption) ?_
  try simp only [Act.put, List.setIfInBounds_toArray, List.set_cons_zero, List.set_cons_succ]
  refine wpAnyH_take (i := 34) (oi := { dst := some 174, op := Op.load 3 (Operand.tmp 173), type := 3, pos := "ref.go:370", after := #[{ on := 33, ground := Ground.data }, { on := 25, ground := Ground.guard }], guard := some (25, false) }) (v := undef) rfl (by kernel_rfl) (by kernel_rfl) (by kernel_rfl) (fun _ _ _ h => h) (Or.inr ⟨by rfl, rfl⟩) (by assumption) ?_
  try simp only [Act.put, List.setIfInBounds_toArray, List.set_cons_zero, List.set_cons_succ]
  refine wpAnyH_take (i := 35) (oi := { dst := some 175, op := Op.indexAddr 25 (Operand.tmp 170) (Operand.tmp 174), type := 0, pos := "ref.go:370", after := #[{ on := 30, ground := Ground.data }, { on := 34, ground := Ground.data }, { on := 25, ground := Ground.guard }], guard := some (25, false) }) (v := undef) rfl (by kernel_rfl) (by kernel_rfl) (by kernel_rfl) (fun _ _ _ h => h) (Or.inr ⟨by rfl, rfl⟩) (by assumption) ?_
  try simp only [Act.put, List.setIfInBounds_toArray, List.set_cons_zero, List.set_cons_succ]
  refine wpAnyH_take (i := 36) (oi := { dst := some 176, op := Op.load 3 (Operand.tmp 175), type := 3, pos := "ref.go:370", after := #[{ on := 35, ground := Ground.data }, { on := 25, ground := Ground.guard }], guard := some (25, false) }) (v := undef) rfl (by kernel_rfl) (by kernel_rfl) (by kernel_rfl) (fun _ _ _ h => h) (Or.inr ⟨by rfl, rfl⟩) (by assumption) ?_
  try simp only [Act.put, List.setIfInBounds_toArray, List.set_cons_zero, List.set_cons_succ]
  refine wpAnyH_take (i := 37) (oi := { dst := some 177, op := Op.binOp BinOp.gtr 3 (Operand.tmp 169) (Operand.tmp 176) 3, type := 4, pos := "ref.go:370", after := #[{ on := 29, ground := Ground.data }, { on := 36, ground := Ground.data }, { on := 25, ground := Ground.guard }], guard := some (25, false) }) (v := undef) rfl (by kernel_rfl) (by kernel_rfl) (by kernel_rfl) (fun _ _ _ h => h) (Or.inr ⟨by rfl, rfl⟩) (by assumption) ?_
  try simp only [Act.put, List.setIfInBounds_toArray, List.set_cons_zero, List.set_cons_succ]
  refine wpAnyH_take (i := 38) (oi := { dst := some 178, op := Op.pick (Operand.tmp 165) (Operand.const (Value.bool true)) (Operand.tmp 177), type := 4, pos := "ref.go:370", after := #[{ on := 25, ground := Ground.data }, { on := 37, ground := Ground.data }, { on := 18, ground := Ground.guard }], guard := some (18, true) }) (v := undef) rfl (by kernel_rfl) (by kernel_rfl) (by kernel_rfl) (fun _ _ _ h => h) (Or.inr ⟨by rfl, rfl⟩) (by assumption) ?_
  try simp only [Act.put, List.setIfInBounds_toArray, List.set_cons_zero, List.set_cons_succ]
  refine wpAnyH_take (i := 39) (oi := { dst := some 179, op := Op.pick (Operand.tmp 158) (Operand.tmp 178) (Operand.const (Value.bool false)), type := 4, pos := "ref.go:370", after := #[{ on := 18, ground := Ground.data }, { on := 38, ground := Ground.data }], guard := none }) (v := ?_) rfl (by kernel_rfl) (by kernel_rfl) (by kernel_rfl) (fun _ _ _ h => h) (Or.inl ⟨by rfl, ?_⟩) (by assumption) ?_
  rotate_left
  · intro w hSw
    try dsimp only at hSw
    go_simp
    try with_reducible rfl
  try simp only [Act.put, List.setIfInBounds_toArray, List.set_cons_zero, List.set_cons_succ]
  refine wpAnyH_done (by kernel_rfl) ?_ _
  refine NoPanic.normal ?_
  exact hH.out _ _ _ _ _ _ _ _ _ _ _ _ _ _ _ _ _ _ _ _ _ _ _ _ _ _ _ _ _ _ _ _ _ _ _ _ _ _ _
set_option maxRecDepth 100000 in
set_option maxHeartbeats 32000000 in
theorem dg31_2 {Q : Exit → Act → World → Prop} {N r k m bs bo bd bt bm : Nat} {wr : World} {t0 t2 t3 t4 t5 t6 t11 t12 t13 t16 t17 t18 t19 t20 t21 t22 t23 t24 t25 t26 t27 t28 t29 t30 t31 t32 t33 t34 t35 t36 t37 t38 t39 t40 t41 t42 t43 t44 t45 t46 t47 t48 t49 t50 t51 t52 t53 t54 t55 t56 t57 t58 t59 t60 t61 t62 t63 t64 t65 t66 t67 t68 t69 t70 t71 t72 t73 t74 t75 t76 t77 t78 t79 t80 t81 t82 t83 t84 t85 t86 t87 t88 t89 t90 t91 t92 t93 t94 t95 t96 t97 t98 t99 t100 t101 t102 t103 t104 t105 t106 t107 t108 t109 t110 t111 t112 t113 t114 t115 t116 t117 t118 t119 t120 t121 t122 t123 t124 t125 t126 t127 t128 t129 t130 t131 t132 t133 t134 t135 t136 t137 t138 t139 t140 t141 t142 t143 t144 t145 t146 t147 t148 t149 t150 t151 t152 t153 t154 t155 t156 t157 t158 t159 t160 t161 t162 t163 t164 t165 t166 t167 t168 t169 t170 t171 t172 t173 t174 t175 t176 t177 t178 t179 t180 t181 t182 t183 t184 : Value} (_hm : (m : Int) < (N : Nat)) (_hk : (k : Int) < (N : Nat)) (c1 : ((m : Int) != (r : Nat)) = true) (_c1 : ¬ (m : Int) = (r : Nat)) (z0 : wr.drew.cell? ⟨bs, m, none⟩ = some (.bool true)) (z1 : wr.drew.cell? ⟨bt, m, none⟩ = some (.slice (some ⟨bm, 0, none⟩) N N)) (z2 : wr.drew.cell? ⟨bm, k, none⟩ = some (.bool false))
    (h : ∀ (x140 x141 x142 x143 x144 x145 x146 x147 x148 x149 x150 x151 x152 x153 x154 x155 x156 x157 x158 x159 x160 x161 x162 x163 x164 x165 x166 x167 x168 x169 x170 x171 x172 x173 x174 x175 x176 x177 x178 : Value),  Q .normal { tmps := List.toArray (t0 :: (.int .i64 (r : Nat)) :: t2 :: t3 :: t4 :: t5 :: t6 :: (.slice (some ⟨bs, 0, none⟩) N N) :: (.slice (some ⟨bo, 0, none⟩) N N) :: (.slice (some ⟨bd, 0, none⟩) N N) :: (.slice (some ⟨bt, 0, none⟩) N N) :: t11 :: t12 :: t13 :: (.int .i64 (k : Nat)) :: (.int .i64 (m : Nat)) :: t16 :: t17 :: t18 :: t19 :: t20 :: t21 :: t22 :: t23 :: t24 :: t25 :: t26 :: t27 :: t28 :: t29 :: t30 :: t31 :: t32 :: t33 :: t34 :: t35 :: t36 :: t37 :: t38 :: t39 :: t40 :: t41 :: t42 :: t43 :: t44 :: t45 :: t46 :: t47 :: t48 :: t49 :: t50 :: t51 :: t52 :: t53 :: t54 :: t55 :: t56 :: t57 :: t58 :: t59 :: t60 :: t61 :: t62 :: t63 :: t64 :: t65 :: t66 :: t67 :: t68 :: t69 :: t70 :: t71 :: t72 :: t73 :: t74 :: t75 :: t76 :: t77 :: t78 :: t79 :: t80 :: t81 :: t82 :: t83 :: t84 :: t85 :: t86 :: t87 :: t88 :: t89 :: t90 :: t91 :: t92 :: t93 :: t94 :: t95 :: t96 :: t97 :: t98 :: t99 :: t100 :: t101 :: t102 :: t103 :: t104 :: t105 :: t106 :: t107 :: t108 :: t109 :: t110 :: t111 :: t112 :: t113 :: t114 :: t115 :: t116 :: t117 :: t118 :: t119 :: t120 :: t121 :: t122 :: t123 :: t124 :: t125 :: t126 :: t127 :: t128 :: t129 :: t130 :: t131 :: t132 :: t133 :: t134 :: t135 :: t136 :: t137 :: t138 :: t139 :: x140 :: x141 :: x142 :: x143 :: x144 :: x145 :: x146 :: x147 :: x148 :: x149 :: x150 :: x151 :: x152 :: x153 :: x154 :: x155 :: x156 :: x157 :: x158 :: x159 :: x160 :: x161 :: x162 :: x163 :: x164 :: x165 :: x166 :: x167 :: x168 :: x169 :: x170 :: x171 :: x172 :: x173 :: x174 :: x175 :: x176 :: x177 :: x178 :: (.bool false) :: t180 :: t181 :: t182 :: t183 :: t184 :: []), defers := [] } wr.drew) :
    (Code.region 31 (List.toArray ({ dst := some 140, op := Op.move (Operand.tmp 15), type := 3, pos := "ref.go:370", after := #[], guard := none } :: { dst := some 141, op := Op.move (Operand.tmp 1), type := 3, pos := "ref.go:370", after := #[], guard := none } :: { dst := some 142, op := Op.binOp BinOp.neq 3 (Operand.tmp 140) (Operand.tmp 141) 3, type := 4, pos := "ref.go:370", after := #[{ on := 0, ground := Ground.data }, { on := 1, ground := Ground.data }], guard := none } :: { dst := some 143, op := Op.move (Operand.tmp 142), type := 4, pos := "ref.go:370", after := #[{ on := 2, ground := Ground.data }], guard := none } :: { dst := some 144, op := Op.move (Operand.tmp 7), type := 49, pos := "ref.go:370", after := #[{ on := 3, ground := Ground.guard }], guard := some (3, true) } :: { dst := some 145, op := Op.move (Operand.tmp 15), type := 3, pos := "ref.go:370", after := #[{ on := 3, ground := Ground.guard }], guard := some (3, true) } :: { dst := some 146, op := Op.indexAddr 49 (Operand.tmp 144) (Operand.tmp 145), type := 0, pos := "ref.go:370", after := #[{ on := 4, ground := Ground.data }, { on := 5, ground := Ground.data }, { on := 3, ground := Ground.guard }], guard := some (3, true) } :: { dst := some 147, op := Op.load 4 (Operand.tmp 146), type := 4, pos := "ref.go:370", after := #[{ on := 6, ground := Ground.data }, { on := 3, ground := Ground.guard }], guard := some (3, true) } :: { dst := some 148, op := Op.pick (Operand.tmp 143) (Operand.tmp 147) (Operand.const (Value.bool false)), type := 4, pos := "ref.go:370", after := #[{ on := 3, ground := Ground.data }, { on := 7, ground := Ground.data }], guard := none } :: { dst := some 149, op := Op.move (Operand.tmp 148), type := 4, pos := "ref.go:370", after := #[{ on := 8, ground := Ground.data }, { on := 3, ground := Ground.chain }], guard := none } :: { dst := some 150, op := Op.move (Operand.tmp 10), type := 73, pos := "ref.go:370", after := #[{ on := 9, ground := Ground.guard }], guard := some (9, true) } :: { dst := some 151, op := Op.move (Operand.tmp 15), type := 3, pos := "ref.go:370", after := #[{ on := 9, ground := Ground.guard }], guard := some (9, true) } :: { dst := some 152, op := Op.indexAddr 73 (Operand.tmp 150) (Operand.tmp 151), type := 0, pos := "ref.go:370", after := #[{ on := 10, ground := Ground.data }, { on := 11, ground := Ground.data }, { on := 9, ground := Ground.guard }], guard := some (9, true) } :: { dst := some 153, op := Op.load 49 (Operand.tmp 152), type := 49, pos := "ref.go:370", after := #[{ on := 12, ground := Ground.data }, { on := 9, ground := Ground.guard }], guard := some (9, true) } :: { dst := some 154, op := Op.move (Operand.tmp 14), type := 3, pos := "ref.go:370", after := #[{ on := 9, ground := Ground.guard }], guard := some (9, true) } :: { dst := some 155, op := Op.indexAddr 49 (Operand.tmp 153) (Operand.tmp 154), type := 0, pos := "ref.go:370", after := #[{ on := 13, ground := Ground.data }, { on := 14, ground := Ground.data }, { on := 9, ground := Ground.guard }], guard := some (9, true) } :: { dst := some 156, op := Op.load 4 (Operand.tmp 155), type := 4, pos := "ref.go:370", after := #[{ on := 15, ground := Ground.data }, { on := 9, ground := Ground.guard }], guard := some (9, true) } :: { dst := some 157, op := Op.pick (Operand.tmp 149) (Operand.tmp 156) (Operand.const (Value.bool false)), type := 4, pos := "ref.go:370", after := #[{ on := 9, ground := Ground.data }, { on := 16, ground := Ground.data }], guard := none } :: { dst := some 158, op := Op.move (Operand.tmp 157), type := 4, pos := "ref.go:370", after := #[{ on := 17, ground := Ground.data }, { on := 9, ground := Ground.chain }], guard := none } :: { dst := some 159, op := Op.move (Operand.tmp 8), type := 25, pos := "ref.go:370", after := #[{ on := 18, ground := Ground.guard }], guard := some (18, true) } :: { dst := some 160, op := Op.move (Operand.tmp 14), type := 3, pos := "ref.go:370", after := #[{ on := 18, ground := Ground.guard }], guard := some (18, true) } :: { dst := some 161, op := Op.indexAddr 25 (Operand.tmp 159) (Operand.tmp 160), type := 0, pos := "ref.go:370", after := #[{ on := 19, ground := Ground.data }, { on := 20, ground := Ground.data }, { on := 18, ground := Ground.guard }], guard := some (18, true) } :: { dst := some 162, op := Op.load 3 (Operand.tmp 161), type := 3, pos := "ref.go:370", after := #[{ on := 21, ground := Ground.data }, { on := 18, ground := Ground.guard }], guard := some (18, true) } :: { dst := some 163, op := Op.move (Operand.tmp 1), type := 3, pos := "ref.go:370", after := #[{ on := 18, ground := Ground.guard }], guard := some (18, true) } :: { dst := some 164, op := Op.binOp BinOp.eql 3 (Operand.tmp 162) (Operand.tmp 163) 3, type := 4, pos := "ref.go:370", after := #[{ on := 22, ground := Ground.data }, { on := 23, ground := Ground.data }, { on := 18, ground := Ground.guard }], guard := some (18, true) } :: { dst := some 165, op := Op.move (Operand.tmp 164), type := 4, pos := "ref.go:370", after := #[{ on := 24, ground := Ground.data }, { on := 18, ground := Ground.chain }, { on := 18, ground := Ground.guard }], guard := some (18, true) } :: { dst := some 166, op := Op.move (Operand.tmp 9), type := 25, pos := "ref.go:370", after := #[{ on := 25, ground := Ground.guard }], guard := some (25, false) } :: { dst := some 167, op := Op.move (Operand.tmp 15), type := 3, pos := "ref.go:370", after := #[{ on := 25, ground := Ground.guard }], guard := some (25, false) } :: { dst := some 168, op := Op.indexAddr 25 (Operand.tmp 166) (Operand.tmp 167), type := 0, pos := "ref.go:370", after := #[{ on := 26, ground := Ground.data }, { on := 27, ground := Ground.data }, { on := 25, ground := Ground.guard }], guard := some (25, false) } :: { dst := some 169, op := Op.load 3 (Operand.tmp 168), type := 3, pos := "ref.go:370", after := #[{ on := 28, ground := Ground.data }, { on := 25, ground := Ground.guard }], guard := some (25, false) } :: { dst := some 170, op := Op.move (Operand.tmp 9), type := 25, pos := "ref.go:370", after := #[{ on := 25, ground := Ground.guard }], guard := some (25, false) } :: { dst := some 171, op := Op.move (Operand.tmp 8), type := 25, pos := "ref.go:370", after := #[{ on := 25, ground := Ground.guard }], guard := some (25, false) } :: { dst := some 172, op := Op.move (Operand.tmp 14), type := 3, pos := "ref.go:370", after := #[{ on := 25, ground := Ground.guard }], guard := some (25, false) } :: { dst := some 173, op := Op.indexAddr 25 (Operand.tmp 171) (Operand.tmp 172), type := 0, pos := "ref.go:370", after := #[{ on := 31, ground := Ground.data }, { on := 32, ground := Ground.data }, { on := 25, ground := Ground.guard }], guard := some (25, false) } :: { dst := some 174, op := Op.load 3 (Operand.tmp 173), type := 3, pos := "ref.go:370", after := #[{ on := 33, ground := Ground.data }, { on := 25, ground := Ground.guard }], guard := some (25, false) } :: { dst := some 175, op := Op.indexAddr 25 (Operand.tmp 170) (Operand.tmp 174), type := 0, pos := "ref.go:370", after := #[{ on := 30, ground := Ground.data }, { on := 34, ground := Ground.data }, { on := 25, ground := Ground.guard }], guard := some (25, false) } :: { dst := some 176, op := Op.load 3 (Operand.tmp 175), type := 3, pos := "ref.go:370", after := #[{ on := 35, ground := Ground.data }, { on := 25, ground := Ground.guard }], guard := some (25, false) } :: { dst := some 177, op := Op.binOp BinOp.gtr 3 (Operand.tmp 169) (Operand.tmp 176) 3, type := 4, pos := "ref.go:370", after := #[{ on := 29, ground := Ground.data }, { on := 36, ground := Ground.data }, { on := 25, ground := Ground.guard }], guard := some (25, false) } :: { dst := some 178, op := Op.pick (Operand.tmp 165) (Operand.const (Value.bool true)) (Operand.tmp 177), type := 4, pos := "ref.go:370", after := #[{ on := 25, ground := Ground.data }, { on := 37, ground := Ground.data }, { on := 18, ground := Ground.guard }], guard := some (18, true) } :: { dst := some 179, op := Op.pick (Operand.tmp 158) (Operand.tmp 178) (Operand.const (Value.bool false)), type := 4, pos := "ref.go:370", after := #[{ on := 18, ground := Ground.data }, { on := 38, ground := Ground.data }], guard := none } :: [])) true).wp Try.prog Q { tmps := List.toArray (t0 :: (.int .i64 (r : Nat)) :: t2 :: t3 :: t4 :: t5 :: t6 :: (.slice (some ⟨bs, 0, none⟩) N N) :: (.slice (some ⟨bo, 0, none⟩) N N) :: (.slice (some ⟨bd, 0, none⟩) N N) :: (.slice (some ⟨bt, 0, none⟩) N N) :: t11 :: t12 :: t13 :: (.int .i64 (k : Nat)) :: (.int .i64 (m : Nat)) :: t16 :: t17 :: t18 :: t19 :: t20 :: t21 :: t22 :: t23 :: t24 :: t25 :: t26 :: t27 :: t28 :: t29 :: t30 :: t31 :: t32 :: t33 :: t34 :: t35 :: t36 :: t37 :: t38 :: t39 :: t40 :: t41 :: t42 :: t43 :: t44 :: t45 :: t46 :: t47 :: t48 :: t49 :: t50 :: t51 :: t52 :: t53 :: t54 :: t55 :: t56 :: t57 :: t58 :: t59 :: t60 :: t61 :: t62 :: t63 :: t64 :: t65 :: t66 :: t67 :: t68 :: t69 :: t70 :: t71 :: t72 :: t73 :: t74 :: t75 :: t76 :: t77 :: t78 :: t79 :: t80 :: t81 :: t82 :: t83 :: t84 :: t85 :: t86 :: t87 :: t88 :: t89 :: t90 :: t91 :: t92 :: t93 :: t94 :: t95 :: t96 :: t97 :: t98 :: t99 :: t100 :: t101 :: t102 :: t103 :: t104 :: t105 :: t106 :: t107 :: t108 :: t109 :: t110 :: t111 :: t112 :: t113 :: t114 :: t115 :: t116 :: t117 :: t118 :: t119 :: t120 :: t121 :: t122 :: t123 :: t124 :: t125 :: t126 :: t127 :: t128 :: t129 :: t130 :: t131 :: t132 :: t133 :: t134 :: t135 :: t136 :: t137 :: t138 :: t139 :: t140 :: t141 :: t142 :: t143 :: t144 :: t145 :: t146 :: t147 :: t148 :: t149 :: t150 :: t151 :: t152 :: t153 :: t154 :: t155 :: t156 :: t157 :: t158 :: t159 :: t160 :: t161 :: t162 :: t163 :: t164 :: t165 :: t166 :: t167 :: t168 :: t169 :: t170 :: t171 :: t172 :: t173 :: t174 :: t175 :: t176 :: t177 :: t178 :: t179 :: t180 :: t181 :: t182 :: t183 :: t184 :: []), defers := [] } wr := by
  have hH := hid h
  clear h
  refine wp_region_noPanic ?_
  refine wp_region_held_drew (S := (fun w' => w'.cell? ⟨bs, m, none⟩ = some (.bool true) ∧ w'.cell? ⟨bt, m, none⟩ = some (.slice (some ⟨bm, 0, none⟩) N N) ∧ w'.cell? ⟨bm, k, none⟩ = some (.bool false))) (by kernel_rfl) ?_ (fun hHeld => ?_)
  · exact ⟨z0, z1, z2⟩
  refine wpAnyH_take (i := 0) (oi := { dst := some 140, op := Op.move (Operand.tmp 15), type := 3, pos := "ref.go:370", after := #[], guard := none }) (v := ?_) rfl (by kernel_rfl) (by kernel_rfl) (by kernel_rfl) (fun _ _ _ h => h) (Or.inl ⟨by rfl, ?_⟩) (by assumption) ?_
  rotate_left
  · intro w hSw
    try dsimp only at hSw
    go_simp
    try with_reducible rfl
  try simp only [Act.put, List.setIfInBounds_toArray, List.set_cons_zero, List.set_cons_succ]
  refine wpAnyH_take (i := 1) (oi := { dst := some 141, op := Op.move (Operand.tmp 1), type := 3, pos := "ref.go:370", after := #[], guard := none }) (v := ?_) rfl (by kernel_rfl) (by kernel_rfl) (by kernel_rfl) (fun _ _ _ h => h) (Or.inl ⟨by rfl, ?_⟩) (by assumption) ?_
  rotate_left
  · intro w hSw
    try dsimp only at hSw
    go_simp
    try with_reducible rfl
  try simp only [Act.put, List.setIfInBounds_toArray, List.set_cons_zero, List.set_cons_succ]
  refine wpAnyH_take (i := 2) (oi := { dst := some 142, op := Op.binOp BinOp.neq 3 (Operand.tmp 140) (Operand.tmp 141) 3, type := 4, pos := "ref.go:370", after := #[{ on := 0, ground := Ground.data }, { on := 1, ground := Ground.data }], guard := none }) (v := ?_) rfl (by kernel_rfl) (by kernel_rfl) (by kernel_rfl) (fun _ _ _ h => h) (Or.inl ⟨by rfl, ?_⟩) (by assumption) ?_
  rotate_left
  · intro w hSw
    try dsimp only at hSw
    go_simp
    try with_reducible rfl
  try simp only [Act.put, List.setIfInBounds_toArray, List.set_cons_zero, List.set_cons_succ]
  refine wpAnyH_take (i := 3) (oi := { dst := some 143, op := Op.move (Operand.tmp 142), type := 4, pos := "ref.go:370", after := #[{ on := 2, ground := Ground.data }], guard := none }) (v := ?_) rfl (by kernel_rfl) (by kernel_rfl) (by kernel_rfl) (fun _ _ _ h => h) (Or.inl ⟨by rfl, ?_⟩) (by assumption) ?_
  rotate_left
  · intro w hSw
    try dsimp only at hSw
    go_simp
    try with_reducible rfl
  try simp only [Act.put, List.setIfInBounds_toArray, List.set_cons_zero, List.set_cons_succ]
  refine wpAnyH_take (i := 4) (oi := { dst := some 144, op := Op.move (Operand.tmp 7), type := 49, pos := "ref.go:370", after := #[{ on := 3, ground := Ground.guard }], guard := some (3, true) }) (v := ?_) rfl (by kernel_rfl) (by kernel_rfl) (by kernel_rfl) (fun _ _ _ h => h) (Or.inl ⟨by rfl, ?_⟩) (by assumption) ?_
  rotate_left
  · intro w hSw
    try dsimp only at hSw
    go_simp
    try with_reducible rfl
  try simp only [Act.put, List.setIfInBounds_toArray, List.set_cons_zero, List.set_cons_succ]
  refine wpAnyH_take (i := 5) (oi := { dst := some 145, op := Op.move (Operand.tmp 15), type := 3, pos := "ref.go:370", after := #[{ on := 3, ground := Ground.guard }], guard := some (3, true) }) (v := ?_) rfl (by kernel_rfl) (by kernel_rfl) (by kernel_rfl) (fun _ _ _ h => h) (Or.inl ⟨by rfl, ?_⟩) (by assumption) ?_
  rotate_left
  · intro w hSw
    try dsimp only at hSw
    go_simp
    try with_reducible rfl
  try simp only [Act.put, List.setIfInBounds_toArray, List.set_cons_zero, List.set_cons_succ]
  refine wpAnyH_take (i := 6) (oi := { dst := some 146, op := Op.indexAddr 49 (Operand.tmp 144) (Operand.tmp 145), type := 0, pos := "ref.go:370", after := #[{ on := 4, ground := Ground.data }, { on := 5, ground := Ground.data }, { on := 3, ground := Ground.guard }], guard := some (3, true) }) (v := ?_) rfl (by kernel_rfl) (by kernel_rfl) (by kernel_rfl) (fun _ _ _ h => h) (Or.inl ⟨by rfl, ?_⟩) (by assumption) ?_
  rotate_left
  · intro w hSw
    try dsimp only at hSw
    go_simp
    try with_reducible rfl
  try simp only [Act.put, List.setIfInBounds_toArray, List.set_cons_zero, List.set_cons_succ]
  refine wpAnyH_take (i := 7) (oi := { dst := some 147, op := Op.load 4 (Operand.tmp 146), type := 4, pos := "ref.go:370", after := #[{ on := 6, ground := Ground.data }, { on := 3, ground := Ground.guard }], guard := some (3, true) }) (v := ?_) rfl (by kernel_rfl) (by kernel_rfl) (by kernel_rfl) (fun _ _ _ h => h) (Or.inl ⟨by rfl, ?_⟩) (by assumption) ?_
  rotate_left
  · intro w hSw
    try dsimp only at hSw
    go_simp
    try with_reducible rfl
  try simp only [Act.put, List.setIfInBounds_toArray, List.set_cons_zero, List.set_cons_succ]
  refine wpAnyH_take (i := 8) (oi := { dst := some 148, op := Op.pick (Operand.tmp 143) (Operand.tmp 147) (Operand.const (Value.bool false)), type := 4, pos := "ref.go:370", after := #[{ on := 3, ground := Ground.data }, { on := 7, ground := Ground.data }], guard := none }) (v := ?_) rfl (by kernel_rfl) (by kernel_rfl) (by kernel_rfl) (fun _ _ _ h => h) (Or.inl ⟨by rfl, ?_⟩) (by assumption) ?_
  rotate_left
  · intro w hSw
    try dsimp only at hSw
    go_simp
    try with_reducible rfl
  try simp only [Act.put, List.setIfInBounds_toArray, List.set_cons_zero, List.set_cons_succ]
  refine wpAnyH_take (i := 9) (oi := { dst := some 149, op := Op.move (Operand.tmp 148), type := 4, pos := "ref.go:370", after := #[{ on := 8, ground := Ground.data }, { on := 3, ground := Ground.chain }], guard := none }) (v := ?_) rfl (by kernel_rfl) (by kernel_rfl) (by kernel_rfl) (fun _ _ _ h => h) (Or.inl ⟨by rfl, ?_⟩) (by assumption) ?_
  rotate_left
  · intro w hSw
    try dsimp only at hSw
    go_simp
    try with_reducible rfl
  try simp only [Act.put, List.setIfInBounds_toArray, List.set_cons_zero, List.set_cons_succ]
  refine wpAnyH_take (i := 10) (oi := { dst := some 150, op := Op.move (Operand.tmp 10), type := 73, pos := "ref.go:370", after := #[{ on := 9, ground := Ground.guard }], guard := some (9, true) }) (v := ?_) rfl (by kernel_rfl) (by kernel_rfl) (by kernel_rfl) (fun _ _ _ h => h) (Or.inl ⟨by rfl, ?_⟩) (by assumption) ?_
  rotate_left
  · intro w hSw
    try dsimp only at hSw
    go_simp
    try with_reducible rfl
  try simp only [Act.put, List.setIfInBounds_toArray, List.set_cons_zero, List.set_cons_succ]
  refine wpAnyH_take (i := 11) (oi := { dst := some 151, op := Op.move (Operand.tmp 15), type := 3, pos := "ref.go:370", after := #[{ on := 9, ground := Ground.guard }], guard := some (9, true) }) (v := ?_) rfl (by kernel_rfl) (by kernel_rfl) (by kernel_rfl) (fun _ _ _ h => h) (Or.inl ⟨by rfl, ?_⟩) (by assumption) ?_
  rotate_left
  · intro w hSw
    try dsimp only at hSw
    go_simp
    try with_reducible rfl
  try simp only [Act.put, List.setIfInBounds_toArray, List.set_cons_zero, List.set_cons_succ]
  refine wpAnyH_take (i := 12) (oi := { dst := some 152, op := Op.indexAddr 73 (Operand.tmp 150) (Operand.tmp 151), type := 0, pos := "ref.go:370", after := #[{ on := 10, ground := Ground.data }, { on := 11, ground := Ground.data }, { on := 9, ground := Ground.guard }], guard := some (9, true) }) (v := ?_) rfl (by kernel_rfl) (by kernel_rfl) (by kernel_rfl) (fun _ _ _ h => h) (Or.inl ⟨by rfl, ?_⟩) (by assumption) ?_
  rotate_left
  · intro w hSw
    try dsimp only at hSw
    go_simp
    try with_reducible rfl
  try simp only [Act.put, List.setIfInBounds_toArray, List.set_cons_zero, List.set_cons_succ]
  refine wpAnyH_take (i := 13) (oi := { dst := some 153, op := Op.load 49 (Operand.tmp 152), type := 49, pos := "ref.go:370", after := #[{ on := 12, ground := Ground.data }, { on := 9, ground := Ground.guard }], guard := some (9, true) }) (v := ?_) rfl (by kernel_rfl) (by kernel_rfl) (by kernel_rfl) (fun _ _ _ h => h) (Or.inl ⟨by rfl, ?_⟩) (by assumption) ?_
  rotate_left
  · intro w hSw
    try dsimp only at hSw
    go_simp
    try with_reducible rfl
  try simp only [Act.put, List.setIfInBounds_toArray, List.set_cons_zero, List.set_cons_succ]
  refine wpAnyH_take (i := 14) (oi := { dst := some 154, op := Op.move (Operand.tmp 14), type := 3, pos := "ref.go:370", after := #[{ on := 9, ground := Ground.guard }], guard := some (9, true) }) (v := ?_) rfl (by kernel_rfl) (by kernel_rfl) (by kernel_rfl) (fun _ _ _ h => h) (Or.inl ⟨by rfl, ?_⟩) (by assumption) ?_
  rotate_left
  · intro w hSw
    try dsimp only at hSw
    go_simp
    try with_reducible rfl
  try simp only [Act.put, List.setIfInBounds_toArray, List.set_cons_zero, List.set_cons_succ]
  refine wpAnyH_take (i := 15) (oi := { dst := some 155, op := Op.indexAddr 49 (Operand.tmp 153) (Operand.tmp 154), type := 0, pos := "ref.go:370", after := #[{ on := 13, ground := Ground.data }, { on := 14, ground := Ground.data }, { on := 9, ground := Ground.guard }], guard := some (9, true) }) (v := ?_) rfl (by kernel_rfl) (by kernel_rfl) (by kernel_rfl) (fun _ _ _ h => h) (Or.inl ⟨by rfl, ?_⟩) (by assumption) ?_
  rotate_left
  · intro w hSw
    try dsimp only at hSw
    go_simp
    try with_reducible rfl
  try simp only [Act.put, List.setIfInBounds_toArray, List.set_cons_zero, List.set_cons_succ]
  refine wpAnyH_take (i := 16) (oi := { dst := some 156, op := Op.load 4 (Operand.tmp 155), type := 4, pos := "ref.go:370", after := #[{ on := 15, ground := Ground.data }, { on := 9, ground := Ground.guard }], guard := some (9, true) }) (v := ?_) rfl (by kernel_rfl) (by kernel_rfl) (by kernel_rfl) (fun _ _ _ h => h) (Or.inl ⟨by rfl, ?_⟩) (by assumption) ?_
  rotate_left
  · intro w hSw
    try dsimp only at hSw
    go_simp
    try with_reducible rfl
  try simp only [Act.put, List.setIfInBounds_toArray, List.set_cons_zero, List.set_cons_succ]
  refine wpAnyH_take (i := 17) (oi := { dst := some 157, op := Op.pick (Operand.tmp 149) (Operand.tmp 156) (Operand.const (Value.bool false)), type := 4, pos := "ref.go:370", after := #[{ on := 9, ground := Ground.data }, { on := 16, ground := Ground.data }], guard := none }) (v := ?_) rfl (by kernel_rfl) (by kernel_rfl) (by kernel_rfl) (fun _ _ _ h => h) (Or.inl ⟨by rfl, ?_⟩) (by assumption) ?_
  rotate_left
  · intro w hSw
    try dsimp only at hSw
    go_simp
    try with_reducible rfl
  try simp only [Act.put, List.setIfInBounds_toArray, List.set_cons_zero, List.set_cons_succ]
  refine wpAnyH_take (i := 18) (oi := { dst := some 158, op := Op.move (Operand.tmp 157), type := 4, pos := "ref.go:370", after := #[{ on := 17, ground := Ground.data }, { on := 9, ground := Ground.chain }], guard := none }) (v := ?_) rfl (by kernel_rfl) (by kernel_rfl) (by kernel_rfl) (fun _ _ _ h => h) (Or.inl ⟨by rfl, ?_⟩) (by assumption) ?_
  rotate_left
  · intro w hSw
    try dsimp only at hSw
    go_simp
    try with_reducible rfl
  try simp only [Act.put, List.setIfInBounds_toArray, List.set_cons_zero, List.set_cons_succ]
  refine wpAnyH_take (i := 19) (oi := { dst := some 159, op := Op.move (Operand.tmp 8), type := 25, pos := "ref.go:370", after := #[{ on := 18, ground := Ground.guard }], guard := some (18, true) }) (v := undef) rfl (by kernel_rfl) (by kernel_rfl) (by kernel_rfl) (fun _ _ _ h => h) (Or.inr ⟨by rfl, rfl⟩) (by assumption) ?_
  try simp only [Act.put, List.setIfInBounds_toArray, List.set_cons_zero, List.set_cons_succ]
  refine wpAnyH_take (i := 20) (oi := { dst := some 160, op := Op.move (Operand.tmp 14), type := 3, pos := "ref.go:370", after := #[{ on := 18, ground := Ground.guard }], guard := some (18, true) }) (v := undef) rfl (by kernel_rfl) (by kernel_rfl) (by kernel_rfl) (fun _ _ _ h => h) (Or.inr ⟨by rfl, rfl⟩) (by assumption) ?_
  try simp only [Act.put, List.setIfInBounds_toArray, List.set_cons_zero, List.set_cons_succ]
  refine wpAnyH_take (i := 21) (oi := { dst := some 161, op := Op.indexAddr 25 (Operand.tmp 159) (Operand.tmp 160), type := 0, pos := "ref.go:370", after := #[{ on := 19, ground := Ground.data }, { on := 20, ground := Ground.data }, { on := 18, ground := Ground.guard }], guard := some (18, true) }) (v := undef) rfl (by kernel_rfl) (by kernel_rfl) (by kernel_rfl) (fun _ _ _ h => h) (Or.inr ⟨by rfl, rfl⟩) (by assumption) ?_
  try simp only [Act.put, List.setIfInBounds_toArray, List.set_cons_zero, List.set_cons_succ]
  refine wpAnyH_take (i := 22) (oi := { dst := some 162, op := Op.load 3 (Operand.tmp 161), type := 3, pos := "ref.go:370", after := #[{ on := 21, ground := Ground.data }, { on := 18, ground := Ground.guard }], guard := some (18, true) }) (v := undef) rfl (by kernel_rfl) (by kernel_rfl) (by kernel_rfl) (fun _ _ _ h => h) (Or.inr ⟨by rfl, rfl⟩) (by assumption) ?_
  try simp only [Act.put, List.setIfInBounds_toArray, List.set_cons_zero, List.set_cons_succ]
  refine wpAnyH_take (i := 23) (oi := { dst := some 163, op := Op.move (Operand.tmp 1), type := 3, pos := "ref.go:370", after := #[{ on := 18, ground := Ground.guard }], guard := some (18, true) }) (v := undef) rfl (by kernel_rfl) (by kernel_rfl) (by kernel_rfl) (fun _ _ _ h => h) (Or.inr ⟨by rfl, rfl⟩) (by assumption) ?_
  try simp only [Act.put, List.setIfInBounds_toArray, List.set_cons_zero, List.set_cons_succ]
  refine wpAnyH_take (i := 24) (oi := { dst := some 164, op := Op.binOp BinOp.eql 3 (Operand.tmp 162) (Operand.tmp 163) 3, type := 4, pos := "ref.go:370", after := #[{ on := 22, ground := Ground.data }, { on := 23, ground := Ground.data }, { on := 18, ground := Ground.guard }], guard := some (18, true) }) (v := undef) rfl (by kernel_rfl) (by kernel_rfl) (by kernel_rfl) (fun _ _ _ h => h) (Or.inr ⟨by rfl, rfl⟩) (by assumption) ?_
  try simp only [Act.put, List.setIfInBounds_toArray, List.set_cons_zero, List.set_cons_succ]
  refine wpAnyH_take (i := 25) (oi := { dst := some 165, op := Op.move (Operand.tmp 164), type := 4, pos := "ref.go:370", after := #[{ on := 24, ground := Ground.data }, { on := 18, ground := Ground.chain }, { on := 18, ground := Ground.guard }], guard := some (18, true) }) (v := undef) rfl (by kernel_rfl) (by kernel_rfl) (by kernel_rfl) (fun _ _ _ h => h) (Or.inr ⟨by rfl, rfl⟩) (by assumption) ?_
  try simp only [Act.put, List.setIfInBounds_toArray, List.set_cons_zero, List.set_cons_succ]
  refine wpAnyH_take (i := 26) (oi := { dst := some 166, op := Op.move (Operand.tmp 9), type := 25, pos := "ref.go:370", after := #[{ on := 25, ground := Ground.guard }], guard := some (25, false) }) (v := undef) rfl (by kernel_rfl) (by kernel_rfl) (by kernel_rfl) (fun _ _ _ h => h) (Or.inr ⟨by rfl, rfl⟩) (by assumption) ?_
  try simp only [Act.put, List.setIfInBounds_toArray, List.set_cons_zero, List.set_cons_succ]
  refine wpAnyH_take (i := 27) (oi := { dst := some 167, op := Op.move (Operand.tmp 15), type := 3, pos := "ref.go:370", after := #[{ on := 25, ground := Ground.guard }], guard := some (25, false) }) (v := undef) rfl (by kernel_rfl) (by kernel_rfl) (by kernel_rfl) (fun _ _ _ h => h) (Or.inr ⟨by rfl, rfl⟩) (by assumption) ?_
  try simp only [Act.put, List.setIfInBounds_toArray, List.set_cons_zero, List.set_cons_succ]
  refine wpAnyH_take (i := 28) (oi := { dst := some 168, op := Op.indexAddr 25 (Operand.tmp 166) (Operand.tmp 167), type := 0, pos := "ref.go:370", after := #[{ on := 26, ground := Ground.data }, { on := 27, ground := Ground.data }, { on := 25, ground := Ground.guard }], guard := some (25, false) }) (v := undef) rfl (by kernel_rfl) (by kernel_rfl) (by kernel_rfl) (fun _ _ _ h => h) (Or.inr ⟨by rfl, rfl⟩) (by assumption) ?_
  try simp only [Act.put, List.setIfInBounds_toArray, List.set_cons_zero, List.set_cons_succ]
  refine wpAnyH_take (i := 29) (oi := { dst := some 169, op := Op.load 3 (Operand.tmp 168), type := 3, pos := "ref.go:370", after := #[{ on := 28, ground := Ground.data }, { on := 25, ground := Ground.guard }], guard := some (25, false) }) (v := undef) rfl (by kernel_rfl) (by kernel_rfl) (by kernel_rfl) (fun _ _ _ h => h) (Or.inr ⟨by rfl, rfl⟩) (by assumption) ?_
  try simp only [Act.put, List.setIfInBounds_toArray, List.set_cons_zero, List.set_cons_succ]
  refine wpAnyH_take (i := 30) (oi := { dst := some 170, op := Op.move (Operand.tmp 9), type := 25, pos := "ref.go:370", after := #[{ on := 25, ground := Ground.guard }], guard := some (25, false) }) (v := undef) rfl (by kernel_rfl) (by kernel_rfl) (by kernel_rfl) (fun _ _ _ h => h) (Or.inr ⟨by rfl, rfl⟩) (by assumption) ?_
  try simp only [Act.put, List.setIfInBounds_toArray, List.set_cons_zero, List.set_cons_succ]
  refine wpAnyH_take (i := 31) (oi := { dst := some 171, op := Op.move (Operand.tmp 8), type := 25, pos := "ref.go:370", after := #[{ on := 25, ground := Ground.guard }], guard := some (25, false) }) (v := undef) rfl (by kernel_rfl) (by kernel_rfl) (by kernel_rfl) (fun _ _ _ h => h) (Or.inr ⟨by rfl, rfl⟩) (by assumption) ?_
  try simp only [Act.put, List.setIfInBounds_toArray, List.set_cons_zero, List.set_cons_succ]
  refine wpAnyH_take (i := 32) (oi := { dst := some 172, op := Op.move (Operand.tmp 14), type := 3, pos := "ref.go:370", after := #[{ on := 25, ground := Ground.guard }], guard := some (25, false) }) (v := undef) rfl (by kernel_rfl) (by kernel_rfl) (by kernel_rfl) (fun _ _ _ h => h) (Or.inr ⟨by rfl, rfl⟩) (by assumption) ?_
  try simp only [Act.put, List.setIfInBounds_toArray, List.set_cons_zero, List.set_cons_succ]
  refine wpAnyH_take (i := 33) (oi := { dst := some 173, op := Op.indexAddr 25 (Operand.tmp 171) (Operand.tmp 172), type := 0, pos := "ref.go:370", after := #[{ on := 31, ground := Ground.data }, { on := 32, ground := Ground.data }, { on := 25, ground := Ground.guard }], guard := some (25, false) }) (v := undef) rfl (by kernel_rfl) (by kernel_rfl) (by kernel_rfl) (fun _ _ _ h => h) (Or.inr ⟨by rfl, rfl⟩) (by assumption) ?_
  try simp only [Act.put, List.setIfInBounds_toArray, List.set_cons_zero, List.set_cons_succ]
  refine wpAnyH_take (i := 34) (oi := { dst := some 174, op := Op.load 3 (Operand.tmp 173), type := 3, pos := "ref.go:370", after := #[{ on := 33, ground := Ground.data }, { on := 25, ground := Ground.guard }], guard := some (25, false) }) (v := undef) rfl (by kernel_rfl) (by kernel_rfl) (by kernel_rfl) (fun _ _ _ h => h) (Or.inr ⟨by rfl, rfl⟩) (by assumption) ?_
  try simp only [Act.put, List.setIfInBounds_toArray, List.set_cons_zero, List.set_cons_succ]
  refine wpAnyH_take (i := 35) (oi := { dst := some 175, op := Op.indexAddr 25 (Operand.tmp 170) (Operand.tmp 174), type := 0, pos := "ref.go:370", after := #[{ on := 30, ground := Ground.data }, { on := 34, ground := Ground.data }, { on := 25, ground := Ground.guard }], guard := some (25, false) }) (v := undef) rfl (by kernel_rfl) (by kernel_rfl) (by kernel_rfl) (fun _ _ _ h => h) (Or.inr ⟨by rfl, rfl⟩) (by assumption) ?_
  try simp only [Act.put, List.setIfInBounds_toArray, List.set_cons_zero, List.set_cons_succ]
  refine wpAnyH_take (i := 36) (oi := { dst := some 176, op := Op.load 3 (Operand.tmp 175), type := 3, pos := "ref.go:370", after := #[{ on := 35, ground := Ground.data }, { on := 25, ground := Ground.guard }], guard := some (25, false) }) (v := undef) rfl (by kernel_rfl) (by kernel_rfl) (by kernel_rfl) (fun _ _ _ h => h) (Or.inr ⟨by rfl, rfl⟩) (by assumption) ?_
  try simp only [Act.put, List.setIfInBounds_toArray, List.set_cons_zero, List.set_cons_succ]
  refine wpAnyH_take (i := 37) (oi := { dst := some 177, op := Op.binOp BinOp.gtr 3 (Operand.tmp 169) (Operand.tmp 176) 3, type := 4, pos := "ref.go:370", after := #[{ on := 29, ground := Ground.data }, { on := 36, ground := Ground.data }, { on := 25, ground := Ground.guard }], guard := some (25, false) }) (v := undef) rfl (by kernel_rfl) (by kernel_rfl) (by kernel_rfl) (fun _ _ _ h => h) (Or.inr ⟨by rfl, rfl⟩) (by assumption) ?_
  try simp only [Act.put, List.setIfInBounds_toArray, List.set_cons_zero, List.set_cons_succ]
  refine wpAnyH_take (i := 38) (oi := { dst := some 178, op := Op.pick (Operand.tmp 165) (Operand.const (Value.bool true)) (Operand.tmp 177), type := 4, pos := "ref.go:370", after := #[{ on := 25, ground := Ground.data }, { on := 37, ground := Ground.data }, { on := 18, ground := Ground.guard }], guard := some (18, true) }) (v := undef) rfl (by kernel_rfl) (by kernel_rfl) (by kernel_rfl) (fun _ _ _ h => h) (Or.inr ⟨by rfl, rfl⟩) (by assumption) ?_
  try simp only [Act.put, List.setIfInBounds_toArray, List.set_cons_zero, List.set_cons_succ]
  refine wpAnyH_take (i := 39) (oi := { dst := some 179, op := Op.pick (Operand.tmp 158) (Operand.tmp 178) (Operand.const (Value.bool false)), type := 4, pos := "ref.go:370", after := #[{ on := 18, ground := Ground.data }, { on := 38, ground := Ground.data }], guard := none }) (v := ?_) rfl (by kernel_rfl) (by kernel_rfl) (by kernel_rfl) (fun _ _ _ h => h) (Or.inl ⟨by rfl, ?_⟩) (by assumption) ?_
  rotate_left
  · intro w hSw
    try dsimp only at hSw
    go_simp
    try with_reducible rfl
  try simp only [Act.put, List.setIfInBounds_toArray, List.set_cons_zero, List.set_cons_succ]
  refine wpAnyH_done (by kernel_rfl) ?_ _
  refine NoPanic.normal ?_
  exact hH.out _ _ _ _ _ _ _ _ _ _ _ _ _ _ _ _ _ _ _ _ _ _ _ _ _ _ _ _ _ _ _ _ _ _ _ _ _ _ _
set_option maxRecDepth 100000 in
set_option maxHeartbeats 32000000 in
theorem dg31_3 {Q : Exit → Act → World → Prop} {N r k m bs bo bd bt bm y : Nat} {wr : World} {t0 t2 t3 t4 t5 t6 t11 t12 t13 t16 t17 t18 t19 t20 t21 t22 t23 t24 t25 t26 t27 t28 t29 t30 t31 t32 t33 t34 t35 t36 t37 t38 t39 t40 t41 t42 t43 t44 t45 t46 t47 t48 t49 t50 t51 t52 t53 t54 t55 t56 t57 t58 t59 t60 t61 t62 t63 t64 t65 t66 t67 t68 t69 t70 t71 t72 t73 t74 t75 t76 t77 t78 t79 t80 t81 t82 t83 t84 t85 t86 t87 t88 t89 t90 t91 t92 t93 t94 t95 t96 t97 t98 t99 t100 t101 t102 t103 t104 t105 t106 t107 t108 t109 t110 t111 t112 t113 t114 t115 t116 t117 t118 t119 t120 t121 t122 t123 t124 t125 t126 t127 t128 t129 t130 t131 t132 t133 t134 t135 t136 t137 t138 t139 t140 t141 t142 t143 t144 t145 t146 t147 t148 t149 t150 t151 t152 t153 t154 t155 t156 t157 t158 t159 t160 t161 t162 t163 t164 t165 t166 t167 t168 t169 t170 t171 t172 t173 t174 t175 t176 t177 t178 t179 t180 t181 t182 t183 t184 : Value} (_hm : (m : Int) < (N : Nat)) (_hk : (k : Int) < (N : Nat)) (c1 : ((m : Int) != (r : Nat)) = true) (_c1 : ¬ (m : Int) = (r : Nat)) (c2 : ((y : Int) == (r : Nat)) = true) (z0 : wr.drew.cell? ⟨bs, m, none⟩ = some (.bool true)) (z1 : wr.drew.cell? ⟨bt, m, none⟩ = some (.slice (some ⟨bm, 0, none⟩) N N)) (z2 : wr.drew.cell? ⟨bm, k, none⟩ = some (.bool true)) (z3 : wr.drew.cell? ⟨bo, k, none⟩ = some (.int .i64 (y : Nat)))
    (h : ∀ (x140 x141 x142 x143 x144 x145 x146 x147 x148 x149 x150 x151 x152 x153 x154 x155 x156 x157 x158 x159 x160 x161 x162 x163 x164 x165 x166 x167 x168 x169 x170 x171 x172 x173 x174 x175 x176 x177 x178 : Value),  Q .normal { tmps := List.toArray (t0 :: (.int .i64 (r : Nat)) :: t2 :: t3 :: t4 :: t5 :: t6 :: (.slice (some ⟨bs, 0, none⟩) N N) :: (.slice (some ⟨bo, 0, none⟩) N N) :: (.slice (some ⟨bd, 0, none⟩) N N) :: (.slice (some ⟨bt, 0, none⟩) N N) :: t11 :: t12 :: t13 :: (.int .i64 (k : Nat)) :: (.int .i64 (m : Nat)) :: t16 :: t17 :: t18 :: t19 :: t20 :: t21 :: t22 :: t23 :: t24 :: t25 :: t26 :: t27 :: t28 :: t29 :: t30 :: t31 :: t32 :: t33 :: t34 :: t35 :: t36 :: t37 :: t38 :: t39 :: t40 :: t41 :: t42 :: t43 :: t44 :: t45 :: t46 :: t47 :: t48 :: t49 :: t50 :: t51 :: t52 :: t53 :: t54 :: t55 :: t56 :: t57 :: t58 :: t59 :: t60 :: t61 :: t62 :: t63 :: t64 :: t65 :: t66 :: t67 :: t68 :: t69 :: t70 :: t71 :: t72 :: t73 :: t74 :: t75 :: t76 :: t77 :: t78 :: t79 :: t80 :: t81 :: t82 :: t83 :: t84 :: t85 :: t86 :: t87 :: t88 :: t89 :: t90 :: t91 :: t92 :: t93 :: t94 :: t95 :: t96 :: t97 :: t98 :: t99 :: t100 :: t101 :: t102 :: t103 :: t104 :: t105 :: t106 :: t107 :: t108 :: t109 :: t110 :: t111 :: t112 :: t113 :: t114 :: t115 :: t116 :: t117 :: t118 :: t119 :: t120 :: t121 :: t122 :: t123 :: t124 :: t125 :: t126 :: t127 :: t128 :: t129 :: t130 :: t131 :: t132 :: t133 :: t134 :: t135 :: t136 :: t137 :: t138 :: t139 :: x140 :: x141 :: x142 :: x143 :: x144 :: x145 :: x146 :: x147 :: x148 :: x149 :: x150 :: x151 :: x152 :: x153 :: x154 :: x155 :: x156 :: x157 :: x158 :: x159 :: x160 :: x161 :: x162 :: x163 :: x164 :: x165 :: x166 :: x167 :: x168 :: x169 :: x170 :: x171 :: x172 :: x173 :: x174 :: x175 :: x176 :: x177 :: x178 :: (.bool true) :: t180 :: t181 :: t182 :: t183 :: t184 :: []), defers := [] } wr.drew) :
    (Code.region 31 (List.toArray ({ dst := some 140, op := Op.move (Operand.tmp 15), type := 3, pos := "ref.go:370", after := #[], guard := none } :: { dst := some 141, op := Op.move (Operand.tmp 1), type := 3, pos := "ref.go:370", after := #[], guard := none } :: { dst := some 142, op := Op.binOp BinOp.neq 3 (Operand.tmp 140) (Operand.tmp 141) 3, type := 4, pos := "ref.go:370", after := #[{ on := 0, ground := Ground.data }, { on := 1, ground := Ground.data }], guard := none } :: { dst := some 143, op := Op.move (Operand.tmp 142), type := 4, pos := "ref.go:370", after := #[{ on := 2, ground := Ground.data }], guard := none } :: { dst := some 144, op := Op.move (Operand.tmp 7), type := 49, pos := "ref.go:370", after := #[{ on := 3, ground := Ground.guard }], guard := some (3, true) } :: { dst := some 145, op := Op.move (Operand.tmp 15), type := 3, pos := "ref.go:370", after := #[{ on := 3, ground := Ground.guard }], guard := some (3, true) } :: { dst := some 146, op := Op.indexAddr 49 (Operand.tmp 144) (Operand.tmp 145), type := 0, pos := "ref.go:370", after := #[{ on := 4, ground := Ground.data }, { on := 5, ground := Ground.data }, { on := 3, ground := Ground.guard }], guard := some (3, true) } :: { dst := some 147, op := Op.load 4 (Operand.tmp 146), type := 4, pos := "ref.go:370", after := #[{ on := 6, ground := Ground.data }, { on := 3, ground := Ground.guard }], guard := some (3, true) } :: { dst := some 148, op := Op.pick (Operand.tmp 143) (Operand.tmp 147) (Operand.const (Value.bool false)), type := 4, pos := "ref.go:370", after := #[{ on := 3, ground := Ground.data }, { on := 7, ground := Ground.data }], guard := none } :: { dst := some 149, op := Op.move (Operand.tmp 148), type := 4, pos := "ref.go:370", after := #[{ on := 8, ground := Ground.data }, { on := 3, ground := Ground.chain }], guard := none } :: { dst := some 150, op := Op.move (Operand.tmp 10), type := 73, pos := "ref.go:370", after := #[{ on := 9, ground := Ground.guard }], guard := some (9, true) } :: { dst := some 151, op := Op.move (Operand.tmp 15), type := 3, pos := "ref.go:370", after := #[{ on := 9, ground := Ground.guard }], guard := some (9, true) } :: { dst := some 152, op := Op.indexAddr 73 (Operand.tmp 150) (Operand.tmp 151), type := 0, pos := "ref.go:370", after := #[{ on := 10, ground := Ground.data }, { on := 11, ground := Ground.data }, { on := 9, ground := Ground.guard }], guard := some (9, true) } :: { dst := some 153, op := Op.load 49 (Operand.tmp 152), type := 49, pos := "ref.go:370", after := #[{ on := 12, ground := Ground.data }, { on := 9, ground := Ground.guard }], guard := some (9, true) } :: { dst := some 154, op := Op.move (Operand.tmp 14), type := 3, pos := "ref.go:370", after := #[{ on := 9, ground := Ground.guard }], guard := some (9, true) } :: { dst := some 155, op := Op.indexAddr 49 (Operand.tmp 153) (Operand.tmp 154), type := 0, pos := "ref.go:370", after := #[{ on := 13, ground := Ground.data }, { on := 14, ground := Ground.data }, { on := 9, ground := Ground.guard }], guard := some (9, true) } :: { dst := some 156, op := Op.load 4 (Operand.tmp 155), type := 4, pos := "ref.go:370", after := #[{ on := 15, ground := Ground.data }, { on := 9, ground := Ground.guard }], guard := some (9, true) } :: { dst := some 157, op := Op.pick (Operand.tmp 149) (Operand.tmp 156) (Operand.const (Value.bool false)), type := 4, pos := "ref.go:370", after := #[{ on := 9, ground := Ground.data }, { on := 16, ground := Ground.data }], guard := none } :: { dst := some 158, op := Op.move (Operand.tmp 157), type := 4, pos := "ref.go:370", after := #[{ on := 17, ground := Ground.data }, { on := 9, ground := Ground.chain }], guard := none } :: { dst := some 159, op := Op.move (Operand.tmp 8), type := 25, pos := "ref.go:370", after := #[{ on := 18, ground := Ground.guard }], guard := some (18, true) } :: { dst := some 160, op := Op.move (Operand.tmp 14), type := 3, pos := "ref.go:370", after := #[{ on := 18, ground := Ground.guard }], guard := some (18, true) } :: { dst := some 161, op := Op.indexAddr 25 (Operand.tmp 159) (Operand.tmp 160), type := 0, pos := "ref.go:370", after := #[{ on := 19, ground := Ground.data }, { on := 20, ground := Ground.data }, { on := 18, ground := Ground.guard }], guard := some (18, true) } :: { dst := some 162, op := Op.load 3 (Operand.tmp 161), type := 3, pos := "ref.go:370", after := #[{ on := 21, ground := Ground.data }, { on := 18, ground := Ground.guard }], guard := some (18, true) } :: { dst := some 163, op := Op.move (Operand.tmp 1), type := 3, pos := "ref.go:370", after := #[{ on := 18, ground := Ground.guard }], guard := some (18, true) } :: { dst := some 164, op := Op.binOp BinOp.eql 3 (Operand.tmp 162) (Operand.tmp 163) 3, type := 4, pos := "ref.go:370", after := #[{ on := 22, ground := Ground.data }, { on := 23, ground := Ground.data }, { on := 18, ground := Ground.guard }], guard := some (18, true) } :: { dst := some 165, op := Op.move (Operand.tmp 164), type := 4, pos := "ref.go:370", after := #[{ on := 24, ground := Ground.data }, { on := 18, ground := Ground.chain }, { on := 18, ground := Ground.guard }], guard := some (18, true) } :: { dst := some 166, op := Op.move (Operand.tmp 9), type := 25, pos := "ref.go:370", after := #[{ on := 25, ground := Ground.guard }], guard := some (25, false) } :: { dst := some 167, op := Op.move (Operand.tmp 15), type := 3, pos := "ref.go:370", after := #[{ on := 25, ground := Ground.guard }], guard := some (25, false) } :: { dst := some 168, op := Op.indexAddr 25 (Operand.tmp 166) (Operand.tmp 167), type := 0, pos := "ref.go:370", after := #[{ on := 26, ground := Ground.data }, { on := 27, ground := Ground.data }, { on := 25, ground := Ground.guard }], guard := some (25, false) } :: { dst := some 169, op := Op.load 3 (Operand.tmp 168), type := 3, pos := "ref.go:370", after := #[{ on := 28, ground := Ground.data }, { on := 25, ground := Ground.guard }], guard := some (25, false) } :: { dst := some 170, op := Op.move (Operand.tmp 9), type := 25, pos := "ref.go:370", after := #[{ on := 25, ground := Ground.guard }], guard := some (25, false) } :: { dst := some 171, op := Op.move (Operand.tmp 8), type := 25, pos := "ref.go:370", after := #[{ on := 25, ground := Ground.guard }], guard := some (25, false) } :: { dst := some 172, op := Op.move (Operand.tmp 14), type := 3, pos := "ref.go:370", after := #[{ on := 25, ground := Ground.guard }], guard := some (25, false) } :: { dst := some 173, op := Op.indexAddr 25 (Operand.tmp 171) (Operand.tmp 172), type := 0, pos := "ref.go:370", after := #[{ on := 31, ground := Ground.data }, { on := 32, ground := Ground.data }, { on := 25, ground := Ground.guard }], guard := some (25, false) } :: { dst := some 174, op := Op.load 3 (Operand.tmp 173), type := 3, pos := "ref.go:370", after := #[{ on := 33, ground := Ground.data }, { on := 25, ground := Ground.guard }], guard := some (25, false) } :: { dst := some 175, op := Op.indexAddr 25 (Operand.tmp 170) (Operand.tmp 174), type := 0, pos := "ref.go:370", after := #[{ on := 30, ground := Ground.data }, { on := 34, ground := Ground.data }, { on := 25, ground := Ground.guard }], guard := some (25, false) } :: { dst := some 176, op := Op.load 3 (Operand.tmp 175), type := 3, pos := "ref.go:370", after := #[{ on := 35, ground := Ground.data }, { on := 25, ground := Ground.guard }], guard := some (25, false) } :: { dst := some 177, op := Op.binOp BinOp.gtr 3 (Operand.tmp 169) (Operand.tmp 176) 3, type := 4, pos := "ref.go:370", after := #[{ on := 29, ground := Ground.data }, { on := 36, ground := Ground.data }, { on := 25, ground := Ground.guard }], guard := some (25, false) } :: { dst := some 178, op := Op.pick (Operand.tmp 165) (Operand.const (Value.bool true)) (Operand.tmp 177), type := 4, pos := "ref.go:370", after := #[{ on := 25, ground := Ground.data }, { on := 37, ground := Ground.data }, { on := 18, ground := Ground.guard }], guard := some (18, true) } :: { dst := some 179, op := Op.pick (Operand.tmp 158) (Operand.tmp 178) (Operand.const (Value.bool false)), type := 4, pos := "ref.go:370", after := #[{ on := 18, ground := Ground.data }, { on := 38, ground := Ground.data }], guard := none } :: [])) true).wp Try.prog Q { tmps := List.toArray (t0 :: (.int .i64 (r : Nat)) :: t2 :: t3 :: t4 :: t5 :: t6 :: (.slice (some ⟨bs, 0, none⟩) N N) :: (.slice (some ⟨bo, 0, none⟩) N N) :: (.slice (some ⟨bd, 0, none⟩) N N) :: (.slice (some ⟨bt, 0, none⟩) N N) :: t11 :: t12 :: t13 :: (.int .i64 (k : Nat)) :: (.int .i64 (m : Nat)) :: t16 :: t17 :: t18 :: t19 :: t20 :: t21 :: t22 :: t23 :: t24 :: t25 :: t26 :: t27 :: t28 :: t29 :: t30 :: t31 :: t32 :: t33 :: t34 :: t35 :: t36 :: t37 :: t38 :: t39 :: t40 :: t41 :: t42 :: t43 :: t44 :: t45 :: t46 :: t47 :: t48 :: t49 :: t50 :: t51 :: t52 :: t53 :: t54 :: t55 :: t56 :: t57 :: t58 :: t59 :: t60 :: t61 :: t62 :: t63 :: t64 :: t65 :: t66 :: t67 :: t68 :: t69 :: t70 :: t71 :: t72 :: t73 :: t74 :: t75 :: t76 :: t77 :: t78 :: t79 :: t80 :: t81 :: t82 :: t83 :: t84 :: t85 :: t86 :: t87 :: t88 :: t89 :: t90 :: t91 :: t92 :: t93 :: t94 :: t95 :: t96 :: t97 :: t98 :: t99 :: t100 :: t101 :: t102 :: t103 :: t104 :: t105 :: t106 :: t107 :: t108 :: t109 :: t110 :: t111 :: t112 :: t113 :: t114 :: t115 :: t116 :: t117 :: t118 :: t119 :: t120 :: t121 :: t122 :: t123 :: t124 :: t125 :: t126 :: t127 :: t128 :: t129 :: t130 :: t131 :: t132 :: t133 :: t134 :: t135 :: t136 :: t137 :: t138 :: t139 :: t140 :: t141 :: t142 :: t143 :: t144 :: t145 :: t146 :: t147 :: t148 :: t149 :: t150 :: t151 :: t152 :: t153 :: t154 :: t155 :: t156 :: t157 :: t158 :: t159 :: t160 :: t161 :: t162 :: t163 :: t164 :: t165 :: t166 :: t167 :: t168 :: t169 :: t170 :: t171 :: t172 :: t173 :: t174 :: t175 :: t176 :: t177 :: t178 :: t179 :: t180 :: t181 :: t182 :: t183 :: t184 :: []), defers := [] } wr := by
  have hH := hid h
  clear h
  refine wp_region_noPanic ?_
  refine wp_region_held_drew (S := (fun w' => w'.cell? ⟨bs, m, none⟩ = some (.bool true) ∧ w'.cell? ⟨bt, m, none⟩ = some (.slice (some ⟨bm, 0, none⟩) N N) ∧ w'.cell? ⟨bm, k, none⟩ = some (.bool true) ∧ w'.cell? ⟨bo, k, none⟩ = some (.int .i64 (y : Nat)))) (by kernel_rfl) ?_ (fun hHeld => ?_)
  · exact ⟨z0, z1, z2, z3⟩
  refine wpAnyH_take (i := 0) (oi := { dst := some 140, op := Op.move (Operand.tmp 15), type := 3, pos := "ref.go:370", after := #[], guard := none }) (v := ?_) rfl (by kernel_rfl) (by kernel_rfl) (by kernel_rfl) (fun _ _ _ h => h) (Or.inl ⟨by rfl, ?_⟩) (by assumption) ?_
  rotate_left
  · intro w hSw
    try dsimp only at hSw
    go_simp
    try with_reducible rfl
  try simp only [Act.put, List.setIfInBounds_toArray, List.set_cons_zero, List.set_cons_succ]
  refine wpAnyH_take (i := 1) (oi := { dst := some 141, op := Op.move (Operand.tmp 1), type := 3, pos := "ref.go:370", after := #[], guard := none }) (v := ?_) rfl (by kernel_rfl) (by kernel_rfl) (by kernel_rfl) (fun _ _ _ h => h) (Or.inl ⟨by rfl, ?_⟩) (by assumption) ?_
  rotate_left
  · intro w hSw
    try dsimp only at hSw
    go_simp
    try with_reducible rfl
  try simp only [Act.put, List.setIfInBounds_toArray, List.set_cons_zero, List.set_cons_succ]
  refine wpAnyH_take (i := 2) (oi := { dst := some 142, op := Op.binOp BinOp.neq 3 (Operand.tmp 140) (Operand.tmp 141) 3, type := 4, pos := "ref.go:370", after := #[{ on := 0, ground := Ground.data }, { on := 1, ground := Ground.data }], guard := none }) (v := ?_) rfl (by kernel_rfl) (by kernel_rfl) (by kernel_rfl) (fun _ _ _ h => h) (Or.inl ⟨by rfl, ?_⟩) (by assumption) ?_
  rotate_left
  · intro w hSw
    try dsimp only at hSw
    go_simp
    try with_reducible rfl
  try simp only [Act.put, List.setIfInBounds_toArray, List.set_cons_zero, List.set_cons_succ]
  refine wpAnyH_take (i := 3) (oi := { dst := some 143, op := Op.move (Operand.tmp 142), type := 4, pos := "ref.go:370", after := #[{ on := 2, ground := Ground.data }], guard := none }) (v := ?_) rfl (by kernel_rfl) (by kernel_rfl) (by kernel_rfl) (fun _ _ _ h => h) (Or.inl ⟨by rfl, ?_⟩) (by assumption) ?_
  rotate_left
  · intro w hSw
    try dsimp only at hSw
    go_simp
    try with_reducible rfl
  try simp only [Act.put, List.setIfInBounds_toArray, List.set_cons_zero, List.set_cons_succ]
  refine wpAnyH_take (i := 4) (oi := { dst := some 144, op := Op.move (Operand.tmp 7), type := 49, pos := "ref.go:370", after := #[{ on := 3, ground := Ground.guard }], guard := some (3, true) }) (v := ?_) rfl (by kernel_rfl) (by kernel_rfl) (by kernel_rfl) (fun _ _ _ h => h) (Or.inl ⟨by rfl, ?_⟩) (by assumption) ?_
  rotate_left
  · intro w hSw
    try dsimp only at hSw
    go_simp
    try with_reducible rfl
  try simp only [Act.put, List.setIfInBounds_toArray, List.set_cons_zero, List.set_cons_succ]
  refine wpAnyH_take (i := 5) (oi := { dst := some 145, op := Op.move (Operand.tmp 15), type := 3, pos := "ref.go:370", after := #[{ on := 3, ground := Ground.guard }], guard := some (3, true) }) (v := ?_) rfl (by kernel_rfl) (by kernel_rfl) (by kernel_rfl) (fun _ _ _ h => h) (Or.inl ⟨by rfl, ?_⟩) (by assumption) ?_
  rotate_left
  · intro w hSw
    try dsimp only at hSw
    go_simp
    try with_reducible rfl
  try simp only [Act.put, List.setIfInBounds_toArray, List.set_cons_zero, List.set_cons_succ]
  refine wpAnyH_take (i := 6) (oi := { dst := some 146, op := Op.indexAddr 49 (Operand.tmp 144) (Operand.tmp 145), type := 0, pos := "ref.go:370", after := #[{ on := 4, ground := Ground.data }, { on := 5, ground := Ground.data }, { on := 3, ground := Ground.guard }], guard := some (3, true) }) (v := ?_) rfl (by kernel_rfl) (by kernel_rfl) (by kernel_rfl) (fun _ _ _ h => h) (Or.inl ⟨by rfl, ?_⟩) (by assumption) ?_
  rotate_left
  · intro w hSw
    try dsimp only at hSw
    go_simp
    try with_reducible rfl
  try simp only [Act.put, List.setIfInBounds_toArray, List.set_cons_zero, List.set_cons_succ]
  refine wpAnyH_take (i := 7) (oi := { dst := some 147, op := Op.load 4 (Operand.tmp 146), type := 4, pos := "ref.go:370", after := #[{ on := 6, ground := Ground.data }, { on := 3, ground := Ground.guard }], guard := some (3, true) }) (v := ?_) rfl (by kernel_rfl) (by kernel_rfl) (by kernel_rfl) (fun _ _ _ h => h) (Or.inl ⟨by rfl, ?_⟩) (by assumption) ?_
  rotate_left
  · intro w hSw
    try dsimp only at hSw
    go_simp
    try with_reducible rfl
  try simp only [Act.put, List.setIfInBounds_toArray, List.set_cons_zero, List.set_cons_succ]
  refine wpAnyH_take (i := 8) (oi := { dst := some 148, op := Op.pick (Operand.tmp 143) (Operand.tmp 147) (Operand.const (Value.bool false)), type := 4, pos := "ref.go:370", after := #[{ on := 3, ground := Ground.data }, { on := 7, ground := Ground.data }], guard := none }) (v := ?_) rfl (by kernel_rfl) (by kernel_rfl) (by kernel_rfl) (fun _ _ _ h => h) (Or.inl ⟨by rfl, ?_⟩) (by assumption) ?_
  rotate_left
  · intro w hSw
    try dsimp only at hSw
    go_simp
    try with_reducible rfl
  try simp only [Act.put, List.setIfInBounds_toArray, List.set_cons_zero, List.set_cons_succ]
  refine wpAnyH_take (i := 9) (oi := { dst := some 149, op := Op.move (Operand.tmp 148), type := 4, pos := "ref.go:370", after := #[{ on := 8, ground := Ground.data }, { on := 3, ground := Ground.chain }], guard := none }) (v := ?_) rfl (by kernel_rfl) (by kernel_rfl) (by kernel_rfl) (fun _ _ _ h => h) (Or.inl ⟨by rfl, ?_⟩) (by assumption) ?_
  rotate_left
  · intro w hSw
    try dsimp only at hSw
    go_simp
    try with_reducible rfl
  try simp only [Act.put, List.setIfInBounds_toArray, List.set_cons_zero, List.set_cons_succ]
  refine wpAnyH_take (i := 10) (oi := { dst := some 150, op := Op.move (Operand.tmp 10), type := 73, pos := "ref.go:370", after := #[{ on := 9, ground := Ground.guard }], guard := some (9, true) }) (v := ?_) rfl (by kernel_rfl) (by kernel_rfl) (by kernel_rfl) (fun _ _ _ h => h) (Or.inl ⟨by rfl, ?_⟩) (by assumption) ?_
  rotate_left
  · intro w hSw
    try dsimp only at hSw
    go_simp
    try with_reducible rfl
  try simp only [Act.put, List.setIfInBounds_toArray, List.set_cons_zero, List.set_cons_succ]
  refine wpAnyH_take (i := 11) (oi := { dst := some 151, op := Op.move (Operand.tmp 15), type := 3, pos := "ref.go:370", after := #[{ on := 9, ground := Ground.guard }], guard := some (9, true) }) (v := ?_) rfl (by kernel_rfl) (by kernel_rfl) (by kernel_rfl) (fun _ _ _ h => h) (Or.inl ⟨by rfl, ?_⟩) (by assumption) ?_
  rotate_left
  · intro w hSw
    try dsimp only at hSw
    go_simp
    try with_reducible rfl
  try simp only [Act.put, List.setIfInBounds_toArray, List.set_cons_zero, List.set_cons_succ]
  refine wpAnyH_take (i := 12) (oi := { dst := some 152, op := Op.indexAddr 73 (Operand.tmp 150) (Operand.tmp 151), type := 0, pos := "ref.go:370", after := #[{ on := 10, ground := Ground.data }, { on := 11, ground := Ground.data }, { on := 9, ground := Ground.guard }], guard := some (9, true) }) (v := ?_) rfl (by kernel_rfl) (by kernel_rfl) (by kernel_rfl) (fun _ _ _ h => h) (Or.inl ⟨by rfl, ?_⟩) (by assumption) ?_
  rotate_left
  · intro w hSw
    try dsimp only at hSw
    go_simp
    try with_reducible rfl
  try simp only [Act.put, List.setIfInBounds_toArray, List.set_cons_zero, List.set_cons_succ]
  refine wpAnyH_take (i := 13) (oi := { dst := some 153, op := Op.load 49 (Operand.tmp 152), type := 49, pos := "ref.go:370", after := #[{ on := 12, ground := Ground.data }, { on := 9, ground := Ground.guard }], guard := some (9, true) }) (v := ?_) rfl (by kernel_rfl) (by kernel_rfl) (by kernel_rfl) (fun _ _ _ h => h) (Or.inl ⟨by rfl, ?_⟩) (by assumption) ?_
  rotate_left
  · intro w hSw
    try dsimp only at hSw
    go_simp
    try with_reducible rfl
  try simp only [Act.put, List.setIfInBounds_toArray, List.set_cons_zero, List.set_cons_succ]
  refine wpAnyH_take (i := 14) (oi := { dst := some 154, op := Op.move (Operand.tmp 14), type := 3, pos := "ref.go:370", after := #[{ on := 9, ground := Ground.guard }], guard := some (9, true) }) (v := ?_) rfl (by kernel_rfl) (by kernel_rfl) (by kernel_rfl) (fun _ _ _ h => h) (Or.inl ⟨by rfl, ?_⟩) (by assumption) ?_
  rotate_left
  · intro w hSw
    try dsimp only at hSw
    go_simp
    try with_reducible rfl
  try simp only [Act.put, List.setIfInBounds_toArray, List.set_cons_zero, List.set_cons_succ]
  refine wpAnyH_take (i := 15) (oi := { dst := some 155, op := Op.indexAddr 49 (Operand.tmp 153) (Operand.tmp 154), type := 0, pos := "ref.go:370", after := #[{ on := 13, ground := Ground.data }, { on := 14, ground := Ground.data }, { on := 9, ground := Ground.guard }], guard := some (9, true) }) (v := ?_) rfl (by kernel_rfl) (by kernel_rfl) (by kernel_rfl) (fun _ _ _ h => h) (Or.inl ⟨by rfl, ?_⟩) (by assumption) ?_
  rotate_left
  · intro w hSw
    try dsimp only at hSw
    go_simp
    try with_reducible rfl
  try simp only [Act.put, List.setIfInBounds_toArray, List.set_cons_zero, List.set_cons_succ]
  refine wpAnyH_take (i := 16) (oi := { dst := some 156, op := Op.load 4 (Operand.tmp 155), type := 4, pos := "ref.go:370", after := #[{ on := 15, ground := Ground.data }, { on := 9, ground := Ground.guard }], guard := some (9, true) }) (v := ?_) rfl (by kernel_rfl) (by kernel_rfl) (by kernel_rfl) (fun _ _ _ h => h) (Or.inl ⟨by rfl, ?_⟩) (by assumption) ?_
  rotate_left
  · intro w hSw
    try dsimp only at hSw
    go_simp
    try with_reducible rfl
  try simp only [Act.put, List.setIfInBounds_toArray, List.set_cons_zero, List.set_cons_succ]
  refine wpAnyH_take (i := 17) (oi := { dst := some 157, op := Op.pick (Operand.tmp 149) (Operand.tmp 156) (Operand.const (Value.bool false)), type := 4, pos := "ref.go:370", after := #[{ on := 9, ground := Ground.data }, { on := 16, ground := Ground.data }], guard := none }) (v := ?_) rfl (by kernel_rfl) (by kernel_rfl) (by kernel_rfl) (fun _ _ _ h => h) (Or.inl ⟨by rfl, ?_⟩) (by assumption) ?_
  rotate_left
  · intro w hSw
    try dsimp only at hSw
    go_simp
    try with_reducible rfl
  try simp only [Act.put, List.setIfInBounds_toArray, List.set_cons_zero, List.set_cons_succ]
  refine wpAnyH_take (i := 18) (oi := { dst := some 158, op := Op.move (Operand.tmp 157), type := 4, pos := "ref.go:370", after := #[{ on := 17, ground := Ground.data }, { on := 9, ground := Ground.chain }], guard := none }) (v := ?_) rfl (by kernel_rfl) (by kernel_rfl) (by kernel_rfl) (fun _ _ _ h => h) (Or.inl ⟨by rfl, ?_⟩) (by assumption) ?_
  rotate_left
  · intro w hSw
    try dsimp only at hSw
    go_simp
    try with_reducible rfl
  try simp only [Act.put, List.setIfInBounds_toArray, List.set_cons_zero, List.set_cons_succ]
  refine wpAnyH_take (i := 19) (oi := { dst := some 159, op := Op.move (Operand.tmp 8), type := 25, pos := "ref.go:370", after := #[{ on := 18, ground := Ground.guard }], guard := some (18, true) }) (v := ?_) rfl (by kernel_rfl) (by kernel_rfl) (by kernel_rfl) (fun _ _ _ h => h) (Or.inl ⟨by rfl, ?_⟩) (by assumption) ?_
  rotate_left
  · intro w hSw
    try dsimp only at hSw
    go_simp
    try with_reducible rfl
  try simp only [Act.put, List.setIfInBounds_toArray, List.set_cons_zero, List.set_cons_succ]
  refine wpAnyH_take (i := 20) (oi := { dst := some 160, op := Op.move (Operand.tmp 14), type := 3, pos := "ref.go:370", after := #[{ on := 18, ground := Ground.guard }], guard := some (18, true) }) (v := ?_) rfl (by kernel_rfl) (by kernel_rfl) (by kernel_rfl) (fun _ _ _ h => h) (Or.inl ⟨by rfl, ?_⟩) (by assumption) ?_
  rotate_left
  · intro w hSw
    try dsimp only at hSw
    go_simp
    try with_reducible rfl
  try simp only [Act.put, List.setIfInBounds_toArray, List.set_cons_zero, List.set_cons_succ]
  refine wpAnyH_take (i := 21) (oi := { dst := some 161, op := Op.indexAddr 25 (Operand.tmp 159) (Operand.tmp 160), type := 0, pos := "ref.go:370", after := #[{ on := 19, ground := Ground.data }, { on := 20, ground := Ground.data }, { on := 18, ground := Ground.guard }], guard := some (18, true) }) (v := ?_) rfl (by kernel_rfl) (by kernel_rfl) (by kernel_rfl) (fun _ _ _ h => h) (Or.inl ⟨by rfl, ?_⟩) (by assumption) ?_
  rotate_left
  · intro w hSw
    try dsimp only at hSw
    go_simp
    try with_reducible rfl
  try simp only [Act.put, List.setIfInBounds_toArray, List.set_cons_zero, List.set_cons_succ]
  refine wpAnyH_take (i := 22) (oi := { dst := some 162, op := Op.load 3 (Operand.tmp 161), type := 3, pos := "ref.go:370", after := #[{ on := 21, ground := Ground.data }, { on := 18, ground := Ground.guard }], guard := some (18, true) }) (v := ?_) rfl (by kernel_rfl) (by kernel_rfl) (by kernel_rfl) (fun _ _ _ h => h) (Or.inl ⟨by rfl, ?_⟩) (by assumption) ?_
  rotate_left
  · intro w hSw
    try dsimp only at hSw
    go_simp
    try with_reducible rfl
  try simp only [Act.put, List.setIfInBounds_toArray, List.set_cons_zero, List.set_cons_succ]
  refine wpAnyH_take (i := 23) (oi := { dst := some 163, op := Op.move (Operand.tmp 1), type := 3, pos := "ref.go:370", after := #[{ on := 18, ground := Ground.guard }], guard := some (18, true) }) (v := ?_) rfl (by kernel_rfl) (by kernel_rfl) (by kernel_rfl) (fun _ _ _ h => h) (Or.inl ⟨by rfl, ?_⟩) (by assumption) ?_
  rotate_left
  · intro w hSw
    try dsimp only at hSw
    go_simp
    try with_reducible rfl
  try simp only [Act.put, List.setIfInBounds_toArray, List.set_cons_zero, List.set_cons_succ]
  refine wpAnyH_take (i := 24) (oi := { dst := some 164, op := Op.binOp BinOp.eql 3 (Operand.tmp 162) (Operand.tmp 163) 3, type := 4, pos := "ref.go:370", after := #[{ on := 22, ground := Ground.data }, { on := 23, ground := Ground.data }, { on := 18, ground := Ground.guard }], guard := some (18, true) }) (v := ?_) rfl (by kernel_rfl) (by kernel_rfl) (by kernel_rfl) (fun _ _ _ h => h) (Or.inl ⟨by rfl, ?_⟩) (by assumption) ?_
  rotate_left
  · intro w hSw
    try dsimp only at hSw
    go_simp
    try with_reducible rfl
  try simp only [Act.put, List.setIfInBounds_toArray, List.set_cons_zero, List.set_cons_succ]
  refine wpAnyH_take (i := 25) (oi := { dst := some 165, op := Op.move (Operand.tmp 164), type := 4, pos := "ref.go:370", after := #[{ on := 24, ground := Ground.data }, { on := 18, ground := Ground.chain }, { on := 18, ground := Ground.guard }], guard := some (18, true) }) (v := ?_) rfl (by kernel_rfl) (by kernel_rfl) (by kernel_rfl) (fun _ _ _ h => h) (Or.inl ⟨by rfl, ?_⟩) (by assumption) ?_
  rotate_left
  · intro w hSw
    try dsimp only at hSw
    go_simp
    try with_reducible rfl
  try simp only [Act.put, List.setIfInBounds_toArray, List.set_cons_zero, List.set_cons_succ]
  refine wpAnyH_take (i := 26) (oi := { dst := some 166, op := Op.move (Operand.tmp 9), type := 25, pos := "ref.go:370", after := #[{ on := 25, ground := Ground.guard }], guard := some (25, false) }) (v := undef) rfl (by kernel_rfl) (by kernel_rfl) (by kernel_rfl) (fun _ _ _ h => h) (Or.inr ⟨by rfl, rfl⟩) (by assumption) ?_
  try simp only [Act.put, List.setIfInBounds_toArray, List.set_cons_zero, List.set_cons_succ]
  refine wpAnyH_take (i := 27) (oi := { dst := some 167, op := Op.move (Operand.tmp 15), type := 3, pos := "ref.go:370", after := #[{ on := 25, ground := Ground.guard }], guard := some (25, false) }) (v := undef) rfl (by kernel_rfl) (by kernel_rfl) (by kernel_rfl) (fun _ _ _ h => h) (Or.inr ⟨by rfl, rfl⟩) (by assumption) ?_
  try simp only [Act.put, List.setIfInBounds_toArray, List.set_cons_zero, List.set_cons_succ]
  refine wpAnyH_take (i := 28) (oi := { dst := some 168, op := Op.indexAddr 25 (Operand.tmp 166) (Operand.tmp 167), type := 0, pos := "ref.go:370", after := #[{ on := 26, ground := Ground.data }, { on := 27, ground := Ground.data }, { on := 25, ground := Ground.guard }], guard := some (25, false) }) (v := undef) rfl (by kernel_rfl) (by kernel_rfl) (by kernel_rfl) (fun _ _ _ h => h) (Or.inr ⟨by rfl, rfl⟩) (by assumption) ?_
  try simp only [Act.put, List.setIfInBounds_toArray, List.set_cons_zero, List.set_cons_succ]
  refine wpAnyH_take (i := 29) (oi := { dst := some 169, op := Op.load 3 (Operand.tmp 168), type := 3, pos := "ref.go:370", after := #[{ on := 28, ground := Ground.data }, { on := 25, ground := Ground.guard }], guard := some (25, false) }) (v := undef) rfl (by kernel_rfl) (by kernel_rfl) (by kernel_rfl) (fun _ _ _ h => h) (Or.inr ⟨by rfl, rfl⟩) (by assumption) ?_
  try simp only [Act.put, List.setIfInBounds_toArray, List.set_cons_zero, List.set_cons_succ]
  refine wpAnyH_take (i := 30) (oi := { dst := some 170, op := Op.move (Operand.tmp 9), type := 25, pos := "ref.go:370", after := #[{ on := 25, ground := Ground.guard }], guard := some (25, false) }) (v := undef) rfl (by kernel_rfl) (by kernel_rfl) (by kernel_rfl) (fun _ _ _ h => h) (Or.inr ⟨by rfl, rfl⟩) (by assumption) ?_
  try simp only [Act.put, List.setIfInBounds_toArray, List.set_cons_zero, List.set_cons_succ]
  refine wpAnyH_take (i := 31) (oi := { dst := some 171, op := Op.move (Operand.tmp 8), type := 25, pos := "ref.go:370", after := #[{ on := 25, ground := Ground.guard }], guard := some (25, false) }) (v := undef) rfl (by kernel_rfl) (by kernel_rfl) (by kernel_rfl) (fun _ _ _ h => h) (Or.inr ⟨by rfl, rfl⟩) (by assumption) ?_
  try simp only [Act.put, List.setIfInBounds_toArray, List.set_cons_zero, List.set_cons_succ]
  refine wpAnyH_take (i := 32) (oi := { dst := some 172, op := Op.move (Operand.tmp 14), type := 3, pos := "ref.go:370", after := #[{ on := 25, ground := Ground.guard }], guard := some (25, false) }) (v := undef) rfl (by kernel_rfl) (by kernel_rfl) (by kernel_rfl) (fun _ _ _ h => h) (Or.inr ⟨by rfl, rfl⟩) (by assumption) ?_
  try simp only [Act.put, List.setIfInBounds_toArray, List.set_cons_zero, List.set_cons_succ]
  refine wpAnyH_take (i := 33) (oi := { dst := some 173, op := Op.indexAddr 25 (Operand.tmp 171) (Operand.tmp 172), type := 0, pos := "ref.go:370", after := #[{ on := 31, ground := Ground.data }, { on := 32, ground := Ground.data }, { on := 25, ground := Ground.guard }], guard := some (25, false) }) (v := undef) rfl (by kernel_rfl) (by kernel_rfl) (by kernel_rfl) (fun _ _ _ h => h) (Or.inr ⟨by rfl, rfl⟩) (by assumption) ?_
  try simp only [Act.put, List.setIfInBounds_toArray, List.set_cons_zero, List.set_cons_succ]
  refine wpAnyH_take (i := 34) (oi := { dst := some 174, op := Op.load 3 (Operand.tmp 173), type := 3, pos := "ref.go:370", after := #[{ on := 33, ground := Ground.data }, { on := 25, ground := Ground.guard }], guard := some (25, false) }) (v := undef) rfl (by kernel_rfl) (by kernel_rfl) (by kernel_rfl) (fun _ _ _ h => h) (Or.inr ⟨by rfl, rfl⟩) (by assumption) ?_
  try simp only [Act.put, List.setIfInBounds_toArray, List.set_cons_zero, List.set_cons_succ]
  refine wpAnyH_take (i := 35) (oi := { dst := some 175, op := Op.indexAddr 25 (Operand.tmp 170) (Operand.tmp 174), type := 0, pos := "ref.go:370", after := #[{ on := 30, ground := Ground.data }, { on := 34, ground := Ground.data }, { on := 25, ground := Ground.guard }], guard := some (25, false) }) (v := undef) rfl (by kernel_rfl) (by kernel_rfl) (by kernel_rfl) (fun _ _ _ h => h) (Or.inr ⟨by rfl, rfl⟩) (by assumption) ?_
  try simp only [Act.put, List.setIfInBounds_toArray, List.set_cons_zero, List.set_cons_succ]
  refine wpAnyH_take (i := 36) (oi := { dst := some 176, op := Op.load 3 (Operand.tmp 175), type := 3, pos := "ref.go:370", after := #[{ on := 35, ground := Ground.data }, { on := 25, ground := Ground.guard }], guard := some (25, false) }) (v := undef) rfl (by kernel_rfl) (by kernel_rfl) (by kernel_rfl) (fun _ _ _ h => h) (Or.inr ⟨by rfl, rfl⟩) (by assumption) ?_
  try simp only [Act.put, List.setIfInBounds_toArray, List.set_cons_zero, List.set_cons_succ]
  refine wpAnyH_take (i := 37) (oi := { dst := some 177, op := Op.binOp BinOp.gtr 3 (Operand.tmp 169) (Operand.tmp 176) 3, type := 4, pos := "ref.go:370", after := #[{ on := 29, ground := Ground.data }, { on := 36, ground := Ground.data }, { on := 25, ground := Ground.guard }], guard := some (25, false) }) (v := undef) rfl (by kernel_rfl) (by kernel_rfl) (by kernel_rfl) (fun _ _ _ h => h) (Or.inr ⟨by rfl, rfl⟩) (by assumption) ?_
  try simp only [Act.put, List.setIfInBounds_toArray, List.set_cons_zero, List.set_cons_succ]
  refine wpAnyH_take (i := 38) (oi := { dst := some 178, op := Op.pick (Operand.tmp 165) (Operand.const (Value.bool true)) (Operand.tmp 177), type := 4, pos := "ref.go:370", after := #[{ on := 25, ground := Ground.data }, { on := 37, ground := Ground.data }, { on := 18, ground := Ground.guard }], guard := some (18, true) }) (v := ?_) rfl (by kernel_rfl) (by kernel_rfl) (by kernel_rfl) (fun _ _ _ h => h) (Or.inl ⟨by rfl, ?_⟩) (by assumption) ?_
  rotate_left
  · intro w hSw
    try dsimp only at hSw
    go_simp
    try with_reducible rfl
  try simp only [Act.put, List.setIfInBounds_toArray, List.set_cons_zero, List.set_cons_succ]
  refine wpAnyH_take (i := 39) (oi := { dst := some 179, op := Op.pick (Operand.tmp 158) (Operand.tmp 178) (Operand.const (Value.bool false)), type := 4, pos := "ref.go:370", after := #[{ on := 18, ground := Ground.data }, { on := 38, ground := Ground.data }], guard := none }) (v := ?_) rfl (by kernel_rfl) (by kernel_rfl) (by kernel_rfl) (fun _ _ _ h => h) (Or.inl ⟨by rfl, ?_⟩) (by assumption) ?_
  rotate_left
  · intro w hSw
    try dsimp only at hSw
    go_simp
    try with_reducible rfl
  try simp only [Act.put, List.setIfInBounds_toArray, List.set_cons_zero, List.set_cons_succ]
  refine wpAnyH_done (by kernel_rfl) ?_ _
  refine NoPanic.normal ?_
  exact hH.out _ _ _ _ _ _ _ _ _ _ _ _ _ _ _ _ _ _ _ _ _ _ _ _ _ _ _ _ _ _ _ _ _ _ _ _ _ _ _
set_option maxRecDepth 100000 in
set_option maxHeartbeats 32000000 in
theorem dg31_4 {Q : Exit → Act → World → Prop} {N r k m bs bo bd bt bm y : Nat} {dm dy : Int} {wr : World} {t0 t2 t3 t4 t5 t6 t11 t12 t13 t16 t17 t18 t19 t20 t21 t22 t23 t24 t25 t26 t27 t28 t29 t30 t31 t32 t33 t34 t35 t36 t37 t38 t39 t40 t41 t42 t43 t44 t45 t46 t47 t48 t49 t50 t51 t52 t53 t54 t55 t56 t57 t58 t59 t60 t61 t62 t63 t64 t65 t66 t67 t68 t69 t70 t71 t72 t73 t74 t75 t76 t77 t78 t79 t80 t81 t82 t83 t84 t85 t86 t87 t88 t89 t90 t91 t92 t93 t94 t95 t96 t97 t98 t99 t100 t101 t102 t103 t104 t105 t106 t107 t108 t109 t110 t111 t112 t113 t114 t115 t116 t117 t118 t119 t120 t121 t122 t123 t124 t125 t126 t127 t128 t129 t130 t131 t132 t133 t134 t135 t136 t137 t138 t139 t140 t141 t142 t143 t144 t145 t146 t147 t148 t149 t150 t151 t152 t153 t154 t155 t156 t157 t158 t159 t160 t161 t162 t163 t164 t165 t166 t167 t168 t169 t170 t171 t172 t173 t174 t175 t176 t177 t178 t179 t180 t181 t182 t183 t184 : Value} (_hm : (m : Int) < (N : Nat)) (_hk : (k : Int) < (N : Nat)) (c1 : ((m : Int) != (r : Nat)) = true) (_c1 : ¬ (m : Int) = (r : Nat)) (c2 : ((y : Int) == (r : Nat)) = false) (_c2 : ¬ (y : Int) = (r : Nat)) (hy : (y : Int) < (N : Nat)) (z0 : wr.drew.cell? ⟨bs, m, none⟩ = some (.bool true)) (z1 : wr.drew.cell? ⟨bt, m, none⟩ = some (.slice (some ⟨bm, 0, none⟩) N N)) (z2 : wr.drew.cell? ⟨bm, k, none⟩ = some (.bool true)) (z3 : wr.drew.cell? ⟨bo, k, none⟩ = some (.int .i64 (y : Nat))) (z4 : wr.drew.cell? ⟨bd, m, none⟩ = some (.int .i64 dm)) (z5 : wr.drew.cell? ⟨bd, y, none⟩ = some (.int .i64 dy))
    (h : ∀ (x140 x141 x142 x143 x144 x145 x146 x147 x148 x149 x150 x151 x152 x153 x154 x155 x156 x157 x158 x159 x160 x161 x162 x163 x164 x165 x166 x167 x168 x169 x170 x171 x172 x173 x174 x175 x176 x177 x178 : Value),  Q .normal { tmps := List.toArray (t0 :: (.int .i64 (r : Nat)) :: t2 :: t3 :: t4 :: t5 :: t6 :: (.slice (some ⟨bs, 0, none⟩) N N) :: (.slice (some ⟨bo, 0, none⟩) N N) :: (.slice (some ⟨bd, 0, none⟩) N N) :: (.slice (some ⟨bt, 0, none⟩) N N) :: t11 :: t12 :: t13 :: (.int .i64 (k : Nat)) :: (.int .i64 (m : Nat)) :: t16 :: t17 :: t18 :: t19 :: t20 :: t21 :: t22 :: t23 :: t24 :: t25 :: t26 :: t27 :: t28 :: t29 :: t30 :: t31 :: t32 :: t33 :: t34 :: t35 :: t36 :: t37 :: t38 :: t39 :: t40 :: t41 :: t42 :: t43 :: t44 :: t45 :: t46 :: t47 :: t48 :: t49 :: t50 :: t51 :: t52 :: t53 :: t54 :: t55 :: t56 :: t57 :: t58 :: t59 :: t60 :: t61 :: t62 :: t63 :: t64 :: t65 :: t66 :: t67 :: t68 :: t69 :: t70 :: t71 :: t72 :: t73 :: t74 :: t75 :: t76 :: t77 :: t78 :: t79 :: t80 :: t81 :: t82 :: t83 :: t84 :: t85 :: t86 :: t87 :: t88 :: t89 :: t90 :: t91 :: t92 :: t93 :: t94 :: t95 :: t96 :: t97 :: t98 :: t99 :: t100 :: t101 :: t102 :: t103 :: t104 :: t105 :: t106 :: t107 :: t108 :: t109 :: t110 :: t111 :: t112 :: t113 :: t114 :: t115 :: t116 :: t117 :: t118 :: t119 :: t120 :: t121 :: t122 :: t123 :: t124 :: t125 :: t126 :: t127 :: t128 :: t129 :: t130 :: t131 :: t132 :: t133 :: t134 :: t135 :: t136 :: t137 :: t138 :: t139 :: x140 :: x141 :: x142 :: x143 :: x144 :: x145 :: x146 :: x147 :: x148 :: x149 :: x150 :: x151 :: x152 :: x153 :: x154 :: x155 :: x156 :: x157 :: x158 :: x159 :: x160 :: x161 :: x162 :: x163 :: x164 :: x165 :: x166 :: x167 :: x168 :: x169 :: x170 :: x171 :: x172 :: x173 :: x174 :: x175 :: x176 :: x177 :: x178 :: (.bool (decide (dy < dm))) :: t180 :: t181 :: t182 :: t183 :: t184 :: []), defers := [] } wr.drew) :
    (Code.region 31 (List.toArray ({ dst := some 140, op := Op.move (Operand.tmp 15), type := 3, pos := "ref.go:370", after := #[], guard := none } :: { dst := some 141, op := Op.move (Operand.tmp 1), type := 3, pos := "ref.go:370", after := #[], guard := none } :: { dst := some 142, op := Op.binOp BinOp.neq 3 (Operand.tmp 140) (Operand.tmp 141) 3, type := 4, pos := "ref.go:370", after := #[{ on := 0, ground := Ground.data }, { on := 1, ground := Ground.data }], guard := none } :: { dst := some 143, op := Op.move (Operand.tmp 142), type := 4, pos := "ref.go:370", after := #[{ on := 2, ground := Ground.data }], guard := none } :: { dst := some 144, op := Op.move (Operand.tmp 7), type := 49, pos := "ref.go:370", after := #[{ on := 3, ground := Ground.guard }], guard := some (3, true) } :: { dst := some 145, op := Op.move (Operand.tmp 15), type := 3, pos := "ref.go:370", after := #[{ on := 3, ground := Ground.guard }], guard := some (3, true) } :: { dst := some 146, op := Op.indexAddr 49 (Operand.tmp 144) (Operand.tmp 145), type := 0, pos := "ref.go:370", after := #[{ on := 4, ground := Ground.data }, { on := 5, ground := Ground.data }, { on := 3, ground := Ground.guard }], guard := some (3, true) } :: { dst := some 147, op := Op.load 4 (Operand.tmp 146), type := 4, pos := "ref.go:370", after := #[{ on := 6, ground := Ground.data }, { on := 3, ground := Ground.guard }], guard := some (3, true) } :: { dst := some 148, op := Op.pick (Operand.tmp 143) (Operand.tmp 147) (Operand.const (Value.bool false)), type := 4, pos := "ref.go:370", after := #[{ on := 3, ground := Ground.data }, { on := 7, ground := Ground.data }], guard := none } :: { dst := some 149, op := Op.move (Operand.tmp 148), type := 4, pos := "ref.go:370", after := #[{ on := 8, ground := Ground.data }, { on := 3, ground := Ground.chain }], guard := none } :: { dst := some 150, op := Op.move (Operand.tmp 10), type := 73, pos := "ref.go:370", after := #[{ on := 9, ground := Ground.guard }], guard := some (9, true) } :: { dst := some 151, op := Op.move (Operand.tmp 15), type := 3, pos := "ref.go:370", after := #[{ on := 9, ground := Ground.guard }], guard := some (9, true) } :: { dst := some 152, op := Op.indexAddr 73 (Operand.tmp 150) (Operand.tmp 151), type := 0, pos := "ref.go:370", after := #[{ on := 10, ground := Ground.data }, { on := 11, ground := Ground.data }, { on := 9, ground := Ground.guard }], guard := some (9, true) } :: { dst := some 153, op := Op.load 49 (Operand.tmp 152), type := 49, pos := "ref.go:370", after := #[{ on := 12, ground := Ground.data }, { on := 9, ground := Ground.guard }], guard := some (9, true) } :: { dst := some 154, op := Op.move (Operand.tmp 14), type := 3, pos := "ref.go:370", after := #[{ on := 9, ground := Ground.guard }], guard := some (9, true) } :: { dst := some 155, op := Op.indexAddr 49 (Operand.tmp 153) (Operand.tmp 154), type := 0, pos := "ref.go:370", after := #[{ on := 13, ground := Ground.data }, { on := 14, ground := Ground.data }, { on := 9, ground := Ground.guard }], guard := some (9, true) } :: { dst := some 156, op := Op.load 4 (Operand.tmp 155), type := 4, pos := "ref.go:370", after := #[{ on := 15, ground := Ground.data }, { on := 9, ground := Ground.guard }], guard := some (9, true) } :: { dst := some 157, op := Op.pick (Operand.tmp 149) (Operand.tmp 156) (Operand.const (Value.bool false)), type := 4, pos := "ref.go:370", after := #[{ on := 9, ground := Ground.data }, { on := 16, ground := Ground.data }], guard := none } :: { dst := some 158, op := Op.move (Operand.tmp 157), type := 4, pos := "ref.go:370", after := #[{ on := 17, ground := Ground.data }, { on := 9, ground := Ground.chain }], guard := none } :: { dst := some 159, op := Op.move (Operand.tmp 8), type := 25, pos := "ref.go:370", after := #[{ on := 18, ground := Ground.guard }], guard := some (18, true) } :: { dst := some 160, op := Op.move (Operand.tmp 14), type := 3, pos := "ref.go:370", after := #[{ on := 18, ground := Ground.guard }], guard := some (18, true) } :: { dst := some 161, op := Op.indexAddr 25 (Operand.tmp 159) (Operand.tmp 160), type := 0, pos := "ref.go:370", after := #[{ on := 19, ground := Ground.data }, { on := 20, ground := Ground.data }, { on := 18, ground := Ground.guard }], guard := some (18, true) } :: { dst := some 162, op := Op.load 3 (Operand.tmp 161), type := 3, pos := "ref.go:370", after := #[{ on := 21, ground := Ground.data }, { on := 18, ground := Ground.guard }], guard := some (18, true) } :: { dst := some 163, op := Op.move (Operand.tmp 1), type := 3, pos := "ref.go:370", after := #[{ on := 18, ground := Ground.guard }], guard := some (18, true) } :: { dst := some 164, op := Op.binOp BinOp.eql 3 (Operand.tmp 162) (Operand.tmp 163) 3, type := 4, pos := "ref.go:370", after := #[{ on := 22, ground := Ground.data }, { on := 23, ground := Ground.data }, { on := 18, ground := Ground.guard }], guard := some (18, true) } :: { dst := some 165, op := Op.move (Operand.tmp 164), type := 4, pos := "ref.go:370", after := #[{ on := 24, ground := Ground.data }, { on := 18, ground := Ground.chain }, { on := 18, ground := Ground.guard }], guard := some (18, true) } :: { dst := some 166, op := Op.move (Operand.tmp 9), type := 25, pos := "ref.go:370", after := #[{ on := 25, ground := Ground.guard }], guard := some (25, false) } :: { dst := some 167, op := Op.move (Operand.tmp 15), type := 3, pos := "ref.go:370", after := #[{ on := 25, ground := Ground.guard }], guard := some (25, false) } :: { dst := some 168, op := Op.indexAddr 25 (Operand.tmp 166) (Operand.tmp 167), type := 0, pos := "ref.go:370", after := #[{ on := 26, ground := Ground.data }, { on := 27, ground := Ground.data }, { on := 25, ground := Ground.guard }], guard := some (25, false) } :: { dst := some 169, op := Op.load 3 (Operand.tmp 168), type := 3, pos := "ref.go:370", after := #[{ on := 28, ground := Ground.data }, { on := 25, ground := Ground.guard }], guard := some (25, false) } :: { dst := some 170, op := Op.move (Operand.tmp 9), type := 25, pos := "ref.go:370", after := #[{ on := 25, ground := Ground.guard }], guard := some (25, false) } :: { dst := some 171, op := Op.move (Operand.tmp 8), type := 25, pos := "ref.go:370", after := #[{ on := 25, ground := Ground.guard }], guard := some (25, false) } :: { dst := some 172, op := Op.move (Operand.tmp 14), type := 3, pos := "ref.go:370", after := #[{ on := 25, ground := Ground.guard }], guard := some (25, false) } :: { dst := some 173, op := Op.indexAddr 25 (Operand.tmp 171) (Operand.tmp 172), type := 0, pos := "ref.go:370", after := #[{ on := 31, ground := Ground.data }, { on := 32, ground := Ground.data }, { on := 25, ground := Ground.guard }], guard := some (25, false) } :: { dst := some 174, op := Op.load 3 (Operand.tmp 173), type := 3, pos := "ref.go:370", after := #[{ on := 33, ground := Ground.data }, { on := 25, ground := Ground.guard }], guard := some (25, false) } :: { dst := some 175, op := Op.indexAddr 25 (Operand.tmp 170) (Operand.tmp 174), type := 0, pos := "ref.go:370", after := #[{ on := 30, ground := Ground.data }, { on := 34, ground := Ground.data }, { on := 25, ground := Ground.guard }], guard := some (25, false) } :: { dst := some 176, op := Op.load 3 (Operand.tmp 175), type := 3, pos := "ref.go:370", after := #[{ on := 35, ground := Ground.data }, { on := 25, ground := Ground.guard }], guard := some (25, false) } :: { dst := some 177, op := Op.binOp BinOp.gtr 3 (Operand.tmp 169) (Operand.tmp 176) 3, type := 4, pos := "ref.go:370", after := #[{ on := 29, ground := Ground.data }, { on := 36, ground := Ground.data }, { on := 25, ground := Ground.guard }], guard := some (25, false) } :: { dst := some 178, op := Op.pick (Operand.tmp 165) (Operand.const (Value.bool true)) (Operand.tmp 177), type := 4, pos := "ref.go:370", after := #[{ on := 25, ground := Ground.data }, { on := 37, ground := Ground.data }, { on := 18, ground := Ground.guard }], guard := some (18, true) } :: { dst := some 179, op := Op.pick (Operand.tmp 158) (Operand.tmp 178) (Operand.const (Value.bool false)), type := 4, pos := "ref.go:370", after := #[{ on := 18, ground := Ground.data }, { on := 38, ground := Ground.data }], guard := none } :: [])) true).wp Try.prog Q { tmps := List.toArray (t0 :: (.int .i64 (r : Nat)) :: t2 :: t3 :: t4 :: t5 :: t6 :: (.slice (some ⟨bs, 0, none⟩) N N) :: (.slice (some ⟨bo, 0, none⟩) N N) :: (.slice (some ⟨bd, 0, none⟩) N N) :: (.slice (some ⟨bt, 0, none⟩) N N) :: t11 :: t12 :: t13 :: (.int .i64 (k : Nat)) :: (.int .i64 (m : Nat)) :: t16 :: t17 :: t18 :: t19 :: t20 :: t21 :: t22 :: t23 :: t24 :: t25 :: t26 :: t27 :: t28 :: t29 :: t30 :: t31 :: t32 :: t33 :: t34 :: t35 :: t36 :: t37 :: t38 :: t39 :: t40 :: t41 :: t42 :: t43 :: t44 :: t45 :: t46 :: t47 :: t48 :: t49 :: t50 :: t51 :: t52 :: t53 :: t54 :: t55 :: t56 :: t57 :: t58 :: t59 :: t60 :: t61 :: t62 :: t63 :: t64 :: t65 :: t66 :: t67 :: t68 :: t69 :: t70 :: t71 :: t72 :: t73 :: t74 :: t75 :: t76 :: t77 :: t78 :: t79 :: t80 :: t81 :: t82 :: t83 :: t84 :: t85 :: t86 :: t87 :: t88 :: t89 :: t90 :: t91 :: t92 :: t93 :: t94 :: t95 :: t96 :: t97 :: t98 :: t99 :: t100 :: t101 :: t102 :: t103 :: t104 :: t105 :: t106 :: t107 :: t108 :: t109 :: t110 :: t111 :: t112 :: t113 :: t114 :: t115 :: t116 :: t117 :: t118 :: t119 :: t120 :: t121 :: t122 :: t123 :: t124 :: t125 :: t126 :: t127 :: t128 :: t129 :: t130 :: t131 :: t132 :: t133 :: t134 :: t135 :: t136 :: t137 :: t138 :: t139 :: t140 :: t141 :: t142 :: t143 :: t144 :: t145 :: t146 :: t147 :: t148 :: t149 :: t150 :: t151 :: t152 :: t153 :: t154 :: t155 :: t156 :: t157 :: t158 :: t159 :: t160 :: t161 :: t162 :: t163 :: t164 :: t165 :: t166 :: t167 :: t168 :: t169 :: t170 :: t171 :: t172 :: t173 :: t174 :: t175 :: t176 :: t177 :: t178 :: t179 :: t180 :: t181 :: t182 :: t183 :: t184 :: []), defers := [] } wr := by
  have hH := hid h
  clear h
  refine wp_region_noPanic ?_
  refine wp_region_held_drew (S := (fun w' => w'.cell? ⟨bs, m, none⟩ = some (.bool true) ∧ w'.cell? ⟨bt, m, none⟩ = some (.slice (some ⟨bm, 0, none⟩) N N) ∧ w'.cell? ⟨bm, k, none⟩ = some (.bool true) ∧ w'.cell? ⟨bo, k, none⟩ = some (.int .i64 (y : Nat)) ∧ w'.cell? ⟨bd, m, none⟩ = some (.int .i64 dm) ∧ w'.cell? ⟨bd, y, none⟩ = some (.int .i64 dy))) (by kernel_rfl) ?_ (fun hHeld => ?_)
  · exact ⟨z0, z1, z2, z3, z4, z5⟩
  refine wpAnyH_take (i := 0) (oi := { dst := some 140, op := Op.move (Operand.tmp 15), type := 3, pos := "ref.go:370", after := #[], guard := none }) (v := ?_) rfl (by kernel_rfl) (by kernel_rfl) (by kernel_rfl) (fun _ _ _ h => h) (Or.inl ⟨by rfl, ?_⟩) (by assumption) ?_
  rotate_left
  · intro w hSw
    try dsimp only at hSw
    go_simp
    try with_reducible rfl
  try simp only [Act.put, List.setIfInBounds_toArray, List.set_cons_zero, List.set_cons_succ]
  refine wpAnyH_take (i := 1) (oi := { dst := some 141, op := Op.move (Operand.tmp 1), type := 3, pos := "ref.go:370", after := #[], guard := none }) (v := ?_) rfl (by kernel_rfl) (by kernel_rfl) (by kernel_rfl) (fun _ _ _ h => h) (Or.inl ⟨by rfl, ?_⟩) (by assumption) ?_
  rotate_left
  · intro w hSw
    try dsimp only at hSw
    go_simp
    try with_reducible rfl
  try simp only [Act.put, List.setIfInBounds_toArray, List.set_cons_zero, List.set_cons_succ]
  refine wpAnyH_take (i := 2) (oi := { dst := some 142, op := Op.binOp BinOp.neq 3 (Operand.tmp 140) (Operand.tmp 141) 3, type := 4, pos := "ref.go:370", after := #[{ on := 0, ground := Ground.data }, { on := 1, ground := Ground.data }], guard := none }) (v := ?_) rfl (by kernel_rfl) (by kernel_rfl) (by kernel_rfl) (fun _ _ _ h => h) (Or.inl ⟨by rfl, ?_⟩) (by assumption) ?_
  rotate_left
  · intro w hSw
    try dsimp only at hSw
    go_simp
    try with_reducible rfl
  try simp only [Act.put, List.setIfInBounds_toArray, List.set_cons_zero, List.set_cons_succ]
  refine wpAnyH_take (i := 3) (oi := { dst := some 143, op := Op.move (Operand.tmp 142), type := 4, pos := "ref.go:370", after := #[{ on := 2, ground := Ground.data }], guard := none }) (v := ?_) rfl (by kernel_rfl) (by kernel_rfl) (by kernel_rfl) (fun _ _ _ h => h) (Or.inl ⟨by rfl, ?_⟩) (by assumption) ?_
  rotate_left
  · intro w hSw
    try dsimp only at hSw
    go_simp
    try with_reducible rfl
  try simp only [Act.put, List.setIfInBounds_toArray, List.set_cons_zero, List.set_cons_succ]
  refine wpAnyH_take (i := 4) (oi := { dst := some 144, op := Op.move (Operand.tmp 7), type := 49, pos := "ref.go:370", after := #[{ on := 3, ground := Ground.guard }], guard := some (3, true) }) (v := ?_) rfl (by kernel_rfl) (by kernel_rfl) (by kernel_rfl) (fun _ _ _ h => h) (Or.inl ⟨by rfl, ?_⟩) (by assumption) ?_
  rotate_left
  · intro w hSw
    try dsimp only at hSw
    go_simp
    try with_reducible rfl
  try simp only [Act.put, List.setIfInBounds_toArray, List.set_cons_zero, List.set_cons_succ]
  refine wpAnyH_take (i := 5) (oi := { dst := some 145, op := Op.move (Operand.tmp 15), type := 3, pos := "ref.go:370", after := #[{ on := 3, ground := Ground.guard }], guard := some (3, true) }) (v := ?_) rfl (by kernel_rfl) (by kernel_rfl) (by kernel_rfl) (fun _ _ _ h => h) (Or.inl ⟨by rfl, ?_⟩) (by assumption) ?_
  rotate_left
  · intro w hSw
    try dsimp only at hSw
    go_simp
    try with_reducible rfl
  try simp only [Act.put, List.setIfInBounds_toArray, List.set_cons_zero, List.set_cons_succ]
  refine wpAnyH_take (i := 6) (oi := { dst := some 146, op := Op.indexAddr 49 (Operand.tmp 144) (Operand.tmp 145), type := 0, pos := "ref.go:370", after := #[{ on := 4, ground := Ground.data }, { on := 5, ground := Ground.data }, { on := 3, ground := Ground.guard }], guard := some (3, true) }) (v := ?_) rfl (by kernel_rfl) (by kernel_rfl) (by kernel_rfl) (fun _ _ _ h => h) (Or.inl ⟨by rfl, ?_⟩) (by assumption) ?_
  rotate_left
  · intro w hSw
    try dsimp only at hSw
    go_simp
    try with_reducible rfl
  try simp only [Act.put, List.setIfInBounds_toArray, List.set_cons_zero, List.set_cons_succ]
  refine wpAnyH_take (i := 7) (oi := { dst := some 147, op := Op.load 4 (Operand.tmp 146), type := 4, pos := "ref.go:370", after := #[{ on := 6, ground := Ground.data }, { on := 3, ground := Ground.guard }], guard := some (3, true) }) (v := ?_) rfl (by kernel_rfl) (by kernel_rfl) (by kernel_rfl) (fun _ _ _ h => h) (Or.inl ⟨by rfl, ?_⟩) (by assumption) ?_
  rotate_left
  · intro w hSw
    try dsimp only at hSw
    go_simp
    try with_reducible rfl
  try simp only [Act.put, List.setIfInBounds_toArray, List.set_cons_zero, List.set_cons_succ]
  refine wpAnyH_take (i := 8) (oi := { dst := some 148, op := Op.pick (Operand.tmp 143) (Operand.tmp 147) (Operand.const (Value.bool false)), type := 4, pos := "ref.go:370", after := #[{ on := 3, ground := Ground.data }, { on := 7, ground := Ground.data }], guard := none }) (v := ?_) rfl (by kernel_rfl) (by kernel_rfl) (by kernel_rfl) (fun _ _ _ h => h) (Or.inl ⟨by rfl, ?_⟩) (by assumption) ?_
  rotate_left
  · intro w hSw
    try dsimp only at hSw
    go_simp
    try with_reducible rfl
  try simp only [Act.put, List.setIfInBounds_toArray, List.set_cons_zero, List.set_cons_succ]
  refine wpAnyH_take (i := 9) (oi := { dst := some 149, op := Op.move (Operand.tmp 148), type := 4, pos := "ref.go:370", after := #[{ on := 8, ground := Ground.data }, { on := 3, ground := Ground.chain }], guard := none }) (v := ?_) rfl (by kernel_rfl) (by kernel_rfl) (by kernel_rfl) (fun _ _ _ h => h) (Or.inl ⟨by rfl, ?_⟩) (by assumption) ?_
  rotate_left
  · intro w hSw
    try dsimp only at hSw
    go_simp
    try with_reducible rfl
  try simp only [Act.put, List.setIfInBounds_toArray, List.set_cons_zero, List.set_cons_succ]
  refine wpAnyH_take (i := 10) (oi := { dst := some 150, op := Op.move (Operand.tmp 10), type := 73, pos := "ref.go:370", after := #[{ on := 9, ground := Ground.guard }], guard := some (9, true) }) (v := ?_) rfl (by kernel_rfl) (by kernel_rfl) (by kernel_rfl) (fun _ _ _ h => h) (Or.inl ⟨by rfl, ?_⟩) (by assumption) ?_
  rotate_left
  · intro w hSw
    try dsimp only at hSw
    go_simp
    try with_reducible rfl
  try simp only [Act.put, List.setIfInBounds_toArray, List.set_cons_zero, List.set_cons_succ]
  refine wpAnyH_take (i := 11) (oi := { dst := some 151, op := Op.move (Operand.tmp 15), type := 3, pos := "ref.go:370", after := #[{ on := 9, ground := Ground.guard }], guard := some (9, true) }) (v := ?_) rfl (by kernel_rfl) (by kernel_rfl) (by kernel_rfl) (fun _ _ _ h => h) (Or.inl ⟨by rfl, ?_⟩) (by assumption) ?_
  rotate_left
  · intro w hSw
    try dsimp only at hSw
    go_simp
    try with_reducible rfl
  try simp only [Act.put, List.setIfInBounds_toArray, List.set_cons_zero, List.set_cons_succ]
  refine wpAnyH_take (i := 12) (oi := { dst := some 152, op := Op.indexAddr 73 (Operand.tmp 150) (Operand.tmp 151), type := 0, pos := "ref.go:370", after := #[{ on := 10, ground := Ground.data }, { on := 11, ground := Ground.data }, { on := 9, ground := Ground.guard }], guard := some (9, true) }) (v := ?_) rfl (by kernel_rfl) (by kernel_rfl) (by kernel_rfl) (fun _ _ _ h => h) (Or.inl ⟨by rfl, ?_⟩) (by assumption) ?_
  rotate_left
  · intro w hSw
    try dsimp only at hSw
    go_simp
    try with_reducible rfl
  try simp only [Act.put, List.setIfInBounds_toArray, List.set_cons_zero, List.set_cons_succ]
  refine wpAnyH_take (i := 13) (oi := { dst := some 153, op := Op.load 49 (Operand.tmp 152), type := 49, pos := "ref.go:370", after := #[{ on := 12, ground := Ground.data }, { on := 9, ground := Ground.guard }], guard := some (9, true) }) (v := ?_) rfl (by kernel_rfl) (by kernel_rfl) (by kernel_rfl) (fun _ _ _ h => h) (Or.inl ⟨by rfl, ?_⟩) (by assumption) ?_
  rotate_left
  · intro w hSw
    try dsimp only at hSw
    go_simp
    try with_reducible rfl
  try simp only [Act.put, List.setIfInBounds_toArray, List.set_cons_zero, List.set_cons_succ]
  refine wpAnyH_take (i := 14) (oi := { dst := some 154, op := Op.move (Operand.tmp 14), type := 3, pos := "ref.go:370", after := #[{ on := 9, ground := Ground.guard }], guard := some (9, true) }) (v := ?_) rfl (by kernel_rfl) (by kernel_rfl) (by kernel_rfl) (fun _ _ _ h => h) (Or.inl ⟨by rfl, ?_⟩) (by assumption) ?_
  rotate_left
  · intro w hSw
    try dsimp only at hSw
    go_simp
    try with_reducible rfl
  try simp only [Act.put, List.setIfInBounds_toArray, List.set_cons_zero, List.set_cons_succ]
  refine wpAnyH_take (i := 15) (oi := { dst := some 155, op := Op.indexAddr 49 (Operand.tmp 153) (Operand.tmp 154), type := 0, pos := "ref.go:370", after := #[{ on := 13, ground := Ground.data }, { on := 14, ground := Ground.data }, { on := 9, ground := Ground.guard }], guard := some (9, true) }) (v := ?_) rfl (by kernel_rfl) (by kernel_rfl) (by kernel_rfl) (fun _ _ _ h => h) (Or.inl ⟨by rfl, ?_⟩) (by assumption) ?_
  rotate_left
  · intro w hSw
    try dsimp only at hSw
    go_simp
    try with_reducible rfl
  try simp only [Act.put, List.setIfInBounds_toArray, List.set_cons_zero, List.set_cons_succ]
  refine wpAnyH_take (i := 16) (oi := { dst := some 156, op := Op.load 4 (Operand.tmp 155), type := 4, pos := "ref.go:370", after := #[{ on := 15, ground := Ground.data }, { on := 9, ground := Ground.guard }], guard := some (9, true) }) (v := ?_) rfl (by kernel_rfl) (by kernel_rfl) (by kernel_rfl) (fun _ _ _ h => h) (Or.inl ⟨by rfl, ?_⟩) (by assumption) ?_
  rotate_left
  · intro w hSw
    try dsimp only at hSw
    go_simp
    try with_reducible rfl
  try simp only [Act.put, List.setIfInBounds_toArray, List.set_cons_zero, List.set_cons_succ]
  refine wpAnyH_take (i := 17) (oi := { dst := some 157, op := Op.pick (Operand.tmp 149) (Operand.tmp 156) (Operand.const (Value.bool false)), type := 4, pos := "ref.go:370", after := #[{ on := 9, ground := Ground.data }, { on := 16, ground := Ground.data }], guard := none }) (v := ?_) rfl (by kernel_rfl) (by kernel_rfl) (by kernel_rfl) (fun _ _ _ h => h) (Or.inl ⟨by rfl, ?_⟩) (by assumption) ?_
  rotate_left
  · intro w hSw
    try dsimp only at hSw
    go_simp
    try with_reducible rfl
  try simp only [Act.put, List.setIfInBounds_toArray, List.set_cons_zero, List.set_cons_succ]
  refine wpAnyH_take (i := 18) (oi := { dst := some 158, op := Op.move (Operand.tmp 157), type := 4, pos := "ref.go:370", after := #[{ on := 17, ground := Ground.data }, { on := 9, ground := Ground.chain }], guard := none }) (v := ?_) rfl (by kernel_rfl) (by kernel_rfl) (by kernel_rfl) (fun _ _ _ h => h) (Or.inl ⟨by rfl, ?_⟩) (by assumption) ?_
  rotate_left
  · intro w hSw
    try dsimp only at hSw
    go_simp
    try with_reducible rfl
  try simp only [Act.put, List.setIfInBounds_toArray, List.set_cons_zero, List.set_cons_succ]
  refine wpAnyH_take (i := 19) (oi := { dst := some 159, op := Op.move (Operand.tmp 8), type := 25, pos := "ref.go:370", after := #[{ on := 18, ground := Ground.guard }], guard := some (18, true) }) (v := ?_) rfl (by kernel_rfl) (by kernel_rfl) (by kernel_rfl) (fun _ _ _ h => h) (Or.inl ⟨by rfl, ?_⟩) (by assumption) ?_
  rotate_left
  · intro w hSw
    try dsimp only at hSw
    go_simp
    try with_reducible rfl
  try simp only [Act.put, List.setIfInBounds_toArray, List.set_cons_zero, List.set_cons_succ]
  refine wpAnyH_take (i := 20) (oi := { dst := some 160, op := Op.move (Operand.tmp 14), type := 3, pos := "ref.go:370", after := #[{ on := 18, ground := Ground.guard }], guard := some (18, true) }) (v := ?_) rfl (by kernel_rfl) (by kernel_rfl) (by kernel_rfl) (fun _ _ _ h => h) (Or.inl ⟨by rfl, ?_⟩) (by assumption) ?_
  rotate_left
  · intro w hSw
    try dsimp only at hSw
    go_simp
    try with_reducible rfl
  try simp only [Act.put, List.setIfInBounds_toArray, List.set_cons_zero, List.set_cons_succ]
  refine wpAnyH_take (i := 21) (oi := { dst := some 161, op := Op.indexAddr 25 (Operand.tmp 159) (Operand.tmp 160), type := 0, pos := "ref.go:370", after := #[{ on := 19, ground := Ground.data }, { on := 20, ground := Ground.data }, { on := 18, ground := Ground.guard }], guard := some (18, true) }) (v := ?_) rfl (by kernel_rfl) (by kernel_rfl) (by kernel_rfl) (fun _ _ _ h => h) (Or.inl ⟨by rfl, ?_⟩) (by assumption) ?_
  rotate_left
  · intro w hSw
    try dsimp only at hSw
    go_simp
    try with_reducible rfl
  try simp only [Act.put, List.setIfInBounds_toArray, List.set_cons_zero, List.set_cons_succ]
  refine wpAnyH_take (i := 22) (oi := { dst := some 162, op := Op.load 3 (Operand.tmp 161), type := 3, pos := "ref.go:370", after := #[{ on := 21, ground := Ground.data }, { on := 18, ground := Ground.guard }], guard := some (18, true) }) (v := ?_) rfl (by kernel_rfl) (by kernel_rfl) (by kernel_rfl) (fun _ _ _ h => h) (Or.inl ⟨by rfl, ?_⟩) (by assumption) ?_
  rotate_left
  · intro w hSw
    try dsimp only at hSw
    go_simp
    try with_reducible rfl
  try simp only [Act.put, List.setIfInBounds_toArray, List.set_cons_zero, List.set_cons_succ]
  refine wpAnyH_take (i := 23) (oi := { dst := some 163, op := Op.move (Operand.tmp 1), type := 3, pos := "ref.go:370", after := #[{ on := 18, ground := Ground.guard }], guard := some (18, true) }) (v := ?_) rfl (by kernel_rfl) (by kernel_rfl) (by kernel_rfl) (fun _ _ _ h => h) (Or.inl ⟨by rfl, ?_⟩) (by assumption) ?_
  rotate_left
  · intro w hSw
    try dsimp only at hSw
    go_simp
    try with_reducible rfl
  try simp only [Act.put, List.setIfInBounds_toArray, List.set_cons_zero, List.set_cons_succ]
  refine wpAnyH_take (i := 24) (oi := { dst := some 164, op := Op.binOp BinOp.eql 3 (Operand.tmp 162) (Operand.tmp 163) 3, type := 4, pos := "ref.go:370", after := #[{ on := 22, ground := Ground.data }, { on := 23, ground := Ground.data }, { on := 18, ground := Ground.guard }], guard := some (18, true) }) (v := ?_) rfl (by kernel_rfl) (by kernel_rfl) (by kernel_rfl) (fun _ _ _ h => h) (Or.inl ⟨by rfl, ?_⟩) (by assumption) ?_
  rotate_left
  · intro w hSw
    try dsimp only at hSw
    go_simp
    try with_reducible rfl
  try simp only [Act.put, List.setIfInBounds_toArray, List.set_cons_zero, List.set_cons_succ]
  refine wpAnyH_take (i := 25) (oi := { dst := some 165, op := Op.move (Operand.tmp 164), type := 4, pos := "ref.go:370", after := #[{ on := 24, ground := Ground.data }, { on := 18, ground := Ground.chain }, { on := 18, ground := Ground.guard }], guard := some (18, true) }) (v := ?_) rfl (by kernel_rfl) (by kernel_rfl) (by kernel_rfl) (fun _ _ _ h => h) (Or.inl ⟨by rfl, ?_⟩) (by assumption) ?_
  rotate_left
  · intro w hSw
    try dsimp only at hSw
    go_simp
    try with_reducible rfl
  try simp only [Act.put, List.setIfInBounds_toArray, List.set_cons_zero, List.set_cons_succ]
  refine wpAnyH_take (i := 26) (oi := { dst := some 166, op := Op.move (Operand.tmp 9), type := 25, pos := "ref.go:370", after := #[{ on := 25, ground := Ground.guard }], guard := some (25, false) }) (v := ?_) rfl (by kernel_rfl) (by kernel_rfl) (by kernel_rfl) (fun _ _ _ h => h) (Or.inl ⟨by rfl, ?_⟩) (by assumption) ?_
  rotate_left
  · intro w hSw
    try dsimp only at hSw
    go_simp
    try with_reducible rfl
  try simp only [Act.put, List.setIfInBounds_toArray, List.set_cons_zero, List.set_cons_succ]
  refine wpAnyH_take (i := 27) (oi := { dst := some 167, op := Op.move (Operand.tmp 15), type := 3, pos := "ref.go:370", after := #[{ on := 25, ground := Ground.guard }], guard := some (25, false) }) (v := ?_) rfl (by kernel_rfl) (by kernel_rfl) (by kernel_rfl) (fun _ _ _ h => h) (Or.inl ⟨by rfl, ?_⟩) (by assumption) ?_
  rotate_left
  · intro w hSw
    try dsimp only at hSw
    go_simp
    try with_reducible rfl
  try simp only [Act.put, List.setIfInBounds_toArray, List.set_cons_zero, List.set_cons_succ]
  refine wpAnyH_take (i := 28) (oi := { dst := some 168, op := Op.indexAddr 25 (Operand.tmp 166) (Operand.tmp 167), type := 0, pos := "ref.go:370", after := #[{ on := 26, ground := Ground.data }, { on := 27, ground := Ground.data }, { on := 25, ground := Ground.guard }], guard := some (25, false) }) (v := ?_) rfl (by kernel_rfl) (by kernel_rfl) (by kernel_rfl) (fun _ _ _ h => h) (Or.inl ⟨by rfl, ?_⟩) (by assumption) ?_
  rotate_left
  · intro w hSw
    try dsimp only at hSw
    go_simp
    try with_reducible rfl
  try simp only [Act.put, List.setIfInBounds_toArray, List.set_cons_zero, List.set_cons_succ]
  refine wpAnyH_take (i := 29) (oi := { dst := some 169, op := Op.load 3 (Operand.tmp 168), type := 3, pos := "ref.go:370", after := #[{ on := 28, ground := Ground.data }, { on := 25, ground := Ground.guard }], guard := some (25, false) }) (v := ?_) rfl (by kernel_rfl) (by kernel_rfl) (by kernel_rfl) (fun _ _ _ h => h) (Or.inl ⟨by rfl, ?_⟩) (by assumption) ?_
  rotate_left
  · intro w hSw
    try dsimp only at hSw
    go_simp
    try with_reducible rfl
  try simp only [Act.put, List.setIfInBounds_toArray, List.set_cons_zero, List.set_cons_succ]
  refine wpAnyH_take (i := 30) (oi := { dst := some 170, op := Op.move (Operand.tmp 9), type := 25, pos := "ref.go:370", after := #[{ on := 25, ground := Ground.guard }], guard := some (25, false) }) (v := ?_) rfl (by kernel_rfl) (by kernel_rfl) (by kernel_rfl) (fun _ _ _ h => h) (Or.inl ⟨by rfl, ?_⟩) (by assumption) ?_
  rotate_left
  · intro w hSw
    try dsimp only at hSw
    go_simp
    try with_reducible rfl
  try simp only [Act.put, List.setIfInBounds_toArray, List.set_cons_zero, List.set_cons_succ]
  refine wpAnyH_take (i := 31) (oi := { dst := some 171, op := Op.move (Operand.tmp 8), type := 25, pos := "ref.go:370", after := #[{ on := 25, ground := Ground.guard }], guard := some (25, false) }) (v := ?_) rfl (by kernel_rfl) (by kernel_rfl) (by kernel_rfl) (fun _ _ _ h => h) (Or.inl ⟨by rfl, ?_⟩) (by assumption) ?_
  rotate_left
  · intro w hSw
    try dsimp only at hSw
    go_simp
    try with_reducible rfl
  try simp only [Act.put, List.setIfInBounds_toArray, List.set_cons_zero, List.set_cons_succ]
  refine wpAnyH_take (i := 32) (oi := { dst := some 172, op := Op.move (Operand.tmp 14), type := 3, pos := "ref.go:370", after := #[{ on := 25, ground := Ground.guard }], guard := some (25, false) }) (v := ?_) rfl (by kernel_rfl) (by kernel_rfl) (by kernel_rfl) (fun _ _ _ h => h) (Or.inl ⟨by rfl, ?_⟩) (by assumption) ?_
  rotate_left
  · intro w hSw
    try dsimp only at hSw
    go_simp
    try with_reducible rfl
  try simp only [Act.put, List.setIfInBounds_toArray, List.set_cons_zero, List.set_cons_succ]
  refine wpAnyH_take (i := 33) (oi := { dst := some 173, op := Op.indexAddr 25 (Operand.tmp 171) (Operand.tmp 172), type := 0, pos := "ref.go:370", after := #[{ on := 31, ground := Ground.data }, { on := 32, ground := Ground.data }, { on := 25, ground := Ground.guard }], guard := some (25, false) }) (v := ?_) rfl (by kernel_rfl) (by kernel_rfl) (by kernel_rfl) (fun _ _ _ h => h) (Or.inl ⟨by rfl, ?_⟩) (by assumption) ?_
  rotate_left
  · intro w hSw
    try dsimp only at hSw
    go_simp
    try with_reducible rfl
  try simp only [Act.put, List.setIfInBounds_toArray, List.set_cons_zero, List.set_cons_succ]
  refine wpAnyH_take (i := 34) (oi := { dst := some 174, op := Op.load 3 (Operand.tmp 173), type := 3, pos := "ref.go:370", after := #[{ on := 33, ground := Ground.data }, { on := 25, ground := Ground.guard }], guard := some (25, false) }) (v := ?_) rfl (by kernel_rfl) (by kernel_rfl) (by kernel_rfl) (fun _ _ _ h => h) (Or.inl ⟨by rfl, ?_⟩) (by assumption) ?_
  rotate_left
  · intro w hSw
    try dsimp only at hSw
    go_simp
    try with_reducible rfl
  try simp only [Act.put, List.setIfInBounds_toArray, List.set_cons_zero, List.set_cons_succ]
  refine wpAnyH_take (i := 35) (oi := { dst := some 175, op := Op.indexAddr 25 (Operand.tmp 170) (Operand.tmp 174), type := 0, pos := "ref.go:370", after := #[{ on := 30, ground := Ground.data }, { on := 34, ground := Ground.data }, { on := 25, ground := Ground.guard }], guard := some (25, false) }) (v := ?_) rfl (by kernel_rfl) (by kernel_rfl) (by kernel_rfl) (fun _ _ _ h => h) (Or.inl ⟨by rfl, ?_⟩) (by assumption) ?_
  rotate_left
  · intro w hSw
    try dsimp only at hSw
    go_simp
    try with_reducible rfl
  try simp only [Act.put, List.setIfInBounds_toArray, List.set_cons_zero, List.set_cons_succ]
  refine wpAnyH_take (i := 36) (oi := { dst := some 176, op := Op.load 3 (Operand.tmp 175), type := 3, pos := "ref.go:370", after := #[{ on := 35, ground := Ground.data }, { on := 25, ground := Ground.guard }], guard := some (25, false) }) (v := ?_) rfl (by kernel_rfl) (by kernel_rfl) (by kernel_rfl) (fun _ _ _ h => h) (Or.inl ⟨by rfl, ?_⟩) (by assumption) ?_
  rotate_left
  · intro w hSw
    try dsimp only at hSw
    go_simp
    try with_reducible rfl
  try simp only [Act.put, List.setIfInBounds_toArray, List.set_cons_zero, List.set_cons_succ]
  refine wpAnyH_take (i := 37) (oi := { dst := some 177, op := Op.binOp BinOp.gtr 3 (Operand.tmp 169) (Operand.tmp 176) 3, type := 4, pos := "ref.go:370", after := #[{ on := 29, ground := Ground.data }, { on := 36, ground := Ground.data }, { on := 25, ground := Ground.guard }], guard := some (25, false) }) (v := ?_) rfl (by kernel_rfl) (by kernel_rfl) (by kernel_rfl) (fun _ _ _ h => h) (Or.inl ⟨by rfl, ?_⟩) (by assumption) ?_
  rotate_left
  · intro w hSw
    try dsimp only at hSw
    go_simp
    try with_reducible rfl
  try simp only [Act.put, List.setIfInBounds_toArray, List.set_cons_zero, List.set_cons_succ]
  refine wpAnyH_take (i := 38) (oi := { dst := some 178, op := Op.pick (Operand.tmp 165) (Operand.const (Value.bool true)) (Operand.tmp 177), type := 4, pos := "ref.go:370", after := #[{ on := 25, ground := Ground.data }, { on := 37, ground := Ground.data }, { on := 18, ground := Ground.guard }], guard := some (18, true) }) (v := ?_) rfl (by kernel_rfl) (by kernel_rfl) (by kernel_rfl) (fun _ _ _ h => h) (Or.inl ⟨by rfl, ?_⟩) (by assumption) ?_
  rotate_left
  · intro w hSw
    try dsimp only at hSw
    go_simp
    try with_reducible rfl
  try simp only [Act.put, List.setIfInBounds_toArray, List.set_cons_zero, List.set_cons_succ]
  refine wpAnyH_take (i := 39) (oi := { dst := some 179, op := Op.pick (Operand.tmp 158) (Operand.tmp 178) (Operand.const (Value.bool false)), type := 4, pos := "ref.go:370", after := #[{ on := 18, ground := Ground.data }, { on := 38, ground := Ground.data }], guard := none }) (v := ?_) rfl (by kernel_rfl) (by kernel_rfl) (by kernel_rfl) (fun _ _ _ h => h) (Or.inl ⟨by rfl, ?_⟩) (by assumption) ?_
  rotate_left
  · intro w hSw
    try dsimp only at hSw
    go_simp
    try with_reducible rfl
  try simp only [Act.put, List.setIfInBounds_toArray, List.set_cons_zero, List.set_cons_succ]
  refine wpAnyH_done (by kernel_rfl) ?_ _
  refine NoPanic.normal ?_
  exact hH.out _ _ _ _ _ _ _ _ _ _ _ _ _ _ _ _ _ _ _ _ _ _ _ _ _ _ _ _ _ _ _ _ _ _ _ _ _ _ _
set_option maxRecDepth 100000 in
set_option maxHeartbeats 32000000 in
theorem dg31 {Q : Exit → Act → World → Prop} {w wr : World} {N r k m y bs bo bd bt : Nat} {A H : Nat → Bool} {F D : Nat → Int} {V : Nat → Sl} {G : Nat → Nat → Bool} {g : Bool} {t0 t2 t3 t4 t5 t6 t11 t12 t13 t16 t17 t18 t19 t20 t21 t22 t23 t24 t25 t26 t27 t28 t29 t30 t31 t32 t33 t34 t35 t36 t37 t38 t39 t40 t41 t42 t43 t44 t45 t46 t47 t48 t49 t50 t51 t52 t53 t54 t55 t56 t57 t58 t59 t60 t61 t62 t63 t64 t65 t66 t67 t68 t69 t70 t71 t72 t73 t74 t75 t76 t77 t78 t79 t80 t81 t82 t83 t84 t85 t86 t87 t88 t89 t90 t91 t92 t93 t94 t95 t96 t97 t98 t99 t100 t101 t102 t103 t104 t105 t106 t107 t108 t109 t110 t111 t112 t113 t114 t115 t116 t117 t118 t119 t120 t121 t122 t123 t124 t125 t126 t127 t128 t129 t130 t131 t132 t133 t134 t135 t136 t137 t138 t139 t140 t141 t142 t143 t144 t145 t146 t147 t148 t149 t150 t151 t152 t153 t154 t155 t156 t157 t158 t159 t160 t161 t162 t163 t164 t165 t166 t167 t168 t169 t170 t171 t172 t173 t174 t175 t176 t177 t178 t179 t180 t181 t182 t183 t184 : Value} (HD : DG w N bs bo bd bt A F D V H G wr) (hH : m ≠ r → A m = true → H m = true) (hm : m < N) (hk : k < N) (hF : F k = (y : Nat)) (hy : y < N) (hg : g = (decide (m ≠ r) && (A m && (G m k && (decide (y = r) || decide (D y < D m))))))
    (h : ∀ (W' : World) (x140 x141 x142 x143 x144 x145 x146 x147 x148 x149 x150 x151 x152 x153 x154 x155 x156 x157 x158 x159 x160 x161 x162 x163 x164 x165 x166 x167 x168 x169 x170 x171 x172 x173 x174 x175 x176 x177 x178 : Value), DG w N bs bo bd bt A F D V H G W' → Q .normal { tmps := List.toArray (t0 :: (.int .i64 (r : Nat)) :: t2 :: t3 :: t4 :: t5 :: t6 :: (.slice (some ⟨bs, 0, none⟩) N N) :: (.slice (some ⟨bo, 0, none⟩) N N) :: (.slice (some ⟨bd, 0, none⟩) N N) :: (.slice (some ⟨bt, 0, none⟩) N N) :: t11 :: t12 :: t13 :: (.int .i64 (k : Nat)) :: (.int .i64 (m : Nat)) :: t16 :: t17 :: t18 :: t19 :: t20 :: t21 :: t22 :: t23 :: t24 :: t25 :: t26 :: t27 :: t28 :: t29 :: t30 :: t31 :: t32 :: t33 :: t34 :: t35 :: t36 :: t37 :: t38 :: t39 :: t40 :: t41 :: t42 :: t43 :: t44 :: t45 :: t46 :: t47 :: t48 :: t49 :: t50 :: t51 :: t52 :: t53 :: t54 :: t55 :: t56 :: t57 :: t58 :: t59 :: t60 :: t61 :: t62 :: t63 :: t64 :: t65 :: t66 :: t67 :: t68 :: t69 :: t70 :: t71 :: t72 :: t73 :: t74 :: t75 :: t76 :: t77 :: t78 :: t79 :: t80 :: t81 :: t82 :: t83 :: t84 :: t85 :: t86 :: t87 :: t88 :: t89 :: t90 :: t91 :: t92 :: t93 :: t94 :: t95 :: t96 :: t97 :: t98 :: t99 :: t100 :: t101 :: t102 :: t103 :: t104 :: t105 :: t106 :: t107 :: t108 :: t109 :: t110 :: t111 :: t112 :: t113 :: t114 :: t115 :: t116 :: t117 :: t118 :: t119 :: t120 :: t121 :: t122 :: t123 :: t124 :: t125 :: t126 :: t127 :: t128 :: t129 :: t130 :: t131 :: t132 :: t133 :: t134 :: t135 :: t136 :: t137 :: t138 :: t139 :: x140 :: x141 :: x142 :: x143 :: x144 :: x145 :: x146 :: x147 :: x148 :: x149 :: x150 :: x151 :: x152 :: x153 :: x154 :: x155 :: x156 :: x157 :: x158 :: x159 :: x160 :: x161 :: x162 :: x163 :: x164 :: x165 :: x166 :: x167 :: x168 :: x169 :: x170 :: x171 :: x172 :: x173 :: x174 :: x175 :: x176 :: x177 :: x178 :: (.bool g) :: t180 :: t181 :: t182 :: t183 :: t184 :: []), defers := [] } W') :
    (Code.region 31 (List.toArray ({ dst := some 140, op := Op.move (Operand.tmp 15), type := 3, pos := "ref.go:370", after := #[], guard := none } :: { dst := some 141, op := Op.move (Operand.tmp 1), type := 3, pos := "ref.go:370", after := #[], guard := none } :: { dst := some 142, op := Op.binOp BinOp.neq 3 (Operand.tmp 140) (Operand.tmp 141) 3, type := 4, pos := "ref.go:370", after := #[{ on := 0, ground := Ground.data }, { on := 1, ground := Ground.data }], guard := none } :: { dst := some 143, op := Op.move (Operand.tmp 142), type := 4, pos := "ref.go:370", after := #[{ on := 2, ground := Ground.data }], guard := none } :: { dst := some 144, op := Op.move (Operand.tmp 7), type := 49, pos := "ref.go:370", after := #[{ on := 3, ground := Ground.guard }], guard := some (3, true) } :: { dst := some 145, op := Op.move (Operand.tmp 15), type := 3, pos := "ref.go:370", after := #[{ on := 3, ground := Ground.guard }], guard := some (3, true) } :: { dst := some 146, op := Op.indexAddr 49 (Operand.tmp 144) (Operand.tmp 145), type := 0, pos := "ref.go:370", after := #[{ on := 4, ground := Ground.data }, { on := 5, ground := Ground.data }, { on := 3, ground := Ground.guard }], guard := some (3, true) } :: { dst := some 147, op := Op.load 4 (Operand.tmp 146), type := 4, pos := "ref.go:370", after := #[{ on := 6, ground := Ground.data }, { on := 3, ground := Ground.guard }], guard := some (3, true) } :: { dst := some 148, op := Op.pick (Operand.tmp 143) (Operand.tmp 147) (Operand.const (Value.bool false)), type := 4, pos := "ref.go:370", after := #[{ on := 3, ground := Ground.data }, { on := 7, ground := Ground.data }], guard := none } :: { dst := some 149, op := Op.move (Operand.tmp 148), type := 4, pos := "ref.go:370", after := #[{ on := 8, ground := Ground.data }, { on := 3, ground := Ground.chain }], guard := none } :: { dst := some 150, op := Op.move (Operand.tmp 10), type := 73, pos := "ref.go:370", after := #[{ on := 9, ground := Ground.guard }], guard := some (9, true) } :: { dst := some 151, op := Op.move (Operand.tmp 15), type := 3, pos := "ref.go:370", after := #[{ on := 9, ground := Ground.guard }], guard := some (9, true) } :: { dst := some 152, op := Op.indexAddr 73 (Operand.tmp 150) (Operand.tmp 151), type := 0, pos := "ref.go:370", after := #[{ on := 10, ground := Ground.data }, { on := 11, ground := Ground.data }, { on := 9, ground := Ground.guard }], guard := some (9, true) } :: { dst := some 153, op := Op.load 49 (Operand.tmp 152), type := 49, pos := "ref.go:370", after := #[{ on := 12, ground := Ground.data }, { on := 9, ground := Ground.guard }], guard := some (9, true) } :: { dst := some 154, op := Op.move (Operand.tmp 14), type := 3, pos := "ref.go:370", after := #[{ on := 9, ground := Ground.guard }], guard := some (9, true) } :: { dst := some 155, op := Op.indexAddr 49 (Operand.tmp 153) (Operand.tmp 154), type := 0, pos := "ref.go:370", after := #[{ on := 13, ground := Ground.data }, { on := 14, ground := Ground.data }, { on := 9, ground := Ground.guard }], guard := some (9, true) } :: { dst := some 156, op := Op.load 4 (Operand.tmp 155), type := 4, pos := "ref.go:370", after := #[{ on := 15, ground := Ground.data }, { on := 9, ground := Ground.guard }], guard := some (9, true) } :: { dst := some 157, op := Op.pick (Operand.tmp 149) (Operand.tmp 156) (Operand.const (Value.bool false)), type := 4, pos := "ref.go:370", after := #[{ on := 9, ground := Ground.data }, { on := 16, ground := Ground.data }], guard := none } :: { dst := some 158, op := Op.move (Operand.tmp 157), type := 4, pos := "ref.go:370", after := #[{ on := 17, ground := Ground.data }, { on := 9, ground := Ground.chain }], guard := none } :: { dst := some 159, op := Op.move (Operand.tmp 8), type := 25, pos := "ref.go:370", after := #[{ on := 18, ground := Ground.guard }], guard := some (18, true) } :: { dst := some 160, op := Op.move (Operand.tmp 14), type := 3, pos := "ref.go:370", after := #[{ on := 18, ground := Ground.guard }], guard := some (18, true) } :: { dst := some 161, op := Op.indexAddr 25 (Operand.tmp 159) (Operand.tmp 160), type := 0, pos := "ref.go:370", after := #[{ on := 19, ground := Ground.data }, { on := 20, ground := Ground.data }, { on := 18, ground := Ground.guard }], guard := some (18, true) } :: { dst := some 162, op := Op.load 3 (Operand.tmp 161), type := 3, pos := "ref.go:370", after := #[{ on := 21, ground := Ground.data }, { on := 18, ground := Ground.guard }], guard := some (18, true) } :: { dst := some 163, op := Op.move (Operand.tmp 1), type := 3, pos := "ref.go:370", after := #[{ on := 18, ground := Ground.guard }], guard := some (18, true) } :: { dst := some 164, op := Op.binOp BinOp.eql 3 (Operand.tmp 162) (Operand.tmp 163) 3, type := 4, pos := "ref.go:370", after := #[{ on := 22, ground := Ground.data }, { on := 23, ground := Ground.data }, { on := 18, ground := Ground.guard }], guard := some (18, true) } :: { dst := some 165, op := Op.move (Operand.tmp 164), type := 4, pos := "ref.go:370", after := #[{ on := 24, ground := Ground.data }, { on := 18, ground := Ground.chain }, { on := 18, ground := Ground.guard }], guard := some (18, true) } :: { dst := some 166, op := Op.move (Operand.tmp 9), type := 25, pos := "ref.go:370", after := #[{ on := 25, ground := Ground.guard }], guard := some (25, false) } :: { dst := some 167, op := Op.move (Operand.tmp 15), type := 3, pos := "ref.go:370", after := #[{ on := 25, ground := Ground.guard }], guard := some (25, false) } :: { dst := some 168, op := Op.indexAddr 25 (Operand.tmp 166) (Operand.tmp 167), type := 0, pos := "ref.go:370", after := #[{ on := 26, ground := Ground.data }, { on := 27, ground := Ground.data }, { on := 25, ground := Ground.guard }], guard := some (25, false) } :: { dst := some 169, op := Op.load 3 (Operand.tmp 168), type := 3, pos := "ref.go:370", after := #[{ on := 28, ground := Ground.data }, { on := 25, ground := Ground.guard }], guard := some (25, false) } :: { dst := some 170, op := Op.move (Operand.tmp 9), type := 25, pos := "ref.go:370", after := #[{ on := 25, ground := Ground.guard }], guard := some (25, false) } :: { dst := some 171, op := Op.move (Operand.tmp 8), type := 25, pos := "ref.go:370", after := #[{ on := 25, ground := Ground.guard }], guard := some (25, false) } :: { dst := some 172, op := Op.move (Operand.tmp 14), type := 3, pos := "ref.go:370", after := #[{ on := 25, ground := Ground.guard }], guard := some (25, false) } :: { dst := some 173, op := Op.indexAddr 25 (Operand.tmp 171) (Operand.tmp 172), type := 0, pos := "ref.go:370", after := #[{ on := 31, ground := Ground.data }, { on := 32, ground := Ground.data }, { on := 25, ground := Ground.guard }], guard := some (25, false) } :: { dst := some 174, op := Op.load 3 (Operand.tmp 173), type := 3, pos := "ref.go:370", after := #[{ on := 33, ground := Ground.data }, { on := 25, ground := Ground.guard }], guard := some (25, false) } :: { dst := some 175, op := Op.indexAddr 25 (Operand.tmp 170) (Operand.tmp 174), type := 0, pos := "ref.go:370", after := #[{ on := 30, ground := Ground.data }, { on := 34, ground := Ground.data }, { on := 25, ground := Ground.guard }], guard := some (25, false) } :: { dst := some 176, op := Op.load 3 (Operand.tmp 175), type := 3, pos := "ref.go:370", after := #[{ on := 35, ground := Ground.data }, { on := 25, ground := Ground.guard }], guard := some (25, false) } :: { dst := some 177, op := Op.binOp BinOp.gtr 3 (Operand.tmp 169) (Operand.tmp 176) 3, type := 4, pos := "ref.go:370", after := #[{ on := 29, ground := Ground.data }, { on := 36, ground := Ground.data }, { on := 25, ground := Ground.guard }], guard := some (25, false) } :: { dst := some 178, op := Op.pick (Operand.tmp 165) (Operand.const (Value.bool true)) (Operand.tmp 177), type := 4, pos := "ref.go:370", after := #[{ on := 25, ground := Ground.data }, { on := 37, ground := Ground.data }, { on := 18, ground := Ground.guard }], guard := some (18, true) } :: { dst := some 179, op := Op.pick (Operand.tmp 158) (Operand.tmp 178) (Operand.const (Value.bool false)), type := 4, pos := "ref.go:370", after := #[{ on := 18, ground := Ground.data }, { on := 38, ground := Ground.data }], guard := none } :: [])) true).wp Try.prog Q { tmps := List.toArray (t0 :: (.int .i64 (r : Nat)) :: t2 :: t3 :: t4 :: t5 :: t6 :: (.slice (some ⟨bs, 0, none⟩) N N) :: (.slice (some ⟨bo, 0, none⟩) N N) :: (.slice (some ⟨bd, 0, none⟩) N N) :: (.slice (some ⟨bt, 0, none⟩) N N) :: t11 :: t12 :: t13 :: (.int .i64 (k : Nat)) :: (.int .i64 (m : Nat)) :: t16 :: t17 :: t18 :: t19 :: t20 :: t21 :: t22 :: t23 :: t24 :: t25 :: t26 :: t27 :: t28 :: t29 :: t30 :: t31 :: t32 :: t33 :: t34 :: t35 :: t36 :: t37 :: t38 :: t39 :: t40 :: t41 :: t42 :: t43 :: t44 :: t45 :: t46 :: t47 :: t48 :: t49 :: t50 :: t51 :: t52 :: t53 :: t54 :: t55 :: t56 :: t57 :: t58 :: t59 :: t60 :: t61 :: t62 :: t63 :: t64 :: t65 :: t66 :: t67 :: t68 :: t69 :: t70 :: t71 :: t72 :: t73 :: t74 :: t75 :: t76 :: t77 :: t78 :: t79 :: t80 :: t81 :: t82 :: t83 :: t84 :: t85 :: t86 :: t87 :: t88 :: t89 :: t90 :: t91 :: t92 :: t93 :: t94 :: t95 :: t96 :: t97 :: t98 :: t99 :: t100 :: t101 :: t102 :: t103 :: t104 :: t105 :: t106 :: t107 :: t108 :: t109 :: t110 :: t111 :: t112 :: t113 :: t114 :: t115 :: t116 :: t117 :: t118 :: t119 :: t120 :: t121 :: t122 :: t123 :: t124 :: t125 :: t126 :: t127 :: t128 :: t129 :: t130 :: t131 :: t132 :: t133 :: t134 :: t135 :: t136 :: t137 :: t138 :: t139 :: t140 :: t141 :: t142 :: t143 :: t144 :: t145 :: t146 :: t147 :: t148 :: t149 :: t150 :: t151 :: t152 :: t153 :: t154 :: t155 :: t156 :: t157 :: t158 :: t159 :: t160 :: t161 :: t162 :: t163 :: t164 :: t165 :: t166 :: t167 :: t168 :: t169 :: t170 :: t171 :: t172 :: t173 :: t174 :: t175 :: t176 :: t177 :: t178 :: t179 :: t180 :: t181 :: t182 :: t183 :: t184 :: []), defers := [] } wr := by
  have HX := HD.drew
  have z0 := (HX.al.at hm).1
  have hmi : (m : Int) < (N : Nat) := by omega
  have hki : (k : Int) < (N : Nat) := by omega
  by_cases e1 : m = r
  · have hgv : g = false := by rw [hg]; simp [e1]
    subst hgv
    exact dg31_0 hmi hki (by simp [e1]) z0 (fun _ _ _ _ _ _ _ _ _ _ _ _ _ _ _ _ _ _ _ _ _ _ _ _ _ _ _ _ _ _ _ _ _ _ _ _ _ _ _ => h _ _ _ _ _ _ _ _ _ _ _ _ _ _ _ _ _ _ _ _ _ _ _ _ _ _ _ _ _ _ _ _ _ _ _ _ _ _ _ _ HX)
  · have d1 : ((m : Int) != (r : Nat)) = true := by simp; omega
    have d2 : ¬ (m : Int) = (r : Nat) := by omega
    cases e2 : A m with
    | false =>
      have hgv : g = false := by rw [hg, e2]; simp
      subst hgv
      rw [e2] at z0
      exact dg31_1 hmi hki d1 d2 z0 (fun _ _ _ _ _ _ _ _ _ _ _ _ _ _ _ _ _ _ _ _ _ _ _ _ _ _ _ _ _ _ _ _ _ _ _ _ _ _ _ => h _ _ _ _ _ _ _ _ _ _ _ _ _ _ _ _ _ _ _ _ _ _ _ _ _ _ _ _ _ _ _ _ _ _ _ _ _ _ _ _ HX)
    | true =>
      rw [e2] at z0
      obtain ⟨bm, eV, om⟩ := HX.rs m (hH e1 e2)
      have z1 := (HX.lo.at hm).1
      rw [eV] at z1
      have z2 := (om.at hk).1
      cases e3 : G m k with
      | false =>
        have hgv : g = false := by rw [hg, e3]; simp
        subst hgv
        rw [e3] at z2
        exact dg31_2 hmi hki d1 d2 z0 z1 z2 (fun _ _ _ _ _ _ _ _ _ _ _ _ _ _ _ _ _ _ _ _ _ _ _ _ _ _ _ _ _ _ _ _ _ _ _ _ _ _ _ => h _ _ _ _ _ _ _ _ _ _ _ _ _ _ _ _ _ _ _ _ _ _ _ _ _ _ _ _ _ _ _ _ _ _ _ _ _ _ _ _ HX)
      | true =>
        rw [e3] at z2
        have z3 := (HX.ou.at hk).1
        rw [hF] at z3
        by_cases e4 : y = r
        · have hgv : g = true := by rw [hg, e2, e3]; simp [e1, e4]
          subst hgv
          exact dg31_3 hmi hki d1 d2 (by simp [e4]) z0 z1 z2 z3 (fun _ _ _ _ _ _ _ _ _ _ _ _ _ _ _ _ _ _ _ _ _ _ _ _ _ _ _ _ _ _ _ _ _ _ _ _ _ _ _ => h _ _ _ _ _ _ _ _ _ _ _ _ _ _ _ _ _ _ _ _ _ _ _ _ _ _ _ _ _ _ _ _ _ _ _ _ _ _ _ _ HX)
        · have d3 : ((y : Int) == (r : Nat)) = false := by simp; omega
          have d4 : ¬ (y : Int) = (r : Nat) := by omega
          have z4 := (HX.de.at hm).1
          have z5 := (HX.de.at hy).1
          have hgv : g = decide (D y < D m) := by rw [hg, e2, e3]; simp [e1, e4]
          subst hgv
          exact dg31_4 hmi hki d1 d2 d3 d4 (by omega) z0 z1 z2 z3 z4 z5 (fun _ _ _ _ _ _ _ _ _ _ _ _ _ _ _ _ _ _ _ _ _ _ _ _ _ _ _ _ _ _ _ _ _ _ _ _ _ _ _ => h _ _ _ _ _ _ _ _ _ _ _ _ _ _ _ _ _ _ _ _ _ _ _ _ _ _ _ _ _ _ _ _ _ _ _ _ _ _ _ _ HX)
end Go.Proofs.Ytghkhceplpjegaa
