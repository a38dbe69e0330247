/- Graph: the law GraphThins. -/
import Derived.Test.YthhjknpfaghfbaaYn5
import Derived.Lib.QuietBelow
import Derived.Laws.CopyOwn
import Derived.Deep.RegionLaw
import Derived.Deep.RegionHeld3
import Derived.Deep.MidRow
namespace Go.Proofs.Ythhjknpfaghfbaa
open Go.RowKit

set_option maxRecDepth 100000 in
set_option maxHeartbeats 16000000 in
theorem th17a {Q : Exit → Act → World → Prop} {N sz Y oy m a cy : Nat} {w : World} {t0 t1 t2 t4 t5 t6 t7 t9 t10 t11 t12 t14 t15 t16 t17 t18 t19 t20 t21 t22 t23 t24 t25 t26 t27 t28 t29 t30 t31 t32 t33 t34 t35 t36 t37 t38 t39 t40 t41 t42 t43 t44 t45 t46 t47 t48 t49 t50 t51 t52 t53 t54 t55 t56 t57 t58 t59 t60 t61 t62 t63 t64 t65 t66 t67 t68 t69 t70 t71 t72 t73 t74 t75 t76 t77 t78 t79 t80 t81 t82 t83 t84 t85 t86 t87 t88 t89 t90 t91 t92 t93 t94 t95 t96 t97 t98 t99 t100 t101 t102 t103 t104 t105 t106 t107 t108 t109 t110 t111 t112 t113 t114 t115 t116 t117 t118 t119 t120 t121 t122 t123 t124 t125 t126 t127 t128 t129 t130 t131 t132 t133 t134 t135 t136 t137 t138 t139 t140 t141 t142 t143 t144 t145 t146 t147 t148 t149 t150 t151 t152 t153 t154 t155 t156 t157 t158 t159 t160 t161 t162 t163 t164 t165 t166 t167 t168 t169 t170 t171 t172 t173 t174 t175 t176 t177 t178 t179 t180 t181 t182 t183 t184 t185 t186 t187 t188 t189 t190 t191 t192 t193 t194 t195 t196 t197 t198 t199 t200 t201 t202 t203 t204 t205 t206 t207 t208 t209 t210 t211 : Value} (h1 : ¬ (a : Int) < 0) (h2 : ¬ (N : Int) ≤ (a : Nat)) (hi : (0 : Int) < (m : Nat)) (e1 : ∀ d os, (Sort.grow (redrawn w d) os).cell? ⟨Y, oy, none⟩ = some (.int .i64 (a : Nat))) (e3 : ∀ d os, (Sort.grow (redrawn w d) os).cell? ⟨sz, 0, none⟩ = some (.int .i64 N))
    (h : ∀ d os, Q .normal { tmps := List.toArray (t0 :: t1 :: t2 :: (.pointer (some ⟨sz, 0, none⟩)) :: t4 :: t5 :: t6 :: t7 :: (.slice (some ⟨Y, oy, none⟩) m cy) :: t9 :: t10 :: t11 :: t12 :: (.int .i64 0) :: t14 :: t15 :: t16 :: t17 :: t18 :: t19 :: t20 :: t21 :: t22 :: t23 :: t24 :: t25 :: t26 :: t27 :: t28 :: t29 :: t30 :: t31 :: t32 :: t33 :: t34 :: t35 :: t36 :: t37 :: t38 :: t39 :: t40 :: t41 :: t42 :: t43 :: t44 :: t45 :: t46 :: t47 :: t48 :: t49 :: t50 :: t51 :: t52 :: t53 :: t54 :: t55 :: t56 :: t57 :: t58 :: (.slice (some ⟨Y, oy, none⟩) m cy) :: (.int .i64 0) :: (.pointer (some ⟨Y, oy, none⟩)) :: (.int .i64 (a : Nat)) :: (.bool false) :: (.bool false) :: (.slice (some ⟨Y, oy, none⟩) m cy) :: (.int .i64 0) :: (.pointer (some ⟨Y, oy, none⟩)) :: (.int .i64 (a : Nat)) :: (.pointer (some ⟨sz, 0, none⟩)) :: (.int .i64 N) :: (.bool false) :: (.bool false) :: (.bool false) :: (.int .i64 0) :: (.bool false) :: (.bool false) :: undef :: undef :: undef :: undef :: undef :: undef :: undef :: undef :: undef :: undef :: undef :: undef :: (.bool false) :: (.bool false) :: t91 :: t92 :: t93 :: t94 :: t95 :: t96 :: t97 :: t98 :: t99 :: t100 :: t101 :: t102 :: t103 :: t104 :: t105 :: t106 :: t107 :: t108 :: t109 :: t110 :: t111 :: t112 :: t113 :: t114 :: t115 :: t116 :: t117 :: t118 :: t119 :: t120 :: t121 :: t122 :: t123 :: t124 :: t125 :: t126 :: t127 :: t128 :: t129 :: t130 :: t131 :: t132 :: t133 :: t134 :: t135 :: t136 :: t137 :: t138 :: t139 :: t140 :: t141 :: t142 :: t143 :: t144 :: t145 :: t146 :: t147 :: t148 :: t149 :: t150 :: t151 :: t152 :: t153 :: t154 :: t155 :: t156 :: t157 :: t158 :: t159 :: t160 :: t161 :: t162 :: t163 :: t164 :: t165 :: t166 :: t167 :: t168 :: t169 :: t170 :: t171 :: t172 :: t173 :: t174 :: t175 :: t176 :: t177 :: t178 :: t179 :: t180 :: t181 :: t182 :: t183 :: t184 :: t185 :: t186 :: t187 :: t188 :: t189 :: t190 :: t191 :: t192 :: t193 :: t194 :: t195 :: t196 :: t197 :: t198 :: t199 :: t200 :: t201 :: t202 :: t203 :: t204 :: t205 :: t206 :: t207 :: t208 :: t209 :: t210 :: t211 :: []), defers := [] } (Sort.grow (redrawn w d) os)) :
    (Code.region 17 (List.toArray ({ dst := some 59, op := Op.move (Operand.tmp 8), type := 25, pos := "law.go:247", after := #[], guard := none } :: { dst := some 60, op := Op.move (Operand.tmp 13), type := 3, pos := "law.go:247", after := #[], guard := none } :: { dst := some 61, op := Op.indexAddr 25 (Operand.tmp 59) (Operand.tmp 60), type := 0, pos := "law.go:247", after := #[{ on := 0, ground := Ground.data }, { on := 1, ground := Ground.data }], guard := none } :: { dst := some 62, op := Op.load 3 (Operand.tmp 61), type := 3, pos := "law.go:247", after := #[{ on := 2, ground := Ground.data }], guard := none } :: { dst := some 63, op := Op.binOp BinOp.lss 3 (Operand.tmp 62) (Operand.const (Value.int IntKind.i64 0)) 3, type := 4, pos := "law.go:247", after := #[{ on := 3, ground := Ground.data }], guard := none } :: { dst := some 64, op := Op.move (Operand.tmp 63), type := 4, pos := "law.go:247", after := #[{ on := 4, ground := Ground.data }], guard := none } :: { dst := some 65, op := Op.move (Operand.tmp 8), type := 25, pos := "law.go:247", after := #[{ on := 5, ground := Ground.guard }], guard := some (5, false) } :: { dst := some 66, op := Op.move (Operand.tmp 13), type := 3, pos := "law.go:247", after := #[{ on := 5, ground := Ground.guard }], guard := some (5, false) } :: { dst := some 67, op := Op.indexAddr 25 (Operand.tmp 65) (Operand.tmp 66), type := 0, pos := "law.go:247", after := #[{ on := 6, ground := Ground.data }, { on := 7, ground := Ground.data }, { on := 5, ground := Ground.guard }], guard := some (5, false) } :: { dst := some 68, op := Op.load 3 (Operand.tmp 67), type := 3, pos := "law.go:247", after := #[{ on := 8, ground := Ground.data }, { on := 5, ground := Ground.guard }], guard := some (5, false) } :: { dst := some 69, op := Op.fieldAddr 24 (Operand.tmp 3) 0, type := 0, pos := "law.go:247", after := #[{ on := 5, ground := Ground.guard }], guard := some (5, false) } :: { dst := some 70, op := Op.load 3 (Operand.tmp 69), type := 3, pos := "law.go:247", after := #[{ on := 10, ground := Ground.data }, { on := 5, ground := Ground.guard }], guard := some (5, false) } :: { dst := some 71, op := Op.binOp BinOp.geq 3 (Operand.tmp 68) (Operand.tmp 70) 3, type := 4, pos := "law.go:247", after := #[{ on := 9, ground := Ground.data }, { on := 11, ground := Ground.data }, { on := 5, ground := Ground.guard }], guard := some (5, false) } :: { dst := some 72, op := Op.pick (Operand.tmp 64) (Operand.const (Value.bool true)) (Operand.tmp 71), type := 4, pos := "law.go:247", after := #[{ on := 5, ground := Ground.data }, { on := 12, ground := Ground.data }], guard := none } :: { dst := some 73, op := Op.move (Operand.tmp 72), type := 4, pos := "law.go:247", after := #[{ on := 13, ground := Ground.data }, { on := 5, ground := Ground.chain }], guard := none } :: { dst := some 74, op := Op.move (Operand.tmp 13), type := 3, pos := "law.go:247", after := #[{ on := 14, ground := Ground.guard }], guard := some (14, false) } :: { dst := some 75, op := Op.binOp BinOp.gtr 3 (Operand.tmp 74) (Operand.const (Value.int IntKind.i64 0)) 3, type := 4, pos := "law.go:247", after := #[{ on := 15, ground := Ground.data }, { on := 14, ground := Ground.guard }], guard := some (14, false) } :: { dst := some 76, op := Op.move (Operand.tmp 75), type := 4, pos := "law.go:247", after := #[{ on := 16, ground := Ground.data }, { on := 14, ground := Ground.chain }, { on := 14, ground := Ground.guard }], guard := some (14, false) } :: { dst := some 77, op := Op.load 24 (Operand.tmp 3), type := 24, pos := "law.go:247", after := #[{ on := 17, ground := Ground.guard }], guard := some (17, true) } :: { dst := some 78, op := Op.move (Operand.tmp 8), type := 25, pos := "law.go:247", after := #[{ on := 17, ground := Ground.guard }], guard := some (17, true) } :: { dst := some 79, op := Op.move (Operand.tmp 13), type := 3, pos := "law.go:247", after := #[{ on := 17, ground := Ground.guard }], guard := some (17, true) } :: { dst := some 80, op := Op.binOp BinOp.sub 3 (Operand.tmp 79) (Operand.const (Value.int IntKind.i64 1)) 3, type := 3, pos := "law.go:247", after := #[{ on := 20, ground := Ground.data }, { on := 17, ground := Ground.guard }], guard := some (17, true) } :: { dst := some 81, op := Op.indexAddr 25 (Operand.tmp 78) (Operand.tmp 80), type := 0, pos := "law.go:247", after := #[{ on := 19, ground := Ground.data }, { on := 21, ground := Ground.data }, { on := 17, ground := Ground.guard }], guard := some (17, true) } :: { dst := some 82, op := Op.load 3 (Operand.tmp 81), type := 3, pos := "law.go:247", after := #[{ on := 22, ground := Ground.data }, { on := 17, ground := Ground.guard }], guard := some (17, true) } :: { dst := some 83, op := Op.move (Operand.tmp 8), type := 25, pos := "law.go:247", after := #[{ on := 17, ground := Ground.guard }], guard := some (17, true) } :: { dst := some 84, op := Op.move (Operand.tmp 13), type := 3, pos := "law.go:247", after := #[{ on := 17, ground := Ground.guard }], guard := some (17, true) } :: { dst := some 85, op := Op.indexAddr 25 (Operand.tmp 83) (Operand.tmp 84), type := 0, pos := "law.go:247", after := #[{ on := 24, ground := Ground.data }, { on := 25, ground := Ground.data }, { on := 17, ground := Ground.guard }], guard := some (17, true) } :: { dst := some 86, op := Op.load 3 (Operand.tmp 85), type := 3, pos := "law.go:247", after := #[{ on := 26, ground := Ground.data }, { on := 17, ground := Ground.guard }], guard := some (17, true) } :: { dst := some 87, op := Op.call { callee := Callee.value (Operand.func 28), args := #[Operand.tmp 77, Operand.tmp 82, Operand.tmp 86], argTypes := #[24, 3, 3] }, type := 4, pos := "law.go:247", after := #[{ on := 18, ground := Ground.data }, { on := 23, ground := Ground.data }, { on := 27, ground := Ground.data }, { on := 17, ground := Ground.chain }, { on := 17, ground := Ground.guard }], guard := some (17, true) } :: { dst := some 88, op := Op.unOp UnOp.not 4 (Operand.tmp 87), type := 4, pos := "law.go:247", after := #[{ on := 28, ground := Ground.data }, { on := 17, ground := Ground.guard }], guard := some (17, true) } :: { dst := some 89, op := Op.pick (Operand.tmp 76) (Operand.tmp 88) (Operand.const (Value.bool false)), type := 4, pos := "law.go:247", after := #[{ on := 17, ground := Ground.data }, { on := 29, ground := Ground.data }, { on := 14, ground := Ground.guard }], guard := some (14, false) } :: { dst := some 90, op := Op.pick (Operand.tmp 73) (Operand.const (Value.bool true)) (Operand.tmp 89), type := 4, pos := "law.go:247", after := #[{ on := 14, ground := Ground.data }, { on := 30, ground := Ground.data }], guard := none } :: [])) true).wp Try.prog Q { tmps := List.toArray (t0 :: t1 :: t2 :: (.pointer (some ⟨sz, 0, none⟩)) :: t4 :: t5 :: t6 :: t7 :: (.slice (some ⟨Y, oy, none⟩) m cy) :: t9 :: t10 :: t11 :: t12 :: (.int .i64 0) :: t14 :: t15 :: t16 :: t17 :: t18 :: t19 :: t20 :: t21 :: t22 :: t23 :: t24 :: t25 :: t26 :: t27 :: t28 :: t29 :: t30 :: t31 :: t32 :: t33 :: t34 :: t35 :: t36 :: t37 :: t38 :: t39 :: t40 :: t41 :: t42 :: t43 :: t44 :: t45 :: t46 :: t47 :: t48 :: t49 :: t50 :: t51 :: t52 :: t53 :: t54 :: t55 :: t56 :: t57 :: t58 :: t59 :: t60 :: t61 :: t62 :: t63 :: t64 :: t65 :: t66 :: t67 :: t68 :: t69 :: t70 :: t71 :: t72 :: t73 :: t74 :: t75 :: t76 :: t77 :: t78 :: t79 :: t80 :: t81 :: t82 :: t83 :: t84 :: t85 :: t86 :: t87 :: t88 :: t89 :: t90 :: t91 :: t92 :: t93 :: t94 :: t95 :: t96 :: t97 :: t98 :: t99 :: t100 :: t101 :: t102 :: t103 :: t104 :: t105 :: t106 :: t107 :: t108 :: t109 :: t110 :: t111 :: t112 :: t113 :: t114 :: t115 :: t116 :: t117 :: t118 :: t119 :: t120 :: t121 :: t122 :: t123 :: t124 :: t125 :: t126 :: t127 :: t128 :: t129 :: t130 :: t131 :: t132 :: t133 :: t134 :: t135 :: t136 :: t137 :: t138 :: t139 :: t140 :: t141 :: t142 :: t143 :: t144 :: t145 :: t146 :: t147 :: t148 :: t149 :: t150 :: t151 :: t152 :: t153 :: t154 :: t155 :: t156 :: t157 :: t158 :: t159 :: t160 :: t161 :: t162 :: t163 :: t164 :: t165 :: t166 :: t167 :: t168 :: t169 :: t170 :: t171 :: t172 :: t173 :: t174 :: t175 :: t176 :: t177 :: t178 :: t179 :: t180 :: t181 :: t182 :: t183 :: t184 :: t185 :: t186 :: t187 :: t188 :: t189 :: t190 :: t191 :: t192 :: t193 :: t194 :: t195 :: t196 :: t197 :: t198 :: t199 :: t200 :: t201 :: t202 :: t203 :: t204 :: t205 :: t206 :: t207 :: t208 :: t209 :: t210 :: t211 :: []), defers := [] } w := by
  refine wp_region_quiet_below (by kernel_rfl) (by kernel_rfl) ?_
  repeat (go_big_quiet_step (fail))
  refine wpQuiet_nil ?_
  intro _ hw'
  obtain ⟨⟨dq, osq⟩, hw''⟩ := hw'
  subst hw''
  exact h _ _
set_option maxRecDepth 100000 in
set_option maxHeartbeats 16000000 in
theorem th17b {Q : Exit → Act → World → Prop} {j b N sz Y oy m a cy el c : Nat} {p : Option Addr} {w : World} {t0 t1 t2 t4 t5 t6 t7 t9 t10 t11 t12 t14 t15 t16 t17 t18 t19 t20 t21 t22 t23 t24 t25 t26 t27 t28 t29 t30 t31 t32 t33 t34 t35 t36 t37 t38 t39 t40 t41 t42 t43 t44 t45 t46 t47 t48 t49 t50 t51 t52 t53 t54 t55 t56 t57 t58 t59 t60 t61 t62 t63 t64 t65 t66 t67 t68 t69 t70 t71 t72 t73 t74 t75 t76 t77 t78 t79 t80 t81 t82 t83 t84 t85 t86 t87 t88 t89 t90 t91 t92 t93 t94 t95 t96 t97 t98 t99 t100 t101 t102 t103 t104 t105 t106 t107 t108 t109 t110 t111 t112 t113 t114 t115 t116 t117 t118 t119 t120 t121 t122 t123 t124 t125 t126 t127 t128 t129 t130 t131 t132 t133 t134 t135 t136 t137 t138 t139 t140 t141 t142 t143 t144 t145 t146 t147 t148 t149 t150 t151 t152 t153 t154 t155 t156 t157 t158 t159 t160 t161 t162 t163 t164 t165 t166 t167 t168 t169 t170 t171 t172 t173 t174 t175 t176 t177 t178 t179 t180 t181 t182 t183 t184 t185 t186 t187 t188 t189 t190 t191 t192 t193 t194 t195 t196 t197 t198 t199 t200 t201 t202 t203 t204 t205 t206 t207 t208 t209 t210 t211 : Value} (hm : m ≤ 4096) (hz0 : (0 : Int) < (j : Int) + 1) (hj0 : (0 : Int) ≤ (j : Int) + 1) (hj : (j : Int) < (m : Nat)) (h1 : ¬ (a : Int) < 0) (h2 : ¬ (N : Int) ≤ (a : Nat)) (hi : (j : Int) + 1 < (m : Nat)) (e1 : ∀ d os, (Sort.grow (redrawn w d) os).cell? ⟨Y, oy + (j + 1), none⟩ = some (.int .i64 (a : Nat))) (e3 : ∀ d os, (Sort.grow (redrawn w d) os).cell? ⟨sz, 0, none⟩ = some (.int .i64 N)) (e4 : ∀ d os, (Sort.grow (redrawn w d) os).cell? ⟨sz, 1, none⟩ = some (.slice p el c)) (e2 : ∀ d os, (Sort.grow (redrawn w d) os).cell? ⟨Y, oy + j, none⟩ = some (.int .i64 (b : Nat))) (W1 : ∀ d os, Calls Try.prog 28 #[.agg #[.int .i64 N, .slice p el c], .int .i64 (b : Nat), .int .i64 (a : Nat)] (Sort.grow (redrawn w d) os) fun e w'' => e = .returned (.bool true) ∧ ∃ p : Regrown, w'' = Sort.grow (redrawn w p.d) p.os)
    (h : ∀ d os, Q .normal { tmps := List.toArray (t0 :: t1 :: t2 :: (.pointer (some ⟨sz, 0, none⟩)) :: t4 :: t5 :: t6 :: t7 :: (.slice (some ⟨Y, oy, none⟩) m cy) :: t9 :: t10 :: t11 :: t12 :: (.int .i64 ((j : Int) + 1)) :: t14 :: t15 :: t16 :: t17 :: t18 :: t19 :: t20 :: t21 :: t22 :: t23 :: t24 :: t25 :: t26 :: t27 :: t28 :: t29 :: t30 :: t31 :: t32 :: t33 :: t34 :: t35 :: t36 :: t37 :: t38 :: t39 :: t40 :: t41 :: t42 :: t43 :: t44 :: t45 :: t46 :: t47 :: t48 :: t49 :: t50 :: t51 :: t52 :: t53 :: t54 :: t55 :: t56 :: t57 :: t58 :: (.slice (some ⟨Y, oy, none⟩) m cy) :: (.int .i64 ((j : Int) + 1)) :: (.pointer (some ⟨Y, oy + (j + 1), none⟩)) :: (.int .i64 (a : Nat)) :: (.bool false) :: (.bool false) :: (.slice (some ⟨Y, oy, none⟩) m cy) :: (.int .i64 ((j : Int) + 1)) :: (.pointer (some ⟨Y, oy + (j + 1), none⟩)) :: (.int .i64 (a : Nat)) :: (.pointer (some ⟨sz, 0, none⟩)) :: (.int .i64 N) :: (.bool false) :: (.bool false) :: (.bool false) :: (.int .i64 ((j : Int) + 1)) :: (.bool true) :: (.bool true) :: (.agg #[.int .i64 N, .slice p el c]) :: (.slice (some ⟨Y, oy, none⟩) m cy) :: (.int .i64 ((j : Int) + 1)) :: (.int .i64 (j : Nat)) :: (.pointer (some ⟨Y, oy + j, none⟩)) :: (.int .i64 (b : Nat)) :: (.slice (some ⟨Y, oy, none⟩) m cy) :: (.int .i64 ((j : Int) + 1)) :: (.pointer (some ⟨Y, oy + (j + 1), none⟩)) :: (.int .i64 (a : Nat)) :: (.bool true) :: (.bool false) :: (.bool false) :: (.bool false) :: t91 :: t92 :: t93 :: t94 :: t95 :: t96 :: t97 :: t98 :: t99 :: t100 :: t101 :: t102 :: t103 :: t104 :: t105 :: t106 :: t107 :: t108 :: t109 :: t110 :: t111 :: t112 :: t113 :: t114 :: t115 :: t116 :: t117 :: t118 :: t119 :: t120 :: t121 :: t122 :: t123 :: t124 :: t125 :: t126 :: t127 :: t128 :: t129 :: t130 :: t131 :: t132 :: t133 :: t134 :: t135 :: t136 :: t137 :: t138 :: t139 :: t140 :: t141 :: t142 :: t143 :: t144 :: t145 :: t146 :: t147 :: t148 :: t149 :: t150 :: t151 :: t152 :: t153 :: t154 :: t155 :: t156 :: t157 :: t158 :: t159 :: t160 :: t161 :: t162 :: t163 :: t164 :: t165 :: t166 :: t167 :: t168 :: t169 :: t170 :: t171 :: t172 :: t173 :: t174 :: t175 :: t176 :: t177 :: t178 :: t179 :: t180 :: t181 :: t182 :: t183 :: t184 :: t185 :: t186 :: t187 :: t188 :: t189 :: t190 :: t191 :: t192 :: t193 :: t194 :: t195 :: t196 :: t197 :: t198 :: t199 :: t200 :: t201 :: t202 :: t203 :: t204 :: t205 :: t206 :: t207 :: t208 :: t209 :: t210 :: t211 :: []), defers := [] } (Sort.grow (redrawn w d) os)) :
    (Code.region 17 (List.toArray ({ dst := some 59, op := Op.move (Operand.tmp 8), type := 25, pos := "law.go:247", after := #[], guard := none } :: { dst := some 60, op := Op.move (Operand.tmp 13), type := 3, pos := "law.go:247", after := #[], guard := none } :: { dst := some 61, op := Op.indexAddr 25 (Operand.tmp 59) (Operand.tmp 60), type := 0, pos := "law.go:247", after := #[{ on := 0, ground := Ground.data }, { on := 1, ground := Ground.data }], guard := none } :: { dst := some 62, op := Op.load 3 (Operand.tmp 61), type := 3, pos := "law.go:247", after := #[{ on := 2, ground := Ground.data }], guard := none } :: { dst := some 63, op := Op.binOp BinOp.lss 3 (Operand.tmp 62) (Operand.const (Value.int IntKind.i64 0)) 3, type := 4, pos := "law.go:247", after := #[{ on := 3, ground := Ground.data }], guard := none } :: { dst := some 64, op := Op.move (Operand.tmp 63), type := 4, pos := "law.go:247", after := #[{ on := 4, ground := Ground.data }], guard := none } :: { dst := some 65, op := Op.move (Operand.tmp 8), type := 25, pos := "law.go:247", after := #[{ on := 5, ground := Ground.guard }], guard := some (5, false) } :: { dst := some 66, op := Op.move (Operand.tmp 13), type := 3, pos := "law.go:247", after := #[{ on := 5, ground := Ground.guard }], guard := some (5, false) } :: { dst := some 67, op := Op.indexAddr 25 (Operand.tmp 65) (Operand.tmp 66), type := 0, pos := "law.go:247", after := #[{ on := 6, ground := Ground.data }, { on := 7, ground := Ground.data }, { on := 5, ground := Ground.guard }], guard := some (5, false) } :: { dst := some 68, op := Op.load 3 (Operand.tmp 67), type := 3, pos := "law.go:247", after := #[{ on := 8, ground := Ground.data }, { on := 5, ground := Ground.guard }], guard := some (5, false) } :: { dst := some 69, op := Op.fieldAddr 24 (Operand.tmp 3) 0, type := 0, pos := "law.go:247", after := #[{ on := 5, ground := Ground.guard }], guard := some (5, false) } :: { dst := some 70, op := Op.load 3 (Operand.tmp 69), type := 3, pos := "law.go:247", after := #[{ on := 10, ground := Ground.data }, { on := 5, ground := Ground.guard }], guard := some (5, false) } :: { dst := some 71, op := Op.binOp BinOp.geq 3 (Operand.tmp 68) (Operand.tmp 70) 3, type := 4, pos := "law.go:247", after := #[{ on := 9, ground := Ground.data }, { on := 11, ground := Ground.data }, { on := 5, ground := Ground.guard }], guard := some (5, false) } :: { dst := some 72, op := Op.pick (Operand.tmp 64) (Operand.const (Value.bool true)) (Operand.tmp 71), type := 4, pos := "law.go:247", after := #[{ on := 5, ground := Ground.data }, { on := 12, ground := Ground.data }], guard := none } :: { dst := some 73, op := Op.move (Operand.tmp 72), type := 4, pos := "law.go:247", after := #[{ on := 13, ground := Ground.data }, { on := 5, ground := Ground.chain }], guard := none } :: { dst := some 74, op := Op.move (Operand.tmp 13), type := 3, pos := "law.go:247", after := #[{ on := 14, ground := Ground.guard }], guard := some (14, false) } :: { dst := some 75, op := Op.binOp BinOp.gtr 3 (Operand.tmp 74) (Operand.const (Value.int IntKind.i64 0)) 3, type := 4, pos := "law.go:247", after := #[{ on := 15, ground := Ground.data }, { on := 14, ground := Ground.guard }], guard := some (14, false) } :: { dst := some 76, op := Op.move (Operand.tmp 75), type := 4, pos := "law.go:247", after := #[{ on := 16, ground := Ground.data }, { on := 14, ground := Ground.chain }, { on := 14, ground := Ground.guard }], guard := some (14, false) } :: { dst := some 77, op := Op.load 24 (Operand.tmp 3), type := 24, pos := "law.go:247", after := #[{ on := 17, ground := Ground.guard }], guard := some (17, true) } :: { dst := some 78, op := Op.move (Operand.tmp 8), type := 25, pos := "law.go:247", after := #[{ on := 17, ground := Ground.guard }], guard := some (17, true) } :: { dst := some 79, op := Op.move (Operand.tmp 13), type := 3, pos := "law.go:247", after := #[{ on := 17, ground := Ground.guard }], guard := some (17, true) } :: { dst := some 80, op := Op.binOp BinOp.sub 3 (Operand.tmp 79) (Operand.const (Value.int IntKind.i64 1)) 3, type := 3, pos := "law.go:247", after := #[{ on := 20, ground := Ground.data }, { on := 17, ground := Ground.guard }], guard := some (17, true) } :: { dst := some 81, op := Op.indexAddr 25 (Operand.tmp 78) (Operand.tmp 80), type := 0, pos := "law.go:247", after := #[{ on := 19, ground := Ground.data }, { on := 21, ground := Ground.data }, { on := 17, ground := Ground.guard }], guard := some (17, true) } :: { dst := some 82, op := Op.load 3 (Operand.tmp 81), type := 3, pos := "law.go:247", after := #[{ on := 22, ground := Ground.data }, { on := 17, ground := Ground.guard }], guard := some (17, true) } :: { dst := some 83, op := Op.move (Operand.tmp 8), type := 25, pos := "law.go:247", after := #[{ on := 17, ground := Ground.guard }], guard := some (17, true) } :: { dst := some 84, op := Op.move (Operand.tmp 13), type := 3, pos := "law.go:247", after := #[{ on := 17, ground := Ground.guard }], guard := some (17, true) } :: { dst := some 85, op := Op.indexAddr 25 (Operand.tmp 83) (Operand.tmp 84), type := 0, pos := "law.go:247", after := #[{ on := 24, ground := Ground.data }, { on := 25, ground := Ground.data }, { on := 17, ground := Ground.guard }], guard := some (17, true) } :: { dst := some 86, op := Op.load 3 (Operand.tmp 85), type := 3, pos := "law.go:247", after := #[{ on := 26, ground := Ground.data }, { on := 17, ground := Ground.guard }], guard := some (17, true) } :: { dst := some 87, op := Op.call { callee := Callee.value (Operand.func 28), args := #[Operand.tmp 77, Operand.tmp 82, Operand.tmp 86], argTypes := #[24, 3, 3] }, type := 4, pos := "law.go:247", after := #[{ on := 18, ground := Ground.data }, { on := 23, ground := Ground.data }, { on := 27, ground := Ground.data }, { on := 17, ground := Ground.chain }, { on := 17, ground := Ground.guard }], guard := some (17, true) } :: { dst := some 88, op := Op.unOp UnOp.not 4 (Operand.tmp 87), type := 4, pos := "law.go:247", after := #[{ on := 28, ground := Ground.data }, { on := 17, ground := Ground.guard }], guard := some (17, true) } :: { dst := some 89, op := Op.pick (Operand.tmp 76) (Operand.tmp 88) (Operand.const (Value.bool false)), type := 4, pos := "law.go:247", after := #[{ on := 17, ground := Ground.data }, { on := 29, ground := Ground.data }, { on := 14, ground := Ground.guard }], guard := some (14, false) } :: { dst := some 90, op := Op.pick (Operand.tmp 73) (Operand.const (Value.bool true)) (Operand.tmp 89), type := 4, pos := "law.go:247", after := #[{ on := 14, ground := Ground.data }, { on := 30, ground := Ground.data }], guard := none } :: [])) true).wp Try.prog Q { tmps := List.toArray (t0 :: t1 :: t2 :: (.pointer (some ⟨sz, 0, none⟩)) :: t4 :: t5 :: t6 :: t7 :: (.slice (some ⟨Y, oy, none⟩) m cy) :: t9 :: t10 :: t11 :: t12 :: (.int .i64 ((j : Int) + 1)) :: t14 :: t15 :: t16 :: t17 :: t18 :: t19 :: t20 :: t21 :: t22 :: t23 :: t24 :: t25 :: t26 :: t27 :: t28 :: t29 :: t30 :: t31 :: t32 :: t33 :: t34 :: t35 :: t36 :: t37 :: t38 :: t39 :: t40 :: t41 :: t42 :: t43 :: t44 :: t45 :: t46 :: t47 :: t48 :: t49 :: t50 :: t51 :: t52 :: t53 :: t54 :: t55 :: t56 :: t57 :: t58 :: t59 :: t60 :: t61 :: t62 :: t63 :: t64 :: t65 :: t66 :: t67 :: t68 :: t69 :: t70 :: t71 :: t72 :: t73 :: t74 :: t75 :: t76 :: t77 :: t78 :: t79 :: t80 :: t81 :: t82 :: t83 :: t84 :: t85 :: t86 :: t87 :: t88 :: t89 :: t90 :: t91 :: t92 :: t93 :: t94 :: t95 :: t96 :: t97 :: t98 :: t99 :: t100 :: t101 :: t102 :: t103 :: t104 :: t105 :: t106 :: t107 :: t108 :: t109 :: t110 :: t111 :: t112 :: t113 :: t114 :: t115 :: t116 :: t117 :: t118 :: t119 :: t120 :: t121 :: t122 :: t123 :: t124 :: t125 :: t126 :: t127 :: t128 :: t129 :: t130 :: t131 :: t132 :: t133 :: t134 :: t135 :: t136 :: t137 :: t138 :: t139 :: t140 :: t141 :: t142 :: t143 :: t144 :: t145 :: t146 :: t147 :: t148 :: t149 :: t150 :: t151 :: t152 :: t153 :: t154 :: t155 :: t156 :: t157 :: t158 :: t159 :: t160 :: t161 :: t162 :: t163 :: t164 :: t165 :: t166 :: t167 :: t168 :: t169 :: t170 :: t171 :: t172 :: t173 :: t174 :: t175 :: t176 :: t177 :: t178 :: t179 :: t180 :: t181 :: t182 :: t183 :: t184 :: t185 :: t186 :: t187 :: t188 :: t189 :: t190 :: t191 :: t192 :: t193 :: t194 :: t195 :: t196 :: t197 :: t198 :: t199 :: t200 :: t201 :: t202 :: t203 :: t204 :: t205 :: t206 :: t207 :: t208 :: t209 :: t210 :: t211 :: []), defers := [] } w := by
  refine wp_region_quiet_below (by kernel_rfl) (by kernel_rfl) ?_
  repeat (go_big_quiet_step (exact W1 _ _))
  refine wpQuiet_nil ?_
  intro _ hw'
  obtain ⟨⟨dq, osq⟩, hw''⟩ := hw'
  subst hw''
  exact h _ _
set_option maxRecDepth 100000 in
set_option maxHeartbeats 16000000 in
theorem th38 {Q : Exit → Act → World → Prop} {N sz hb lb Z oz hl hc k x y el c ll lc : Nat} {p lp : Option Addr} {w : World} {t0 t1 t4 t5 t6 t7 t8 t9 t10 t11 t12 t13 t15 t16 t17 t18 t19 t21 t22 t23 t24 t25 t26 t27 t28 t29 t30 t31 t32 t33 t34 t35 t36 t37 t38 t39 t40 t41 t42 t43 t44 t45 t46 t47 t48 t49 t50 t51 t52 t53 t54 t55 t56 t57 t58 t59 t60 t61 t62 t63 t64 t65 t66 t67 t68 t69 t70 t71 t72 t73 t74 t75 t76 t77 t78 t79 t80 t81 t82 t83 t84 t85 t86 t87 t88 t89 t90 t91 t92 t93 t94 t95 t96 t97 t98 t99 t100 t101 t102 t103 t104 t105 t106 t107 t108 t109 t110 t111 t112 t113 t114 t115 t116 t117 t118 t119 t120 t121 t122 t123 t124 t125 t126 t127 t128 t129 t130 t131 t132 t133 t134 t135 t136 t137 t138 t139 t140 t141 t142 t143 t144 t145 t146 t147 t148 t149 t150 t151 t152 t153 t154 t155 t156 t157 t158 t159 t160 t161 t162 t163 t164 t165 t166 t167 t168 t169 t170 t171 t172 t173 t174 t175 t176 t177 t178 t179 t180 t181 t182 t183 t184 t185 t186 t187 t188 t189 t190 t191 t192 t193 t194 t195 t196 t197 t198 t199 t200 t201 t202 t203 t204 t205 t206 t207 t208 t209 t210 t211 : Value} (e3 : ∀ d os, (Sort.grow (redrawn w d) os).cell? ⟨sz, 0, none⟩ = some (.int .i64 N)) (e4 : ∀ d os, (Sort.grow (redrawn w d) os).cell? ⟨sz, 1, none⟩ = some (.slice p el c)) (hk : (k : Int) < (hl : Nat)) (e5 : ∀ d os, (Sort.grow (redrawn w d) os).cell? ⟨hb, 1, none⟩ = some (.slice (some ⟨Z, oz, none⟩) hl hc)) (e6 : ∀ d os, (Sort.grow (redrawn w d) os).cell? ⟨Z, oz + k * 2, none⟩ = some (.int .i64 (x : Nat))) (e7 : ∀ d os, (Sort.grow (redrawn w d) os).cell? ⟨Z, oz + k * 2 + 1, none⟩ = some (.int .i64 (y : Nat))) (e8 : ∀ d os, (Sort.grow (redrawn w d) os).cell? ⟨lb, 0, none⟩ = some (.int .i64 N)) (e9 : ∀ d os, (Sort.grow (redrawn w d) os).cell? ⟨lb, 1, none⟩ = some (.slice lp ll lc)) (W1 : ∀ d os, Calls Try.prog 28 #[.agg #[.int .i64 N, .slice p el c], .int .i64 (x : Nat), .int .i64 (y : Nat)] (Sort.grow (redrawn w d) os) fun e w'' => e = .returned (.bool true) ∧ ∃ p : Regrown, w'' = Sort.grow (redrawn w p.d) p.os) (W2 : ∀ d os, Calls Try.prog 23 #[.agg #[.int .i64 N, .slice lp ll lc], .int .i64 (x : Nat), .int .i64 (y : Nat)] (Sort.grow (redrawn w d) os) fun e w'' => e = .returned (.bool false) ∧ ∃ p : Regrown, w'' = Sort.grow (redrawn w p.d) p.os)
    (h : ∀ d os, Q .normal { tmps := List.toArray (t0 :: t1 :: (.int .i64 (k : Nat)) :: (.pointer (some ⟨sz, 0, none⟩)) :: t4 :: t5 :: (.bool true) :: t7 :: t8 :: t9 :: t10 :: t11 :: t12 :: t13 :: (.pointer (some ⟨hb, 0, none⟩)) :: t15 :: t16 :: t17 :: t18 :: t19 :: (.pointer (some ⟨lb, 0, none⟩)) :: t21 :: t22 :: t23 :: t24 :: t25 :: t26 :: t27 :: t28 :: t29 :: t30 :: t31 :: t32 :: t33 :: t34 :: t35 :: t36 :: t37 :: t38 :: t39 :: t40 :: t41 :: t42 :: t43 :: t44 :: t45 :: t46 :: t47 :: t48 :: t49 :: t50 :: t51 :: t52 :: t53 :: t54 :: t55 :: t56 :: t57 :: t58 :: t59 :: t60 :: t61 :: t62 :: t63 :: t64 :: t65 :: t66 :: t67 :: t68 :: t69 :: t70 :: t71 :: t72 :: t73 :: t74 :: t75 :: t76 :: t77 :: t78 :: t79 :: t80 :: t81 :: t82 :: t83 :: t84 :: t85 :: t86 :: t87 :: t88 :: t89 :: t90 :: t91 :: t92 :: t93 :: t94 :: t95 :: t96 :: t97 :: t98 :: t99 :: t100 :: t101 :: t102 :: t103 :: t104 :: t105 :: t106 :: t107 :: t108 :: t109 :: t110 :: t111 :: t112 :: t113 :: t114 :: t115 :: t116 :: t117 :: t118 :: t119 :: t120 :: t121 :: t122 :: t123 :: t124 :: t125 :: t126 :: t127 :: t128 :: t129 :: t130 :: t131 :: t132 :: t133 :: t134 :: t135 :: t136 :: t137 :: t138 :: t139 :: t140 :: t141 :: t142 :: t143 :: t144 :: t145 :: t146 :: t147 :: t148 :: t149 :: t150 :: t151 :: t152 :: t153 :: t154 :: t155 :: t156 :: t157 :: t158 :: t159 :: t160 :: t161 :: t162 :: t163 :: t164 :: t165 :: t166 :: t167 :: t168 :: t169 :: t170 :: t171 :: t172 :: t173 :: t174 :: t175 :: t176 :: t177 :: t178 :: t179 :: t180 :: (.agg #[.int .i64 N, .slice p el c]) :: (.pointer (some ⟨hb, 1, none⟩)) :: (.slice (some ⟨Z, oz, none⟩) hl hc) :: (.int .i64 (k : Nat)) :: (.pointer (some ⟨Z, oz + k * 2, none⟩)) :: (.pointer (some ⟨Z, oz + k * 2, none⟩)) :: (.int .i64 (x : Nat)) :: (.pointer (some ⟨hb, 1, none⟩)) :: (.slice (some ⟨Z, oz, none⟩) hl hc) :: (.int .i64 (k : Nat)) :: (.pointer (some ⟨Z, oz + k * 2, none⟩)) :: (.pointer (some ⟨Z, oz + k * 2 + 1, none⟩)) :: (.int .i64 (y : Nat)) :: (.bool true) :: (.bool true) :: (.agg #[.int .i64 N, .slice lp ll lc]) :: (.pointer (some ⟨hb, 1, none⟩)) :: (.slice (some ⟨Z, oz, none⟩) hl hc) :: (.int .i64 (k : Nat)) :: (.pointer (some ⟨Z, oz + k * 2, none⟩)) :: (.pointer (some ⟨Z, oz + k * 2, none⟩)) :: (.int .i64 (x : Nat)) :: (.pointer (some ⟨hb, 1, none⟩)) :: (.slice (some ⟨Z, oz, none⟩) hl hc) :: (.int .i64 (k : Nat)) :: (.pointer (some ⟨Z, oz + k * 2, none⟩)) :: (.pointer (some ⟨Z, oz + k * 2 + 1, none⟩)) :: (.int .i64 (y : Nat)) :: (.bool false) :: (.bool true) :: (.bool true) :: []), defers := [] } (Sort.grow (redrawn w d) os)) :
    (Code.region 38 (List.toArray ({ dst := some 181, op := Op.load 24 (Operand.tmp 3), type := 24, pos := "law.go:275", after := #[], guard := none } :: { dst := some 182, op := Op.fieldAddr 24 (Operand.tmp 14) 1, type := 0, pos := "law.go:275", after := #[], guard := none } :: { dst := some 183, op := Op.load 22 (Operand.tmp 182), type := 22, pos := "law.go:275", after := #[{ on := 1, ground := Ground.data }], guard := none } :: { dst := some 184, op := Op.move (Operand.tmp 2), type := 3, pos := "law.go:275", after := #[], guard := none } :: { dst := some 185, op := Op.indexAddr 22 (Operand.tmp 183) (Operand.tmp 184), type := 0, pos := "law.go:275", after := #[{ on := 2, ground := Ground.data }, { on := 3, ground := Ground.data }], guard := none } :: { dst := some 186, op := Op.fieldAddr 47 (Operand.tmp 185) 0, type := 0, pos := "law.go:275", after := #[{ on := 4, ground := Ground.data }], guard := none } :: { dst := some 187, op := Op.load 3 (Operand.tmp 186), type := 3, pos := "law.go:275", after := #[{ on := 5, ground := Ground.data }], guard := none } :: { dst := some 188, op := Op.fieldAddr 24 (Operand.tmp 14) 1, type := 0, pos := "law.go:275", after := #[], guard := none } :: { dst := some 189, op := Op.load 22 (Operand.tmp 188), type := 22, pos := "law.go:275", after := #[{ on := 7, ground := Ground.data }], guard := none } :: { dst := some 190, op := Op.move (Operand.tmp 2), type := 3, pos := "law.go:275", after := #[], guard := none } :: { dst := some 191, op := Op.indexAddr 22 (Operand.tmp 189) (Operand.tmp 190), type := 0, pos := "law.go:275", after := #[{ on := 8, ground := Ground.data }, { on := 9, ground := Ground.data }], guard := none } :: { dst := some 192, op := Op.fieldAddr 47 (Operand.tmp 191) 1, type := 0, pos := "law.go:275", after := #[{ on := 10, ground := Ground.data }], guard := none } :: { dst := some 193, op := Op.load 3 (Operand.tmp 192), type := 3, pos := "law.go:275", after := #[{ on := 11, ground := Ground.data }], guard := none } :: { dst := some 194, op := Op.call { callee := Callee.value (Operand.func 28), args := #[Operand.tmp 181, Operand.tmp 187, Operand.tmp 193], argTypes := #[24, 3, 3] }, type := 4, pos := "law.go:275", after := #[{ on := 0, ground := Ground.data }, { on := 6, ground := Ground.data }, { on := 12, ground := Ground.data }], guard := none } :: { dst := some 195, op := Op.move (Operand.tmp 194), type := 4, pos := "law.go:275", after := #[{ on := 13, ground := Ground.data }, { on := 13, ground := Ground.chain }], guard := none } :: { dst := some 196, op := Op.load 24 (Operand.tmp 20), type := 24, pos := "law.go:275", after := #[{ on := 14, ground := Ground.guard }], guard := some (14, true) } :: { dst := some 197, op := Op.fieldAddr 24 (Operand.tmp 14) 1, type := 0, pos := "law.go:275", after := #[{ on := 14, ground := Ground.guard }], guard := some (14, true) } :: { dst := some 198, op := Op.load 22 (Operand.tmp 197), type := 22, pos := "law.go:275", after := #[{ on := 16, ground := Ground.data }, { on := 14, ground := Ground.guard }], guard := some (14, true) } :: { dst := some 199, op := Op.move (Operand.tmp 2), type := 3, pos := "law.go:275", after := #[{ on := 14, ground := Ground.guard }], guard := some (14, true) } :: { dst := some 200, op := Op.indexAddr 22 (Operand.tmp 198) (Operand.tmp 199), type := 0, pos := "law.go:275", after := #[{ on := 17, ground := Ground.data }, { on := 18, ground := Ground.data }, { on := 14, ground := Ground.guard }], guard := some (14, true) } :: { dst := some 201, op := Op.fieldAddr 47 (Operand.tmp 200) 0, type := 0, pos := "law.go:275", after := #[{ on := 19, ground := Ground.data }, { on := 14, ground := Ground.guard }], guard := some (14, true) } :: { dst := some 202, op := Op.load 3 (Operand.tmp 201), type := 3, pos := "law.go:275", after := #[{ on := 20, ground := Ground.data }, { on := 14, ground := Ground.guard }], guard := some (14, true) } :: { dst := some 203, op := Op.fieldAddr 24 (Operand.tmp 14) 1, type := 0, pos := "law.go:275", after := #[{ on := 14, ground := Ground.guard }], guard := some (14, true) } :: { dst := some 204, op := Op.load 22 (Operand.tmp 203), type := 22, pos := "law.go:275", after := #[{ on := 22, ground := Ground.data }, { on := 14, ground := Ground.guard }], guard := some (14, true) } :: { dst := some 205, op := Op.move (Operand.tmp 2), type := 3, pos := "law.go:275", after := #[{ on := 14, ground := Ground.guard }], guard := some (14, true) } :: { dst := some 206, op := Op.indexAddr 22 (Operand.tmp 204) (Operand.tmp 205), type := 0, pos := "law.go:275", after := #[{ on := 23, ground := Ground.data }, { on := 24, ground := Ground.data }, { on := 14, ground := Ground.guard }], guard := some (14, true) } :: { dst := some 207, op := Op.fieldAddr 47 (Operand.tmp 206) 1, type := 0, pos := "law.go:275", after := #[{ on := 25, ground := Ground.data }, { on := 14, ground := Ground.guard }], guard := some (14, true) } :: { dst := some 208, op := Op.load 3 (Operand.tmp 207), type := 3, pos := "law.go:275", after := #[{ on := 26, ground := Ground.data }, { on := 14, ground := Ground.guard }], guard := some (14, true) } :: { dst := some 209, op := Op.call { callee := Callee.value (Operand.func 23), args := #[Operand.tmp 196, Operand.tmp 202, Operand.tmp 208], argTypes := #[24, 3, 3] }, type := 4, pos := "law.go:275", after := #[{ on := 15, ground := Ground.data }, { on := 21, ground := Ground.data }, { on := 27, ground := Ground.data }, { on := 14, ground := Ground.chain }, { on := 14, ground := Ground.guard }], guard := some (14, true) } :: { dst := some 210, op := Op.unOp UnOp.not 4 (Operand.tmp 209), type := 4, pos := "law.go:275", after := #[{ on := 28, ground := Ground.data }, { on := 14, ground := Ground.guard }], guard := some (14, true) } :: { dst := some 211, op := Op.pick (Operand.tmp 195) (Operand.tmp 210) (Operand.const (Value.bool false)), type := 4, pos := "law.go:275", after := #[{ on := 14, ground := Ground.data }, { on := 29, ground := Ground.data }], guard := none } :: { dst := some 6, op := Op.assign (Operand.tmp 211), type := 4, pos := "law.go:275", after := #[{ on := 30, ground := Ground.data }, { on := 28, ground := Ground.chain }, { on := 0, ground := Ground.phase }, { on := 1, ground := Ground.phase }, { on := 2, ground := Ground.phase }, { on := 3, ground := Ground.phase }, { on := 4, ground := Ground.phase }, { on := 5, ground := Ground.phase }, { on := 6, ground := Ground.phase }, { on := 7, ground := Ground.phase }, { on := 8, ground := Ground.phase }, { on := 9, ground := Ground.phase }, { on := 10, ground := Ground.phase }, { on := 11, ground := Ground.phase }, { on := 12, ground := Ground.phase }, { on := 13, ground := Ground.phase }, { on := 14, ground := Ground.phase }, { on := 15, ground := Ground.phase }, { on := 16, ground := Ground.phase }, { on := 17, ground := Ground.phase }, { on := 18, ground := Ground.phase }, { on := 19, ground := Ground.phase }, { on := 20, ground := Ground.phase }, { on := 21, ground := Ground.phase }, { on := 22, ground := Ground.phase }, { on := 23, ground := Ground.phase }, { on := 24, ground := Ground.phase }, { on := 25, ground := Ground.phase }, { on := 26, ground := Ground.phase }, { on := 27, ground := Ground.phase }, { on := 28, ground := Ground.phase }, { on := 29, ground := Ground.phase }, { on := 30, ground := Ground.phase }], guard := none } :: [])) true).wp Try.prog Q { tmps := List.toArray (t0 :: t1 :: (.int .i64 (k : Nat)) :: (.pointer (some ⟨sz, 0, none⟩)) :: t4 :: t5 :: t6 :: t7 :: t8 :: t9 :: t10 :: t11 :: t12 :: t13 :: (.pointer (some ⟨hb, 0, none⟩)) :: t15 :: t16 :: t17 :: t18 :: t19 :: (.pointer (some ⟨lb, 0, none⟩)) :: t21 :: t22 :: t23 :: t24 :: t25 :: t26 :: t27 :: t28 :: t29 :: t30 :: t31 :: t32 :: t33 :: t34 :: t35 :: t36 :: t37 :: t38 :: t39 :: t40 :: t41 :: t42 :: t43 :: t44 :: t45 :: t46 :: t47 :: t48 :: t49 :: t50 :: t51 :: t52 :: t53 :: t54 :: t55 :: t56 :: t57 :: t58 :: t59 :: t60 :: t61 :: t62 :: t63 :: t64 :: t65 :: t66 :: t67 :: t68 :: t69 :: t70 :: t71 :: t72 :: t73 :: t74 :: t75 :: t76 :: t77 :: t78 :: t79 :: t80 :: t81 :: t82 :: t83 :: t84 :: t85 :: t86 :: t87 :: t88 :: t89 :: t90 :: t91 :: t92 :: t93 :: t94 :: t95 :: t96 :: t97 :: t98 :: t99 :: t100 :: t101 :: t102 :: t103 :: t104 :: t105 :: t106 :: t107 :: t108 :: t109 :: t110 :: t111 :: t112 :: t113 :: t114 :: t115 :: t116 :: t117 :: t118 :: t119 :: t120 :: t121 :: t122 :: t123 :: t124 :: t125 :: t126 :: t127 :: t128 :: t129 :: t130 :: t131 :: t132 :: t133 :: t134 :: t135 :: t136 :: t137 :: t138 :: t139 :: t140 :: t141 :: t142 :: t143 :: t144 :: t145 :: t146 :: t147 :: t148 :: t149 :: t150 :: t151 :: t152 :: t153 :: t154 :: t155 :: t156 :: t157 :: t158 :: t159 :: t160 :: t161 :: t162 :: t163 :: t164 :: t165 :: t166 :: t167 :: t168 :: t169 :: t170 :: t171 :: t172 :: t173 :: t174 :: t175 :: t176 :: t177 :: t178 :: t179 :: t180 :: t181 :: t182 :: t183 :: t184 :: t185 :: t186 :: t187 :: t188 :: t189 :: t190 :: t191 :: t192 :: t193 :: t194 :: t195 :: t196 :: t197 :: t198 :: t199 :: t200 :: t201 :: t202 :: t203 :: t204 :: t205 :: t206 :: t207 :: t208 :: t209 :: t210 :: t211 :: []), defers := [] } w := by
  refine wp_region_quiet_below (by kernel_rfl) (by kernel_rfl) ?_
  repeat (go_big_quiet_step (first | with_reducible exact W1 _ _ | with_reducible exact W2 _ _))
  refine wpQuiet_nil ?_
  intro _ hw'
  obtain ⟨⟨dq, osq⟩, hw''⟩ := hw'
  subst hw''
  exact h _ _
end Go.Proofs.Ythhjknpfaghfbaa
namespace Go.Proofs.Ythhjknpfaghfbaa
open Go.RowKit

/-- A list more, of whatever form, at a step of a region that draws its order. -/
theorem step_append_any {α : Type} {P : Program} (K : RK α) (hk : K.Ok P) {ops : Array Oper} {o : Oper} {a : Act} {C : Act → World → Prop} {Q : Exit → Act → World → Prop} {E : Prop} (hgd : o.guard = none) (s x : Operand) (t : TypeId)
    (ho : o.op = .call { callee := .builtin .append, args := #[s, x], argTypes := #[t, t] })
    (base : Nat) (ht : P.underlying t = some (.slice K.ty))
    (w1 : World) (v vx : Value) (l m : List α) (hs : a.eval s = v) (hown : OwnG K w1 base v l) (hx : a.eval x = vx) (hm : GS K w1 vx m)
    (hlen : (l.length + m.length) * K.B ≤ 140737488355328) (hbase : base ≤ w1.heap.size)
    (h : ∀ v' w', OwnG K w' base v' (l ++ m) → Below base w1 w' → (∀ k, k < w1.heap.size → some k ≠ v.ownBlock → w'.heap[k]? = w1.heap[k]?) → C (a.put o.dst v') w') :
    if Region.wanted o (yielded ops a.tmps) = true then Oper.wp P o a w1 C Q else E := by
  obtain ⟨i0, hi0, hz0, hz1, hz2⟩ := hk.info
  have hpb := hk.posB
  have hlm : l.length + m.length ≤ 140737488355328 := Nat.le_trans (Nat.le_mul_of_pos_right _ hpb) hlen
  have hw : Region.wanted o (yielded ops a.tmps) = true := by simp [Region.wanted, hgd]
  rw [if_pos hw]
  have hm0 := hm
  rcases hm with ⟨rfl | ⟨ad, cap, rfl⟩, hmn⟩ | ⟨X, ox, cap, rfl, _⟩
  · subst hmn
    have hrun := run_append_owned_none (P := P) (w := w1) base t o.type K.ty i0 K.W ht hi0 v l.length (l.flatMap K.f) hown
    unfold Oper.wp
    simp [execOp, ho, resolve, invoke, builtin, hs, hx, hrun, Result.andThen]
    exact h v w1 (by rw [List.append_nil]; exact hown) (Below.refl _ _) (fun _ _ _ => rfl)
  · subst hmn
    refine wp_append_own w1 s x t ho base K.ty i0 K.z K.W K.B ht hi0 hz0 hz1 hz2 hk.zs hk.pos v l.length (l.flatMap K.f) hs hown ad 0 cap [] hx (by simp) (fun j u hj => by simp at hj) (fun u hu => by cases hu)
      (by unfold maxLen; simp at hlm; omega) (by simpa using hlen) hbase ?_
    intro v' w' ho' hg _
    refine h v' w' ?_ ((Below.refl base w1).grown hg hbase (fun q hq => (hown.lt hq).1)) (fun k hk hne => hg.block k hk hne)
    unfold OwnG
    rw [List.append_nil]
    simpa using ho'
  · have one : ∀ u ∈ m.flatMap K.f, u.oneCell' = true := fun u hu => by
      obtain ⟨f, _, hf⟩ := List.mem_flatMap.1 hu
      exact hk.one f u hf
    refine wp_append_own w1 s x t ho base K.ty i0 K.z K.W K.B ht hi0 hz0 hz1 hz2 hk.zs hk.pos v l.length (l.flatMap K.f) hs hown ⟨X, ox, none⟩ m.length cap (m.flatMap K.f) hx (RK.flat_len hk.len m) (hm0.news hk.len hk.pos) one
      (by unfold maxLen; omega) hlen hbase ?_
    intro v' w' ho' hg _
    refine h v' w' ?_ ((Below.refl base w1).grown hg hbase (fun q hq => (hown.lt hq).1)) (fun k hk hne => hg.block k hk hne)
    unfold OwnG
    rw [List.length_append, List.flatMap_append]
    exact ho'
theorem own_none {w : World} {b base : Nat} (h : w.heap[b]? = some (.cells #[] 47)) (hb : base ≤ b) : OwnG KE w base (.slice (some ⟨b, 0, none⟩) 0 0) [] :=
  ⟨by simp, Or.inr ⟨b, 0, #[], rfl, hb, h, Nat.le_refl _, Nat.zero_le _, by simp, by simp⟩⟩
theorem eI_app (l m : List (Nat × Nat)) : eI (l ++ m) = eI l ++ eI m := by unfold eI; rw [List.map_append]
theorem GS.sub {α : Type} {K : RK α} {w : World} {X o n c : Nat} {l : List α} (h : GS K w (.slice (some ⟨X, o, none⟩) n c) l) {j m c' : Nat} (hj : j + m ≤ l.length) (hm : 0 < m) (hc' : m ≤ c') : GS K w (.slice (some ⟨X, o + j * K.W, none⟩) m c') ((l.drop j).take m) := by
  have hl : ((l.drop j).take m).length = m := by rw [List.length_take, List.length_drop]; omega
  obtain ⟨X', o', e, hX, hc⟩ : ∃ X' o', (some (⟨X, o, none⟩ : Addr)) = some ⟨X', o', none⟩ ∧ X' < w.heap.size ∧ ∀ k (hk : k < l.length) i u, (K.f l[k])[i]? = some u → w.cell? ⟨X', o' + k * K.W + i, none⟩ = some u := by
    rcases h with ⟨_, rfl⟩ | ⟨X', o', cap', e, hX, _, hc⟩
    · simp at hj; omega
    · injection e with e1 _ _
      exact ⟨X', o', e1, hX, hc⟩
  injection e with e
  injection e with e1 e2 _
  subst e1 e2
  refine Or.inr ⟨X, o + j * K.W, c', by rw [hl], hX, by rw [hl]; exact hc', fun k hk i u hu => ?_⟩
  have hk' : j + k < l.length := by omega
  have eg : ((l.drop j).take m)[k] = l[j + k] := by simp
  rw [eg] at hu
  have := hc (j + k) hk' i u hu
  rw [Nat.add_mul] at this
  rw [← this]
  congr 2
  omega
theorem gs_front {w : World} {Z oz m cz k : Nat} {Q : List (Nat × Nat)} (h : GS KE w (.slice (some ⟨Z, oz, none⟩) m cz) (eI Q)) (hm : Q.length = m) (hk : k ≤ m) (hc : m ≤ cz) : GS KE w (.slice (some ⟨Z, oz, none⟩) k cz) (eI (Q.take k)) := by
  by_cases h0 : k = 0
  · subst h0
    exact Or.inl ⟨Or.inr ⟨_, _, rfl⟩, rfl⟩
  · have := h.sub (j := 0) (m := k) (c' := cz) (by rw [eI_len]; omega) (by omega) (by omega)
    rw [Nat.zero_mul, Nat.add_zero, List.drop_zero] at this
    have e : eI (Q.take k) = (eI Q).take k := by unfold eI; rw [List.map_take]
    rw [e]
    exact this
theorem gs_back {w : World} {Z oz m cz k d c' : Nat} {Q : List (Nat × Nat)} (h : GS KE w (.slice (some ⟨Z, oz, none⟩) m cz) (eI Q)) (hm : Q.length = k + d) (hd : 0 < d) (hc : d ≤ c') : GS KE w (.slice (some ⟨Z, oz + k * 2, none⟩) d c') (eI (Q.drop k)) := by
  have := h.sub (j := k) (m := d) (c' := c') (by rw [eI_len]; omega) hd hc
  have e : eI (Q.drop k) = ((eI Q).drop k).take d := by
    rw [List.take_of_length_le (by rw [List.length_drop, eI_len]; omega)]
    unfold eI; rw [List.map_drop]
  rw [e]
  exact this
theorem gs_end {w : World} {k c' : Nat} {ad : Addr} {Q : List (Nat × Nat)} (hm : Q.length ≤ k) : GS KE w (.slice (some ad) 0 c') (eI (Q.drop k)) := by
  rw [List.drop_of_length_le hm]
  exact Or.inl ⟨Or.inr ⟨ad, c', rfl⟩, rfl⟩
theorem gs_tail {w : World} {Z oz m cz k d c' : Nat} {Q : List (Nat × Nat)} (h : GS KE w (.slice (some ⟨Z, oz, none⟩) m cz) (eI Q)) (hm : Q.length = k + d) (hc : d ≤ c') : GS KE w (.slice (some ⟨Z, oz + k * 2, none⟩) d c') (eI (Q.drop k)) := by
  by_cases hd : d = 0
  · subst hd
    exact gs_end (by omega)
  · exact gs_back h hm (by omega) hc
theorem set2_box {W : World} {b : Nat} {a1 a2 : Value} {t : TypeId} (h : W.heap[b]? = some (.cells #[a1, a2] t)) (u1 u2 : Value) : ((W.setCell ⟨b, 0, none⟩ u1).setCell ⟨b, 1, none⟩ u2).heap[b]? = some (.cells #[u1, u2] t) := by
  have e1 := heap_setCell_same W b 0 _ _ u1 h
  have e2 := heap_setCell_same _ b 1 _ _ u2 e1
  rw [e2]
  rfl
theorem fz_of {w : World} {b : Nat} {arr : Array Value} {t : TypeId} (h : w.heap[b]? = some (.cells arr t)) (o : Nat) : w.frozen? ⟨b, o, none⟩ = false := by
  unfold World.frozen?; rw [h]; simp
theorem bset2 {w w' : World} {base b : Nat} (h : Below base w w') (hb : base ≤ b) (u0 u1 : Value) : Below base w ((w'.setCell ⟨b, 0, none⟩ u0).setCell ⟨b, 1, none⟩ u1) := (h.setCell hb u0).setCell hb u1
theorem gset2 {w : World} {base b : Nat} {v : Value} {l : List (Int × Int)} {arr : Array Value} (h : OwnG KE w base v l) (x : w.heap[b]? = some (.cells arr 24)) (u0 u1 : Value) : GS KE ((w.setCell ⟨b, 0, none⟩ u0).setCell ⟨b, 1, none⟩ u1) v l :=
  (h.far (fun g hg => by
    have hne : g ≠ b := fun e => by subst e; exact (h.notat x (by decide)) hg
    rw [Below.heap_setCell _ _ _ _ hne, Below.heap_setCell _ _ _ _ hne])).gs KE_ok.len
theorem x9_of {w8 w9 : World} {base : Nat} {v : Value} {l : List (Int × Int)} {arr : Array Value} (h : OwnG KE w8 base v l) (k9 : ∀ k, k < (w8.alloc (.cells arr 24)).heap.size → some k ≠ v.ownBlock → w9.heap[k]? = (w8.alloc (.cells arr 24)).heap[k]?) : Hid (w9.heap[w8.heap.size]? = some (.cells arr 24)) := by
  have e0 : (w8.alloc (.cells arr 24)).heap[w8.heap.size]? = some (.cells arr 24) := heap_alloc_new w8 _
  have e1 := k9 w8.heap.size (lt_of_heap e0) (fun e => (h.below (bal w8 (.cells arr 24))).notat e0 (by decide) e.symm)
  exact hid (e1.trans e0)
set_option maxRecDepth 100000 in
set_option maxHeartbeats 32000000 in
theorem th37 {Q : Exit → Act → World → Prop} {V : World} {hb Z oz m cz k N : Nat} {QQ : List (Nat × Nat)} {t0 t1 t3 t4 t5 t6 t7 t8 t9 t10 t11 t12 t13 t15 t16 t17 t18 t19 t20 t21 t22 t23 t24 t25 t26 t27 t28 t29 t30 t31 t32 t33 t34 t35 t36 t37 t38 t39 t40 t41 t42 t43 t44 t45 t46 t47 t48 t49 t50 t51 t52 t53 t54 t55 t56 t57 t58 t59 t60 t61 t62 t63 t64 t65 t66 t67 t68 t69 t70 t71 t72 t73 t74 t75 t76 t77 t78 t79 t80 t81 t82 t83 t84 t85 t86 t87 t88 t89 t90 t91 t92 t93 t94 t95 t96 t97 t98 t99 t100 t101 t102 t103 t104 t105 t106 t107 t108 t109 t110 t111 t112 t113 t114 t115 t116 t117 t118 t119 t120 t121 t122 t123 t124 t125 t126 t127 t128 t129 t130 t131 t132 t133 t134 t135 t136 t137 t138 t139 t140 t141 t142 t143 t144 t145 t146 t147 t148 t149 t150 t151 t152 t153 t154 t155 t156 t157 t158 t159 t160 t161 t162 t163 t164 t165 t166 t167 t168 t169 t170 t171 t172 t173 t174 t175 t176 t177 t178 t179 t180 t181 t182 t183 t184 t185 t186 t187 t188 t189 t190 t191 t192 t193 t194 t195 t196 t197 t198 t199 t200 t201 t202 t203 t204 t205 t206 t207 t208 t209 t210 t211 : Value} (hm : QQ.length = m) (hk : k < m) (hmb : m ≤ 16384) (hcz : m ≤ cz) (B0 : V.heap[hb]? = some (.cells #[.int .i64 N, .slice (some ⟨Z, oz, none⟩) m cz] 24)) (gq : GS KE V (.slice (some ⟨Z, oz, none⟩) m cz) (eI QQ))
    (h : ∀ (W' : World) (lb : Nat) (q : Option Addr) (c : Nat) (x166 x167 x168 x169 x170 x171 x172 x173 x174 x175 x176 x177 x178 x179 x180 : Value), Below V.heap.size V W' → W'.heap[lb]? = some (.cells #[.int .i64 N, .slice q (lnD QQ k).length c] 24) → GS KE W' (.slice q (lnD QQ k).length c) (eI (lnD QQ k)) → Q .normal { tmps := List.toArray (t0 :: t1 :: (.int .i64 (k : Nat)) :: t3 :: t4 :: t5 :: t6 :: t7 :: t8 :: t9 :: t10 :: t11 :: t12 :: t13 :: (.pointer (some ⟨hb, 0, none⟩)) :: t15 :: t16 :: t17 :: t18 :: t19 :: (.pointer (some ⟨lb, 0, none⟩)) :: t21 :: t22 :: t23 :: t24 :: t25 :: t26 :: t27 :: t28 :: t29 :: t30 :: t31 :: t32 :: t33 :: t34 :: t35 :: t36 :: t37 :: t38 :: t39 :: t40 :: t41 :: t42 :: t43 :: t44 :: t45 :: t46 :: t47 :: t48 :: t49 :: t50 :: t51 :: t52 :: t53 :: t54 :: t55 :: t56 :: t57 :: t58 :: t59 :: t60 :: t61 :: t62 :: t63 :: t64 :: t65 :: t66 :: t67 :: t68 :: t69 :: t70 :: t71 :: t72 :: t73 :: t74 :: t75 :: t76 :: t77 :: t78 :: t79 :: t80 :: t81 :: t82 :: t83 :: t84 :: t85 :: t86 :: t87 :: t88 :: t89 :: t90 :: t91 :: t92 :: t93 :: t94 :: t95 :: t96 :: t97 :: t98 :: t99 :: t100 :: t101 :: t102 :: t103 :: t104 :: t105 :: t106 :: t107 :: t108 :: t109 :: t110 :: t111 :: t112 :: t113 :: t114 :: t115 :: t116 :: t117 :: t118 :: t119 :: t120 :: t121 :: t122 :: t123 :: t124 :: t125 :: t126 :: t127 :: t128 :: t129 :: t130 :: t131 :: t132 :: t133 :: t134 :: t135 :: t136 :: t137 :: t138 :: t139 :: t140 :: t141 :: t142 :: t143 :: t144 :: t145 :: t146 :: t147 :: t148 :: t149 :: t150 :: t151 :: t152 :: t153 :: t154 :: t155 :: t156 :: t157 :: t158 :: t159 :: t160 :: t161 :: t162 :: t163 :: t164 :: t165 :: x166 :: x167 :: x168 :: x169 :: x170 :: x171 :: x172 :: x173 :: x174 :: x175 :: x176 :: x177 :: x178 :: x179 :: x180 :: t181 :: t182 :: t183 :: t184 :: t185 :: t186 :: t187 :: t188 :: t189 :: t190 :: t191 :: t192 :: t193 :: t194 :: t195 :: t196 :: t197 :: t198 :: t199 :: t200 :: t201 :: t202 :: t203 :: t204 :: t205 :: t206 :: t207 :: t208 :: t209 :: t210 :: t211 :: []), defers := [] } W') :
    (Code.region 37 (List.toArray ({ dst := some 166, op := Op.fieldAddr 24 (Operand.tmp 14) 0, type := 0, pos := "law.go:274", after := #[], guard := none } :: { dst := some 167, op := Op.load 3 (Operand.tmp 166), type := 3, pos := "law.go:274", after := #[{ on := 0, ground := Ground.data }], guard := none } :: { dst := some 168, op := Op.buildSlice 22 0 #[], type := 22, pos := "law.go:274", after := #[], guard := none } :: { dst := some 169, op := Op.fieldAddr 24 (Operand.tmp 14) 1, type := 0, pos := "law.go:274", after := #[], guard := none } :: { dst := some 170, op := Op.load 22 (Operand.tmp 169), type := 22, pos := "law.go:274", after := #[{ on := 3, ground := Ground.data }], guard := none } :: { dst := some 171, op := Op.move (Operand.tmp 2), type := 3, pos := "law.go:274", after := #[], guard := none } :: { dst := some 172, op := Op.slice 22 (Operand.tmp 170) none (some (Operand.tmp 171)) none, type := 22, pos := "law.go:274", after := #[{ on := 4, ground := Ground.data }, { on := 5, ground := Ground.data }], guard := none } :: { dst := some 173, op := Op.call { callee := Callee.builtin Builtin.append, args := #[Operand.tmp 168, Operand.tmp 172], argTypes := #[22, 22] }, type := 22, pos := "law.go:274", after := #[{ on := 2, ground := Ground.data }, { on := 6, ground := Ground.data }], guard := none } :: { dst := some 174, op := Op.fieldAddr 24 (Operand.tmp 14) 1, type := 0, pos := "law.go:274", after := #[], guard := none } :: { dst := some 175, op := Op.load 22 (Operand.tmp 174), type := 22, pos := "law.go:274", after := #[{ on := 8, ground := Ground.data }], guard := none } :: { dst := some 176, op := Op.move (Operand.tmp 2), type := 3, pos := "law.go:274", after := #[], guard := none } :: { dst := some 177, op := Op.binOp BinOp.add 3 (Operand.tmp 176) (Operand.const (Value.int IntKind.i64 1)) 3, type := 3, pos := "law.go:274", after := #[{ on := 10, ground := Ground.data }], guard := none } :: { dst := some 178, op := Op.slice 22 (Operand.tmp 175) (some (Operand.tmp 177)) none none, type := 22, pos := "law.go:274", after := #[{ on := 9, ground := Ground.data }, { on := 11, ground := Ground.data }], guard := none } :: { dst := some 179, op := Op.call { callee := Callee.builtin Builtin.append, args := #[Operand.tmp 173, Operand.tmp 178], argTypes := #[22, 22] }, type := 22, pos := "law.go:274", after := #[{ on := 7, ground := Ground.data }, { on := 12, ground := Ground.data }, { on := 7, ground := Ground.chain }], guard := none } :: { dst := some 180, op := Op.build 24 #[(0, Operand.tmp 167), (1, Operand.tmp 179)], type := 24, pos := "law.go:274", after := #[{ on := 1, ground := Ground.data }, { on := 13, ground := Ground.data }], guard := none } :: { dst := some 20, op := Op.alloc 24, type := 0, pos := "law.go:274", after := #[], guard := none } :: { dst := none, op := Op.store 24 (Operand.tmp 20) (Operand.tmp 180), type := 0, pos := "law.go:274", after := #[{ on := 15, ground := Ground.data }, { on := 14, ground := Ground.data }, { on := 13, ground := Ground.chain }, { on := 0, ground := Ground.phase }, { on := 1, ground := Ground.phase }, { on := 2, ground := Ground.phase }, { on := 3, ground := Ground.phase }, { on := 4, ground := Ground.phase }, { on := 5, ground := Ground.phase }, { on := 6, ground := Ground.phase }, { on := 7, ground := Ground.phase }, { on := 8, ground := Ground.phase }, { on := 9, ground := Ground.phase }, { on := 10, ground := Ground.phase }, { on := 11, ground := Ground.phase }, { on := 12, ground := Ground.phase }, { on := 13, ground := Ground.phase }, { on := 14, ground := Ground.phase }, { on := 15, ground := Ground.phase }], guard := none } :: [])) true).wp Try.prog Q { tmps := List.toArray (t0 :: t1 :: (.int .i64 (k : Nat)) :: t3 :: t4 :: t5 :: t6 :: t7 :: t8 :: t9 :: t10 :: t11 :: t12 :: t13 :: (.pointer (some ⟨hb, 0, none⟩)) :: t15 :: t16 :: t17 :: t18 :: t19 :: t20 :: t21 :: t22 :: t23 :: t24 :: t25 :: t26 :: t27 :: t28 :: t29 :: t30 :: t31 :: t32 :: t33 :: t34 :: t35 :: t36 :: t37 :: t38 :: t39 :: t40 :: t41 :: t42 :: t43 :: t44 :: t45 :: t46 :: t47 :: t48 :: t49 :: t50 :: t51 :: t52 :: t53 :: t54 :: t55 :: t56 :: t57 :: t58 :: t59 :: t60 :: t61 :: t62 :: t63 :: t64 :: t65 :: t66 :: t67 :: t68 :: t69 :: t70 :: t71 :: t72 :: t73 :: t74 :: t75 :: t76 :: t77 :: t78 :: t79 :: t80 :: t81 :: t82 :: t83 :: t84 :: t85 :: t86 :: t87 :: t88 :: t89 :: t90 :: t91 :: t92 :: t93 :: t94 :: t95 :: t96 :: t97 :: t98 :: t99 :: t100 :: t101 :: t102 :: t103 :: t104 :: t105 :: t106 :: t107 :: t108 :: t109 :: t110 :: t111 :: t112 :: t113 :: t114 :: t115 :: t116 :: t117 :: t118 :: t119 :: t120 :: t121 :: t122 :: t123 :: t124 :: t125 :: t126 :: t127 :: t128 :: t129 :: t130 :: t131 :: t132 :: t133 :: t134 :: t135 :: t136 :: t137 :: t138 :: t139 :: t140 :: t141 :: t142 :: t143 :: t144 :: t145 :: t146 :: t147 :: t148 :: t149 :: t150 :: t151 :: t152 :: t153 :: t154 :: t155 :: t156 :: t157 :: t158 :: t159 :: t160 :: t161 :: t162 :: t163 :: t164 :: t165 :: t166 :: t167 :: t168 :: t169 :: t170 :: t171 :: t172 :: t173 :: t174 :: t175 :: t176 :: t177 :: t178 :: t179 :: t180 :: t181 :: t182 :: t183 :: t184 :: t185 :: t186 :: t187 :: t188 :: t189 :: t190 :: t191 :: t192 :: t193 :: t194 :: t195 :: t196 :: t197 :: t198 :: t199 :: t200 :: t201 :: t202 :: t203 :: t204 :: t205 :: t206 :: t207 :: t208 :: t209 :: t210 :: t211 :: []), defers := [] } V := by
  rw [← eI_len (lnD QQ k)] at h
  have hH := hid h
  have BD : Hid (Below V.heap.size V V.drew) := drew_below V 1
  have CB : Hid (∀ W', Below V.heap.size V W' → W'.cell? ⟨hb, 0, none⟩ = some (.int .i64 N) ∧ W'.cell? ⟨hb, 1, none⟩ = some (.slice (some ⟨Z, oz, none⟩) m cz)) := fun W' hbl => by
    have e := boxkeep hbl B0
    exact ⟨cell_of_row _ _ _ _ _ _ e, cell_of_row _ _ _ _ _ _ e⟩
  have GA := hid (fun W' (hb : Below V.heap.size V W') => gs_front (gq.below hb) hm (Nat.le_of_lt hk) hcz)
  have hki : (k : Int) < (m : Nat) := by omega
  have hkc : (k : Int) ≤ (cz : Nat) := by omega
  have hk1 : (k : Int) + 1 ≤ (m : Nat) := by omega
  have x0 := CB.out _ BD.out
  have LE1 : Hid ((([] : List (Int × Int)).length + (eI (QQ.take k)).length) * KE.B ≤ 140737488355328) := by
    show (0 + _) * 16 ≤ _
    rw [eI_len, List.length_take]
    omega
  have LE2 : Hid (((eI (QQ.take k)).length + (eI (QQ.drop (k + 1))).length) * KE.B ≤ 140737488355328) := by
    show (_ + _) * 16 ≤ _
    rw [eI_len, eI_len, List.length_take, List.length_drop]
    omega
  obtain ⟨d, rfl⟩ : ∃ d, m = k + 1 + d := ⟨m - (k + 1), by omega⟩
  obtain ⟨q, rfl⟩ : ∃ q, cz = k + 1 + q := ⟨cz - (k + 1), by omega⟩
  have hk0 : (0 : Int) ≤ (k : Int) + 1 := by omega
  have hwr : IntKind.i64.wrap ((k : Int) + 1) = (k : Int) + 1 := IntWalk.i64_in _ (by omega)
  have hk2 : (k : Int) + 1 ≤ ((k + 1 + d : Nat) : Int) := by omega
  have hk3 : (k : Int) + 1 ≤ (k : Int) + 1 + (d : Int) := by omega
  have hdq : d ≤ q := by omega
  have GT := hid (fun W' (hb : Below V.heap.size V W') => gs_tail (gq.below hb) hm hdq)
  have GE0 := hid (fun W' (ad : Addr) (hd : d = 0) => gs_end (w := W') (c' := 0) (ad := ad) (k := k + 1) (Q := QQ) (by omega))
  have HQ : Hid (eI (QQ.take k) ++ eI (QQ.drop (k + 1)) = eI (lnD QQ k)) := (eI_app _ _).symm
  clear h gq B0
  cases q with
  | zero =>
    obtain rfl : d = 0 := by omega
    simp only [Nat.add_zero] at *
    have hz1 : (k : Int) ≤ (k : Int) + 1 := by omega
    have hz2 : (k : Int) ≤ (k : Int) + (1 : Nat) := by omega
    have hz3 : (0 : Int) ≤ (k : Int) := by omega
    go_region_held3? (fun w' => w'.cell? ⟨hb, 0, none⟩ = some (.int .i64 N) ∧ w'.cell? ⟨hb, 1, none⟩ = some (.slice (some ⟨Z, oz, none⟩) (k + 1) (k + 1))) (first | exact x0 | exact CB.out _ (bl3 (bal _ _) (drew_below _ 1)) | exact CB.out _ (bl3 (bl3 (bal _ _) (bal _ _)) (drew_below _ 1)) | exact CB.out _ (bset2 B9.out (Nat.le_refl _) _ _) | exact CB.out _ (bset2 B9.out (Nat.le_succ _) _ _) | exact CB.out _ (bset2 B9.out B8.out.size _ _) | exact CB.out _ (bset2 (bl3 B9.out (bal _ _)) B9.out.size _ _) | exact CB.out _ B9.out | exact CB.out _ (bl3 B9.out (bal _ _)) | exact CB.out _ B8.out | exact CB.out _ (bl3 B8.out (bal _ _)) | exact s1 | exact s2 | go_keep) (first
      | (refine step_append_any KE KE_ok (by rfl) (.tmp 173) (.tmp 178) 22 (by rfl) V.heap.size Try.underlying22 w8 (.slice p8 (eI (QQ.take k)).length c8) (.slice (some ⟨Z, oz, none⟩) 0 0) (eI (QQ.take k)) (eI (QQ.drop (k + 1))) (by rfl) (by exact OA.out) (by rfl) (by exact GE0.out _ _ trivial) LE2.out (by exact (B8.out).size) ?_
         intro v9 w9 o9 b9 k9
         have B9 : Hid (Below V.heap.size V w9) := (B8.out).trans b9
         rw [HQ.out] at o9
         have O9 := hid o9
         have X9 : Hid (w9.heap[V.heap.size]? = some (.cells #[.int .i64 0, .slice none 0 0] 24)) := (k9 _ (lt_of_heap X8.out) (fun e => OA.out.notat X8.out (by decide) e.symm)).trans X8.out
         have c90 : w9.cell? ⟨V.heap.size, 0, none⟩ = some (.int .i64 0) := cell_of_row _ _ _ _ _ _ X9.out
         have c91 : w9.cell? ⟨V.heap.size, 1, none⟩ = some (.slice none 0 0) := cell_of_row _ _ _ _ _ _ X9.out
         have f90 : w9.frozen? ⟨V.heap.size, 0, none⟩ = false := fz_of X9.out 0
         have f91 : w9.frozen? ⟨V.heap.size, 1, none⟩ = false := fz_of X9.out 1
         obtain ⟨p9, c9, rfl, _⟩ := o9.form
         clear o9 b9 k9)
      | (refine step_append_any KE KE_ok (by rfl) (.tmp 173) (.tmp 178) 22 (by rfl) V.heap.size Try.underlying22 w8 (.slice p8 (eI (QQ.take k)).length c8) (.slice (some ⟨Z, oz, none⟩) 0 0) (eI (QQ.take k)) (eI (QQ.drop (k + 1))) (by rfl) (by exact OA.out) (by rfl) (by exact GE0.out _ _ trivial) LE2.out (by exact (B8.out).size) ?_
         intro v9 w9 o9 b9 k9
         have B9 : Hid (Below V.heap.size V w9) := (B8.out).trans b9
         rw [HQ.out] at o9
         have O9 := hid o9
         have X9 : Hid (w9.heap[V.heap.size + 1]? = some (.cells #[.int .i64 0, .slice none 0 0] 24)) := (k9 _ (lt_of_heap X8.out) (fun e => OA.out.notat X8.out (by decide) e.symm)).trans X8.out
         have c90 : w9.cell? ⟨V.heap.size + 1, 0, none⟩ = some (.int .i64 0) := cell_of_row _ _ _ _ _ _ X9.out
         have c91 : w9.cell? ⟨V.heap.size + 1, 1, none⟩ = some (.slice none 0 0) := cell_of_row _ _ _ _ _ _ X9.out
         have f90 : w9.frozen? ⟨V.heap.size + 1, 0, none⟩ = false := fz_of X9.out 0
         have f91 : w9.frozen? ⟨V.heap.size + 1, 1, none⟩ = false := fz_of X9.out 1
         obtain ⟨p9, c9, rfl, _⟩ := o9.form
         clear o9 b9 k9)
      | (refine step_append_any KE KE_ok (by rfl) (.tmp 173) (.tmp 178) 22 (by rfl) V.heap.size Try.underlying22 (w8.alloc (.cells #[.int .i64 0, .slice none 0 0] 24)) (.slice p8 (eI (QQ.take k)).length c8) (.slice (some ⟨Z, oz, none⟩) 0 0) (eI (QQ.take k)) (eI (QQ.drop (k + 1))) (by rfl) (by exact OA.out.below (bal _ _)) (by rfl) (by exact GE0.out _ _ trivial) LE2.out (by exact (bl3 B8.out (bal _ _)).size) ?_
         intro v9 w9 o9 b9 k9
         have B9 : Hid (Below V.heap.size V w9) := (bl3 B8.out (bal _ _)).trans b9
         rw [HQ.out] at o9
         have O9 := hid o9
         have X9 : Hid (w9.heap[w8.heap.size]? = some (.cells #[.int .i64 0, .slice none 0 0] 24)) := x9_of OA.out k9
         have c90 : w9.cell? ⟨w8.heap.size, 0, none⟩ = some (.int .i64 0) := cell_of_row _ _ _ _ _ _ X9.out
         have c91 : w9.cell? ⟨w8.heap.size, 1, none⟩ = some (.slice none 0 0) := cell_of_row _ _ _ _ _ _ X9.out
         have f90 : w9.frozen? ⟨w8.heap.size, 0, none⟩ = false := fz_of X9.out 0
         have f91 : w9.frozen? ⟨w8.heap.size, 1, none⟩ = false := fz_of X9.out 1
         obtain ⟨p9, c9, rfl, _⟩ := o9.form
         clear o9 b9 k9)
      | (refine step_append_any KE KE_ok (by rfl) (.tmp 173) (.tmp 178) 22 (by rfl) V.heap.size Try.underlying22 w8 (.slice p8 (eI (QQ.take k)).length c8) (.slice (some ⟨Z, oz, none⟩) 0 0) (eI (QQ.take k)) (eI (QQ.drop (k + 1))) (by rfl) (by exact OA.out) (by rfl) (by exact GE0.out _ _ trivial) LE2.out (by exact (B8.out).size) ?_
         intro v9 w9 o9 b9 k9
         have B9 : Hid (Below V.heap.size V w9) := (B8.out).trans b9
         rw [HQ.out] at o9
         have O9 := hid o9
         obtain ⟨p9, c9, rfl, _⟩ := o9.form
         clear o9 b9 k9)
      | (refine step_append_any KE KE_ok (by rfl) (.tmp 168) (.tmp 172) 22 (by rfl) V.heap.size Try.underlying22 _ (.slice (some ⟨V.heap.size, 0, none⟩) 0 0) (.slice (some ⟨Z, oz, none⟩) k (k + 1)) [] (eI (QQ.take k)) (by rfl) (by exact own_none (heap_alloc_new V _) (Nat.le_refl _)) (by rfl) (GA.out _ (by exact bl3 (bal _ _) (drew_below _ 1))) LE1.out (by exact (bl3 (bal V _) (drew_below _ 1)).size) ?_
         intro v8 w8 o8 b8 k8
         rw [List.nil_append] at o8
         have B8 : Hid (Below V.heap.size V w8) := (bl3 (bal V _) (drew_below _ 1)).trans b8
         obtain ⟨p8, c8, rfl, _⟩ := o8.form
         have OA := hid o8
         clear o8 b8 k8)
      | (refine step_append_any KE KE_ok (by rfl) (.tmp 168) (.tmp 172) 22 (by rfl) V.heap.size Try.underlying22 _ (.slice (some ⟨V.heap.size, 0, none⟩) 0 0) (.slice (some ⟨Z, oz, none⟩) k (k + 1)) [] (eI (QQ.take k)) (by rfl) (by exact own_none (boxkeep (bl3 (bal _ _) (drew_below _ 1)) (heap_alloc_new V _)) (Nat.le_refl _)) (by rfl) (GA.out _ (by exact bl3 (bl3 (bal _ _) (bal _ _)) (drew_below _ 1))) LE1.out (by exact (bl3 (bl3 (bal V _) (bal _ _)) (drew_below _ 1)).size) ?_
         intro v8 w8 o8 b8 k8
         rw [List.nil_append] at o8
         have B8 : Hid (Below V.heap.size V w8) := (bl3 (bl3 (bal V _) (bal _ _)) (drew_below _ 1)).trans b8
         have X8 : Hid (w8.heap[V.heap.size + 1]? = some (.cells #[.int .i64 0, .slice none 0 0] 24)) := (k8 _ (by show _ < ((V.alloc _).alloc _).heap.size; rw [asz, asz]; omega) (fun e => absurd (Option.some.inj e) (Nat.succ_ne_self V.heap.size))).trans (heap_alloc2_new V _ _)
         obtain ⟨p8, c8, rfl, _⟩ := o8.form
         have OA := hid o8
         clear o8 b8 k8)
      | (refine step_append_any KE KE_ok (by rfl) (.tmp 168) (.tmp 172) 22 (by rfl) V.heap.size Try.underlying22 _ (.slice (some ⟨V.heap.size + 1, 0, none⟩) 0 0) (.slice (some ⟨Z, oz, none⟩) k (k + 1)) [] (eI (QQ.take k)) (by rfl) (by exact own_none (heap_alloc2_new V _ _) (Nat.le_succ _)) (by rfl) (GA.out _ (by exact bl3 (bl3 (bal _ _) (bal _ _)) (drew_below _ 1))) LE1.out (by exact (bl3 (bl3 (bal V _) (bal _ _)) (drew_below _ 1)).size) ?_
         intro v8 w8 o8 b8 k8
         rw [List.nil_append] at o8
         have B8 : Hid (Below V.heap.size V w8) := (bl3 (bl3 (bal V _) (bal _ _)) (drew_below _ 1)).trans b8
         have X8 : Hid (w8.heap[V.heap.size]? = some (.cells #[.int .i64 0, .slice none 0 0] 24)) := (k8 _ (by show _ < ((V.alloc _).alloc _).heap.size; rw [asz, asz]; omega) (fun e => absurd (Option.some.inj e) (Nat.succ_ne_self V.heap.size).symm)).trans (boxkeep (bl3 (bal _ _) (drew_below _ 1)) (heap_alloc_new V _))
         obtain ⟨p8, c8, rfl, _⟩ := o8.form
         have OA := hid o8
         clear o8 b8 k8)
      | fail)
    all_goals first
      | exact hH.out _ _ _ _ _ _ _ _ _ _ _ _ _ _ _ _ _ _ _ (bset2 B9.out (Nat.le_refl _) _ _) (set2_box X9.out _ _) (gset2 O9.out X9.out _ _)
      | exact hH.out _ _ _ _ _ _ _ _ _ _ _ _ _ _ _ _ _ _ _ (bset2 B9.out (Nat.le_succ _) _ _) (set2_box X9.out _ _) (gset2 O9.out X9.out _ _)
      | exact hH.out _ _ _ _ _ _ _ _ _ _ _ _ _ _ _ _ _ _ _ (bset2 B9.out B8.out.size _ _) (set2_box X9.out _ _) (gset2 O9.out X9.out _ _)
      | exact hH.out _ _ _ _ _ _ _ _ _ _ _ _ _ _ _ _ _ _ _ (bl3 B9.out (bal _ _)) (heap_alloc_new _ _) ((O9.out.below (bal _ _)).gs KE_ok.len)
  | succ q =>
    have hq1 : ¬ (k + 1 + (q + 1) = k + 1) := by omega
    have hz1 : (k : Int) ≤ (k : Int) + 1 + ((q : Int) + 1) := by omega
    have hz3 : (0 : Int) ≤ (k : Int) := by omega
    have hz4 : (k : Int) + 1 ≤ (k : Int) + 1 + (d : Int) := by omega
    go_region_held3? (fun w' => w'.cell? ⟨hb, 0, none⟩ = some (.int .i64 N) ∧ w'.cell? ⟨hb, 1, none⟩ = some (.slice (some ⟨Z, oz, none⟩) (k + 1 + d) (k + 1 + (q + 1)))) (first | exact x0 | exact CB.out _ (bl3 (bal _ _) (drew_below _ 1)) | exact CB.out _ (bl3 (bl3 (bal _ _) (bal _ _)) (drew_below _ 1)) | exact CB.out _ (bset2 B9.out (Nat.le_refl _) _ _) | exact CB.out _ (bset2 B9.out (Nat.le_succ _) _ _) | exact CB.out _ (bset2 B9.out B8.out.size _ _) | exact CB.out _ (bset2 (bl3 B9.out (bal _ _)) B9.out.size _ _) | exact CB.out _ B9.out | exact CB.out _ (bl3 B9.out (bal _ _)) | exact CB.out _ B8.out | exact CB.out _ (bl3 B8.out (bal _ _)) | exact s1 | exact s2 | go_keep) (first
      | (refine step_append_any KE KE_ok (by rfl) (.tmp 173) (.tmp 178) 22 (by rfl) V.heap.size Try.underlying22 w8 (.slice p8 (eI (QQ.take k)).length c8) (.slice (some ⟨Z, oz + (k + 1) * 2, none⟩) d (q + 1)) (eI (QQ.take k)) (eI (QQ.drop (k + 1))) (by rfl) (by exact OA.out) (by rfl) (by exact GT.out _ (B8.out)) LE2.out (by exact (B8.out).size) ?_
         intro v9 w9 o9 b9 k9
         have B9 : Hid (Below V.heap.size V w9) := (B8.out).trans b9
         rw [HQ.out] at o9
         have O9 := hid o9
         have X9 : Hid (w9.heap[V.heap.size]? = some (.cells #[.int .i64 0, .slice none 0 0] 24)) := (k9 _ (lt_of_heap X8.out) (fun e => OA.out.notat X8.out (by decide) e.symm)).trans X8.out
         have c90 : w9.cell? ⟨V.heap.size, 0, none⟩ = some (.int .i64 0) := cell_of_row _ _ _ _ _ _ X9.out
         have c91 : w9.cell? ⟨V.heap.size, 1, none⟩ = some (.slice none 0 0) := cell_of_row _ _ _ _ _ _ X9.out
         have f90 : w9.frozen? ⟨V.heap.size, 0, none⟩ = false := fz_of X9.out 0
         have f91 : w9.frozen? ⟨V.heap.size, 1, none⟩ = false := fz_of X9.out 1
         obtain ⟨p9, c9, rfl, _⟩ := o9.form
         clear o9 b9 k9)
      | (refine step_append_any KE KE_ok (by rfl) (.tmp 173) (.tmp 178) 22 (by rfl) V.heap.size Try.underlying22 w8 (.slice p8 (eI (QQ.take k)).length c8) (.slice (some ⟨Z, oz + (k + 1) * 2, none⟩) d (q + 1)) (eI (QQ.take k)) (eI (QQ.drop (k + 1))) (by rfl) (by exact OA.out) (by rfl) (by exact GT.out _ (B8.out)) LE2.out (by exact (B8.out).size) ?_
         intro v9 w9 o9 b9 k9
         have B9 : Hid (Below V.heap.size V w9) := (B8.out).trans b9
         rw [HQ.out] at o9
         have O9 := hid o9
         have X9 : Hid (w9.heap[V.heap.size + 1]? = some (.cells #[.int .i64 0, .slice none 0 0] 24)) := (k9 _ (lt_of_heap X8.out) (fun e => OA.out.notat X8.out (by decide) e.symm)).trans X8.out
         have c90 : w9.cell? ⟨V.heap.size + 1, 0, none⟩ = some (.int .i64 0) := cell_of_row _ _ _ _ _ _ X9.out
         have c91 : w9.cell? ⟨V.heap.size + 1, 1, none⟩ = some (.slice none 0 0) := cell_of_row _ _ _ _ _ _ X9.out
         have f90 : w9.frozen? ⟨V.heap.size + 1, 0, none⟩ = false := fz_of X9.out 0
         have f91 : w9.frozen? ⟨V.heap.size + 1, 1, none⟩ = false := fz_of X9.out 1
         obtain ⟨p9, c9, rfl, _⟩ := o9.form
         clear o9 b9 k9)
      | (refine step_append_any KE KE_ok (by rfl) (.tmp 173) (.tmp 178) 22 (by rfl) V.heap.size Try.underlying22 (w8.alloc (.cells #[.int .i64 0, .slice none 0 0] 24)) (.slice p8 (eI (QQ.take k)).length c8) (.slice (some ⟨Z, oz + (k + 1) * 2, none⟩) d (q + 1)) (eI (QQ.take k)) (eI (QQ.drop (k + 1))) (by rfl) (by exact OA.out.below (bal _ _)) (by rfl) (by exact GT.out _ (bl3 B8.out (bal _ _))) LE2.out (by exact (bl3 B8.out (bal _ _)).size) ?_
         intro v9 w9 o9 b9 k9
         have B9 : Hid (Below V.heap.size V w9) := (bl3 B8.out (bal _ _)).trans b9
         rw [HQ.out] at o9
         have O9 := hid o9
         have X9 : Hid (w9.heap[w8.heap.size]? = some (.cells #[.int .i64 0, .slice none 0 0] 24)) := x9_of OA.out k9
         have c90 : w9.cell? ⟨w8.heap.size, 0, none⟩ = some (.int .i64 0) := cell_of_row _ _ _ _ _ _ X9.out
         have c91 : w9.cell? ⟨w8.heap.size, 1, none⟩ = some (.slice none 0 0) := cell_of_row _ _ _ _ _ _ X9.out
         have f90 : w9.frozen? ⟨w8.heap.size, 0, none⟩ = false := fz_of X9.out 0
         have f91 : w9.frozen? ⟨w8.heap.size, 1, none⟩ = false := fz_of X9.out 1
         obtain ⟨p9, c9, rfl, _⟩ := o9.form
         clear o9 b9 k9)
      | (refine step_append_any KE KE_ok (by rfl) (.tmp 173) (.tmp 178) 22 (by rfl) V.heap.size Try.underlying22 w8 (.slice p8 (eI (QQ.take k)).length c8) (.slice (some ⟨Z, oz + (k + 1) * 2, none⟩) d (q + 1)) (eI (QQ.take k)) (eI (QQ.drop (k + 1))) (by rfl) (by exact OA.out) (by rfl) (by exact GT.out _ (B8.out)) LE2.out (by exact (B8.out).size) ?_
         intro v9 w9 o9 b9 k9
         have B9 : Hid (Below V.heap.size V w9) := (B8.out).trans b9
         rw [HQ.out] at o9
         have O9 := hid o9
         obtain ⟨p9, c9, rfl, _⟩ := o9.form
         clear o9 b9 k9)
      | (refine step_append_any KE KE_ok (by rfl) (.tmp 168) (.tmp 172) 22 (by rfl) V.heap.size Try.underlying22 _ (.slice (some ⟨V.heap.size, 0, none⟩) 0 0) (.slice (some ⟨Z, oz, none⟩) k (k + 1 + (q + 1))) [] (eI (QQ.take k)) (by rfl) (by exact own_none (heap_alloc_new V _) (Nat.le_refl _)) (by rfl) (GA.out _ (by exact bl3 (bal _ _) (drew_below _ 1))) LE1.out (by exact (bl3 (bal V _) (drew_below _ 1)).size) ?_
         intro v8 w8 o8 b8 k8
         rw [List.nil_append] at o8
         have B8 : Hid (Below V.heap.size V w8) := (bl3 (bal V _) (drew_below _ 1)).trans b8
         obtain ⟨p8, c8, rfl, _⟩ := o8.form
         have OA := hid o8
         clear o8 b8 k8)
      | (refine step_append_any KE KE_ok (by rfl) (.tmp 168) (.tmp 172) 22 (by rfl) V.heap.size Try.underlying22 _ (.slice (some ⟨V.heap.size, 0, none⟩) 0 0) (.slice (some ⟨Z, oz, none⟩) k (k + 1 + (q + 1))) [] (eI (QQ.take k)) (by rfl) (by exact own_none (boxkeep (bl3 (bal _ _) (drew_below _ 1)) (heap_alloc_new V _)) (Nat.le_refl _)) (by rfl) (GA.out _ (by exact bl3 (bl3 (bal _ _) (bal _ _)) (drew_below _ 1))) LE1.out (by exact (bl3 (bl3 (bal V _) (bal _ _)) (drew_below _ 1)).size) ?_
         intro v8 w8 o8 b8 k8
         rw [List.nil_append] at o8
         have B8 : Hid (Below V.heap.size V w8) := (bl3 (bl3 (bal V _) (bal _ _)) (drew_below _ 1)).trans b8
         have X8 : Hid (w8.heap[V.heap.size + 1]? = some (.cells #[.int .i64 0, .slice none 0 0] 24)) := (k8 _ (by show _ < ((V.alloc _).alloc _).heap.size; rw [asz, asz]; omega) (fun e => absurd (Option.some.inj e) (Nat.succ_ne_self V.heap.size))).trans (heap_alloc2_new V _ _)
         obtain ⟨p8, c8, rfl, _⟩ := o8.form
         have OA := hid o8
         clear o8 b8 k8)
      | (refine step_append_any KE KE_ok (by rfl) (.tmp 168) (.tmp 172) 22 (by rfl) V.heap.size Try.underlying22 _ (.slice (some ⟨V.heap.size + 1, 0, none⟩) 0 0) (.slice (some ⟨Z, oz, none⟩) k (k + 1 + (q + 1))) [] (eI (QQ.take k)) (by rfl) (by exact own_none (heap_alloc2_new V _ _) (Nat.le_succ _)) (by rfl) (GA.out _ (by exact bl3 (bl3 (bal _ _) (bal _ _)) (drew_below _ 1))) LE1.out (by exact (bl3 (bl3 (bal V _) (bal _ _)) (drew_below _ 1)).size) ?_
         intro v8 w8 o8 b8 k8
         rw [List.nil_append] at o8
         have B8 : Hid (Below V.heap.size V w8) := (bl3 (bl3 (bal V _) (bal _ _)) (drew_below _ 1)).trans b8
         have X8 : Hid (w8.heap[V.heap.size]? = some (.cells #[.int .i64 0, .slice none 0 0] 24)) := (k8 _ (by show _ < ((V.alloc _).alloc _).heap.size; rw [asz, asz]; omega) (fun e => absurd (Option.some.inj e) (Nat.succ_ne_self V.heap.size).symm)).trans (boxkeep (bl3 (bal _ _) (drew_below _ 1)) (heap_alloc_new V _))
         obtain ⟨p8, c8, rfl, _⟩ := o8.form
         have OA := hid o8
         clear o8 b8 k8)
      | fail)
    all_goals first
      | exact hH.out _ _ _ _ _ _ _ _ _ _ _ _ _ _ _ _ _ _ _ (bset2 B9.out (Nat.le_refl _) _ _) (set2_box X9.out _ _) (gset2 O9.out X9.out _ _)
      | exact hH.out _ _ _ _ _ _ _ _ _ _ _ _ _ _ _ _ _ _ _ (bset2 B9.out (Nat.le_succ _) _ _) (set2_box X9.out _ _) (gset2 O9.out X9.out _ _)
      | exact hH.out _ _ _ _ _ _ _ _ _ _ _ _ _ _ _ _ _ _ _ (bset2 B9.out B8.out.size _ _) (set2_box X9.out _ _) (gset2 O9.out X9.out _ _)
      | exact hH.out _ _ _ _ _ _ _ _ _ _ _ _ _ _ _ _ _ _ _ (bl3 B9.out (bal _ _)) (heap_alloc_new _ _) ((O9.out.below (bal _ _)).gs KE_ok.len)
end Go.Proofs.Ythhjknpfaghfbaa
namespace Go.Proofs.Ythhjknpfaghfbaa
open Go.RowKit

theorem th_idx (n : Int) (m : Nat) (hm : 0 < m) : ∃ k : Nat, (IntKind.u64.wrap n).tmod (m : Int) = (k : Int) ∧ k < m := by
  have h0 : 0 ≤ IntKind.u64.wrap n := by simp [IntKind.wrap, IntKind.signed, IntKind.bits]; omega
  refine ⟨((IntKind.u64.wrap n).tmod (m : Int)).toNat, ?_, ?_⟩
  · have : 0 ≤ (IntKind.u64.wrap n).tmod (m : Int) := Int.tmod_nonneg _ h0
    omega
  · have : (IntKind.u64.wrap n).tmod (m : Int) < (m : Int) := Int.tmod_lt_of_pos _ (by omega)
    omega
theorem th_re (w : World) (N : Nat) (E : List (Nat × Nat)) (hg : GOK N E) (p : Option Addr) (c : Nat) (hv : GS KE w (.slice p E.length c) (eI E)) (x : Nat) (hx : x < N) : Calls Try.prog 29 #[.agg #[.int .i64 N, .slice p E.length c], .slice (some ⟨w.heap.size, 0, none⟩) 1 1] (w.alloc (.cells #[.int .i64 x] 3)) fun e w' => ∃ q c, e = .returned (.tuple #[.slice q (reL N E [x]).length c, .int .i64 0]) ∧ GS KI w' (.slice q (reL N E [x]).length c) (nI (reL N E [x])) ∧ Below w.heap.size w w' := by
  have LX : GS KI (w.alloc (.cells #[.int .i64 x] 3)) (.slice (some ⟨w.heap.size, 0, none⟩) 1 1) [(x : Int)] := OwnG.gs KI_ok.len (OwnG.lit KI w [(x : Int)] _ rfl rfl (by show 1 ≤ maxLen; unfold maxLen; omega))
  have RE := reach_any (w.alloc (.cells #[.int .i64 x] 3)) N _ (eI E) (hv.below (bal _ _)) _ [(x : Int)] LX (by simp)
  rw [(re_one hg hx).1, (re_one hg hx).2] at RE
  refine RE.mono ?_
  rintro e w' ⟨q, c', rfl, g, b⟩
  rw [nI_len] at g ⊢
  exact ⟨q, c', rfl, g, bl2 b⟩
theorem gs_cap {α : Type} {K : RK α} {w : World} {p : Option Addr} {n c : Nat} {l : List α} (h : GS K w (.slice p n c) l) (hl : 0 < l.length) : ∃ Z oz, p = some ⟨Z, oz, none⟩ ∧ n ≤ c := by
  rcases h with ⟨_, rfl⟩ | ⟨X, ox, cap, e, _, hc, _⟩
  · simp at hl
  · injection e with e1 e2 e3
    exact ⟨X, ox, e1, by omega⟩
set_option maxRecDepth 100000 in
set_option maxHeartbeats 64000000 in
theorem thins_w (w : World) (N : Nat) (E : List (Nat × Nat)) (hg : GOK N E) (p : Option Addr) (c : Nat) (hv : GS KE w (.slice p E.length c) (eI E)) (hf : fitB N (eI E) = true) (hr : rnL N E = []) (pu : Option Addr) (cu : Nat) (ws : List Int) (hu : GS KI w (.slice pu ws.length cu) ws) (hw : wtB N ws = false) (at0 : Int) : Calls Try.prog 7 #[.agg #[.int .i64 N, .slice p E.length c], .slice pu ws.length cu, .int .i64 at0] w fun e w' => e = .returned (.bool true) ∧ Below w.heap.size w w' := by
  have N24 : N ≤ 24 := by
    obtain ⟨N', _, e1, _, _, h24, _⟩ := fitB_ok hf
    omega
  generalize hW : w.alloc (.cells #[.int .i64 N, .slice p E.length c] 24) = W
  obtain ⟨bw, c0⟩ := graph_box w N p E.length c hW
  have BW := hid bw
  have C0 := hid c0
  obtain ⟨d0, d1⟩ := c0 W (Below.refl _ _)
  have WK := hid (works_any W)
  have GV := hid (fun W' (hb : Below W.heap.size W W') => (hv.below bw).below hb)
  have FI := hid (fun W' (hb : Below W.heap.size W W') => fits_any W' N _ (eI E) (GV.out W' hb))
  have LO := hid (fun W' (hb : Below W.heap.size W W') => Longest_any W' N _ (eI E) (GV.out W' hb) _ ws ((hu.below bw).below hb))
  have LN := hid (fun W' (hb : Below W.heap.size W W') => Lean_any W' N _ (eI E) (GV.out W' hb))
  rw [hf] at FI
  rw [(ln_yes hg hr).1, (ln_yes hg hr).2, (orE_yes hg hr).1] at LN
  unfold AnsG at LN
  unfold AnsW at LO
  have EB : E.length ≤ 16384 := hg.e
  have GQ := lnQ_ok hg
  have QB : (lnQ N E).length ≤ 16384 := GQ.e
  have QM := hid (fun k (hk : k < (lnQ N E).length) => And.intro ((ln_ed hg).1 (show ed (lnQ N E) (lnQ N E)[k].1 (lnQ N E)[k].2 from List.getElem_mem hk)).1 (GQ.lt _ (List.getElem_mem hk)))
  have RE := hid (fun W' (hb : Below W.heap.size W W') x (hx : x < N) => th_re W' N E hg p c (GV.out W' hb) x hx)
  have RQ := hid (fun W' hp hc (h : GS KE W' (.slice hp (lnQ N E).length hc) (eI (lnQ N E))) x (hx : x < N) => th_re W' N (lnQ N E) GQ hp hc h x hx)
  have RL := hid (fun x (hx : x < N) => ln_reach hg hr hx)
  have RB := hid (fun x => Nat.le_trans (reL_len N E [x]) hg.n)
  have ED := hid (fun W' (hb : Below W.heap.size W W') x y => edge_any W' N E EB p c (GV.out W' hb) x y)
  have WY := hid (fun W' lp lc k (hk : k < (lnQ N E).length) (h : GS KE W' (.slice lp (lnD (lnQ N E) k).length lc) (eI (lnD (lnQ N E) k))) => way_any W' N _ (lnD_ok hg hk) lp lc h (lnQ N E)[k].1 (lnQ N E)[k].2 (GQ.lt _ (List.getElem_mem hk)).1 (GQ.lt _ (List.getElem_mem hk)).2)
  have WN := hid (fun k (hk : k < (lnQ N E).length) => lnD_no hg hr hk)
  rw [lg_wt hg.chk hw, (lg_no (n := N) (e := eI E) (ws := ws) (by rw [lg_wt hg.chk hw]; decide)).1, (lg_no (n := N) (e := eI E) (ws := ws) (by rw [lg_wt hg.chk hw]; decide)).2] at LO
  clear hw hu
  generalize ws.length = wl at *
  obtain ⟨el, hel⟩ : ∃ el, el = E.length := ⟨_, rfl⟩
  rw [eI_len] at LN
  generalize lnQ N E = Q at *
  obtain ⟨ql, hql⟩ : ∃ ql, ql = Q.length := ⟨_, rfl⟩
  have MQ : Hid (Q.length = ql) := hql.symm
  rw [← hql] at LN QB RQ
  rw [← hel] at hW d1 C0 GV FI LO LN EB RE ED ⊢
  clear hel hql GQ hf hv bw c0 hr
  go_enter Try.func7, Try.ntmps7
  go_upto_region 6 with (first
    | (go_at_call 20; refine WK.out.mono ?_; rintro e w1 ⟨rfl, hb1⟩; have B1 := hid hb1; obtain ⟨g0, g1⟩ := C0.out _ hb1; clear hb1)
    | (go_at_call 21; refine (FI.out _ B1.out).mono ?_; rintro e w2 ⟨rfl, hb2⟩; have B2 := hid (bl3 B1.out hb2); obtain ⟨g2, g3⟩ := C0.out _ B2.out; clear hb2)
    | (go_at_call 11; refine (LO.out _ B2.out).mono ?_; rintro e w3 ⟨q3, c3, rfl, h3, hb3⟩; have B3 := hid (bl3 B2.out hb3); have G3 := hid h3; obtain ⟨g4, g5⟩ := C0.out _ B3.out; clear hb3 h3))
  clear d0 d1 g0 g1 g2 g3 WK FI LO
  clear G3
  go_upto_region 23 with (go_at_call 15; refine (LN.out _ B3.out).mono ?_; rintro e w4 ⟨hp, hc, rfl, h4, hb4⟩; have B4 := hid (bl3 B3.out hb4); have O4 := hid h4; obtain ⟨y4, y5⟩ := C0.out _ B4.out; clear hb4 h4)
  clear LN
  generalize hV : w4.alloc (.cells #[.int .i64 N, .slice hp ql hc] 24) = V at *
  obtain ⟨bx, hbx⟩ : ∃ bx, bx = w4.heap.size := ⟨_, rfl⟩
  have B4V : Below w4.heap.size w4 V := by rw [← hV]; exact bal _ _
  have BV : Hid (Below W.heap.size W V) := bl3 B4.out B4V
  have XV : Hid (V.heap[bx]? = some (.cells #[.int .i64 N, .slice hp ql hc] 24)) := by show _ = _; rw [← hV, hbx]; exact heap_alloc_new _ _
  have GH : Hid (GS KE V (.slice hp ql hc) (eI Q)) := (O4.out.gs KE_ok.len).below B4V
  obtain ⟨sz, hsz⟩ : ∃ sz, sz = w.heap.size := ⟨_, rfl⟩
  have CB : Hid (∀ W', Below V.heap.size V W' → (W'.cell? ⟨sz, 0, none⟩ = some (.int .i64 N) ∧ W'.cell? ⟨sz, 1, none⟩ = some (.slice p el c)) ∧ W'.cell? ⟨bx, 0, none⟩ = some (.int .i64 N) ∧ W'.cell? ⟨bx, 1, none⟩ = some (.slice hp ql hc)) := fun W' hb => by
    rw [hsz]
    exact ⟨C0.out W' (bl3 BV.out hb), cell_of_row _ _ _ _ _ _ (boxkeep hb XV.out), cell_of_row _ _ _ _ _ _ (boxkeep hb XV.out)⟩
  have BWV : Hid (Below w.heap.size w V) := bl3 BW.out BV.out
  rw [← hbx, ← hsz]
  clear hV hbx hsz B4V O4 B4 y4 y5 BW hW C0
  obtain ⟨⟨y0, y1⟩, y2, y3⟩ := CB.out V (Below.refl _ _)
  go_wp2_with fail
  go_loopw [15] (fun v15 wr => ∃ (i : Nat) (wk : World), v15 = .int .i64 i ∧ wk = wr ∧ i ≤ N ∧ Hid (Below V.heap.size V wk)) (fun v15 _ => N - (intOf v15).toNat)
  case atStart => exact ⟨0, _, rfl, rfl, Nat.zero_le _, Below.refl _ _⟩
  case round =>
    obtain ⟨i, wi, rfl, rfl, hi, HI⟩ := hrel
    clear y0 y1 y2 y3
    obtain ⟨⟨y0, y1⟩, y2, y3⟩ := CB.out wi HI.out
    by_cases hlt : i < N
    · have hii : (i : Int) < (N : Nat) := by omega
      have R1 := hid (RE.out _ (bl3 BV.out HI.out) i hlt)
      have R2 := hid (fun W' (hb : Below V.heap.size V W') => RQ.out W' hp hc (GH.out.below hb) i hlt)
      rw [RL.out i hlt] at R2
      have SI := hid (fun W' v u (h1 : GS KI W' v (nI (reL N E [i]))) (h2 : GS KI W' u (nI (reL N E [i]))) => sameI_yes W' v u _ h1 h2 (by rw [nI_len]; have := RB.out i; omega))
      generalize reL N E [i] = L at *
      go_wp2_with (first
        | (go_at_call 29; refine R1.out.mono ?_; rintro e w6 ⟨q6, c6, rfl, h6, b6⟩; have B6 := hid (bl3 HI.out b6); have G6 := hid h6; obtain ⟨⟨z0, z1⟩, z2, z3⟩ := CB.out _ B6.out; clear b6 h6 R1)
        | (go_at_call 29; refine (R2.out _ B6.out).mono ?_; rintro e w7 ⟨q7, c7, rfl, h7, b7⟩; have B7 := hid (bl3 B6.out b7); have G7 := hid h7; have G8 := hid (G6.out.below b7); clear b7 h7)
        | (go_at_call 13; refine (SI.out _ _ _ G8.out G7.out).mono ?_; rintro e w8 ⟨rfl, b8⟩; have B8 := hid (bl3 B7.out b8); clear b8))
      go_roundw
      case rel => exact ⟨i + 1, _, by go_num, rfl, by omega, B8⟩
      case measure => simp [intOf]; omega
    · obtain rfl : i = N := by omega
      clear hlt hi RE RQ RL RB
      by_cases hq : ql = 0
      · subst hq
        go_wp2_with fail
        go_ret
        exact ⟨rfl, bl3 BWV.out HI.out⟩
      · obtain ⟨k, hk0, hkl⟩ := th_idx at0 ql (by omega)
        have kq : k < Q.length := by have := MQ.out; omega
        have G4 : GS KE wi (.slice hp ql hc) (eI Q) := GH.out.below HI.out
        obtain ⟨Z, oz, rfl, hcap⟩ := gs_cap G4 (by rw [eI_len]; omega)
        obtain ⟨qe, qx, qy⟩ := QM.out k kq
        have XI := boxkeep HI.out XV.out
        have hu1 : IntKind.u64.wrap (ql : Int) = (ql : Int) := by simp [IntKind.wrap, IntKind.signed, IntKind.bits]; omega
        have hu2 : IntKind.i64.wrap (k : Int) = (k : Int) := IntWalk.i64_in _ (by omega)
        have hq0 : ((ql : Int) == 0) = false := by simp; omega
        have hq1 : ¬ (ql : Int) = 0 := by omega
        have hki : (k : Int) < (ql : Nat) := by omega
        have ED2 : Hid (∀ wq, Below V.heap.size V wq → Calls Try.prog 28 #[.agg #[.int .i64 i, .slice p el c], .int .i64 (Q[k].1 : Nat), .int .i64 (Q[k].2 : Nat)] wq fun e w' => e = .returned (.bool true) ∧ Below wq.heap.size wq w') := fun wq hb => by
          have h9 := ED.out wq (bl3 BV.out hb) Q[k].1 Q[k].2
          rw [decide_eq_true qe] at h9
          exact h9
        have WY2 : Hid (∀ wq lp lc, GS KE wq (.slice lp (lnD Q k).length lc) (eI (lnD Q k)) → Calls Try.prog 23 #[.agg #[.int .i64 i, .slice lp (lnD Q k).length lc], .int .i64 (Q[k].1 : Nat), .int .i64 (Q[k].2 : Nat)] wq fun e w' => e = .returned (.bool false) ∧ Below wq.heap.size wq w') := fun wq lp lc h => by
          have h9 := WY.out wq lp lc k kq h
          rw [WN.out k kq] at h9
          exact h9
        have QZ : Hid (∀ wq, Below V.heap.size V wq → wq.cell? ⟨Z, oz + k * 2, none⟩ = some (.int .i64 (Q[k].1 : Nat)) ∧ wq.cell? ⟨Z, oz + k * 2 + 1, none⟩ = some (.int .i64 (Q[k].2 : Nat))) := fun wq hb => by
          obtain ⟨X, o, e1, e2, e3⟩ := GS.atN (GH.out.below hb) kq
          injection e1 with e1
          injection e1 with e4 e5 _
          subst e4 e5
          exact ⟨e2, e3⟩
        generalize Q[k].1 = x at *
        generalize Q[k].2 = y at *
        clear QM ED WY WN qe
        go_wp2_with fail
        refine th37 MQ.out hkl QB hcap XI G4 ?_
        intro W' lb lp lc x166 x167 x168 x169 x170 x171 x172 x173 x174 x175 x176 x177 x178 x179 x180 bl' XL GL
        have BL := hid (bl3 HI.out bl')
        have e3 := fun d os => (CB.out _ (bl3 BL.out (below_regrown W' d os)))
        have e6 := fun d os => (QZ.out _ (bl3 BL.out (below_regrown W' d os)))
        have e8 := fun d os => boxkeep (below_regrown W' d os) XL
        have FIN := hid (fun d os => bl3 BL.out (below_regrown W' d os))
        go_wp2_with fail
        refine th38 (fun d os => (e3 d os).1.1) (fun d os => (e3 d os).1.2) hki (fun d os => (e3 d os).2.2) (fun d os => (e6 d os).1) (fun d os => (e6 d os).2) (fun d os => cell_of_row _ _ _ _ _ _ (e8 d os)) (fun d os => cell_of_row _ _ _ _ _ _ (e8 d os)) (fun d os => Calls.regrown_of (ED2.out _ (bl3 BL.out (below_regrown W' d os)))) (fun d os => Calls.regrown_of (WY2.out _ lp lc (GL.below (below_regrown W' d os)))) ?_
        intro dq osq
        clear e3 e6 e8
        go_wp2_with fail
        go_ret
        exact ⟨rfl, bl3 BWV.out (FIN.out _ _)⟩
set_option maxRecDepth 100000 in
set_option maxHeartbeats 64000000 in
theorem thins_r (w : World) (N : Nat) (E : List (Nat × Nat)) (hg : GOK N E) (p : Option Addr) (c : Nat) (hv : GS KE w (.slice p E.length c) (eI E)) (hf : fitB N (eI E) = true) (hr : rnL N E = []) (pu : Option Addr) (cu : Nat) (ws : List Int) (hu : GS KI w (.slice pu ws.length cu) ws) (hw : wtB N ws = true) (at0 : Int) : Calls Try.prog 7 #[.agg #[.int .i64 N, .slice p E.length c], .slice pu ws.length cu, .int .i64 at0] w fun e w' => e = .returned (.bool true) ∧ Below w.heap.size w w' := by
  have N24 : N ≤ 24 := by
    obtain ⟨N', _, e1, _, _, h24, _⟩ := fitB_ok hf
    omega
  generalize hW : w.alloc (.cells #[.int .i64 N, .slice p E.length c] 24) = W
  obtain ⟨bw, c0⟩ := graph_box w N p E.length c hW
  have BW := hid bw
  have C0 := hid c0
  obtain ⟨d0, d1⟩ := c0 W (Below.refl _ _)
  have WK := hid (works_any W)
  have GV := hid (fun W' (hb : Below W.heap.size W W') => (hv.below bw).below hb)
  have FI := hid (fun W' (hb : Below W.heap.size W W') => fits_any W' N _ (eI E) (GV.out W' hb))
  have LO := hid (fun W' (hb : Below W.heap.size W W') => Longest_any W' N _ (eI E) (GV.out W' hb) _ ws ((hu.below bw).below hb))
  have LN := hid (fun W' (hb : Below W.heap.size W W') => Lean_any W' N _ (eI E) (GV.out W' hb))
  rw [hf] at FI
  rw [(ln_yes hg hr).1, (ln_yes hg hr).2, (orE_yes hg hr).1] at LN
  unfold AnsG at LN
  unfold AnsW at LO
  have EB : E.length ≤ 16384 := hg.e
  have GQ := lnQ_ok hg
  have QB : (lnQ N E).length ≤ 16384 := GQ.e
  have QM := hid (fun k (hk : k < (lnQ N E).length) => And.intro ((ln_ed hg).1 (show ed (lnQ N E) (lnQ N E)[k].1 (lnQ N E)[k].2 from List.getElem_mem hk)).1 (GQ.lt _ (List.getElem_mem hk)))
  have RE := hid (fun W' (hb : Below W.heap.size W W') x (hx : x < N) => th_re W' N E hg p c (GV.out W' hb) x hx)
  have RQ := hid (fun W' hp hc (h : GS KE W' (.slice hp (lnQ N E).length hc) (eI (lnQ N E))) x (hx : x < N) => th_re W' N (lnQ N E) GQ hp hc h x hx)
  have RL := hid (fun x (hx : x < N) => ln_reach hg hr hx)
  have RB := hid (fun x => Nat.le_trans (reL_len N E [x]) hg.n)
  have ED := hid (fun W' (hb : Below W.heap.size W W') x y => edge_any W' N E EB p c (GV.out W' hb) x y)
  have WY := hid (fun W' lp lc k (hk : k < (lnQ N E).length) (h : GS KE W' (.slice lp (lnD (lnQ N E) k).length lc) (eI (lnD (lnQ N E) k))) => way_any W' N _ (lnD_ok hg hk) lp lc h (lnQ N E)[k].1 (lnQ N E)[k].2 (GQ.lt _ (List.getElem_mem hk)).1 (GQ.lt _ (List.getElem_mem hk)).2)
  have WN := hid (fun k (hk : k < (lnQ N E).length) => lnD_no hg hr hk)
  have hl2 : ws.length = N := (wtB_W hw).1
  have hWO := (wtB_W hw).2
  have LI := lo_is hg hr hWO
  rw [(lg_yes hg hw hr).1, (lg_yes hg hw hr).2.1, (lg_yes hg hw hr).2.2, nI_len] at LO
  have LL : (loW N E (wtF ws)).length ≤ N := loW_len
  have GU := hid (fun wq (hb : Below W.heap.size W wq) k (hk : k < N) => (by
    have h9 := (hu.below BW.out).below hb
    rw [hl2, ← wt_map hl2] at h9
    exact far_at h9 hk : ∃ X o, pu = some ⟨X, o, none⟩ ∧ wq.cell? ⟨X, o + k, none⟩ = some (.int .i64 (wtF ws k))))
  rw [hl2] at LO ⊢
  have RR : Hid (∀ k, k < N → wsum (wtF ws) ((List.range N).take (k + 1)) = wsum (wtF ws) ((List.range N).take k) + wtF ws k) := fun k hk => by
    have := wsum_take (W := wtF ws) (L := List.range N) (k := k) (by simpa using hk)
    simpa using this
  have WOR : ∀ L : List Nat, (∀ x ∈ L, x < N) → L.length ≤ N → 0 ≤ wsum (wtF ws) L ∧ wsum (wtF ws) L ≤ 24 * 1099511627776 := fun L h1 h2 => by
    refine ⟨wsum_nn fun x hx => (hWO x (h1 x hx)).1, ?_⟩
    have := wsum_le (W := wtF ws) (L := L) (M := 1099511627776) fun x hx => (hWO x (h1 x hx)).2
    omega
  have RW1 := hid (fun k => WOR ((List.range N).take k) (fun x hx => by simpa using List.mem_of_mem_take hx) (by rw [List.length_take, List.length_range]; omega))
  have WT := hid hWO
  have WG := hid LI.ge
  have WLT := hid (fun k (hk : k < (loW N E (wtF ws)).length) => LI.lt _ (List.getElem_mem hk))
  have WCH := hid LI.ch
  have OW := hid (fun k (hk : k < (loW N E (wtF ws)).length) => wsum_take (W := wtF ws) hk)
  have OW1 := hid (fun k => WOR ((loW N E (wtF ws)).take k) (fun x hx => LI.lt x (List.mem_of_mem_take hx)) (by rw [List.length_take]; omega))
  have SUM : Hid (loS N E (wtF ws) = wsum (wtF ws) (loW N E (wtF ws))) := LI.sum
  have SLE : Hid (wsum (wtF ws) (loW N E (wtF ws)) ≤ wsum (wtF ws) (List.range N)) := wsum_sub LI.nd (fun x hx => by simpa using LI.lt x hx) (fun x hx => (hWO x (by simpa using hx)).1)
  clear hw hu hl2 hWO LI WOR
  generalize loS N E (wtF ws) = S at *
  generalize loW N E (wtF ws) = LW at *
  generalize wtF ws = Wt at *
  obtain ⟨lw, hlw⟩ : ∃ lw, lw = LW.length := ⟨_, rfl⟩
  have ML : Hid (LW.length = lw) := hlw.symm
  rw [← hlw] at LO LL
  clear hlw
  obtain ⟨el, hel⟩ : ∃ el, el = E.length := ⟨_, rfl⟩
  rw [eI_len] at LN
  generalize lnQ N E = Q at *
  obtain ⟨ql, hql⟩ : ∃ ql, ql = Q.length := ⟨_, rfl⟩
  have MQ : Hid (Q.length = ql) := hql.symm
  rw [← hql] at LN QB RQ
  rw [← hel] at hW d1 C0 GV FI LO LN EB RE ED ⊢
  clear hel hql GQ hf hv bw c0 hr
  go_enter Try.func7, Try.ntmps7
  go_upto_region 6 with (first
    | (go_at_call 20; refine WK.out.mono ?_; rintro e w1 ⟨rfl, hb1⟩; have B1 := hid hb1; obtain ⟨g0, g1⟩ := C0.out _ hb1; clear hb1)
    | (go_at_call 21; refine (FI.out _ B1.out).mono ?_; rintro e w2 ⟨rfl, hb2⟩; have B2 := hid (bl3 B1.out hb2); obtain ⟨g2, g3⟩ := C0.out _ B2.out; clear hb2)
    | (go_at_call 11; refine (LO.out _ B2.out).mono ?_; rintro e w3 ⟨q3, c3, rfl, h3, hb3⟩; have B3 := hid (bl3 B2.out hb3); have G3 := hid h3; obtain ⟨g4, g5⟩ := C0.out _ B3.out; clear hb3 h3))
  clear d0 d1 g0 g1 g2 g3 WK FI LO
  go_wp2_with fail
  go_loopw [10, 12] (fun v10 v12 wr => ∃ (i : Nat) (s : Int), v10 = .int .i64 s ∧ v12 = .int .i64 i ∧ w3 = wr ∧ i ≤ N ∧ Hid (s = wsum Wt ((List.range N).take i))) (fun _ v12 _ => N - (intOf v12).toNat)
  case atStart => exact ⟨0, 0, rfl, rfl, by first | rfl | trivial, Nat.zero_le _, rfl⟩
  case round =>
    obtain ⟨i, s, rfl, rfl, rfl, hi, HS⟩ := hrel
    by_cases hlt : i < N
    · have hii : (i : Int) < (N : Nat) := by omega
      obtain ⟨X, o, e1, e2⟩ := GU.out w3 B3.out i hlt
      subst e1
      have N2 := hid (RR.out i hlt)
      rw [← HS.out] at N2
      have bd := RW1.out i
      rw [← HS.out] at bd
      obtain ⟨b1, b2⟩ := bd
      obtain ⟨b3, b4⟩ := WT.out i hlt
      have b5 := WG.out i hlt
      have N3 : Hid (s + Wt i = wsum Wt ((List.range N).take (i + 1))) := N2.out.symm
      generalize Wt i = a at *
      have hwr : IntKind.i64.wrap (s + a) = s + a := IntWalk.i64_in _ (by omega)
      have b6 : ¬ S < a := by omega
      clear N2 HS
      go_wp2_with fail
      go_roundw
      case rel => exact ⟨i + 1, _, rfl, by go_num, by first | rfl | trivial, by omega, N3⟩
      case measure => simp [intOf]; omega
    · obtain rfl : N = i := by omega
      have HS2 : Hid (s = wsum Wt (List.range N)) := by
        have := HS.out
        rw [List.take_of_length_le (by simp)] at this
        exact this
      clear HS hlt hi RR RW1 WG
      have GL := hid (fun wq (hb : Below w3.heap.size w3 wq) k (hk : k < LW.length) => (by
        obtain ⟨X, o, e1, e2⟩ := GS.atI (G3.out.below hb) (k := k) (by rw [nI_len]; exact hk)
        rw [nI_at hk] at e2
        exact ⟨X, o, e1, e2⟩ : ∃ Y oy, q3 = some ⟨Y, oy, none⟩ ∧ wq.cell? ⟨Y, oy + k, none⟩ = some (.int .i64 (LW[k] : Nat))))
      go_wp2_with fail
      go_loopw [11, 13] (fun v11 v13 wr => ∃ (j : Nat) (o t : Int) (wk : World), v11 = .int .i64 o ∧ v13 = .int .i64 t ∧ wk = wr ∧ t = j ∧ j ≤ lw ∧ Hid (o = wsum Wt (LW.take j)) ∧ Hid (Below w3.heap.size w3 wk)) (fun _ v13 _ => lw - (intOf v13).toNat)
      case atStart => exact ⟨0, 0, 0, _, rfl, rfl, rfl, rfl, Nat.zero_le _, rfl, Below.refl _ _⟩
      case round =>
        obtain ⟨j, o, t, wj, rfl, rfl, rfl, rfl, hj, HO, HJ⟩ := hrel
        have BJ := hid (bl3 B3.out HJ.out)
        clear g4 g5
        obtain ⟨g4, g5⟩ := C0.out wj BJ.out
        by_cases hlt : j < lw
        · have j1 : j < LW.length := by have := ML.out; omega
          obtain ⟨Y, oy, ey, cy⟩ := GL.out wj HJ.out j j1
          subst ey
          have v1 := WLT.out j j1
          have NX : Hid (∀ d os, Below w3.heap.size w3 (Sort.grow (redrawn wj d) os)) := fun d os => bl3 HJ.out (below_regrown wj d os)
          have e1 := cell_regrown cy
          have e3 := cell_regrown g4
          have e4 := cell_regrown g5
          have N3 : Hid (o + Wt LW[j] = wsum Wt (LW.take (j + 1))) := by
            have := OW.out j j1
            rw [← HO.out] at this
            exact this.symm
          have bd := OW1.out j
          rw [← HO.out] at bd
          obtain ⟨b1, b2⟩ := bd
          obtain ⟨b3, b4⟩ := WT.out _ v1
          have GW := hid (fun d os => GU.out _ (bl3 B3.out (NX.out d os)) _ v1)
          have hwr : IntKind.i64.wrap (o + Wt LW[j]) = o + Wt LW[j] := IntWalk.i64_in _ (by omega)
          have h1 : ¬ ((LW[j] : Nat) : Int) < 0 := by omega
          have h2 : ¬ (N : Int) ≤ (LW[j] : Nat) := by omega
          have h3 : ((LW[j] : Nat) : Int) < (N : Nat) := by omega
          have hjl : (j : Int) < (lw : Nat) := by omega
          clear HO
          cases j with
          | zero =>
            generalize LW[0] = n at *
            generalize Wt n = a at *
            simp only [Nat.add_zero] at e1
            go_wp2_with fail
            refine th17a (by omega) (by omega) (by omega) e1 e3 ?_
            intro dq osq
            obtain ⟨X, ou, f1, f2⟩ := GW.out dq osq
            subst f1
            go_wp2_with fail
            go_roundw
            case rel => exact ⟨1, _, _, _, rfl, by go_num, rfl, rfl, by omega, N3, NX.out _ _⟩
            case measure => simp [intOf]; omega
          | succ j =>
            have j2 : j < LW.length := by omega
            obtain ⟨Y', oy', ey, cy'⟩ := GL.out wj HJ.out j j2
            injection ey with ey
            injection ey with ey1 ey2 _
            subst ey1 ey2
            have e2 := cell_regrown cy'
            have W1 : Hid (∀ d os, Calls Try.prog 28 #[.agg #[.int .i64 N, .slice p el c], .int .i64 (LW[j] : Nat), .int .i64 (LW[j + 1] : Nat)] (Sort.grow (redrawn wj d) os) fun e w'' => e = .returned (.bool true) ∧ ∃ p : Regrown, w'' = Sort.grow (redrawn wj p.d) p.os) := fun d os => by
              have h9 := ED.out _ (bl3 BJ.out (below_regrown wj d os)) LW[j] LW[j + 1]
              rw [decide_eq_true (WCH.out j j1)] at h9
              exact Calls.regrown_of h9
            generalize LW[j] = n0 at *
            generalize LW[j + 1] = n at *
            generalize Wt n = a at *
            have hjj : ((j + 1 : Nat) : Int) = (j : Int) + 1 := by omega
            rw [hjj]
            go_wp2_with fail
            refine th17b (by omega) (by omega) (by omega) (by omega) (by omega) (by omega) (by omega) e1 e3 e4 e2 W1.out ?_
            intro dq osq
            obtain ⟨X, ou, f1, f2⟩ := GW.out dq osq
            subst f1
            go_wp2_with fail
            go_roundw
            case rel => exact ⟨j + 1 + 1, _, _, _, rfl, by go_num, rfl, rfl, by omega, N3, NX.out _ _⟩
            case measure => simp [intOf]; omega
        · obtain rfl : j = lw := by omega
          have eo : o = S := by
            rw [HO.out, SUM.out, List.take_of_length_le (by have := ML.out; omega)]
          subst eo
          have hle : ¬ s < o := by
            have := SLE.out
            rw [← SUM.out, ← HS2.out] at this
            omega
          clear HO HS2 SUM SLE hlt hj GL OW OW1 WT WLT WCH GU
          go_upto_region 23 with (go_at_call 15; refine (LN.out _ BJ.out).mono ?_; rintro e w4 ⟨hp, hc, rfl, h4, hb4⟩; have B4 := hid (bl3 BJ.out hb4); have O4 := hid h4; obtain ⟨y4, y5⟩ := C0.out _ B4.out; clear hb4 h4)
          clear LN
          generalize hV : w4.alloc (.cells #[.int .i64 N, .slice hp ql hc] 24) = V at *
          obtain ⟨bx, hbx⟩ : ∃ bx, bx = w4.heap.size := ⟨_, rfl⟩
          have B4V : Below w4.heap.size w4 V := by rw [← hV]; exact bal _ _
          have BV : Hid (Below W.heap.size W V) := bl3 B4.out B4V
          have XV : Hid (V.heap[bx]? = some (.cells #[.int .i64 N, .slice hp ql hc] 24)) := by show _ = _; rw [← hV, hbx]; exact heap_alloc_new _ _
          have GH : Hid (GS KE V (.slice hp ql hc) (eI Q)) := (O4.out.gs KE_ok.len).below B4V
          obtain ⟨sz, hsz⟩ : ∃ sz, sz = w.heap.size := ⟨_, rfl⟩
          have CB : Hid (∀ W', Below V.heap.size V W' → (W'.cell? ⟨sz, 0, none⟩ = some (.int .i64 N) ∧ W'.cell? ⟨sz, 1, none⟩ = some (.slice p el c)) ∧ W'.cell? ⟨bx, 0, none⟩ = some (.int .i64 N) ∧ W'.cell? ⟨bx, 1, none⟩ = some (.slice hp ql hc)) := fun W' hb => by
            rw [hsz]
            exact ⟨C0.out W' (bl3 BV.out hb), cell_of_row _ _ _ _ _ _ (boxkeep hb XV.out), cell_of_row _ _ _ _ _ _ (boxkeep hb XV.out)⟩
          have BWV : Hid (Below w.heap.size w V) := bl3 BW.out BV.out
          rw [← hbx, ← hsz]
          clear hV hbx hsz B4V O4 B4 y4 y5 BW hW C0
          obtain ⟨⟨y0, y1⟩, y2, y3⟩ := CB.out V (Below.refl _ _)
          go_wp2_with fail
          go_loopw [15] (fun v15 wr => ∃ (i : Nat) (wk : World), v15 = .int .i64 i ∧ wk = wr ∧ i ≤ N ∧ Hid (Below V.heap.size V wk)) (fun v15 _ => N - (intOf v15).toNat)
          case atStart => exact ⟨0, _, rfl, rfl, Nat.zero_le _, Below.refl _ _⟩
          case round =>
            obtain ⟨i, wi, rfl, rfl, hi, HI⟩ := hrel
            clear y0 y1 y2 y3
            obtain ⟨⟨y0, y1⟩, y2, y3⟩ := CB.out wi HI.out
            by_cases hlt : i < N
            · have hii : (i : Int) < (N : Nat) := by omega
              have R1 := hid (RE.out _ (bl3 BV.out HI.out) i hlt)
              have R2 := hid (fun W' (hb : Below V.heap.size V W') => RQ.out W' hp hc (GH.out.below hb) i hlt)
              rw [RL.out i hlt] at R2
              have SI := hid (fun W' v u (h1 : GS KI W' v (nI (reL N E [i]))) (h2 : GS KI W' u (nI (reL N E [i]))) => sameI_yes W' v u _ h1 h2 (by rw [nI_len]; have := RB.out i; omega))
              generalize reL N E [i] = L at *
              go_wp2_with (first
                | (go_at_call 29; refine R1.out.mono ?_; rintro e w6 ⟨q6, c6, rfl, h6, b6⟩; have B6 := hid (bl3 HI.out b6); have G6 := hid h6; obtain ⟨⟨z0, z1⟩, z2, z3⟩ := CB.out _ B6.out; clear b6 h6 R1)
                | (go_at_call 29; refine (R2.out _ B6.out).mono ?_; rintro e w7 ⟨q7, c7, rfl, h7, b7⟩; have B7 := hid (bl3 B6.out b7); have G7 := hid h7; have G8 := hid (G6.out.below b7); clear b7 h7)
                | (go_at_call 13; refine (SI.out _ _ _ G8.out G7.out).mono ?_; rintro e w8 ⟨rfl, b8⟩; have B8 := hid (bl3 B7.out b8); clear b8))
              go_roundw
              case rel => exact ⟨i + 1, _, by go_num, rfl, by omega, B8⟩
              case measure => simp [intOf]; omega
            · obtain rfl : i = N := by omega
              clear hlt hi RE RQ RL RB
              by_cases hq : ql = 0
              · subst hq
                go_wp2_with fail
                go_ret
                exact ⟨rfl, bl3 BWV.out HI.out⟩
              · obtain ⟨k, hk0, hkl⟩ := th_idx at0 ql (by omega)
                have kq : k < Q.length := by have := MQ.out; omega
                have G4 : GS KE wi (.slice hp ql hc) (eI Q) := GH.out.below HI.out
                obtain ⟨Z, oz, rfl, hcap⟩ := gs_cap G4 (by rw [eI_len]; omega)
                obtain ⟨qe, qx, qy⟩ := QM.out k kq
                have XI := boxkeep HI.out XV.out
                have hu1 : IntKind.u64.wrap (ql : Int) = (ql : Int) := by simp [IntKind.wrap, IntKind.signed, IntKind.bits]; omega
                have hu2 : IntKind.i64.wrap (k : Int) = (k : Int) := IntWalk.i64_in _ (by omega)
                have hq0 : ((ql : Int) == 0) = false := by simp; omega
                have hq1 : ¬ (ql : Int) = 0 := by omega
                have hki : (k : Int) < (ql : Nat) := by omega
                have ED2 : Hid (∀ wq, Below V.heap.size V wq → Calls Try.prog 28 #[.agg #[.int .i64 i, .slice p el c], .int .i64 (Q[k].1 : Nat), .int .i64 (Q[k].2 : Nat)] wq fun e w' => e = .returned (.bool true) ∧ Below wq.heap.size wq w') := fun wq hb => by
                  have h9 := ED.out wq (bl3 BV.out hb) Q[k].1 Q[k].2
                  rw [decide_eq_true qe] at h9
                  exact h9
                have WY2 : Hid (∀ wq lp lc, GS KE wq (.slice lp (lnD Q k).length lc) (eI (lnD Q k)) → Calls Try.prog 23 #[.agg #[.int .i64 i, .slice lp (lnD Q k).length lc], .int .i64 (Q[k].1 : Nat), .int .i64 (Q[k].2 : Nat)] wq fun e w' => e = .returned (.bool false) ∧ Below wq.heap.size wq w') := fun wq lp lc h => by
                  have h9 := WY.out wq lp lc k kq h
                  rw [WN.out k kq] at h9
                  exact h9
                have QZ : Hid (∀ wq, Below V.heap.size V wq → wq.cell? ⟨Z, oz + k * 2, none⟩ = some (.int .i64 (Q[k].1 : Nat)) ∧ wq.cell? ⟨Z, oz + k * 2 + 1, none⟩ = some (.int .i64 (Q[k].2 : Nat))) := fun wq hb => by
                  obtain ⟨X, o, e1, e2, e3⟩ := GS.atN (GH.out.below hb) kq
                  injection e1 with e1
                  injection e1 with e4 e5 _
                  subst e4 e5
                  exact ⟨e2, e3⟩
                generalize Q[k].1 = x at *
                generalize Q[k].2 = y at *
                clear QM ED WY WN qe
                go_wp2_with fail
                refine th37 MQ.out hkl QB hcap XI G4 ?_
                intro W' lb lp lc x166 x167 x168 x169 x170 x171 x172 x173 x174 x175 x176 x177 x178 x179 x180 bl' XL GL
                have BL := hid (bl3 HI.out bl')
                have e3 := fun d os => (CB.out _ (bl3 BL.out (below_regrown W' d os)))
                have e6 := fun d os => (QZ.out _ (bl3 BL.out (below_regrown W' d os)))
                have e8 := fun d os => boxkeep (below_regrown W' d os) XL
                have FIN := hid (fun d os => bl3 BL.out (below_regrown W' d os))
                go_wp2_with fail
                refine th38 (fun d os => (e3 d os).1.1) (fun d os => (e3 d os).1.2) hki (fun d os => (e3 d os).2.2) (fun d os => (e6 d os).1) (fun d os => (e6 d os).2) (fun d os => cell_of_row _ _ _ _ _ _ (e8 d os)) (fun d os => cell_of_row _ _ _ _ _ _ (e8 d os)) (fun d os => Calls.regrown_of (ED2.out _ (bl3 BL.out (below_regrown W' d os)))) (fun d os => Calls.regrown_of (WY2.out _ lp lc (GL.below (below_regrown W' d os)))) ?_
                intro dq osq
                clear e3 e6 e8
                go_wp2_with fail
                go_ret
                exact ⟨rfl, bl3 BWV.out (FIN.out _ _)⟩
set_option maxRecDepth 100000 in
set_option maxHeartbeats 64000000 in
theorem thins_o (w : World) (N : Nat) (E : List (Nat × Nat)) (hg : GOK N E) (p : Option Addr) (c : Nat) (hv : GS KE w (.slice p E.length c) (eI E)) (hf : fitB N (eI E) = true) (hr : rnL N E ≠ []) (pu : Option Addr) (cu : Nat) (ws : List Int) (hu : GS KI w (.slice pu ws.length cu) ws) (at0 : Int) : Calls Try.prog 7 #[.agg #[.int .i64 N, .slice p E.length c], .slice pu ws.length cu, .int .i64 at0] w fun e w' => e = .returned (.bool true) ∧ Below w.heap.size w w' := by
  have hL : ∃ r, lgE N (eI E) ws = r ∧ (r = 1 ∨ r = 150) := by
    cases hw : wtB N ws with
    | false => exact ⟨1, lg_wt hg.chk hw, Or.inl rfl⟩
    | true => exact ⟨150, lg_not hg hw hr, Or.inr rfl⟩
  obtain ⟨r, hL, hr2⟩ := hL
  have hne : lgE N (eI E) ws ≠ 0 := by rw [hL]; omega
  generalize hW : w.alloc (.cells #[.int .i64 N, .slice p E.length c] 24) = W
  obtain ⟨bw, c0⟩ := graph_box w N p E.length c hW
  have BW := hid bw
  have C0 := hid c0
  obtain ⟨d0, d1⟩ := c0 W (Below.refl _ _)
  have WK := hid (works_any W)
  have GV := hid (fun W' (hb : Below W.heap.size W W') => (hv.below bw).below hb)
  have FI := hid (fun W' (hb : Below W.heap.size W W') => fits_any W' N _ (eI E) (GV.out W' hb))
  have LO := hid (fun W' (hb : Below W.heap.size W W') => Longest_any W' N _ (eI E) (GV.out W' hb) _ ws ((hu.below bw).below hb))
  have LN := hid (fun W' (hb : Below W.heap.size W W') => Lean_any W' N _ (eI E) (GV.out W' hb))
  rw [hf] at FI
  have ho : orE N (eI E) ≠ 0 := by rw [(orE_not hg hr).1]; decide
  rw [(ln_no ho).1, (ln_no ho).2, (orE_not hg hr).1] at LN
  rw [(lg_no hne).1, (lg_no hne).2, hL] at LO
  unfold AnsG at LN
  unfold AnsW at LO
  generalize ws.length = wl at *
  obtain ⟨el, hel⟩ : ∃ el, el = E.length := ⟨_, rfl⟩
  rw [← hel] at hW d1 C0 GV FI LO LN ⊢
  have hr3 : ¬ r = 0 := by omega
  have hr4 : (r == 0) = false := by simp; omega
  clear hel hf hv bw c0 hr hu hL hr2 hne ho hg
  go_enter Try.func7, Try.ntmps7
  go_wp2_with (first
    | (go_at_call 20; refine WK.out.mono ?_; rintro e w1 ⟨rfl, hb1⟩; have B1 := hid hb1; obtain ⟨g0, g1⟩ := C0.out _ hb1; clear hb1)
    | (go_at_call 21; refine (FI.out _ B1.out).mono ?_; rintro e w2 ⟨rfl, hb2⟩; have B2 := hid (bl3 B1.out hb2); obtain ⟨g2, g3⟩ := C0.out _ B2.out; clear hb2)
    | (go_at_call 11; refine (LO.out _ B2.out).mono ?_; rintro e w3 ⟨q3, c3, rfl, h3, hb3⟩; have B3 := hid (bl3 B2.out hb3); obtain ⟨g4, g5⟩ := C0.out _ B3.out; clear hb3 h3)
    | (go_at_call 15; refine (LN.out _ B3.out).mono ?_; rintro e w4 ⟨hp, hc, rfl, h4, hb4⟩; have B4 := hid (bl3 B3.out hb4); clear hb4 h4))
  go_ret
  exact ⟨rfl, bl3 BW.out (bl3 B4.out (bal _ _))⟩
set_option maxRecDepth 100000 in
set_option maxHeartbeats 16000000 in
theorem graphThins_any (w : World) (n : Int) (v : Value) (l : List (Int × Int)) (hv : GS KE w v l) (u : Value) (ws : List Int) (hu : GS KI w u ws) (at0 : Int) : Calls Try.prog 7 #[.agg #[.int .i64 n, v], u, .int .i64 at0] w fun e w' => e = .returned (.bool true) ∧ Below w.heap.size w w' := by
  obtain ⟨p, c, rfl⟩ := hv.form
  obtain ⟨pu, cu, rfl⟩ := hu.form
  by_cases hm : fitB n l = true
  · obtain ⟨N, E, rfl, rfl, hg, _, _⟩ := fitB_ok hm
    rw [eI_len] at hv ⊢
    by_cases hr : rnL N E = []
    · cases hw : wtB N ws with
      | false => exact thins_w w N E hg p c hv hm hr pu cu ws hu hw at0
      | true => exact thins_r w N E hg p c hv hm hr pu cu ws hu hw at0
    · exact thins_o w N E hg p c hv hm hr pu cu ws hu at0
  have hf : fitB n l = false := by simpa using hm
  generalize hW : w.alloc (.cells #[.int .i64 n, .slice p l.length c] 24) = W
  obtain ⟨bw, c0⟩ := graph_box w n p l.length c hW
  have BW := hid bw
  have C0 := hid c0
  obtain ⟨d0, d1⟩ := c0 W (Below.refl _ _)
  have WK := hid (works_any W)
  have FI := hid (fun W' (hb : Below W.heap.size W W') => fits_any W' n _ l ((hv.below bw).below hb))
  rw [hf] at FI
  generalize l.length = m at *
  generalize ws.length = wl at *
  clear hv hm hf bw c0 hu
  go_enter Try.func7, Try.ntmps7
  go_wp2_with (first
    | (go_at_call 20; refine WK.out.mono ?_; rintro e w1 ⟨rfl, hb1⟩; have B1 := hid hb1; obtain ⟨g0, g1⟩ := C0.out _ hb1; clear hb1)
    | (go_at_call 21; refine (FI.out _ B1.out).mono ?_; rintro e w2 ⟨rfl, hb2⟩; have B2 := hid (bl3 B1.out hb2); clear hb2))
  go_ret
  exact ⟨rfl, bl3 BW.out B2.out⟩
end Go.Proofs.Ythhjknpfaghfbaa
