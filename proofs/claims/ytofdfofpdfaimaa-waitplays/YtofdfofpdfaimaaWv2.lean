/- Waiting: the law WaitPlays. -/
import Derived.Test.YtofdfofpdfaimaaWu3
import Derived.Deep.RegionHeld3
import Derived.Test.YtofdfofpdfaimaaWu6
namespace Go.Proofs.Ytofdfofpdfaimaa
open Go.RowKit Go.Maps

set_option maxRecDepth 100000 in
set_option maxHeartbeats 32000000 in
theorem pl5 {Q : Exit → Act → World → Prop} {wr : World} {r ab rb zb n2 c2 : Nat} {q2 : Option Addr} {tk kd E : Int} {ky tok : ByteArray} {G : World → Prop} {t1 t2 t3 t4 t7 t10 t11 t12 t13 t14 t15 t16 t17 t18 t19 t20 t21 t22 t23 t24 t25 t26 t27 t28 t29 t30 t31 t32 t33 t34 t35 t36 t37 t38 t39 t40 t41 t42 t43 t44 t45 t46 t47 t48 t49 t50 t51 t52 t53 t54 t55 t56 t57 t58 t59 t60 t61 t62 t63 t64 t65 t66 t67 t68 t69 t70 t71 t72 t73 t74 t75 t76 t77 t78 t79 t80 t81 t82 t83 t84 t85 t86 t87 t88 t89 t90 t91 t92 t93 t94 t95 t96 t97 t98 t99 t100 t101 t102 t103 t104 t105 t106 t107 t108 t109 t110 t111 t112 t113 t114 t115 t116 t117 t118 t119 t120 t121 t122 t123 t124 t125 t126 t127 t128 t129 t130 t131 t132 t133 t134 t135 t136 t137 t138 t139 t140 t141 t142 t143 t144 t145 t146 t147 t148 t149 t150 t151 t152 t153 t154 t155 t156 t157 t158 t159 t160 t161 t162 t163 t164 t165 t166 t167 t168 t169 t170 t171 t172 t173 t174 t175 t176 t177 t178 t179 t180 t181 t182 t183 t184 t185 t186 t187 t188 t189 t190 t191 : Value} (hS0 : (fun w' => w'.cell? ⟨zb, 0, none⟩ = some (.slice q2 n2 c2) ∧ w'.cell? ⟨ab, 1, none⟩ = some (.int .i64 tk) ∧ w'.cell? ⟨ab, 2, none⟩ = some (.int .i64 kd) ∧ w'.cell? ⟨ab, 3, none⟩ = some (.string ky) ∧ w'.cell? ⟨ab, 4, none⟩ = some (.string tok)) wr.drew)
    (hC : Calls Try.prog 11 #[.pointer (some ⟨r, 0, none⟩), .int .i64 tk, .string ky, .string tok, .int .i64 kd] wr.drew fun e w' => e = .returned (.int .i64 E) ∧ G w' ∧ (fun w' => w'.cell? ⟨zb, 0, none⟩ = some (.slice q2 n2 c2) ∧ w'.cell? ⟨ab, 1, none⟩ = some (.int .i64 tk) ∧ w'.cell? ⟨ab, 2, none⟩ = some (.int .i64 kd) ∧ w'.cell? ⟨ab, 3, none⟩ = some (.string ky) ∧ w'.cell? ⟨ab, 4, none⟩ = some (.string tok)) w' ∧ w'.cell? ⟨rb, 0, none⟩ = some (.slice none 0 0) ∧ w'.frozen? ⟨rb, 0, none⟩ = false ∧ (fun w' => w'.cell? ⟨zb, 0, none⟩ = some (.slice q2 n2 c2) ∧ w'.cell? ⟨ab, 1, none⟩ = some (.int .i64 tk) ∧ w'.cell? ⟨ab, 2, none⟩ = some (.int .i64 kd) ∧ w'.cell? ⟨ab, 3, none⟩ = some (.string ky) ∧ w'.cell? ⟨ab, 4, none⟩ = some (.string tok)) (w'.setCell ⟨rb, 0, none⟩ (.slice q2 n2 c2)))
    (h : ∀ (W' : World) (x45 x46 x47 x48 x49 x50 x51 x52 x53 x54 x55 x56 x57 x58 x59 x60 x61 : Value), G W' → Q .normal { tmps := List.toArray ((.pointer (some ⟨r, 0, none⟩)) :: t1 :: t2 :: t3 :: t4 :: (.pointer (some ⟨ab, 0, none⟩)) :: (.pointer (some ⟨rb, 0, none⟩)) :: (.bool true) :: (.pointer (some ⟨zb, 0, none⟩)) :: (.int .i64 E) :: t10 :: t11 :: t12 :: t13 :: t14 :: t15 :: t16 :: t17 :: t18 :: t19 :: t20 :: t21 :: t22 :: t23 :: t24 :: t25 :: t26 :: t27 :: t28 :: t29 :: t30 :: t31 :: t32 :: t33 :: t34 :: t35 :: t36 :: t37 :: t38 :: t39 :: t40 :: t41 :: t42 :: t43 :: t44 :: x45 :: x46 :: x47 :: x48 :: x49 :: x50 :: x51 :: x52 :: x53 :: x54 :: x55 :: x56 :: x57 :: x58 :: x59 :: x60 :: x61 :: t62 :: t63 :: t64 :: t65 :: t66 :: t67 :: t68 :: t69 :: t70 :: t71 :: t72 :: t73 :: t74 :: t75 :: t76 :: t77 :: t78 :: t79 :: t80 :: t81 :: t82 :: t83 :: t84 :: t85 :: t86 :: t87 :: t88 :: t89 :: t90 :: t91 :: t92 :: t93 :: t94 :: t95 :: t96 :: t97 :: t98 :: t99 :: t100 :: t101 :: t102 :: t103 :: t104 :: t105 :: t106 :: t107 :: t108 :: t109 :: t110 :: t111 :: t112 :: t113 :: t114 :: t115 :: t116 :: t117 :: t118 :: t119 :: t120 :: t121 :: t122 :: t123 :: t124 :: t125 :: t126 :: t127 :: t128 :: t129 :: t130 :: t131 :: t132 :: t133 :: t134 :: t135 :: t136 :: t137 :: t138 :: t139 :: t140 :: t141 :: t142 :: t143 :: t144 :: t145 :: t146 :: t147 :: t148 :: t149 :: t150 :: t151 :: t152 :: t153 :: t154 :: t155 :: t156 :: t157 :: t158 :: t159 :: t160 :: t161 :: t162 :: t163 :: t164 :: t165 :: t166 :: t167 :: t168 :: t169 :: t170 :: t171 :: t172 :: t173 :: t174 :: t175 :: t176 :: t177 :: t178 :: t179 :: t180 :: t181 :: t182 :: t183 :: t184 :: t185 :: t186 :: t187 :: t188 :: t189 :: t190 :: t191 :: []), defers := [] } (W'.setCell ⟨rb, 0, none⟩ (.slice q2 n2 c2))) :
    (Code.region 5 (List.toArray ({ dst := some 45, op := Op.load 27 (Operand.tmp 8), type := 27, pos := "law.go:85", after := #[], guard := none } :: { dst := some 46, op := Op.move (Operand.tmp 0), type := 23, pos := "law.go:85", after := #[], guard := none } :: { dst := some 47, op := Op.fieldAddr 32 (Operand.tmp 5) 1, type := 0, pos := "law.go:85", after := #[], guard := none } :: { dst := some 48, op := Op.fieldAddr 30 (Operand.tmp 47) 0, type := 0, pos := "law.go:85", after := #[{ on := 2, ground := Ground.data }], guard := none } :: { dst := some 49, op := Op.load 3 (Operand.tmp 48), type := 3, pos := "law.go:85", after := #[{ on := 3, ground := Ground.data }], guard := none } :: { dst := some 50, op := Op.fieldAddr 32 (Operand.tmp 5) 1, type := 0, pos := "law.go:85", after := #[], guard := none } :: { dst := some 51, op := Op.fieldAddr 30 (Operand.tmp 50) 2, type := 0, pos := "law.go:85", after := #[{ on := 5, ground := Ground.data }], guard := none } :: { dst := some 52, op := Op.load 9 (Operand.tmp 51), type := 9, pos := "law.go:85", after := #[{ on := 6, ground := Ground.data }], guard := none } :: { dst := some 53, op := Op.fieldAddr 32 (Operand.tmp 5) 1, type := 0, pos := "law.go:85", after := #[], guard := none } :: { dst := some 54, op := Op.fieldAddr 30 (Operand.tmp 53) 3, type := 0, pos := "law.go:85", after := #[{ on := 8, ground := Ground.data }], guard := none } :: { dst := some 55, op := Op.load 9 (Operand.tmp 54), type := 9, pos := "law.go:85", after := #[{ on := 9, ground := Ground.data }], guard := none } :: { dst := some 56, op := Op.fieldAddr 32 (Operand.tmp 5) 1, type := 0, pos := "law.go:85", after := #[], guard := none } :: { dst := some 57, op := Op.fieldAddr 30 (Operand.tmp 56) 1, type := 0, pos := "law.go:85", after := #[{ on := 11, ground := Ground.data }], guard := none } :: { dst := some 58, op := Op.load 3 (Operand.tmp 57), type := 3, pos := "law.go:85", after := #[{ on := 12, ground := Ground.data }], guard := none } :: { dst := some 59, op := Op.call { callee := Callee.value (Operand.func 11), args := #[Operand.tmp 46, Operand.tmp 49, Operand.tmp 52, Operand.tmp 55, Operand.tmp 58], argTypes := #[23, 3, 9, 9, 3] }, type := 34, pos := "law.go:85", after := #[{ on := 1, ground := Ground.data }, { on := 4, ground := Ground.data }, { on := 7, ground := Ground.data }, { on := 10, ground := Ground.data }, { on := 13, ground := Ground.data }], guard := none } :: { dst := some 60, op := Op.move (Operand.tmp 9), type := 34, pos := "law.go:85", after := #[{ on := 17, ground := Ground.gcOnly Departure.lateStores }], guard := none } :: { dst := some 61, op := Op.binOp BinOp.eql 34 (Operand.tmp 59) (Operand.tmp 60) 34, type := 4, pos := "law.go:85", after := #[{ on := 14, ground := Ground.data }, { on := 15, ground := Ground.data }, { on := 17, ground := Ground.gcOnly Departure.lateStores }], guard := none } :: { dst := none, op := Op.store 27 (Operand.tmp 6) (Operand.tmp 45), type := 0, pos := "law.go:85", after := #[{ on := 0, ground := Ground.data }, { on := 14, ground := Ground.chain }, { on := 0, ground := Ground.phase }, { on := 1, ground := Ground.textOnly Departure.lateStores }, { on := 2, ground := Ground.textOnly Departure.lateStores }, { on := 3, ground := Ground.textOnly Departure.lateStores }, { on := 4, ground := Ground.textOnly Departure.lateStores }, { on := 5, ground := Ground.textOnly Departure.lateStores }, { on := 6, ground := Ground.textOnly Departure.lateStores }, { on := 7, ground := Ground.textOnly Departure.lateStores }, { on := 8, ground := Ground.textOnly Departure.lateStores }, { on := 9, ground := Ground.textOnly Departure.lateStores }, { on := 10, ground := Ground.textOnly Departure.lateStores }, { on := 11, ground := Ground.textOnly Departure.lateStores }, { on := 12, ground := Ground.textOnly Departure.lateStores }, { on := 13, ground := Ground.textOnly Departure.lateStores }, { on := 14, ground := Ground.textOnly Departure.lateStoresUnsure }, { on := 15, ground := Ground.textOnly Departure.lateStores }, { on := 16, ground := Ground.textOnly Departure.lateStores }], guard := none } :: { dst := some 7, op := Op.assign (Operand.tmp 61), type := 4, pos := "law.go:85", after := #[{ on := 16, ground := Ground.data }, { on := 17, ground := Ground.chain }, { on := 0, ground := Ground.phase }, { on := 1, ground := Ground.phase }, { on := 2, ground := Ground.phase }, { on := 3, ground := Ground.phase }, { on := 4, ground := Ground.phase }, { on := 5, ground := Ground.phase }, { on := 6, ground := Ground.phase }, { on := 7, ground := Ground.phase }, { on := 8, ground := Ground.phase }, { on := 9, ground := Ground.phase }, { on := 10, ground := Ground.phase }, { on := 11, ground := Ground.phase }, { on := 12, ground := Ground.phase }, { on := 13, ground := Ground.phase }, { on := 14, ground := Ground.phase }, { on := 15, ground := Ground.phase }, { on := 16, ground := Ground.phase }, { on := 17, ground := Ground.phase }], guard := none } :: [])) true).wp Try.prog Q { tmps := List.toArray ((.pointer (some ⟨r, 0, none⟩)) :: t1 :: t2 :: t3 :: t4 :: (.pointer (some ⟨ab, 0, none⟩)) :: (.pointer (some ⟨rb, 0, none⟩)) :: t7 :: (.pointer (some ⟨zb, 0, none⟩)) :: (.int .i64 E) :: t10 :: t11 :: t12 :: t13 :: t14 :: t15 :: t16 :: t17 :: t18 :: t19 :: t20 :: t21 :: t22 :: t23 :: t24 :: t25 :: t26 :: t27 :: t28 :: t29 :: t30 :: t31 :: t32 :: t33 :: t34 :: t35 :: t36 :: t37 :: t38 :: t39 :: t40 :: t41 :: t42 :: t43 :: t44 :: t45 :: t46 :: t47 :: t48 :: t49 :: t50 :: t51 :: t52 :: t53 :: t54 :: t55 :: t56 :: t57 :: t58 :: t59 :: t60 :: t61 :: t62 :: t63 :: t64 :: t65 :: t66 :: t67 :: t68 :: t69 :: t70 :: t71 :: t72 :: t73 :: t74 :: t75 :: t76 :: t77 :: t78 :: t79 :: t80 :: t81 :: t82 :: t83 :: t84 :: t85 :: t86 :: t87 :: t88 :: t89 :: t90 :: t91 :: t92 :: t93 :: t94 :: t95 :: t96 :: t97 :: t98 :: t99 :: t100 :: t101 :: t102 :: t103 :: t104 :: t105 :: t106 :: t107 :: t108 :: t109 :: t110 :: t111 :: t112 :: t113 :: t114 :: t115 :: t116 :: t117 :: t118 :: t119 :: t120 :: t121 :: t122 :: t123 :: t124 :: t125 :: t126 :: t127 :: t128 :: t129 :: t130 :: t131 :: t132 :: t133 :: t134 :: t135 :: t136 :: t137 :: t138 :: t139 :: t140 :: t141 :: t142 :: t143 :: t144 :: t145 :: t146 :: t147 :: t148 :: t149 :: t150 :: t151 :: t152 :: t153 :: t154 :: t155 :: t156 :: t157 :: t158 :: t159 :: t160 :: t161 :: t162 :: t163 :: t164 :: t165 :: t166 :: t167 :: t168 :: t169 :: t170 :: t171 :: t172 :: t173 :: t174 :: t175 :: t176 :: t177 :: t178 :: t179 :: t180 :: t181 :: t182 :: t183 :: t184 :: t185 :: t186 :: t187 :: t188 :: t189 :: t190 :: t191 :: []), defers := [] } wr := by
  have HC := hid hC
  have hH := hid h
  clear h hC
  refine wp_region_noPanic ?_
  refine wp_region_held_drew (S := (fun w' => w'.cell? ⟨zb, 0, none⟩ = some (.slice q2 n2 c2) ∧ w'.cell? ⟨ab, 1, none⟩ = some (.int .i64 tk) ∧ w'.cell? ⟨ab, 2, none⟩ = some (.int .i64 kd) ∧ w'.cell? ⟨ab, 3, none⟩ = some (.string ky) ∧ w'.cell? ⟨ab, 4, none⟩ = some (.string tok))) (by kernel_rfl) ?_ (fun hHeld => ?_)
  · exact hS0
  refine wpAnyH_take (i := 0) (oi := { dst := some 45, op := Op.load 27 (Operand.tmp 8), type := 27, pos := "law.go:85", after := #[], guard := none }) (v := ?_) rfl (by kernel_rfl) (by kernel_rfl) (by kernel_rfl) (fun _ _ _ h => h) (Or.inl ⟨by rfl, ?_⟩) (by assumption) ?_
  rotate_left
  · intro w hSw
    try dsimp only at hSw
    go_simp
    try with_reducible rfl
  try simp only [Act.put, List.setIfInBounds_toArray, List.set_cons_zero, List.set_cons_succ]
  refine wpAnyH_take (i := 1) (oi := { dst := some 46, op := Op.move (Operand.tmp 0), type := 23, pos := "law.go:85", after := #[], guard := none }) (v := ?_) rfl (by kernel_rfl) (by kernel_rfl) (by kernel_rfl) (fun _ _ _ h => h) (Or.inl ⟨by rfl, ?_⟩) (by assumption) ?_
  rotate_left
  · intro w hSw
    try dsimp only at hSw
    go_simp
    try with_reducible rfl
  try simp only [Act.put, List.setIfInBounds_toArray, List.set_cons_zero, List.set_cons_succ]
  refine wpAnyH_take (i := 2) (oi := { dst := some 47, op := Op.fieldAddr 32 (Operand.tmp 5) 1, type := 0, pos := "law.go:85", after := #[], guard := none }) (v := ?_) rfl (by kernel_rfl) (by kernel_rfl) (by kernel_rfl) (fun _ _ _ h => h) (Or.inl ⟨by rfl, ?_⟩) (by assumption) ?_
  rotate_left
  · intro w hSw
    try dsimp only at hSw
    go_simp
    try with_reducible rfl
  try simp only [Act.put, List.setIfInBounds_toArray, List.set_cons_zero, List.set_cons_succ]
  refine wpAnyH_take (i := 3) (oi := { dst := some 48, op := Op.fieldAddr 30 (Operand.tmp 47) 0, type := 0, pos := "law.go:85", after := #[{ on := 2, ground := Ground.data }], guard := none }) (v := ?_) rfl (by kernel_rfl) (by kernel_rfl) (by kernel_rfl) (fun _ _ _ h => h) (Or.inl ⟨by rfl, ?_⟩) (by assumption) ?_
  rotate_left
  · intro w hSw
    try dsimp only at hSw
    go_simp
    try with_reducible rfl
  try simp only [Act.put, List.setIfInBounds_toArray, List.set_cons_zero, List.set_cons_succ]
  refine wpAnyH_take (i := 4) (oi := { dst := some 49, op := Op.load 3 (Operand.tmp 48), type := 3, pos := "law.go:85", after := #[{ on := 3, ground := Ground.data }], guard := none }) (v := ?_) rfl (by kernel_rfl) (by kernel_rfl) (by kernel_rfl) (fun _ _ _ h => h) (Or.inl ⟨by rfl, ?_⟩) (by assumption) ?_
  rotate_left
  · intro w hSw
    try dsimp only at hSw
    go_simp
    try with_reducible rfl
  try simp only [Act.put, List.setIfInBounds_toArray, List.set_cons_zero, List.set_cons_succ]
  refine wpAnyH_take (i := 5) (oi := { dst := some 50, op := Op.fieldAddr 32 (Operand.tmp 5) 1, type := 0, pos := "law.go:85", after := #[], guard := none }) (v := ?_) rfl (by kernel_rfl) (by kernel_rfl) (by kernel_rfl) (fun _ _ _ h => h) (Or.inl ⟨by rfl, ?_⟩) (by assumption) ?_
  rotate_left
  · intro w hSw
    try dsimp only at hSw
    go_simp
    try with_reducible rfl
  try simp only [Act.put, List.setIfInBounds_toArray, List.set_cons_zero, List.set_cons_succ]
  refine wpAnyH_take (i := 6) (oi := { dst := some 51, op := Op.fieldAddr 30 (Operand.tmp 50) 2, type := 0, pos := "law.go:85", after := #[{ on := 5, ground := Ground.data }], guard := none }) (v := ?_) rfl (by kernel_rfl) (by kernel_rfl) (by kernel_rfl) (fun _ _ _ h => h) (Or.inl ⟨by rfl, ?_⟩) (by assumption) ?_
  rotate_left
  · intro w hSw
    try dsimp only at hSw
    go_simp
    try with_reducible rfl
  try simp only [Act.put, List.setIfInBounds_toArray, List.set_cons_zero, List.set_cons_succ]
  refine wpAnyH_take (i := 7) (oi := { dst := some 52, op := Op.load 9 (Operand.tmp 51), type := 9, pos := "law.go:85", after := #[{ on := 6, ground := Ground.data }], guard := none }) (v := ?_) rfl (by kernel_rfl) (by kernel_rfl) (by kernel_rfl) (fun _ _ _ h => h) (Or.inl ⟨by rfl, ?_⟩) (by assumption) ?_
  rotate_left
  · intro w hSw
    try dsimp only at hSw
    go_simp
    try with_reducible rfl
  try simp only [Act.put, List.setIfInBounds_toArray, List.set_cons_zero, List.set_cons_succ]
  refine wpAnyH_take (i := 8) (oi := { dst := some 53, op := Op.fieldAddr 32 (Operand.tmp 5) 1, type := 0, pos := "law.go:85", after := #[], guard := none }) (v := ?_) rfl (by kernel_rfl) (by kernel_rfl) (by kernel_rfl) (fun _ _ _ h => h) (Or.inl ⟨by rfl, ?_⟩) (by assumption) ?_
  rotate_left
  · intro w hSw
    try dsimp only at hSw
    go_simp
    try with_reducible rfl
  try simp only [Act.put, List.setIfInBounds_toArray, List.set_cons_zero, List.set_cons_succ]
  refine wpAnyH_take (i := 9) (oi := { dst := some 54, op := Op.fieldAddr 30 (Operand.tmp 53) 3, type := 0, pos := "law.go:85", after := #[{ on := 8, ground := Ground.data }], guard := none }) (v := ?_) rfl (by kernel_rfl) (by kernel_rfl) (by kernel_rfl) (fun _ _ _ h => h) (Or.inl ⟨by rfl, ?_⟩) (by assumption) ?_
  rotate_left
  · intro w hSw
    try dsimp only at hSw
    go_simp
    try with_reducible rfl
  try simp only [Act.put, List.setIfInBounds_toArray, List.set_cons_zero, List.set_cons_succ]
  refine wpAnyH_take (i := 10) (oi := { dst := some 55, op := Op.load 9 (Operand.tmp 54), type := 9, pos := "law.go:85", after := #[{ on := 9, ground := Ground.data }], guard := none }) (v := ?_) rfl (by kernel_rfl) (by kernel_rfl) (by kernel_rfl) (fun _ _ _ h => h) (Or.inl ⟨by rfl, ?_⟩) (by assumption) ?_
  rotate_left
  · intro w hSw
    try dsimp only at hSw
    go_simp
    try with_reducible rfl
  try simp only [Act.put, List.setIfInBounds_toArray, List.set_cons_zero, List.set_cons_succ]
  refine wpAnyH_take (i := 11) (oi := { dst := some 56, op := Op.fieldAddr 32 (Operand.tmp 5) 1, type := 0, pos := "law.go:85", after := #[], guard := none }) (v := ?_) rfl (by kernel_rfl) (by kernel_rfl) (by kernel_rfl) (fun _ _ _ h => h) (Or.inl ⟨by rfl, ?_⟩) (by assumption) ?_
  rotate_left
  · intro w hSw
    try dsimp only at hSw
    go_simp
    try with_reducible rfl
  try simp only [Act.put, List.setIfInBounds_toArray, List.set_cons_zero, List.set_cons_succ]
  refine wpAnyH_take (i := 12) (oi := { dst := some 57, op := Op.fieldAddr 30 (Operand.tmp 56) 1, type := 0, pos := "law.go:85", after := #[{ on := 11, ground := Ground.data }], guard := none }) (v := ?_) rfl (by kernel_rfl) (by kernel_rfl) (by kernel_rfl) (fun _ _ _ h => h) (Or.inl ⟨by rfl, ?_⟩) (by assumption) ?_
  rotate_left
  · intro w hSw
    try dsimp only at hSw
    go_simp
    try with_reducible rfl
  try simp only [Act.put, List.setIfInBounds_toArray, List.set_cons_zero, List.set_cons_succ]
  refine wpAnyH_take (i := 13) (oi := { dst := some 58, op := Op.load 3 (Operand.tmp 57), type := 3, pos := "law.go:85", after := #[{ on := 12, ground := Ground.data }], guard := none }) (v := ?_) rfl (by kernel_rfl) (by kernel_rfl) (by kernel_rfl) (fun _ _ _ h => h) (Or.inl ⟨by rfl, ?_⟩) (by assumption) ?_
  rotate_left
  · intro w hSw
    try dsimp only at hSw
    go_simp
    try with_reducible rfl
  try simp only [Act.put, List.setIfInBounds_toArray, List.set_cons_zero, List.set_cons_succ]
  refine wpAnyH_take (i := 15) (oi := { dst := some 60, op := Op.move (Operand.tmp 9), type := 34, pos := "law.go:85", after := #[{ on := 17, ground := Ground.gcOnly Departure.lateStores }], guard := none }) (v := ?_) rfl (by kernel_rfl) (by kernel_rfl) (by kernel_rfl) (fun _ _ _ h => h) (Or.inl ⟨by rfl, ?_⟩) (by assumption) ?_
  rotate_left
  · intro w hSw
    try dsimp only at hSw
    go_simp
    try with_reducible rfl
  try simp only [Act.put, List.setIfInBounds_toArray, List.set_cons_zero, List.set_cons_succ]
  refine wpAnyH_ready (rs := [14]) (by kernel_rfl) (by simp) ?_
  refine AllReadyH.cons (o := { dst := some 59, op := Op.call { callee := Callee.value (Operand.func 11), args := #[Operand.tmp 46, Operand.tmp 49, Operand.tmp 52, Operand.tmp 55, Operand.tmp 58], argTypes := #[23, 3, 9, 9, 3] }, type := 34, pos := "law.go:85", after := #[{ on := 1, ground := Ground.data }, { on := 4, ground := Ground.data }, { on := 7, ground := Ground.data }, { on := 10, ground := Ground.data }, { on := 13, ground := Ground.data }], guard := none }) rfl (fun K hK => ?_) AllReadyH.nil
  go_simp
  go_at_call 11
  refine HC.out.mono ?_
  rintro e w6 ⟨rfl, g6, s6, r6, f6, v6⟩
  have G6 := hid g6
  clear g6
  go_wp2_with fail
  refine hK.out _ _ ?_ (fun hHeld => ?_)
  · exact s6
  clear hK K
  try simp only [Act.put, List.setIfInBounds_toArray, List.set_cons_zero, List.set_cons_succ]
  refine wpAnyH_take (i := 16) (oi := { dst := some 61, op := Op.binOp BinOp.eql 34 (Operand.tmp 59) (Operand.tmp 60) 34, type := 4, pos := "law.go:85", after := #[{ on := 14, ground := Ground.data }, { on := 15, ground := Ground.data }, { on := 17, ground := Ground.gcOnly Departure.lateStores }], guard := none }) (v := ?_) rfl (by kernel_rfl) (by kernel_rfl) (by kernel_rfl) (fun _ _ _ h => h) (Or.inl ⟨by rfl, ?_⟩) (by assumption) ?_
  rotate_left
  · intro w hSw
    try dsimp only at hSw
    go_simp
    try with_reducible rfl
  try simp only [Act.put, List.setIfInBounds_toArray, List.set_cons_zero, List.set_cons_succ]
  refine wpAnyH_ready (rs := [17]) (by kernel_rfl) (by simp) ?_
  refine AllReadyH.cons (o := { dst := none, op := Op.store 27 (Operand.tmp 6) (Operand.tmp 45), type := 0, pos := "law.go:85", after := #[{ on := 0, ground := Ground.data }, { on := 14, ground := Ground.chain }, { on := 0, ground := Ground.phase }, { on := 1, ground := Ground.textOnly Departure.lateStores }, { on := 2, ground := Ground.textOnly Departure.lateStores }, { on := 3, ground := Ground.textOnly Departure.lateStores }, { on := 4, ground := Ground.textOnly Departure.lateStores }, { on := 5, ground := Ground.textOnly Departure.lateStores }, { on := 6, ground := Ground.textOnly Departure.lateStores }, { on := 7, ground := Ground.textOnly Departure.lateStores }, { on := 8, ground := Ground.textOnly Departure.lateStores }, { on := 9, ground := Ground.textOnly Departure.lateStores }, { on := 10, ground := Ground.textOnly Departure.lateStores }, { on := 11, ground := Ground.textOnly Departure.lateStores }, { on := 12, ground := Ground.textOnly Departure.lateStores }, { on := 13, ground := Ground.textOnly Departure.lateStores }, { on := 14, ground := Ground.textOnly Departure.lateStoresUnsure }, { on := 15, ground := Ground.textOnly Departure.lateStores }, { on := 16, ground := Ground.textOnly Departure.lateStores }], guard := none }) rfl (fun K hK => ?_) AllReadyH.nil
  go_simp
  refine hK.out _ _ ?_ (fun hHeld => ?_)
  · exact v6
  clear hK K
  try simp only [Act.put, List.setIfInBounds_toArray, List.set_cons_zero, List.set_cons_succ]
  refine wpAnyH_take (i := 18) (oi := { dst := some 7, op := Op.assign (Operand.tmp 61), type := 4, pos := "law.go:85", after := #[{ on := 16, ground := Ground.data }, { on := 17, ground := Ground.chain }, { on := 0, ground := Ground.phase }, { on := 1, ground := Ground.phase }, { on := 2, ground := Ground.phase }, { on := 3, ground := Ground.phase }, { on := 4, ground := Ground.phase }, { on := 5, ground := Ground.phase }, { on := 6, ground := Ground.phase }, { on := 7, ground := Ground.phase }, { on := 8, ground := Ground.phase }, { on := 9, ground := Ground.phase }, { on := 10, ground := Ground.phase }, { on := 11, ground := Ground.phase }, { on := 12, ground := Ground.phase }, { on := 13, ground := Ground.phase }, { on := 14, ground := Ground.phase }, { on := 15, ground := Ground.phase }, { on := 16, ground := Ground.phase }, { on := 17, ground := Ground.phase }], guard := none }) (v := ?_) rfl (by kernel_rfl) (by kernel_rfl) (by kernel_rfl) (fun _ _ _ h => h) (Or.inl ⟨by rfl, ?_⟩) (by assumption) ?_
  rotate_left
  · intro w hSw
    try dsimp only at hSw
    go_simp
    try with_reducible rfl
  try simp only [Act.put, List.setIfInBounds_toArray, List.set_cons_zero, List.set_cons_succ]
  refine wpAnyH_done (by kernel_rfl) ?_ _
  refine NoPanic.normal ?_
  exact hH.out _ _ _ _ _ _ _ _ _ _ _ _ _ _ _ _ _ _ G6.out
set_option maxRecDepth 100000 in
set_option maxHeartbeats 32000000 in
theorem pl13 {Q : Exit → Act → World → Prop} {wr : World} {rb zb n2 c2 m1 d1 m2 d2 : Nat} {q2 p1 p2 : Option Addr} {G : World → Prop} {t0 t1 t2 t3 t4 t5 t7 t8 t9 t10 t11 t12 t13 t14 t18 t19 t20 t21 t22 t23 t24 t25 t26 t27 t28 t29 t30 t31 t32 t33 t34 t35 t36 t37 t38 t39 t40 t41 t42 t43 t44 t45 t46 t47 t48 t49 t50 t51 t52 t53 t54 t55 t56 t57 t58 t59 t60 t61 t62 t63 t64 t65 t66 t67 t68 t69 t70 t71 t72 t73 t74 t75 t76 t77 t78 t79 t80 t81 t82 t83 t84 t85 t86 t87 t88 t89 t90 t91 t92 t93 t94 t95 t96 t97 t98 t99 t100 t101 t102 t103 t104 t105 t106 t107 t108 t109 t110 t111 t112 t113 t114 t115 t116 t117 t118 t119 t120 t121 t122 t123 t124 t125 t126 t127 t128 t129 t130 t131 t132 t133 t134 t135 t136 t137 t138 t139 t140 t141 t142 t143 t144 t145 t146 t147 t148 t149 t150 t151 t152 t153 t154 t155 t156 t157 t158 t159 t160 t161 t162 t163 t164 t165 t166 t167 t168 t169 t170 t171 t172 t173 t174 t175 t176 t177 t178 t179 t180 t181 t182 t183 t184 t185 t186 t187 t188 t189 t190 t191 : Value} (hS0 : (fun w' => w'.cell? ⟨zb, 0, none⟩ = some (.slice q2 n2 c2)) wr.drew)
    (hC : Calls Try.prog 17 #[.slice p1 m1 d1, .slice p2 m2 d2] wr.drew fun e w' => e = .returned (.bool true) ∧ G w' ∧ (fun w' => w'.cell? ⟨zb, 0, none⟩ = some (.slice q2 n2 c2)) w' ∧ w'.cell? ⟨rb, 0, none⟩ = some (.slice none 0 0) ∧ w'.frozen? ⟨rb, 0, none⟩ = false ∧ (fun w' => w'.cell? ⟨zb, 0, none⟩ = some (.slice q2 n2 c2)) (w'.setCell ⟨rb, 0, none⟩ (.slice q2 n2 c2)))
    (h : ∀ (W' : World) (x105 x106 x107 x108 : Value), G W' → Q .normal { tmps := List.toArray (t0 :: t1 :: t2 :: t3 :: t4 :: t5 :: (.pointer (some ⟨rb, 0, none⟩)) :: (.bool true) :: t8 :: t9 :: t10 :: t11 :: t12 :: t13 :: t14 :: (.slice p1 m1 d1) :: (.pointer (some ⟨zb, 0, none⟩)) :: (.slice p2 m2 d2) :: t18 :: t19 :: t20 :: t21 :: t22 :: t23 :: t24 :: t25 :: t26 :: t27 :: t28 :: t29 :: t30 :: t31 :: t32 :: t33 :: t34 :: t35 :: t36 :: t37 :: t38 :: t39 :: t40 :: t41 :: t42 :: t43 :: t44 :: t45 :: t46 :: t47 :: t48 :: t49 :: t50 :: t51 :: t52 :: t53 :: t54 :: t55 :: t56 :: t57 :: t58 :: t59 :: t60 :: t61 :: t62 :: t63 :: t64 :: t65 :: t66 :: t67 :: t68 :: t69 :: t70 :: t71 :: t72 :: t73 :: t74 :: t75 :: t76 :: t77 :: t78 :: t79 :: t80 :: t81 :: t82 :: t83 :: t84 :: t85 :: t86 :: t87 :: t88 :: t89 :: t90 :: t91 :: t92 :: t93 :: t94 :: t95 :: t96 :: t97 :: t98 :: t99 :: t100 :: t101 :: t102 :: t103 :: t104 :: x105 :: x106 :: x107 :: x108 :: t109 :: t110 :: t111 :: t112 :: t113 :: t114 :: t115 :: t116 :: t117 :: t118 :: t119 :: t120 :: t121 :: t122 :: t123 :: t124 :: t125 :: t126 :: t127 :: t128 :: t129 :: t130 :: t131 :: t132 :: t133 :: t134 :: t135 :: t136 :: t137 :: t138 :: t139 :: t140 :: t141 :: t142 :: t143 :: t144 :: t145 :: t146 :: t147 :: t148 :: t149 :: t150 :: t151 :: t152 :: t153 :: t154 :: t155 :: t156 :: t157 :: t158 :: t159 :: t160 :: t161 :: t162 :: t163 :: t164 :: t165 :: t166 :: t167 :: t168 :: t169 :: t170 :: t171 :: t172 :: t173 :: t174 :: t175 :: t176 :: t177 :: t178 :: t179 :: t180 :: t181 :: t182 :: t183 :: t184 :: t185 :: t186 :: t187 :: t188 :: t189 :: t190 :: t191 :: []), defers := [] } (W'.setCell ⟨rb, 0, none⟩ (.slice q2 n2 c2))) :
    (Code.region 13 (List.toArray ({ dst := some 105, op := Op.load 27 (Operand.tmp 16), type := 27, pos := "law.go:93", after := #[], guard := none } :: { dst := some 106, op := Op.move (Operand.tmp 15), type := 25, pos := "law.go:93", after := #[], guard := none } :: { dst := some 107, op := Op.move (Operand.tmp 17), type := 25, pos := "law.go:93", after := #[], guard := none } :: { dst := some 108, op := Op.call { callee := Callee.value (Operand.func 17), args := #[Operand.tmp 106, Operand.tmp 107], argTypes := #[25, 25] }, type := 4, pos := "law.go:93", after := #[{ on := 1, ground := Ground.data }, { on := 2, ground := Ground.data }], guard := none } :: { dst := none, op := Op.store 27 (Operand.tmp 6) (Operand.tmp 105), type := 0, pos := "law.go:93", after := #[{ on := 0, ground := Ground.data }, { on := 3, ground := Ground.chain }, { on := 0, ground := Ground.phase }, { on := 1, ground := Ground.textOnly Departure.lateStores }, { on := 2, ground := Ground.textOnly Departure.lateStores }, { on := 3, ground := Ground.textOnly Departure.lateStoresUnsure }], guard := none } :: { dst := some 7, op := Op.assign (Operand.tmp 108), type := 4, pos := "law.go:93", after := #[{ on := 3, ground := Ground.data }, { on := 4, ground := Ground.chain }, { on := 0, ground := Ground.phase }, { on := 1, ground := Ground.phase }, { on := 2, ground := Ground.phase }, { on := 3, ground := Ground.phase }, { on := 4, ground := Ground.phase }], guard := none } :: [])) true).wp Try.prog Q { tmps := List.toArray (t0 :: t1 :: t2 :: t3 :: t4 :: t5 :: (.pointer (some ⟨rb, 0, none⟩)) :: t7 :: t8 :: t9 :: t10 :: t11 :: t12 :: t13 :: t14 :: (.slice p1 m1 d1) :: (.pointer (some ⟨zb, 0, none⟩)) :: (.slice p2 m2 d2) :: t18 :: t19 :: t20 :: t21 :: t22 :: t23 :: t24 :: t25 :: t26 :: t27 :: t28 :: t29 :: t30 :: t31 :: t32 :: t33 :: t34 :: t35 :: t36 :: t37 :: t38 :: t39 :: t40 :: t41 :: t42 :: t43 :: t44 :: t45 :: t46 :: t47 :: t48 :: t49 :: t50 :: t51 :: t52 :: t53 :: t54 :: t55 :: t56 :: t57 :: t58 :: t59 :: t60 :: t61 :: t62 :: t63 :: t64 :: t65 :: t66 :: t67 :: t68 :: t69 :: t70 :: t71 :: t72 :: t73 :: t74 :: t75 :: t76 :: t77 :: t78 :: t79 :: t80 :: t81 :: t82 :: t83 :: t84 :: t85 :: t86 :: t87 :: t88 :: t89 :: t90 :: t91 :: t92 :: t93 :: t94 :: t95 :: t96 :: t97 :: t98 :: t99 :: t100 :: t101 :: t102 :: t103 :: t104 :: t105 :: t106 :: t107 :: t108 :: t109 :: t110 :: t111 :: t112 :: t113 :: t114 :: t115 :: t116 :: t117 :: t118 :: t119 :: t120 :: t121 :: t122 :: t123 :: t124 :: t125 :: t126 :: t127 :: t128 :: t129 :: t130 :: t131 :: t132 :: t133 :: t134 :: t135 :: t136 :: t137 :: t138 :: t139 :: t140 :: t141 :: t142 :: t143 :: t144 :: t145 :: t146 :: t147 :: t148 :: t149 :: t150 :: t151 :: t152 :: t153 :: t154 :: t155 :: t156 :: t157 :: t158 :: t159 :: t160 :: t161 :: t162 :: t163 :: t164 :: t165 :: t166 :: t167 :: t168 :: t169 :: t170 :: t171 :: t172 :: t173 :: t174 :: t175 :: t176 :: t177 :: t178 :: t179 :: t180 :: t181 :: t182 :: t183 :: t184 :: t185 :: t186 :: t187 :: t188 :: t189 :: t190 :: t191 :: []), defers := [] } wr := by
  have HC := hid hC
  have hH := hid h
  clear h hC
  refine wp_region_noPanic ?_
  refine wp_region_held_drew (S := (fun w' => w'.cell? ⟨zb, 0, none⟩ = some (.slice q2 n2 c2))) (by kernel_rfl) ?_ (fun hHeld => ?_)
  · exact hS0
  refine wpAnyH_take (i := 0) (oi := { dst := some 105, op := Op.load 27 (Operand.tmp 16), type := 27, pos := "law.go:93", after := #[], guard := none }) (v := ?_) rfl (by kernel_rfl) (by kernel_rfl) (by kernel_rfl) (fun _ _ _ h => h) (Or.inl ⟨by rfl, ?_⟩) (by assumption) ?_
  rotate_left
  · intro w hSw
    try dsimp only at hSw
    go_simp
    try with_reducible rfl
  try simp only [Act.put, List.setIfInBounds_toArray, List.set_cons_zero, List.set_cons_succ]
  refine wpAnyH_take (i := 1) (oi := { dst := some 106, op := Op.move (Operand.tmp 15), type := 25, pos := "law.go:93", after := #[], guard := none }) (v := ?_) rfl (by kernel_rfl) (by kernel_rfl) (by kernel_rfl) (fun _ _ _ h => h) (Or.inl ⟨by rfl, ?_⟩) (by assumption) ?_
  rotate_left
  · intro w hSw
    try dsimp only at hSw
    go_simp
    try with_reducible rfl
  try simp only [Act.put, List.setIfInBounds_toArray, List.set_cons_zero, List.set_cons_succ]
  refine wpAnyH_take (i := 2) (oi := { dst := some 107, op := Op.move (Operand.tmp 17), type := 25, pos := "law.go:93", after := #[], guard := none }) (v := ?_) rfl (by kernel_rfl) (by kernel_rfl) (by kernel_rfl) (fun _ _ _ h => h) (Or.inl ⟨by rfl, ?_⟩) (by assumption) ?_
  rotate_left
  · intro w hSw
    try dsimp only at hSw
    go_simp
    try with_reducible rfl
  try simp only [Act.put, List.setIfInBounds_toArray, List.set_cons_zero, List.set_cons_succ]
  refine wpAnyH_ready (rs := [3]) (by kernel_rfl) (by simp) ?_
  refine AllReadyH.cons (o := { dst := some 108, op := Op.call { callee := Callee.value (Operand.func 17), args := #[Operand.tmp 106, Operand.tmp 107], argTypes := #[25, 25] }, type := 4, pos := "law.go:93", after := #[{ on := 1, ground := Ground.data }, { on := 2, ground := Ground.data }], guard := none }) rfl (fun K hK => ?_) AllReadyH.nil
  go_simp
  go_at_call 17
  refine HC.out.mono ?_
  rintro e w6 ⟨rfl, g6, s6, r6, f6, v6⟩
  have G6 := hid g6
  clear g6
  go_wp2_with fail
  refine hK.out _ _ ?_ (fun hHeld => ?_)
  · exact s6
  clear hK K
  try simp only [Act.put, List.setIfInBounds_toArray, List.set_cons_zero, List.set_cons_succ]
  refine wpAnyH_ready (rs := [4]) (by kernel_rfl) (by simp) ?_
  refine AllReadyH.cons (o := { dst := none, op := Op.store 27 (Operand.tmp 6) (Operand.tmp 105), type := 0, pos := "law.go:93", after := #[{ on := 0, ground := Ground.data }, { on := 3, ground := Ground.chain }, { on := 0, ground := Ground.phase }, { on := 1, ground := Ground.textOnly Departure.lateStores }, { on := 2, ground := Ground.textOnly Departure.lateStores }, { on := 3, ground := Ground.textOnly Departure.lateStoresUnsure }], guard := none }) rfl (fun K hK => ?_) AllReadyH.nil
  go_simp
  refine hK.out _ _ ?_ (fun hHeld => ?_)
  · exact v6
  clear hK K
  try simp only [Act.put, List.setIfInBounds_toArray, List.set_cons_zero, List.set_cons_succ]
  refine wpAnyH_take (i := 5) (oi := { dst := some 7, op := Op.assign (Operand.tmp 108), type := 4, pos := "law.go:93", after := #[{ on := 3, ground := Ground.data }, { on := 4, ground := Ground.chain }, { on := 0, ground := Ground.phase }, { on := 1, ground := Ground.phase }, { on := 2, ground := Ground.phase }, { on := 3, ground := Ground.phase }, { on := 4, ground := Ground.phase }], guard := none }) (v := ?_) rfl (by kernel_rfl) (by kernel_rfl) (by kernel_rfl) (fun _ _ _ h => h) (Or.inl ⟨by rfl, ?_⟩) (by assumption) ?_
  rotate_left
  · intro w hSw
    try dsimp only at hSw
    go_simp
    try with_reducible rfl
  try simp only [Act.put, List.setIfInBounds_toArray, List.set_cons_zero, List.set_cons_succ]
  refine wpAnyH_done (by kernel_rfl) ?_ _
  refine NoPanic.normal ?_
  exact hH.out _ _ _ _ _ G6.out
set_option maxRecDepth 100000 in
set_option maxHeartbeats 32000000 in
theorem pl21 {Q : Exit → Act → World → Prop} {wr : World} {rb zb n2 c2 m1 d1 m2 d2 : Nat} {q2 p1 p2 : Option Addr} {G : World → Prop} {t0 t1 t2 t3 t4 t5 t7 t8 t9 t10 t11 t12 t13 t14 t15 t16 t17 t18 t19 t20 t21 t22 t26 t27 t28 t29 t30 t31 t32 t33 t34 t35 t36 t37 t38 t39 t40 t41 t42 t43 t44 t45 t46 t47 t48 t49 t50 t51 t52 t53 t54 t55 t56 t57 t58 t59 t60 t61 t62 t63 t64 t65 t66 t67 t68 t69 t70 t71 t72 t73 t74 t75 t76 t77 t78 t79 t80 t81 t82 t83 t84 t85 t86 t87 t88 t89 t90 t91 t92 t93 t94 t95 t96 t97 t98 t99 t100 t101 t102 t103 t104 t105 t106 t107 t108 t109 t110 t111 t112 t113 t114 t115 t116 t117 t118 t119 t120 t121 t122 t123 t124 t125 t126 t127 t128 t129 t130 t131 t132 t133 t134 t135 t136 t137 t138 t139 t140 t141 t142 t143 t144 t145 t146 t147 t148 t149 t150 t151 t152 t153 t154 t155 t156 t157 t158 t159 t160 t161 t162 t163 t164 t165 t166 t167 t168 t169 t170 t171 t172 t173 t174 t175 t176 t177 t178 t179 t180 t181 t182 t183 t184 t185 t186 t187 t188 t189 t190 t191 : Value} (hS0 : (fun w' => w'.cell? ⟨zb, 0, none⟩ = some (.slice q2 n2 c2)) wr.drew)
    (hC : Calls Try.prog 17 #[.slice p1 m1 d1, .slice p2 m2 d2] wr.drew fun e w' => e = .returned (.bool true) ∧ G w' ∧ (fun w' => w'.cell? ⟨zb, 0, none⟩ = some (.slice q2 n2 c2)) w' ∧ w'.cell? ⟨rb, 0, none⟩ = some (.slice none 0 0) ∧ w'.frozen? ⟨rb, 0, none⟩ = false ∧ (fun w' => w'.cell? ⟨zb, 0, none⟩ = some (.slice q2 n2 c2)) (w'.setCell ⟨rb, 0, none⟩ (.slice q2 n2 c2)))
    (h : ∀ (W' : World) (x156 x157 x158 x159 : Value), G W' → Q .normal { tmps := List.toArray (t0 :: t1 :: t2 :: t3 :: t4 :: t5 :: (.pointer (some ⟨rb, 0, none⟩)) :: (.bool true) :: t8 :: t9 :: t10 :: t11 :: t12 :: t13 :: t14 :: t15 :: t16 :: t17 :: t18 :: t19 :: t20 :: t21 :: t22 :: (.slice p1 m1 d1) :: (.pointer (some ⟨zb, 0, none⟩)) :: (.slice p2 m2 d2) :: t26 :: t27 :: t28 :: t29 :: t30 :: t31 :: t32 :: t33 :: t34 :: t35 :: t36 :: t37 :: t38 :: t39 :: t40 :: t41 :: t42 :: t43 :: t44 :: t45 :: t46 :: t47 :: t48 :: t49 :: t50 :: t51 :: t52 :: t53 :: t54 :: t55 :: t56 :: t57 :: t58 :: t59 :: t60 :: t61 :: t62 :: t63 :: t64 :: t65 :: t66 :: t67 :: t68 :: t69 :: t70 :: t71 :: t72 :: t73 :: t74 :: t75 :: t76 :: t77 :: t78 :: t79 :: t80 :: t81 :: t82 :: t83 :: t84 :: t85 :: t86 :: t87 :: t88 :: t89 :: t90 :: t91 :: t92 :: t93 :: t94 :: t95 :: t96 :: t97 :: t98 :: t99 :: t100 :: t101 :: t102 :: t103 :: t104 :: t105 :: t106 :: t107 :: t108 :: t109 :: t110 :: t111 :: t112 :: t113 :: t114 :: t115 :: t116 :: t117 :: t118 :: t119 :: t120 :: t121 :: t122 :: t123 :: t124 :: t125 :: t126 :: t127 :: t128 :: t129 :: t130 :: t131 :: t132 :: t133 :: t134 :: t135 :: t136 :: t137 :: t138 :: t139 :: t140 :: t141 :: t142 :: t143 :: t144 :: t145 :: t146 :: t147 :: t148 :: t149 :: t150 :: t151 :: t152 :: t153 :: t154 :: t155 :: x156 :: x157 :: x158 :: x159 :: t160 :: t161 :: t162 :: t163 :: t164 :: t165 :: t166 :: t167 :: t168 :: t169 :: t170 :: t171 :: t172 :: t173 :: t174 :: t175 :: t176 :: t177 :: t178 :: t179 :: t180 :: t181 :: t182 :: t183 :: t184 :: t185 :: t186 :: t187 :: t188 :: t189 :: t190 :: t191 :: []), defers := [] } (W'.setCell ⟨rb, 0, none⟩ (.slice q2 n2 c2))) :
    (Code.region 21 (List.toArray ({ dst := some 156, op := Op.load 27 (Operand.tmp 24), type := 27, pos := "law.go:101", after := #[], guard := none } :: { dst := some 157, op := Op.move (Operand.tmp 23), type := 25, pos := "law.go:101", after := #[], guard := none } :: { dst := some 158, op := Op.move (Operand.tmp 25), type := 25, pos := "law.go:101", after := #[], guard := none } :: { dst := some 159, op := Op.call { callee := Callee.value (Operand.func 17), args := #[Operand.tmp 157, Operand.tmp 158], argTypes := #[25, 25] }, type := 4, pos := "law.go:101", after := #[{ on := 1, ground := Ground.data }, { on := 2, ground := Ground.data }], guard := none } :: { dst := none, op := Op.store 27 (Operand.tmp 6) (Operand.tmp 156), type := 0, pos := "law.go:101", after := #[{ on := 0, ground := Ground.data }, { on := 3, ground := Ground.chain }, { on := 0, ground := Ground.phase }, { on := 1, ground := Ground.textOnly Departure.lateStores }, { on := 2, ground := Ground.textOnly Departure.lateStores }, { on := 3, ground := Ground.textOnly Departure.lateStoresUnsure }], guard := none } :: { dst := some 7, op := Op.assign (Operand.tmp 159), type := 4, pos := "law.go:101", after := #[{ on := 3, ground := Ground.data }, { on := 4, ground := Ground.chain }, { on := 0, ground := Ground.phase }, { on := 1, ground := Ground.phase }, { on := 2, ground := Ground.phase }, { on := 3, ground := Ground.phase }, { on := 4, ground := Ground.phase }], guard := none } :: [])) true).wp Try.prog Q { tmps := List.toArray (t0 :: t1 :: t2 :: t3 :: t4 :: t5 :: (.pointer (some ⟨rb, 0, none⟩)) :: t7 :: t8 :: t9 :: t10 :: t11 :: t12 :: t13 :: t14 :: t15 :: t16 :: t17 :: t18 :: t19 :: t20 :: t21 :: t22 :: (.slice p1 m1 d1) :: (.pointer (some ⟨zb, 0, none⟩)) :: (.slice p2 m2 d2) :: t26 :: t27 :: t28 :: t29 :: t30 :: t31 :: t32 :: t33 :: t34 :: t35 :: t36 :: t37 :: t38 :: t39 :: t40 :: t41 :: t42 :: t43 :: t44 :: t45 :: t46 :: t47 :: t48 :: t49 :: t50 :: t51 :: t52 :: t53 :: t54 :: t55 :: t56 :: t57 :: t58 :: t59 :: t60 :: t61 :: t62 :: t63 :: t64 :: t65 :: t66 :: t67 :: t68 :: t69 :: t70 :: t71 :: t72 :: t73 :: t74 :: t75 :: t76 :: t77 :: t78 :: t79 :: t80 :: t81 :: t82 :: t83 :: t84 :: t85 :: t86 :: t87 :: t88 :: t89 :: t90 :: t91 :: t92 :: t93 :: t94 :: t95 :: t96 :: t97 :: t98 :: t99 :: t100 :: t101 :: t102 :: t103 :: t104 :: t105 :: t106 :: t107 :: t108 :: t109 :: t110 :: t111 :: t112 :: t113 :: t114 :: t115 :: t116 :: t117 :: t118 :: t119 :: t120 :: t121 :: t122 :: t123 :: t124 :: t125 :: t126 :: t127 :: t128 :: t129 :: t130 :: t131 :: t132 :: t133 :: t134 :: t135 :: t136 :: t137 :: t138 :: t139 :: t140 :: t141 :: t142 :: t143 :: t144 :: t145 :: t146 :: t147 :: t148 :: t149 :: t150 :: t151 :: t152 :: t153 :: t154 :: t155 :: t156 :: t157 :: t158 :: t159 :: t160 :: t161 :: t162 :: t163 :: t164 :: t165 :: t166 :: t167 :: t168 :: t169 :: t170 :: t171 :: t172 :: t173 :: t174 :: t175 :: t176 :: t177 :: t178 :: t179 :: t180 :: t181 :: t182 :: t183 :: t184 :: t185 :: t186 :: t187 :: t188 :: t189 :: t190 :: t191 :: []), defers := [] } wr := by
  have HC := hid hC
  have hH := hid h
  clear h hC
  refine wp_region_noPanic ?_
  refine wp_region_held_drew (S := (fun w' => w'.cell? ⟨zb, 0, none⟩ = some (.slice q2 n2 c2))) (by kernel_rfl) ?_ (fun hHeld => ?_)
  · exact hS0
  refine wpAnyH_take (i := 0) (oi := { dst := some 156, op := Op.load 27 (Operand.tmp 24), type := 27, pos := "law.go:101", after := #[], guard := none }) (v := ?_) rfl (by kernel_rfl) (by kernel_rfl) (by kernel_rfl) (fun _ _ _ h => h) (Or.inl ⟨by rfl, ?_⟩) (by assumption) ?_
  rotate_left
  · intro w hSw
    try dsimp only at hSw
    go_simp
    try with_reducible rfl
  try simp only [Act.put, List.setIfInBounds_toArray, List.set_cons_zero, List.set_cons_succ]
  refine wpAnyH_take (i := 1) (oi := { dst := some 157, op := Op.move (Operand.tmp 23), type := 25, pos := "law.go:101", after := #[], guard := none }) (v := ?_) rfl (by kernel_rfl) (by kernel_rfl) (by kernel_rfl) (fun _ _ _ h => h) (Or.inl ⟨by rfl, ?_⟩) (by assumption) ?_
  rotate_left
  · intro w hSw
    try dsimp only at hSw
    go_simp
    try with_reducible rfl
  try simp only [Act.put, List.setIfInBounds_toArray, List.set_cons_zero, List.set_cons_succ]
  refine wpAnyH_take (i := 2) (oi := { dst := some 158, op := Op.move (Operand.tmp 25), type := 25, pos := "law.go:101", after := #[], guard := none }) (v := ?_) rfl (by kernel_rfl) (by kernel_rfl) (by kernel_rfl) (fun _ _ _ h => h) (Or.inl ⟨by rfl, ?_⟩) (by assumption) ?_
  rotate_left
  · intro w hSw
    try dsimp only at hSw
    go_simp
    try with_reducible rfl
  try simp only [Act.put, List.setIfInBounds_toArray, List.set_cons_zero, List.set_cons_succ]
  refine wpAnyH_ready (rs := [3]) (by kernel_rfl) (by simp) ?_
  refine AllReadyH.cons (o := { dst := some 159, op := Op.call { callee := Callee.value (Operand.func 17), args := #[Operand.tmp 157, Operand.tmp 158], argTypes := #[25, 25] }, type := 4, pos := "law.go:101", after := #[{ on := 1, ground := Ground.data }, { on := 2, ground := Ground.data }], guard := none }) rfl (fun K hK => ?_) AllReadyH.nil
  go_simp
  go_at_call 17
  refine HC.out.mono ?_
  rintro e w6 ⟨rfl, g6, s6, r6, f6, v6⟩
  have G6 := hid g6
  clear g6
  go_wp2_with fail
  refine hK.out _ _ ?_ (fun hHeld => ?_)
  · exact s6
  clear hK K
  try simp only [Act.put, List.setIfInBounds_toArray, List.set_cons_zero, List.set_cons_succ]
  refine wpAnyH_ready (rs := [4]) (by kernel_rfl) (by simp) ?_
  refine AllReadyH.cons (o := { dst := none, op := Op.store 27 (Operand.tmp 6) (Operand.tmp 156), type := 0, pos := "law.go:101", after := #[{ on := 0, ground := Ground.data }, { on := 3, ground := Ground.chain }, { on := 0, ground := Ground.phase }, { on := 1, ground := Ground.textOnly Departure.lateStores }, { on := 2, ground := Ground.textOnly Departure.lateStores }, { on := 3, ground := Ground.textOnly Departure.lateStoresUnsure }], guard := none }) rfl (fun K hK => ?_) AllReadyH.nil
  go_simp
  refine hK.out _ _ ?_ (fun hHeld => ?_)
  · exact v6
  clear hK K
  try simp only [Act.put, List.setIfInBounds_toArray, List.set_cons_zero, List.set_cons_succ]
  refine wpAnyH_take (i := 5) (oi := { dst := some 7, op := Op.assign (Operand.tmp 159), type := 4, pos := "law.go:101", after := #[{ on := 3, ground := Ground.data }, { on := 4, ground := Ground.chain }, { on := 0, ground := Ground.phase }, { on := 1, ground := Ground.phase }, { on := 2, ground := Ground.phase }, { on := 3, ground := Ground.phase }, { on := 4, ground := Ground.phase }], guard := none }) (v := ?_) rfl (by kernel_rfl) (by kernel_rfl) (by kernel_rfl) (fun _ _ _ h => h) (Or.inl ⟨by rfl, ?_⟩) (by assumption) ?_
  rotate_left
  · intro w hSw
    try dsimp only at hSw
    go_simp
    try with_reducible rfl
  try simp only [Act.put, List.setIfInBounds_toArray, List.set_cons_zero, List.set_cons_succ]
  refine wpAnyH_done (by kernel_rfl) ?_ _
  refine NoPanic.normal ?_
  exact hH.out _ _ _ _ _ G6.out
set_option maxRecDepth 100000 in
set_option maxHeartbeats 32000000 in
theorem pl17 {Q : Exit → Act → World → Prop} {wr : World} {rb zb n2 c2 m1 d1 m2 d2 : Nat} {q2 p1 p2 : Option Addr} {E : Int} {G : World → Prop} {t0 t1 t2 t3 t4 t5 t7 t8 t9 t10 t11 t12 t13 t14 t15 t16 t17 t23 t24 t25 t26 t27 t28 t29 t30 t31 t32 t33 t34 t35 t36 t37 t38 t39 t40 t41 t42 t43 t44 t45 t46 t47 t48 t49 t50 t51 t52 t53 t54 t55 t56 t57 t58 t59 t60 t61 t62 t63 t64 t65 t66 t67 t68 t69 t70 t71 t72 t73 t74 t75 t76 t77 t78 t79 t80 t81 t82 t83 t84 t85 t86 t87 t88 t89 t90 t91 t92 t93 t94 t95 t96 t97 t98 t99 t100 t101 t102 t103 t104 t105 t106 t107 t108 t109 t110 t111 t112 t113 t114 t115 t116 t117 t118 t119 t120 t121 t122 t123 t124 t125 t126 t127 t128 t129 t130 t131 t132 t133 t134 t135 t136 t137 t138 t139 t140 t141 t142 t143 t144 t145 t146 t147 t148 t149 t150 t151 t152 t153 t154 t155 t156 t157 t158 t159 t160 t161 t162 t163 t164 t165 t166 t167 t168 t169 t170 t171 t172 t173 t174 t175 t176 t177 t178 t179 t180 t181 t182 t183 t184 t185 t186 t187 t188 t189 t190 t191 : Value} (hS0 : (fun w' => w'.cell? ⟨zb, 0, none⟩ = some (.slice q2 n2 c2)) wr.drew)
    (hC : Calls Try.prog 17 #[.slice p1 m1 d1, .slice p2 m2 d2] wr.drew fun e w' => e = .returned (.bool true) ∧ G w' ∧ (fun w' => w'.cell? ⟨zb, 0, none⟩ = some (.slice q2 n2 c2)) w' ∧ w'.cell? ⟨rb, 0, none⟩ = some (.slice none 0 0) ∧ w'.frozen? ⟨rb, 0, none⟩ = false ∧ (fun w' => w'.cell? ⟨zb, 0, none⟩ = some (.slice q2 n2 c2)) (w'.setCell ⟨rb, 0, none⟩ (.slice q2 n2 c2)))
    (h : ∀ (W' : World) (x132 x133 x134 x135 x136 x137 x138 x139 x140 : Value), G W' → Q .normal { tmps := List.toArray (t0 :: t1 :: t2 :: t3 :: t4 :: t5 :: (.pointer (some ⟨rb, 0, none⟩)) :: (.bool true) :: t8 :: t9 :: t10 :: t11 :: t12 :: t13 :: t14 :: t15 :: t16 :: t17 :: (.slice p1 m1 d1) :: (.int .i64 E) :: (.pointer (some ⟨zb, 0, none⟩)) :: (.slice p2 m2 d2) :: (.int .i64 E) :: t23 :: t24 :: t25 :: t26 :: t27 :: t28 :: t29 :: t30 :: t31 :: t32 :: t33 :: t34 :: t35 :: t36 :: t37 :: t38 :: t39 :: t40 :: t41 :: t42 :: t43 :: t44 :: t45 :: t46 :: t47 :: t48 :: t49 :: t50 :: t51 :: t52 :: t53 :: t54 :: t55 :: t56 :: t57 :: t58 :: t59 :: t60 :: t61 :: t62 :: t63 :: t64 :: t65 :: t66 :: t67 :: t68 :: t69 :: t70 :: t71 :: t72 :: t73 :: t74 :: t75 :: t76 :: t77 :: t78 :: t79 :: t80 :: t81 :: t82 :: t83 :: t84 :: t85 :: t86 :: t87 :: t88 :: t89 :: t90 :: t91 :: t92 :: t93 :: t94 :: t95 :: t96 :: t97 :: t98 :: t99 :: t100 :: t101 :: t102 :: t103 :: t104 :: t105 :: t106 :: t107 :: t108 :: t109 :: t110 :: t111 :: t112 :: t113 :: t114 :: t115 :: t116 :: t117 :: t118 :: t119 :: t120 :: t121 :: t122 :: t123 :: t124 :: t125 :: t126 :: t127 :: t128 :: t129 :: t130 :: t131 :: x132 :: x133 :: x134 :: x135 :: x136 :: x137 :: x138 :: x139 :: x140 :: t141 :: t142 :: t143 :: t144 :: t145 :: t146 :: t147 :: t148 :: t149 :: t150 :: t151 :: t152 :: t153 :: t154 :: t155 :: t156 :: t157 :: t158 :: t159 :: t160 :: t161 :: t162 :: t163 :: t164 :: t165 :: t166 :: t167 :: t168 :: t169 :: t170 :: t171 :: t172 :: t173 :: t174 :: t175 :: t176 :: t177 :: t178 :: t179 :: t180 :: t181 :: t182 :: t183 :: t184 :: t185 :: t186 :: t187 :: t188 :: t189 :: t190 :: t191 :: []), defers := [] } (W'.setCell ⟨rb, 0, none⟩ (.slice q2 n2 c2))) :
    (Code.region 17 (List.toArray ({ dst := some 132, op := Op.load 27 (Operand.tmp 20), type := 27, pos := "law.go:97", after := #[], guard := none } :: { dst := some 133, op := Op.move (Operand.tmp 18), type := 25, pos := "law.go:97", after := #[], guard := none } :: { dst := some 134, op := Op.move (Operand.tmp 21), type := 25, pos := "law.go:97", after := #[], guard := none } :: { dst := some 135, op := Op.call { callee := Callee.value (Operand.func 17), args := #[Operand.tmp 133, Operand.tmp 134], argTypes := #[25, 25] }, type := 4, pos := "law.go:97", after := #[{ on := 1, ground := Ground.data }, { on := 2, ground := Ground.data }], guard := none } :: { dst := some 136, op := Op.move (Operand.tmp 135), type := 4, pos := "law.go:97", after := #[{ on := 3, ground := Ground.data }, { on := 3, ground := Ground.chain }], guard := none } :: { dst := some 137, op := Op.move (Operand.tmp 19), type := 34, pos := "law.go:97", after := #[{ on := 4, ground := Ground.guard }, { on := 9, ground := Ground.gcOnly Departure.lateStores }], guard := some (4, true) } :: { dst := some 138, op := Op.move (Operand.tmp 22), type := 34, pos := "law.go:97", after := #[{ on := 4, ground := Ground.guard }, { on := 9, ground := Ground.gcOnly Departure.lateStores }], guard := some (4, true) } :: { dst := some 139, op := Op.binOp BinOp.eql 34 (Operand.tmp 137) (Operand.tmp 138) 34, type := 4, pos := "law.go:97", after := #[{ on := 5, ground := Ground.data }, { on := 6, ground := Ground.data }, { on := 4, ground := Ground.guard }, { on := 9, ground := Ground.gcOnly Departure.lateStores }], guard := some (4, true) } :: { dst := some 140, op := Op.pick (Operand.tmp 136) (Operand.tmp 139) (Operand.const (Value.bool false)), type := 4, pos := "law.go:97", after := #[{ on := 4, ground := Ground.data }, { on := 7, ground := Ground.data }, { on := 9, ground := Ground.gcOnly Departure.lateStores }], guard := none } :: { dst := none, op := Op.store 27 (Operand.tmp 6) (Operand.tmp 132), type := 0, pos := "law.go:97", after := #[{ on := 0, ground := Ground.data }, { on := 4, ground := Ground.chain }, { on := 0, ground := Ground.phase }, { on := 1, ground := Ground.textOnly Departure.lateStores }, { on := 2, ground := Ground.textOnly Departure.lateStores }, { on := 3, ground := Ground.textOnly Departure.lateStoresUnsure }, { on := 4, ground := Ground.textOnly Departure.lateStores }, { on := 5, ground := Ground.textOnly Departure.lateStores }, { on := 6, ground := Ground.textOnly Departure.lateStores }, { on := 7, ground := Ground.textOnly Departure.lateStores }, { on := 8, ground := Ground.textOnly Departure.lateStores }], guard := none } :: { dst := some 7, op := Op.assign (Operand.tmp 140), type := 4, pos := "law.go:97", after := #[{ on := 8, ground := Ground.data }, { on := 9, ground := Ground.chain }, { on := 0, ground := Ground.phase }, { on := 1, ground := Ground.phase }, { on := 2, ground := Ground.phase }, { on := 3, ground := Ground.phase }, { on := 4, ground := Ground.phase }, { on := 5, ground := Ground.phase }, { on := 6, ground := Ground.phase }, { on := 7, ground := Ground.phase }, { on := 8, ground := Ground.phase }, { on := 9, ground := Ground.phase }], guard := none } :: [])) true).wp Try.prog Q { tmps := List.toArray (t0 :: t1 :: t2 :: t3 :: t4 :: t5 :: (.pointer (some ⟨rb, 0, none⟩)) :: t7 :: t8 :: t9 :: t10 :: t11 :: t12 :: t13 :: t14 :: t15 :: t16 :: t17 :: (.slice p1 m1 d1) :: (.int .i64 E) :: (.pointer (some ⟨zb, 0, none⟩)) :: (.slice p2 m2 d2) :: (.int .i64 E) :: t23 :: t24 :: t25 :: t26 :: t27 :: t28 :: t29 :: t30 :: t31 :: t32 :: t33 :: t34 :: t35 :: t36 :: t37 :: t38 :: t39 :: t40 :: t41 :: t42 :: t43 :: t44 :: t45 :: t46 :: t47 :: t48 :: t49 :: t50 :: t51 :: t52 :: t53 :: t54 :: t55 :: t56 :: t57 :: t58 :: t59 :: t60 :: t61 :: t62 :: t63 :: t64 :: t65 :: t66 :: t67 :: t68 :: t69 :: t70 :: t71 :: t72 :: t73 :: t74 :: t75 :: t76 :: t77 :: t78 :: t79 :: t80 :: t81 :: t82 :: t83 :: t84 :: t85 :: t86 :: t87 :: t88 :: t89 :: t90 :: t91 :: t92 :: t93 :: t94 :: t95 :: t96 :: t97 :: t98 :: t99 :: t100 :: t101 :: t102 :: t103 :: t104 :: t105 :: t106 :: t107 :: t108 :: t109 :: t110 :: t111 :: t112 :: t113 :: t114 :: t115 :: t116 :: t117 :: t118 :: t119 :: t120 :: t121 :: t122 :: t123 :: t124 :: t125 :: t126 :: t127 :: t128 :: t129 :: t130 :: t131 :: t132 :: t133 :: t134 :: t135 :: t136 :: t137 :: t138 :: t139 :: t140 :: t141 :: t142 :: t143 :: t144 :: t145 :: t146 :: t147 :: t148 :: t149 :: t150 :: t151 :: t152 :: t153 :: t154 :: t155 :: t156 :: t157 :: t158 :: t159 :: t160 :: t161 :: t162 :: t163 :: t164 :: t165 :: t166 :: t167 :: t168 :: t169 :: t170 :: t171 :: t172 :: t173 :: t174 :: t175 :: t176 :: t177 :: t178 :: t179 :: t180 :: t181 :: t182 :: t183 :: t184 :: t185 :: t186 :: t187 :: t188 :: t189 :: t190 :: t191 :: []), defers := [] } wr := by
  have HC := hid hC
  have hH := hid h
  clear h hC
  refine wp_region_noPanic ?_
  refine wp_region_held_drew (S := (fun w' => w'.cell? ⟨zb, 0, none⟩ = some (.slice q2 n2 c2))) (by kernel_rfl) ?_ (fun hHeld => ?_)
  · exact hS0
  refine wpAnyH_take (i := 0) (oi := { dst := some 132, op := Op.load 27 (Operand.tmp 20), type := 27, pos := "law.go:97", after := #[], guard := none }) (v := ?_) rfl (by kernel_rfl) (by kernel_rfl) (by kernel_rfl) (fun _ _ _ h => h) (Or.inl ⟨by rfl, ?_⟩) (by assumption) ?_
  rotate_left
  · intro w hSw
    try dsimp only at hSw
    go_simp
    try with_reducible rfl
  try simp only [Act.put, List.setIfInBounds_toArray, List.set_cons_zero, List.set_cons_succ]
  refine wpAnyH_take (i := 1) (oi := { dst := some 133, op := Op.move (Operand.tmp 18), type := 25, pos := "law.go:97", after := #[], guard := none }) (v := ?_) rfl (by kernel_rfl) (by kernel_rfl) (by kernel_rfl) (fun _ _ _ h => h) (Or.inl ⟨by rfl, ?_⟩) (by assumption) ?_
  rotate_left
  · intro w hSw
    try dsimp only at hSw
    go_simp
    try with_reducible rfl
  try simp only [Act.put, List.setIfInBounds_toArray, List.set_cons_zero, List.set_cons_succ]
  refine wpAnyH_take (i := 2) (oi := { dst := some 134, op := Op.move (Operand.tmp 21), type := 25, pos := "law.go:97", after := #[], guard := none }) (v := ?_) rfl (by kernel_rfl) (by kernel_rfl) (by kernel_rfl) (fun _ _ _ h => h) (Or.inl ⟨by rfl, ?_⟩) (by assumption) ?_
  rotate_left
  · intro w hSw
    try dsimp only at hSw
    go_simp
    try with_reducible rfl
  try simp only [Act.put, List.setIfInBounds_toArray, List.set_cons_zero, List.set_cons_succ]
  refine wpAnyH_ready (rs := [3]) (by kernel_rfl) (by simp) ?_
  refine AllReadyH.cons (o := { dst := some 135, op := Op.call { callee := Callee.value (Operand.func 17), args := #[Operand.tmp 133, Operand.tmp 134], argTypes := #[25, 25] }, type := 4, pos := "law.go:97", after := #[{ on := 1, ground := Ground.data }, { on := 2, ground := Ground.data }], guard := none }) rfl (fun K hK => ?_) AllReadyH.nil
  go_simp
  go_at_call 17
  refine HC.out.mono ?_
  rintro e w6 ⟨rfl, g6, s6, r6, f6, v6⟩
  have G6 := hid g6
  clear g6
  go_wp2_with fail
  refine hK.out _ _ ?_ (fun hHeld => ?_)
  · exact s6
  clear hK K
  try simp only [Act.put, List.setIfInBounds_toArray, List.set_cons_zero, List.set_cons_succ]
  refine wpAnyH_take (i := 4) (oi := { dst := some 136, op := Op.move (Operand.tmp 135), type := 4, pos := "law.go:97", after := #[{ on := 3, ground := Ground.data }, { on := 3, ground := Ground.chain }], guard := none }) (v := ?_) rfl (by kernel_rfl) (by kernel_rfl) (by kernel_rfl) (fun _ _ _ h => h) (Or.inl ⟨by rfl, ?_⟩) (by assumption) ?_
  rotate_left
  · intro w hSw
    try dsimp only at hSw
    go_simp
    try with_reducible rfl
  try simp only [Act.put, List.setIfInBounds_toArray, List.set_cons_zero, List.set_cons_succ]
  refine wpAnyH_take (i := 5) (oi := { dst := some 137, op := Op.move (Operand.tmp 19), type := 34, pos := "law.go:97", after := #[{ on := 4, ground := Ground.guard }, { on := 9, ground := Ground.gcOnly Departure.lateStores }], guard := some (4, true) }) (v := ?_) rfl (by kernel_rfl) (by kernel_rfl) (by kernel_rfl) (fun _ _ _ h => h) (Or.inl ⟨by rfl, ?_⟩) (by assumption) ?_
  rotate_left
  · intro w hSw
    try dsimp only at hSw
    go_simp
    try with_reducible rfl
  try simp only [Act.put, List.setIfInBounds_toArray, List.set_cons_zero, List.set_cons_succ]
  refine wpAnyH_take (i := 6) (oi := { dst := some 138, op := Op.move (Operand.tmp 22), type := 34, pos := "law.go:97", after := #[{ on := 4, ground := Ground.guard }, { on := 9, ground := Ground.gcOnly Departure.lateStores }], guard := some (4, true) }) (v := ?_) rfl (by kernel_rfl) (by kernel_rfl) (by kernel_rfl) (fun _ _ _ h => h) (Or.inl ⟨by rfl, ?_⟩) (by assumption) ?_
  rotate_left
  · intro w hSw
    try dsimp only at hSw
    go_simp
    try with_reducible rfl
  try simp only [Act.put, List.setIfInBounds_toArray, List.set_cons_zero, List.set_cons_succ]
  refine wpAnyH_take (i := 7) (oi := { dst := some 139, op := Op.binOp BinOp.eql 34 (Operand.tmp 137) (Operand.tmp 138) 34, type := 4, pos := "law.go:97", after := #[{ on := 5, ground := Ground.data }, { on := 6, ground := Ground.data }, { on := 4, ground := Ground.guard }, { on := 9, ground := Ground.gcOnly Departure.lateStores }], guard := some (4, true) }) (v := ?_) rfl (by kernel_rfl) (by kernel_rfl) (by kernel_rfl) (fun _ _ _ h => h) (Or.inl ⟨by rfl, ?_⟩) (by assumption) ?_
  rotate_left
  · intro w hSw
    try dsimp only at hSw
    go_simp
    try with_reducible rfl
  try simp only [Act.put, List.setIfInBounds_toArray, List.set_cons_zero, List.set_cons_succ]
  refine wpAnyH_take (i := 8) (oi := { dst := some 140, op := Op.pick (Operand.tmp 136) (Operand.tmp 139) (Operand.const (Value.bool false)), type := 4, pos := "law.go:97", after := #[{ on := 4, ground := Ground.data }, { on := 7, ground := Ground.data }, { on := 9, ground := Ground.gcOnly Departure.lateStores }], guard := none }) (v := ?_) rfl (by kernel_rfl) (by kernel_rfl) (by kernel_rfl) (fun _ _ _ h => h) (Or.inl ⟨by rfl, ?_⟩) (by assumption) ?_
  rotate_left
  · intro w hSw
    try dsimp only at hSw
    go_simp
    try with_reducible rfl
  try simp only [Act.put, List.setIfInBounds_toArray, List.set_cons_zero, List.set_cons_succ]
  refine wpAnyH_ready (rs := [9]) (by kernel_rfl) (by simp) ?_
  refine AllReadyH.cons (o := { dst := none, op := Op.store 27 (Operand.tmp 6) (Operand.tmp 132), type := 0, pos := "law.go:97", after := #[{ on := 0, ground := Ground.data }, { on := 4, ground := Ground.chain }, { on := 0, ground := Ground.phase }, { on := 1, ground := Ground.textOnly Departure.lateStores }, { on := 2, ground := Ground.textOnly Departure.lateStores }, { on := 3, ground := Ground.textOnly Departure.lateStoresUnsure }, { on := 4, ground := Ground.textOnly Departure.lateStores }, { on := 5, ground := Ground.textOnly Departure.lateStores }, { on := 6, ground := Ground.textOnly Departure.lateStores }, { on := 7, ground := Ground.textOnly Departure.lateStores }, { on := 8, ground := Ground.textOnly Departure.lateStores }], guard := none }) rfl (fun K hK => ?_) AllReadyH.nil
  go_simp
  refine hK.out _ _ ?_ (fun hHeld => ?_)
  · exact v6
  clear hK K
  try simp only [Act.put, List.setIfInBounds_toArray, List.set_cons_zero, List.set_cons_succ]
  refine wpAnyH_take (i := 10) (oi := { dst := some 7, op := Op.assign (Operand.tmp 140), type := 4, pos := "law.go:97", after := #[{ on := 8, ground := Ground.data }, { on := 9, ground := Ground.chain }, { on := 0, ground := Ground.phase }, { on := 1, ground := Ground.phase }, { on := 2, ground := Ground.phase }, { on := 3, ground := Ground.phase }, { on := 4, ground := Ground.phase }, { on := 5, ground := Ground.phase }, { on := 6, ground := Ground.phase }, { on := 7, ground := Ground.phase }, { on := 8, ground := Ground.phase }, { on := 9, ground := Ground.phase }], guard := none }) (v := ?_) rfl (by kernel_rfl) (by kernel_rfl) (by kernel_rfl) (fun _ _ _ h => h) (Or.inl ⟨by rfl, ?_⟩) (by assumption) ?_
  rotate_left
  · intro w hSw
    try dsimp only at hSw
    go_simp
    try with_reducible rfl
  try simp only [Act.put, List.setIfInBounds_toArray, List.set_cons_zero, List.set_cons_succ]
  refine wpAnyH_done (by kernel_rfl) ?_ _
  refine NoPanic.normal ?_
  exact hH.out _ _ _ _ _ _ _ _ _ _ G6.out
set_option maxRecDepth 100000 in
set_option maxHeartbeats 32000000 in
theorem pl9 {Q : Exit → Act → World → Prop} {wr : World} {rb zb w1 w2 n2 c2 : Nat} {q2 : Option Addr} {tk kd E : Int} {ky tok : ByteArray}  {t0 t1 t2 t3 t4 t5 t7 t8 t9 t15 t16 t17 t18 t19 t20 t21 t22 t23 t24 t25 t26 t27 t28 t29 t30 t31 t32 t33 t34 t35 t36 t37 t38 t39 t40 t41 t42 t43 t44 t45 t46 t47 t48 t49 t50 t51 t52 t53 t54 t55 t56 t57 t58 t59 t60 t61 t62 t63 t64 t65 t66 t67 t68 t69 t70 t71 t72 t73 t74 t75 t76 t77 t78 t79 t80 t81 t82 t83 t84 t85 t86 t87 t88 t89 t90 t91 t92 t93 t94 t95 t96 t97 t98 t99 t100 t101 t102 t103 t104 t105 t106 t107 t108 t109 t110 t111 t112 t113 t114 t115 t116 t117 t118 t119 t120 t121 t122 t123 t124 t125 t126 t127 t128 t129 t130 t131 t132 t133 t134 t135 t136 t137 t138 t139 t140 t141 t142 t143 t144 t145 t146 t147 t148 t149 t150 t151 t152 t153 t154 t155 t156 t157 t158 t159 t160 t161 t162 t163 t164 t165 t166 t167 t168 t169 t170 t171 t172 t173 t174 t175 t176 t177 t178 t179 t180 t181 t182 t183 t184 t185 t186 t187 t188 t189 t190 t191 : Value} (hS0 : (fun w' => w'.cell? ⟨zb, 0, none⟩ = some (.slice q2 n2 c2) ∧ w'.cell? ⟨w1, 0, none⟩ = some (.int .i64 tk) ∧ w'.cell? ⟨w1, 1, none⟩ = some (.int .i64 kd) ∧ w'.cell? ⟨w1, 2, none⟩ = some (.string ky) ∧ w'.cell? ⟨w1, 3, none⟩ = some (.string tok) ∧ w'.cell? ⟨w2, 0, none⟩ = some (.int .i64 tk) ∧ w'.cell? ⟨w2, 1, none⟩ = some (.int .i64 kd) ∧ w'.cell? ⟨w2, 2, none⟩ = some (.string ky) ∧ w'.cell? ⟨w2, 3, none⟩ = some (.string tok)) wr.drew) (r6 : wr.cell? ⟨rb, 0, none⟩ = some (.slice none 0 0)) (f6 : wr.frozen? ⟨rb, 0, none⟩ = false) (v6 : (fun w' => w'.cell? ⟨zb, 0, none⟩ = some (.slice q2 n2 c2) ∧ w'.cell? ⟨w1, 0, none⟩ = some (.int .i64 tk) ∧ w'.cell? ⟨w1, 1, none⟩ = some (.int .i64 kd) ∧ w'.cell? ⟨w1, 2, none⟩ = some (.string ky) ∧ w'.cell? ⟨w1, 3, none⟩ = some (.string tok) ∧ w'.cell? ⟨w2, 0, none⟩ = some (.int .i64 tk) ∧ w'.cell? ⟨w2, 1, none⟩ = some (.int .i64 kd) ∧ w'.cell? ⟨w2, 2, none⟩ = some (.string ky) ∧ w'.cell? ⟨w2, 3, none⟩ = some (.string tok)) (wr.setCell ⟨rb, 0, none⟩ (.slice q2 n2 c2)).drew)
    (h : ∀ (x81 x82 x83 x84 x85 x86 x87 x88 x89 : Value), Q .normal { tmps := List.toArray (t0 :: t1 :: t2 :: t3 :: t4 :: t5 :: (.pointer (some ⟨rb, 0, none⟩)) :: (.bool true) :: t8 :: t9 :: (.pointer (some ⟨w1, 0, none⟩)) :: (.int .i64 E) :: (.pointer (some ⟨zb, 0, none⟩)) :: (.pointer (some ⟨w2, 0, none⟩)) :: (.int .i64 E) :: t15 :: t16 :: t17 :: t18 :: t19 :: t20 :: t21 :: t22 :: t23 :: t24 :: t25 :: t26 :: t27 :: t28 :: t29 :: t30 :: t31 :: t32 :: t33 :: t34 :: t35 :: t36 :: t37 :: t38 :: t39 :: t40 :: t41 :: t42 :: t43 :: t44 :: t45 :: t46 :: t47 :: t48 :: t49 :: t50 :: t51 :: t52 :: t53 :: t54 :: t55 :: t56 :: t57 :: t58 :: t59 :: t60 :: t61 :: t62 :: t63 :: t64 :: t65 :: t66 :: t67 :: t68 :: t69 :: t70 :: t71 :: t72 :: t73 :: t74 :: t75 :: t76 :: t77 :: t78 :: t79 :: t80 :: x81 :: x82 :: x83 :: x84 :: x85 :: x86 :: x87 :: x88 :: x89 :: t90 :: t91 :: t92 :: t93 :: t94 :: t95 :: t96 :: t97 :: t98 :: t99 :: t100 :: t101 :: t102 :: t103 :: t104 :: t105 :: t106 :: t107 :: t108 :: t109 :: t110 :: t111 :: t112 :: t113 :: t114 :: t115 :: t116 :: t117 :: t118 :: t119 :: t120 :: t121 :: t122 :: t123 :: t124 :: t125 :: t126 :: t127 :: t128 :: t129 :: t130 :: t131 :: t132 :: t133 :: t134 :: t135 :: t136 :: t137 :: t138 :: t139 :: t140 :: t141 :: t142 :: t143 :: t144 :: t145 :: t146 :: t147 :: t148 :: t149 :: t150 :: t151 :: t152 :: t153 :: t154 :: t155 :: t156 :: t157 :: t158 :: t159 :: t160 :: t161 :: t162 :: t163 :: t164 :: t165 :: t166 :: t167 :: t168 :: t169 :: t170 :: t171 :: t172 :: t173 :: t174 :: t175 :: t176 :: t177 :: t178 :: t179 :: t180 :: t181 :: t182 :: t183 :: t184 :: t185 :: t186 :: t187 :: t188 :: t189 :: t190 :: t191 :: []), defers := [] } (wr.setCell ⟨rb, 0, none⟩ (.slice q2 n2 c2)).drew) :
    (Code.region 9 (List.toArray ({ dst := some 81, op := Op.load 27 (Operand.tmp 12), type := 27, pos := "law.go:89", after := #[], guard := none } :: { dst := some 82, op := Op.load 30 (Operand.tmp 10), type := 30, pos := "law.go:89", after := #[], guard := none } :: { dst := some 83, op := Op.load 30 (Operand.tmp 13), type := 30, pos := "law.go:89", after := #[], guard := none } :: { dst := some 84, op := Op.binOp BinOp.eql 30 (Operand.tmp 82) (Operand.tmp 83) 30, type := 4, pos := "law.go:89", after := #[{ on := 1, ground := Ground.data }, { on := 2, ground := Ground.data }], guard := none } :: { dst := some 85, op := Op.move (Operand.tmp 84), type := 4, pos := "law.go:89", after := #[{ on := 3, ground := Ground.data }], guard := none } :: { dst := some 86, op := Op.move (Operand.tmp 11), type := 34, pos := "law.go:89", after := #[{ on := 4, ground := Ground.guard }, { on := 9, ground := Ground.gcOnly Departure.lateStores }], guard := some (4, true) } :: { dst := some 87, op := Op.move (Operand.tmp 14), type := 34, pos := "law.go:89", after := #[{ on := 4, ground := Ground.guard }, { on := 9, ground := Ground.gcOnly Departure.lateStores }], guard := some (4, true) } :: { dst := some 88, op := Op.binOp BinOp.eql 34 (Operand.tmp 86) (Operand.tmp 87) 34, type := 4, pos := "law.go:89", after := #[{ on := 5, ground := Ground.data }, { on := 6, ground := Ground.data }, { on := 4, ground := Ground.guard }, { on := 9, ground := Ground.gcOnly Departure.lateStores }], guard := some (4, true) } :: { dst := some 89, op := Op.pick (Operand.tmp 85) (Operand.tmp 88) (Operand.const (Value.bool false)), type := 4, pos := "law.go:89", after := #[{ on := 4, ground := Ground.data }, { on := 7, ground := Ground.data }, { on := 9, ground := Ground.gcOnly Departure.lateStores }], guard := none } :: { dst := none, op := Op.store 27 (Operand.tmp 6) (Operand.tmp 81), type := 0, pos := "law.go:89", after := #[{ on := 0, ground := Ground.data }, { on := 4, ground := Ground.chain }, { on := 0, ground := Ground.phase }, { on := 1, ground := Ground.textOnly Departure.lateStores }, { on := 2, ground := Ground.textOnly Departure.lateStores }, { on := 3, ground := Ground.textOnly Departure.lateStores }, { on := 4, ground := Ground.textOnly Departure.lateStores }, { on := 5, ground := Ground.textOnly Departure.lateStores }, { on := 6, ground := Ground.textOnly Departure.lateStores }, { on := 7, ground := Ground.textOnly Departure.lateStores }, { on := 8, ground := Ground.textOnly Departure.lateStores }], guard := none } :: { dst := some 7, op := Op.assign (Operand.tmp 89), type := 4, pos := "law.go:89", after := #[{ on := 8, ground := Ground.data }, { on := 9, ground := Ground.chain }, { on := 0, ground := Ground.phase }, { on := 1, ground := Ground.phase }, { on := 2, ground := Ground.phase }, { on := 3, ground := Ground.phase }, { on := 4, ground := Ground.phase }, { on := 5, ground := Ground.phase }, { on := 6, ground := Ground.phase }, { on := 7, ground := Ground.phase }, { on := 8, ground := Ground.phase }, { on := 9, ground := Ground.phase }], guard := none } :: [])) true).wp Try.prog Q { tmps := List.toArray (t0 :: t1 :: t2 :: t3 :: t4 :: t5 :: (.pointer (some ⟨rb, 0, none⟩)) :: t7 :: t8 :: t9 :: (.pointer (some ⟨w1, 0, none⟩)) :: (.int .i64 E) :: (.pointer (some ⟨zb, 0, none⟩)) :: (.pointer (some ⟨w2, 0, none⟩)) :: (.int .i64 E) :: t15 :: t16 :: t17 :: t18 :: t19 :: t20 :: t21 :: t22 :: t23 :: t24 :: t25 :: t26 :: t27 :: t28 :: t29 :: t30 :: t31 :: t32 :: t33 :: t34 :: t35 :: t36 :: t37 :: t38 :: t39 :: t40 :: t41 :: t42 :: t43 :: t44 :: t45 :: t46 :: t47 :: t48 :: t49 :: t50 :: t51 :: t52 :: t53 :: t54 :: t55 :: t56 :: t57 :: t58 :: t59 :: t60 :: t61 :: t62 :: t63 :: t64 :: t65 :: t66 :: t67 :: t68 :: t69 :: t70 :: t71 :: t72 :: t73 :: t74 :: t75 :: t76 :: t77 :: t78 :: t79 :: t80 :: t81 :: t82 :: t83 :: t84 :: t85 :: t86 :: t87 :: t88 :: t89 :: t90 :: t91 :: t92 :: t93 :: t94 :: t95 :: t96 :: t97 :: t98 :: t99 :: t100 :: t101 :: t102 :: t103 :: t104 :: t105 :: t106 :: t107 :: t108 :: t109 :: t110 :: t111 :: t112 :: t113 :: t114 :: t115 :: t116 :: t117 :: t118 :: t119 :: t120 :: t121 :: t122 :: t123 :: t124 :: t125 :: t126 :: t127 :: t128 :: t129 :: t130 :: t131 :: t132 :: t133 :: t134 :: t135 :: t136 :: t137 :: t138 :: t139 :: t140 :: t141 :: t142 :: t143 :: t144 :: t145 :: t146 :: t147 :: t148 :: t149 :: t150 :: t151 :: t152 :: t153 :: t154 :: t155 :: t156 :: t157 :: t158 :: t159 :: t160 :: t161 :: t162 :: t163 :: t164 :: t165 :: t166 :: t167 :: t168 :: t169 :: t170 :: t171 :: t172 :: t173 :: t174 :: t175 :: t176 :: t177 :: t178 :: t179 :: t180 :: t181 :: t182 :: t183 :: t184 :: t185 :: t186 :: t187 :: t188 :: t189 :: t190 :: t191 :: []), defers := [] } wr := by
  have hH := hid h
  clear h
  refine wp_region_noPanic ?_
  refine wp_region_held_drew (S := (fun w' => w'.cell? ⟨zb, 0, none⟩ = some (.slice q2 n2 c2) ∧ w'.cell? ⟨w1, 0, none⟩ = some (.int .i64 tk) ∧ w'.cell? ⟨w1, 1, none⟩ = some (.int .i64 kd) ∧ w'.cell? ⟨w1, 2, none⟩ = some (.string ky) ∧ w'.cell? ⟨w1, 3, none⟩ = some (.string tok) ∧ w'.cell? ⟨w2, 0, none⟩ = some (.int .i64 tk) ∧ w'.cell? ⟨w2, 1, none⟩ = some (.int .i64 kd) ∧ w'.cell? ⟨w2, 2, none⟩ = some (.string ky) ∧ w'.cell? ⟨w2, 3, none⟩ = some (.string tok))) (by kernel_rfl) ?_ (fun hHeld => ?_)
  · exact hS0
  refine wpAnyH_take (i := 0) (oi := { dst := some 81, op := Op.load 27 (Operand.tmp 12), type := 27, pos := "law.go:89", after := #[], guard := none }) (v := ?_) rfl (by kernel_rfl) (by kernel_rfl) (by kernel_rfl) (fun _ _ _ h => h) (Or.inl ⟨by rfl, ?_⟩) (by assumption) ?_
  rotate_left
  · intro w hSw
    try dsimp only at hSw
    go_simp
    try with_reducible rfl
  try simp only [Act.put, List.setIfInBounds_toArray, List.set_cons_zero, List.set_cons_succ]
  refine wpAnyH_take (i := 1) (oi := { dst := some 82, op := Op.load 30 (Operand.tmp 10), type := 30, pos := "law.go:89", after := #[], guard := none }) (v := ?_) rfl (by kernel_rfl) (by kernel_rfl) (by kernel_rfl) (fun _ _ _ h => h) (Or.inl ⟨by rfl, ?_⟩) (by assumption) ?_
  rotate_left
  · intro w hSw
    try dsimp only at hSw
    go_simp
    try with_reducible rfl
  try simp only [Act.put, List.setIfInBounds_toArray, List.set_cons_zero, List.set_cons_succ]
  refine wpAnyH_take (i := 2) (oi := { dst := some 83, op := Op.load 30 (Operand.tmp 13), type := 30, pos := "law.go:89", after := #[], guard := none }) (v := ?_) rfl (by kernel_rfl) (by kernel_rfl) (by kernel_rfl) (fun _ _ _ h => h) (Or.inl ⟨by rfl, ?_⟩) (by assumption) ?_
  rotate_left
  · intro w hSw
    try dsimp only at hSw
    go_simp
    try with_reducible rfl
  try simp only [Act.put, List.setIfInBounds_toArray, List.set_cons_zero, List.set_cons_succ]
  refine wpAnyH_take (i := 3) (oi := { dst := some 84, op := Op.binOp BinOp.eql 30 (Operand.tmp 82) (Operand.tmp 83) 30, type := 4, pos := "law.go:89", after := #[{ on := 1, ground := Ground.data }, { on := 2, ground := Ground.data }], guard := none }) (v := ?_) rfl (by kernel_rfl) (by kernel_rfl) (by kernel_rfl) (fun _ _ _ h => h) (Or.inl ⟨by rfl, ?_⟩) (by assumption) ?_
  rotate_left
  · intro w hSw
    try dsimp only at hSw
    go_simp
    try with_reducible rfl
  try simp only [Act.put, List.setIfInBounds_toArray, List.set_cons_zero, List.set_cons_succ]
  refine wpAnyH_take (i := 4) (oi := { dst := some 85, op := Op.move (Operand.tmp 84), type := 4, pos := "law.go:89", after := #[{ on := 3, ground := Ground.data }], guard := none }) (v := ?_) rfl (by kernel_rfl) (by kernel_rfl) (by kernel_rfl) (fun _ _ _ h => h) (Or.inl ⟨by rfl, ?_⟩) (by assumption) ?_
  rotate_left
  · intro w hSw
    try dsimp only at hSw
    go_simp
    try with_reducible rfl
  try simp only [Act.put, List.setIfInBounds_toArray, List.set_cons_zero, List.set_cons_succ]
  refine wpAnyH_take (i := 5) (oi := { dst := some 86, op := Op.move (Operand.tmp 11), type := 34, pos := "law.go:89", after := #[{ on := 4, ground := Ground.guard }, { on := 9, ground := Ground.gcOnly Departure.lateStores }], guard := some (4, true) }) (v := ?_) rfl (by kernel_rfl) (by kernel_rfl) (by kernel_rfl) (fun _ _ _ h => h) (Or.inl ⟨by rfl, ?_⟩) (by assumption) ?_
  rotate_left
  · intro w hSw
    try dsimp only at hSw
    go_simp
    try with_reducible rfl
  try simp only [Act.put, List.setIfInBounds_toArray, List.set_cons_zero, List.set_cons_succ]
  refine wpAnyH_take (i := 6) (oi := { dst := some 87, op := Op.move (Operand.tmp 14), type := 34, pos := "law.go:89", after := #[{ on := 4, ground := Ground.guard }, { on := 9, ground := Ground.gcOnly Departure.lateStores }], guard := some (4, true) }) (v := ?_) rfl (by kernel_rfl) (by kernel_rfl) (by kernel_rfl) (fun _ _ _ h => h) (Or.inl ⟨by rfl, ?_⟩) (by assumption) ?_
  rotate_left
  · intro w hSw
    try dsimp only at hSw
    go_simp
    try with_reducible rfl
  try simp only [Act.put, List.setIfInBounds_toArray, List.set_cons_zero, List.set_cons_succ]
  refine wpAnyH_take (i := 7) (oi := { dst := some 88, op := Op.binOp BinOp.eql 34 (Operand.tmp 86) (Operand.tmp 87) 34, type := 4, pos := "law.go:89", after := #[{ on := 5, ground := Ground.data }, { on := 6, ground := Ground.data }, { on := 4, ground := Ground.guard }, { on := 9, ground := Ground.gcOnly Departure.lateStores }], guard := some (4, true) }) (v := ?_) rfl (by kernel_rfl) (by kernel_rfl) (by kernel_rfl) (fun _ _ _ h => h) (Or.inl ⟨by rfl, ?_⟩) (by assumption) ?_
  rotate_left
  · intro w hSw
    try dsimp only at hSw
    go_simp
    try with_reducible rfl
  try simp only [Act.put, List.setIfInBounds_toArray, List.set_cons_zero, List.set_cons_succ]
  refine wpAnyH_take (i := 8) (oi := { dst := some 89, op := Op.pick (Operand.tmp 85) (Operand.tmp 88) (Operand.const (Value.bool false)), type := 4, pos := "law.go:89", after := #[{ on := 4, ground := Ground.data }, { on := 7, ground := Ground.data }, { on := 9, ground := Ground.gcOnly Departure.lateStores }], guard := none }) (v := ?_) rfl (by kernel_rfl) (by kernel_rfl) (by kernel_rfl) (fun _ _ _ h => h) (Or.inl ⟨by rfl, ?_⟩) (by assumption) ?_
  rotate_left
  · intro w hSw
    try dsimp only at hSw
    go_simp
    try with_reducible rfl
  try simp only [Act.put, List.setIfInBounds_toArray, List.set_cons_zero, List.set_cons_succ]
  refine wpAnyH_ready (rs := [9]) (by kernel_rfl) (by simp) ?_
  refine AllReadyH.cons (o := { dst := none, op := Op.store 27 (Operand.tmp 6) (Operand.tmp 81), type := 0, pos := "law.go:89", after := #[{ on := 0, ground := Ground.data }, { on := 4, ground := Ground.chain }, { on := 0, ground := Ground.phase }, { on := 1, ground := Ground.textOnly Departure.lateStores }, { on := 2, ground := Ground.textOnly Departure.lateStores }, { on := 3, ground := Ground.textOnly Departure.lateStores }, { on := 4, ground := Ground.textOnly Departure.lateStores }, { on := 5, ground := Ground.textOnly Departure.lateStores }, { on := 6, ground := Ground.textOnly Departure.lateStores }, { on := 7, ground := Ground.textOnly Departure.lateStores }, { on := 8, ground := Ground.textOnly Departure.lateStores }], guard := none }) rfl (fun K hK => ?_) AllReadyH.nil
  go_simp
  refine hK.out _ _ ?_ (fun hHeld => ?_)
  · exact v6
  clear hK K
  try simp only [Act.put, List.setIfInBounds_toArray, List.set_cons_zero, List.set_cons_succ]
  refine wpAnyH_take (i := 10) (oi := { dst := some 7, op := Op.assign (Operand.tmp 89), type := 4, pos := "law.go:89", after := #[{ on := 8, ground := Ground.data }, { on := 9, ground := Ground.chain }, { on := 0, ground := Ground.phase }, { on := 1, ground := Ground.phase }, { on := 2, ground := Ground.phase }, { on := 3, ground := Ground.phase }, { on := 4, ground := Ground.phase }, { on := 5, ground := Ground.phase }, { on := 6, ground := Ground.phase }, { on := 7, ground := Ground.phase }, { on := 8, ground := Ground.phase }, { on := 9, ground := Ground.phase }], guard := none }) (v := ?_) rfl (by kernel_rfl) (by kernel_rfl) (by kernel_rfl) (fun _ _ _ h => h) (Or.inl ⟨by rfl, ?_⟩) (by assumption) ?_
  rotate_left
  · intro w hSw
    try dsimp only at hSw
    go_simp
    try with_reducible rfl
  try simp only [Act.put, List.setIfInBounds_toArray, List.set_cons_zero, List.set_cons_succ]
  refine wpAnyH_done (by kernel_rfl) ?_ _
  refine NoPanic.normal ?_
  exact hH.out _ _ _ _ _ _ _ _ _
set_option maxRecDepth 100000 in
set_option maxHeartbeats 32000000 in
theorem pl24 {Q : Exit → Act → World → Prop} {wr : World} {rb zb w1 w2 n2 c2 : Nat} {q2 : Option Addr} {tk kd E pl : Int} {ky tok : ByteArray}  {t0 t1 t2 t3 t5 t7 t8 t9 t10 t11 t12 t13 t14 t15 t16 t17 t18 t19 t20 t21 t22 t23 t24 t25 t32 t33 t34 t35 t36 t37 t38 t39 t40 t41 t42 t43 t44 t45 t46 t47 t48 t49 t50 t51 t52 t53 t54 t55 t56 t57 t58 t59 t60 t61 t62 t63 t64 t65 t66 t67 t68 t69 t70 t71 t72 t73 t74 t75 t76 t77 t78 t79 t80 t81 t82 t83 t84 t85 t86 t87 t88 t89 t90 t91 t92 t93 t94 t95 t96 t97 t98 t99 t100 t101 t102 t103 t104 t105 t106 t107 t108 t109 t110 t111 t112 t113 t114 t115 t116 t117 t118 t119 t120 t121 t122 t123 t124 t125 t126 t127 t128 t129 t130 t131 t132 t133 t134 t135 t136 t137 t138 t139 t140 t141 t142 t143 t144 t145 t146 t147 t148 t149 t150 t151 t152 t153 t154 t155 t156 t157 t158 t159 t160 t161 t162 t163 t164 t165 t166 t167 t168 t169 t170 t171 t172 t173 t174 t175 t176 t177 t178 t179 t180 t181 t182 t183 t184 t185 t186 t187 t188 t189 t190 t191 : Value} (hS0 : (fun w' => w'.cell? ⟨zb, 0, none⟩ = some (.slice q2 n2 c2) ∧ w'.cell? ⟨w1, 0, none⟩ = some (.int .i64 tk) ∧ w'.cell? ⟨w1, 1, none⟩ = some (.int .i64 kd) ∧ w'.cell? ⟨w1, 2, none⟩ = some (.string ky) ∧ w'.cell? ⟨w1, 3, none⟩ = some (.string tok) ∧ w'.cell? ⟨w2, 0, none⟩ = some (.int .i64 tk) ∧ w'.cell? ⟨w2, 1, none⟩ = some (.int .i64 kd) ∧ w'.cell? ⟨w2, 2, none⟩ = some (.string ky) ∧ w'.cell? ⟨w2, 3, none⟩ = some (.string tok)) wr.drew) (r6 : wr.cell? ⟨rb, 0, none⟩ = some (.slice none 0 0)) (f6 : wr.frozen? ⟨rb, 0, none⟩ = false) (v6 : (fun w' => w'.cell? ⟨zb, 0, none⟩ = some (.slice q2 n2 c2) ∧ w'.cell? ⟨w1, 0, none⟩ = some (.int .i64 tk) ∧ w'.cell? ⟨w1, 1, none⟩ = some (.int .i64 kd) ∧ w'.cell? ⟨w1, 2, none⟩ = some (.string ky) ∧ w'.cell? ⟨w1, 3, none⟩ = some (.string tok) ∧ w'.cell? ⟨w2, 0, none⟩ = some (.int .i64 tk) ∧ w'.cell? ⟨w2, 1, none⟩ = some (.int .i64 kd) ∧ w'.cell? ⟨w2, 2, none⟩ = some (.string ky) ∧ w'.cell? ⟨w2, 3, none⟩ = some (.string tok)) (wr.setCell ⟨rb, 0, none⟩ (.slice q2 n2 c2)).drew)
    (h : ∀ (x178 x179 x180 x181 x182 x183 x184 x185 x186 x187 x188 x189 x190 x191 : Value), Q .normal { tmps := List.toArray (t0 :: t1 :: t2 :: t3 :: (.pointer (some ⟨zb, 0, none⟩)) :: t5 :: (.pointer (some ⟨rb, 0, none⟩)) :: (.bool true) :: t8 :: t9 :: t10 :: t11 :: t12 :: t13 :: t14 :: t15 :: t16 :: t17 :: t18 :: t19 :: t20 :: t21 :: t22 :: t23 :: t24 :: t25 :: (.pointer (some ⟨w1, 0, none⟩)) :: (.int .i64 pl) :: (.int .i64 E) :: (.pointer (some ⟨w2, 0, none⟩)) :: (.int .i64 pl) :: (.int .i64 E) :: t32 :: t33 :: t34 :: t35 :: t36 :: t37 :: t38 :: t39 :: t40 :: t41 :: t42 :: t43 :: t44 :: t45 :: t46 :: t47 :: t48 :: t49 :: t50 :: t51 :: t52 :: t53 :: t54 :: t55 :: t56 :: t57 :: t58 :: t59 :: t60 :: t61 :: t62 :: t63 :: t64 :: t65 :: t66 :: t67 :: t68 :: t69 :: t70 :: t71 :: t72 :: t73 :: t74 :: t75 :: t76 :: t77 :: t78 :: t79 :: t80 :: t81 :: t82 :: t83 :: t84 :: t85 :: t86 :: t87 :: t88 :: t89 :: t90 :: t91 :: t92 :: t93 :: t94 :: t95 :: t96 :: t97 :: t98 :: t99 :: t100 :: t101 :: t102 :: t103 :: t104 :: t105 :: t106 :: t107 :: t108 :: t109 :: t110 :: t111 :: t112 :: t113 :: t114 :: t115 :: t116 :: t117 :: t118 :: t119 :: t120 :: t121 :: t122 :: t123 :: t124 :: t125 :: t126 :: t127 :: t128 :: t129 :: t130 :: t131 :: t132 :: t133 :: t134 :: t135 :: t136 :: t137 :: t138 :: t139 :: t140 :: t141 :: t142 :: t143 :: t144 :: t145 :: t146 :: t147 :: t148 :: t149 :: t150 :: t151 :: t152 :: t153 :: t154 :: t155 :: t156 :: t157 :: t158 :: t159 :: t160 :: t161 :: t162 :: t163 :: t164 :: t165 :: t166 :: t167 :: t168 :: t169 :: t170 :: t171 :: t172 :: t173 :: t174 :: t175 :: t176 :: t177 :: x178 :: x179 :: x180 :: x181 :: x182 :: x183 :: x184 :: x185 :: x186 :: x187 :: x188 :: x189 :: x190 :: x191 :: []), defers := [] } (wr.setCell ⟨rb, 0, none⟩ (.slice q2 n2 c2)).drew) :
    (Code.region 24 (List.toArray ({ dst := some 178, op := Op.load 27 (Operand.tmp 4), type := 27, pos := "law.go:105", after := #[], guard := none } :: { dst := some 179, op := Op.load 30 (Operand.tmp 26), type := 30, pos := "law.go:105", after := #[], guard := none } :: { dst := some 180, op := Op.load 30 (Operand.tmp 29), type := 30, pos := "law.go:105", after := #[], guard := none } :: { dst := some 181, op := Op.binOp BinOp.eql 30 (Operand.tmp 179) (Operand.tmp 180) 30, type := 4, pos := "law.go:105", after := #[{ on := 1, ground := Ground.data }, { on := 2, ground := Ground.data }], guard := none } :: { dst := some 182, op := Op.move (Operand.tmp 181), type := 4, pos := "law.go:105", after := #[{ on := 3, ground := Ground.data }], guard := none } :: { dst := some 183, op := Op.move (Operand.tmp 27), type := 3, pos := "law.go:105", after := #[{ on := 4, ground := Ground.guard }], guard := some (4, true) } :: { dst := some 184, op := Op.move (Operand.tmp 30), type := 3, pos := "law.go:105", after := #[{ on := 4, ground := Ground.guard }], guard := some (4, true) } :: { dst := some 185, op := Op.binOp BinOp.eql 3 (Operand.tmp 183) (Operand.tmp 184) 3, type := 4, pos := "law.go:105", after := #[{ on := 5, ground := Ground.data }, { on := 6, ground := Ground.data }, { on := 4, ground := Ground.guard }], guard := some (4, true) } :: { dst := some 186, op := Op.pick (Operand.tmp 182) (Operand.tmp 185) (Operand.const (Value.bool false)), type := 4, pos := "law.go:105", after := #[{ on := 4, ground := Ground.data }, { on := 7, ground := Ground.data }], guard := none } :: { dst := some 187, op := Op.move (Operand.tmp 186), type := 4, pos := "law.go:105", after := #[{ on := 8, ground := Ground.data }, { on := 4, ground := Ground.chain }], guard := none } :: { dst := some 188, op := Op.move (Operand.tmp 28), type := 34, pos := "law.go:105", after := #[{ on := 9, ground := Ground.guard }, { on := 14, ground := Ground.gcOnly Departure.lateStores }], guard := some (9, true) } :: { dst := some 189, op := Op.move (Operand.tmp 31), type := 34, pos := "law.go:105", after := #[{ on := 9, ground := Ground.guard }, { on := 14, ground := Ground.gcOnly Departure.lateStores }], guard := some (9, true) } :: { dst := some 190, op := Op.binOp BinOp.eql 34 (Operand.tmp 188) (Operand.tmp 189) 34, type := 4, pos := "law.go:105", after := #[{ on := 10, ground := Ground.data }, { on := 11, ground := Ground.data }, { on := 9, ground := Ground.guard }, { on := 14, ground := Ground.gcOnly Departure.lateStores }], guard := some (9, true) } :: { dst := some 191, op := Op.pick (Operand.tmp 187) (Operand.tmp 190) (Operand.const (Value.bool false)), type := 4, pos := "law.go:105", after := #[{ on := 9, ground := Ground.data }, { on := 12, ground := Ground.data }, { on := 14, ground := Ground.gcOnly Departure.lateStores }], guard := none } :: { dst := none, op := Op.store 27 (Operand.tmp 6) (Operand.tmp 178), type := 0, pos := "law.go:105", after := #[{ on := 0, ground := Ground.data }, { on := 9, ground := Ground.chain }, { on := 0, ground := Ground.phase }, { on := 1, ground := Ground.textOnly Departure.lateStores }, { on := 2, ground := Ground.textOnly Departure.lateStores }, { on := 3, ground := Ground.textOnly Departure.lateStores }, { on := 4, ground := Ground.textOnly Departure.lateStores }, { on := 5, ground := Ground.textOnly Departure.lateStores }, { on := 6, ground := Ground.textOnly Departure.lateStores }, { on := 7, ground := Ground.textOnly Departure.lateStores }, { on := 8, ground := Ground.textOnly Departure.lateStores }, { on := 9, ground := Ground.textOnly Departure.lateStores }, { on := 10, ground := Ground.textOnly Departure.lateStores }, { on := 11, ground := Ground.textOnly Departure.lateStores }, { on := 12, ground := Ground.textOnly Departure.lateStores }, { on := 13, ground := Ground.textOnly Departure.lateStores }], guard := none } :: { dst := some 7, op := Op.assign (Operand.tmp 191), type := 4, pos := "law.go:105", after := #[{ on := 13, ground := Ground.data }, { on := 14, ground := Ground.chain }, { on := 0, ground := Ground.phase }, { on := 1, ground := Ground.phase }, { on := 2, ground := Ground.phase }, { on := 3, ground := Ground.phase }, { on := 4, ground := Ground.phase }, { on := 5, ground := Ground.phase }, { on := 6, ground := Ground.phase }, { on := 7, ground := Ground.phase }, { on := 8, ground := Ground.phase }, { on := 9, ground := Ground.phase }, { on := 10, ground := Ground.phase }, { on := 11, ground := Ground.phase }, { on := 12, ground := Ground.phase }, { on := 13, ground := Ground.phase }, { on := 14, ground := Ground.phase }], guard := none } :: [])) true).wp Try.prog Q { tmps := List.toArray (t0 :: t1 :: t2 :: t3 :: (.pointer (some ⟨zb, 0, none⟩)) :: t5 :: (.pointer (some ⟨rb, 0, none⟩)) :: t7 :: t8 :: t9 :: t10 :: t11 :: t12 :: t13 :: t14 :: t15 :: t16 :: t17 :: t18 :: t19 :: t20 :: t21 :: t22 :: t23 :: t24 :: t25 :: (.pointer (some ⟨w1, 0, none⟩)) :: (.int .i64 pl) :: (.int .i64 E) :: (.pointer (some ⟨w2, 0, none⟩)) :: (.int .i64 pl) :: (.int .i64 E) :: t32 :: t33 :: t34 :: t35 :: t36 :: t37 :: t38 :: t39 :: t40 :: t41 :: t42 :: t43 :: t44 :: t45 :: t46 :: t47 :: t48 :: t49 :: t50 :: t51 :: t52 :: t53 :: t54 :: t55 :: t56 :: t57 :: t58 :: t59 :: t60 :: t61 :: t62 :: t63 :: t64 :: t65 :: t66 :: t67 :: t68 :: t69 :: t70 :: t71 :: t72 :: t73 :: t74 :: t75 :: t76 :: t77 :: t78 :: t79 :: t80 :: t81 :: t82 :: t83 :: t84 :: t85 :: t86 :: t87 :: t88 :: t89 :: t90 :: t91 :: t92 :: t93 :: t94 :: t95 :: t96 :: t97 :: t98 :: t99 :: t100 :: t101 :: t102 :: t103 :: t104 :: t105 :: t106 :: t107 :: t108 :: t109 :: t110 :: t111 :: t112 :: t113 :: t114 :: t115 :: t116 :: t117 :: t118 :: t119 :: t120 :: t121 :: t122 :: t123 :: t124 :: t125 :: t126 :: t127 :: t128 :: t129 :: t130 :: t131 :: t132 :: t133 :: t134 :: t135 :: t136 :: t137 :: t138 :: t139 :: t140 :: t141 :: t142 :: t143 :: t144 :: t145 :: t146 :: t147 :: t148 :: t149 :: t150 :: t151 :: t152 :: t153 :: t154 :: t155 :: t156 :: t157 :: t158 :: t159 :: t160 :: t161 :: t162 :: t163 :: t164 :: t165 :: t166 :: t167 :: t168 :: t169 :: t170 :: t171 :: t172 :: t173 :: t174 :: t175 :: t176 :: t177 :: t178 :: t179 :: t180 :: t181 :: t182 :: t183 :: t184 :: t185 :: t186 :: t187 :: t188 :: t189 :: t190 :: t191 :: []), defers := [] } wr := by
  have hH := hid h
  clear h
  refine wp_region_noPanic ?_
  refine wp_region_held_drew (S := (fun w' => w'.cell? ⟨zb, 0, none⟩ = some (.slice q2 n2 c2) ∧ w'.cell? ⟨w1, 0, none⟩ = some (.int .i64 tk) ∧ w'.cell? ⟨w1, 1, none⟩ = some (.int .i64 kd) ∧ w'.cell? ⟨w1, 2, none⟩ = some (.string ky) ∧ w'.cell? ⟨w1, 3, none⟩ = some (.string tok) ∧ w'.cell? ⟨w2, 0, none⟩ = some (.int .i64 tk) ∧ w'.cell? ⟨w2, 1, none⟩ = some (.int .i64 kd) ∧ w'.cell? ⟨w2, 2, none⟩ = some (.string ky) ∧ w'.cell? ⟨w2, 3, none⟩ = some (.string tok))) (by kernel_rfl) ?_ (fun hHeld => ?_)
  · exact hS0
  refine wpAnyH_take (i := 0) (oi := { dst := some 178, op := Op.load 27 (Operand.tmp 4), type := 27, pos := "law.go:105", after := #[], guard := none }) (v := ?_) rfl (by kernel_rfl) (by kernel_rfl) (by kernel_rfl) (fun _ _ _ h => h) (Or.inl ⟨by rfl, ?_⟩) (by assumption) ?_
  rotate_left
  · intro w hSw
    try dsimp only at hSw
    go_simp
    try with_reducible rfl
  try simp only [Act.put, List.setIfInBounds_toArray, List.set_cons_zero, List.set_cons_succ]
  refine wpAnyH_take (i := 1) (oi := { dst := some 179, op := Op.load 30 (Operand.tmp 26), type := 30, pos := "law.go:105", after := #[], guard := none }) (v := ?_) rfl (by kernel_rfl) (by kernel_rfl) (by kernel_rfl) (fun _ _ _ h => h) (Or.inl ⟨by rfl, ?_⟩) (by assumption) ?_
  rotate_left
  · intro w hSw
    try dsimp only at hSw
    go_simp
    try with_reducible rfl
  try simp only [Act.put, List.setIfInBounds_toArray, List.set_cons_zero, List.set_cons_succ]
  refine wpAnyH_take (i := 2) (oi := { dst := some 180, op := Op.load 30 (Operand.tmp 29), type := 30, pos := "law.go:105", after := #[], guard := none }) (v := ?_) rfl (by kernel_rfl) (by kernel_rfl) (by kernel_rfl) (fun _ _ _ h => h) (Or.inl ⟨by rfl, ?_⟩) (by assumption) ?_
  rotate_left
  · intro w hSw
    try dsimp only at hSw
    go_simp
    try with_reducible rfl
  try simp only [Act.put, List.setIfInBounds_toArray, List.set_cons_zero, List.set_cons_succ]
  refine wpAnyH_take (i := 3) (oi := { dst := some 181, op := Op.binOp BinOp.eql 30 (Operand.tmp 179) (Operand.tmp 180) 30, type := 4, pos := "law.go:105", after := #[{ on := 1, ground := Ground.data }, { on := 2, ground := Ground.data }], guard := none }) (v := ?_) rfl (by kernel_rfl) (by kernel_rfl) (by kernel_rfl) (fun _ _ _ h => h) (Or.inl ⟨by rfl, ?_⟩) (by assumption) ?_
  rotate_left
  · intro w hSw
    try dsimp only at hSw
    go_simp
    try with_reducible rfl
  try simp only [Act.put, List.setIfInBounds_toArray, List.set_cons_zero, List.set_cons_succ]
  refine wpAnyH_take (i := 4) (oi := { dst := some 182, op := Op.move (Operand.tmp 181), type := 4, pos := "law.go:105", after := #[{ on := 3, ground := Ground.data }], guard := none }) (v := ?_) rfl (by kernel_rfl) (by kernel_rfl) (by kernel_rfl) (fun _ _ _ h => h) (Or.inl ⟨by rfl, ?_⟩) (by assumption) ?_
  rotate_left
  · intro w hSw
    try dsimp only at hSw
    go_simp
    try with_reducible rfl
  try simp only [Act.put, List.setIfInBounds_toArray, List.set_cons_zero, List.set_cons_succ]
  refine wpAnyH_take (i := 5) (oi := { dst := some 183, op := Op.move (Operand.tmp 27), type := 3, pos := "law.go:105", after := #[{ on := 4, ground := Ground.guard }], guard := some (4, true) }) (v := ?_) rfl (by kernel_rfl) (by kernel_rfl) (by kernel_rfl) (fun _ _ _ h => h) (Or.inl ⟨by rfl, ?_⟩) (by assumption) ?_
  rotate_left
  · intro w hSw
    try dsimp only at hSw
    go_simp
    try with_reducible rfl
  try simp only [Act.put, List.setIfInBounds_toArray, List.set_cons_zero, List.set_cons_succ]
  refine wpAnyH_take (i := 6) (oi := { dst := some 184, op := Op.move (Operand.tmp 30), type := 3, pos := "law.go:105", after := #[{ on := 4, ground := Ground.guard }], guard := some (4, true) }) (v := ?_) rfl (by kernel_rfl) (by kernel_rfl) (by kernel_rfl) (fun _ _ _ h => h) (Or.inl ⟨by rfl, ?_⟩) (by assumption) ?_
  rotate_left
  · intro w hSw
    try dsimp only at hSw
    go_simp
    try with_reducible rfl
  try simp only [Act.put, List.setIfInBounds_toArray, List.set_cons_zero, List.set_cons_succ]
  refine wpAnyH_take (i := 7) (oi := { dst := some 185, op := Op.binOp BinOp.eql 3 (Operand.tmp 183) (Operand.tmp 184) 3, type := 4, pos := "law.go:105", after := #[{ on := 5, ground := Ground.data }, { on := 6, ground := Ground.data }, { on := 4, ground := Ground.guard }], guard := some (4, true) }) (v := ?_) rfl (by kernel_rfl) (by kernel_rfl) (by kernel_rfl) (fun _ _ _ h => h) (Or.inl ⟨by rfl, ?_⟩) (by assumption) ?_
  rotate_left
  · intro w hSw
    try dsimp only at hSw
    go_simp
    try with_reducible rfl
  try simp only [Act.put, List.setIfInBounds_toArray, List.set_cons_zero, List.set_cons_succ]
  refine wpAnyH_take (i := 8) (oi := { dst := some 186, op := Op.pick (Operand.tmp 182) (Operand.tmp 185) (Operand.const (Value.bool false)), type := 4, pos := "law.go:105", after := #[{ on := 4, ground := Ground.data }, { on := 7, ground := Ground.data }], guard := none }) (v := ?_) rfl (by kernel_rfl) (by kernel_rfl) (by kernel_rfl) (fun _ _ _ h => h) (Or.inl ⟨by rfl, ?_⟩) (by assumption) ?_
  rotate_left
  · intro w hSw
    try dsimp only at hSw
    go_simp
    try with_reducible rfl
  try simp only [Act.put, List.setIfInBounds_toArray, List.set_cons_zero, List.set_cons_succ]
  refine wpAnyH_take (i := 9) (oi := { dst := some 187, op := Op.move (Operand.tmp 186), type := 4, pos := "law.go:105", after := #[{ on := 8, ground := Ground.data }, { on := 4, ground := Ground.chain }], guard := none }) (v := ?_) rfl (by kernel_rfl) (by kernel_rfl) (by kernel_rfl) (fun _ _ _ h => h) (Or.inl ⟨by rfl, ?_⟩) (by assumption) ?_
  rotate_left
  · intro w hSw
    try dsimp only at hSw
    go_simp
    try with_reducible rfl
  try simp only [Act.put, List.setIfInBounds_toArray, List.set_cons_zero, List.set_cons_succ]
  refine wpAnyH_take (i := 10) (oi := { dst := some 188, op := Op.move (Operand.tmp 28), type := 34, pos := "law.go:105", after := #[{ on := 9, ground := Ground.guard }, { on := 14, ground := Ground.gcOnly Departure.lateStores }], guard := some (9, true) }) (v := ?_) rfl (by kernel_rfl) (by kernel_rfl) (by kernel_rfl) (fun _ _ _ h => h) (Or.inl ⟨by rfl, ?_⟩) (by assumption) ?_
  rotate_left
  · intro w hSw
    try dsimp only at hSw
    go_simp
    try with_reducible rfl
  try simp only [Act.put, List.setIfInBounds_toArray, List.set_cons_zero, List.set_cons_succ]
  refine wpAnyH_take (i := 11) (oi := { dst := some 189, op := Op.move (Operand.tmp 31), type := 34, pos := "law.go:105", after := #[{ on := 9, ground := Ground.guard }, { on := 14, ground := Ground.gcOnly Departure.lateStores }], guard := some (9, true) }) (v := ?_) rfl (by kernel_rfl) (by kernel_rfl) (by kernel_rfl) (fun _ _ _ h => h) (Or.inl ⟨by rfl, ?_⟩) (by assumption) ?_
  rotate_left
  · intro w hSw
    try dsimp only at hSw
    go_simp
    try with_reducible rfl
  try simp only [Act.put, List.setIfInBounds_toArray, List.set_cons_zero, List.set_cons_succ]
  refine wpAnyH_take (i := 12) (oi := { dst := some 190, op := Op.binOp BinOp.eql 34 (Operand.tmp 188) (Operand.tmp 189) 34, type := 4, pos := "law.go:105", after := #[{ on := 10, ground := Ground.data }, { on := 11, ground := Ground.data }, { on := 9, ground := Ground.guard }, { on := 14, ground := Ground.gcOnly Departure.lateStores }], guard := some (9, true) }) (v := ?_) rfl (by kernel_rfl) (by kernel_rfl) (by kernel_rfl) (fun _ _ _ h => h) (Or.inl ⟨by rfl, ?_⟩) (by assumption) ?_
  rotate_left
  · intro w hSw
    try dsimp only at hSw
    go_simp
    try with_reducible rfl
  try simp only [Act.put, List.setIfInBounds_toArray, List.set_cons_zero, List.set_cons_succ]
  refine wpAnyH_take (i := 13) (oi := { dst := some 191, op := Op.pick (Operand.tmp 187) (Operand.tmp 190) (Operand.const (Value.bool false)), type := 4, pos := "law.go:105", after := #[{ on := 9, ground := Ground.data }, { on := 12, ground := Ground.data }, { on := 14, ground := Ground.gcOnly Departure.lateStores }], guard := none }) (v := ?_) rfl (by kernel_rfl) (by kernel_rfl) (by kernel_rfl) (fun _ _ _ h => h) (Or.inl ⟨by rfl, ?_⟩) (by assumption) ?_
  rotate_left
  · intro w hSw
    try dsimp only at hSw
    go_simp
    try with_reducible rfl
  try simp only [Act.put, List.setIfInBounds_toArray, List.set_cons_zero, List.set_cons_succ]
  refine wpAnyH_ready (rs := [14]) (by kernel_rfl) (by simp) ?_
  refine AllReadyH.cons (o := { dst := none, op := Op.store 27 (Operand.tmp 6) (Operand.tmp 178), type := 0, pos := "law.go:105", after := #[{ on := 0, ground := Ground.data }, { on := 9, ground := Ground.chain }, { on := 0, ground := Ground.phase }, { on := 1, ground := Ground.textOnly Departure.lateStores }, { on := 2, ground := Ground.textOnly Departure.lateStores }, { on := 3, ground := Ground.textOnly Departure.lateStores }, { on := 4, ground := Ground.textOnly Departure.lateStores }, { on := 5, ground := Ground.textOnly Departure.lateStores }, { on := 6, ground := Ground.textOnly Departure.lateStores }, { on := 7, ground := Ground.textOnly Departure.lateStores }, { on := 8, ground := Ground.textOnly Departure.lateStores }, { on := 9, ground := Ground.textOnly Departure.lateStores }, { on := 10, ground := Ground.textOnly Departure.lateStores }, { on := 11, ground := Ground.textOnly Departure.lateStores }, { on := 12, ground := Ground.textOnly Departure.lateStores }, { on := 13, ground := Ground.textOnly Departure.lateStores }], guard := none }) rfl (fun K hK => ?_) AllReadyH.nil
  go_simp
  refine hK.out _ _ ?_ (fun hHeld => ?_)
  · exact v6
  clear hK K
  try simp only [Act.put, List.setIfInBounds_toArray, List.set_cons_zero, List.set_cons_succ]
  refine wpAnyH_take (i := 15) (oi := { dst := some 7, op := Op.assign (Operand.tmp 191), type := 4, pos := "law.go:105", after := #[{ on := 13, ground := Ground.data }, { on := 14, ground := Ground.chain }, { on := 0, ground := Ground.phase }, { on := 1, ground := Ground.phase }, { on := 2, ground := Ground.phase }, { on := 3, ground := Ground.phase }, { on := 4, ground := Ground.phase }, { on := 5, ground := Ground.phase }, { on := 6, ground := Ground.phase }, { on := 7, ground := Ground.phase }, { on := 8, ground := Ground.phase }, { on := 9, ground := Ground.phase }, { on := 10, ground := Ground.phase }, { on := 11, ground := Ground.phase }, { on := 12, ground := Ground.phase }, { on := 13, ground := Ground.phase }, { on := 14, ground := Ground.phase }], guard := none }) (v := ?_) rfl (by kernel_rfl) (by kernel_rfl) (by kernel_rfl) (fun _ _ _ h => h) (Or.inl ⟨by rfl, ?_⟩) (by assumption) ?_
  rotate_left
  · intro w hSw
    try dsimp only at hSw
    go_simp
    try with_reducible rfl
  try simp only [Act.put, List.setIfInBounds_toArray, List.set_cons_zero, List.set_cons_succ]
  refine wpAnyH_done (by kernel_rfl) ?_ _
  refine NoPanic.normal ?_
  exact hH.out _ _ _ _ _ _ _ _ _ _ _ _ _ _
end Go.Proofs.Ytofdfofpdfaimaa
namespace Go.Proofs.Ytofdfofpdfaimaa
open Go.RowKit Go.Maps

theorem ri_lt {L : List Wc} {c : Nat} (h : RI L c) {x : Wt} (h0 : rjE (wL L) x = 0) : (wL L).length < 128 := by
  unfold rjE at h0
  split at h0
  · rename_i hc
    split at h0
    · cases h0
    · rename_i ha
      have := (h.join hc (fun y hy e => ha (List.any_eq_true.2 ⟨y.w, List.mem_map_of_mem hy, decide_eq_true e⟩))).len
      rw [List.length_append] at this
      unfold wL
      rw [List.length_map]
      simp at this
      omega
  · rename_i hc; exact absurd h0 hc
/-- Amid an act: the room, the document's list, the boxes of the two, of the act and of the answer. -/
structure PB (w v0 wk : World) (b r m yb ab rb : Nat) (L : List Wc) (c : Nat) (q : Option Addr) (nn cc : Nat) (M : List Wt) (a : Ac) : Prop where
  rx : ∃ f, RX wk b r m L c f
  bl : Below w.heap.size w wk
  ow : OwnG KW wk w.heap.size (.slice q nn cc) M
  y : wk.heap[yb]? = some (.cells #[.slice q nn cc] 27)
  ac : wk.heap[ab]? = some (.cells #[.int .i64 a.k, .int .i64 a.x.task, .int .i64 a.x.kind, .string a.x.key, .string a.x.tok, .int .i64 a.n] 32)
  rs : wk.heap[rb]? = some (.cells #[.slice none 0 0] 27)
  gb : w.heap.size ≤ b
  gr : w.heap.size ≤ rb
  kp : Kp v0 wk
  gv : v0.heap.size ≤ rb
theorem PB.below {w v0 wk w' : World} {b r m yb ab rb : Nat} {L : List Wc} {c : Nat} {q : Option Addr} {nn cc : Nat} {M : List Wt} {a : Ac} (h : PB w v0 wk b r m yb ab rb L c q nn cc M a) (k : Below wk.heap.size wk w') : PB w v0 w' b r m yb ab rb L c q nn cc M a := by
  obtain ⟨⟨f, hf⟩, bl, ow, y, ac, rs, gb, gr, kp, gv⟩ := h
  exact ⟨⟨f, hf.below k⟩, bl3 bl k, ow.below k, (k.block _ (lt_of_heap y)).trans y, (k.block _ (lt_of_heap ac)).trans ac, (k.block _ (lt_of_heap rs)).trans rs, gb, gr, kp.trans (Kp.of_below k), gv⟩
theorem PB.turn {w v0 wk w' : World} {b r m yb ab rb : Nat} {L L' : List Wc} {c c' : Nat} {q : Option Addr} {nn cc : Nat} {M : List Wt} {a : Ac} (h : PB w v0 wk b r m yb ab rb L c q nn cc M a) (k : RQ b r m wk L' c' w') : PB w v0 w' b r m yb ab rb L' c' q nn cc M a :=
  ⟨k.rx, h.bl.trans (k.bl.mono h.gb), h.ow.kp k.kp (by decide) (by decide), (k.kp _ _ _ h.y (by decide) (by decide)).trans h.y, (k.kp _ _ _ h.ac (by decide) (by decide)).trans h.ac, (k.kp _ _ _ h.rs (by decide) (by decide)).trans h.rs, h.gb, h.gr, h.kp.trans k.kp, h.gv⟩
/-- What an act leaves. -/
structure PF (w v0 w' : World) (b r m : Nat) (L : List Wc) (c : Nat) (q : Option Addr) (nn cc : Nat) : Prop where
  rx : ∃ f, RX w' b r m L c f
  bl : Below w.heap.size w w'
  ow : OwnG KW w' w.heap.size (.slice q nn cc) (wL L)
  kp : Kp v0 w'
theorem PB.fin {w v0 wk : World} {b r m yb ab rb : Nat} {L : List Wc} {c : Nat} {q : Option Addr} {nn cc : Nat} {M : List Wt} {a : Ac} (h : PB w v0 wk b r m yb ab rb L c q nn cc M a) {q2 : Option Addr} {n2 c2 : Nat} (o : OwnG KW wk w.heap.size (.slice q2 n2 c2) (wL L)) : PF w v0 (wk.setCell ⟨rb, 0, none⟩ (.slice q2 n2 c2)) b r m L c q2 n2 c2 ∧ (wk.setCell ⟨rb, 0, none⟩ (.slice q2 n2 c2)).cell? ⟨rb, 0, none⟩ = some (.slice q2 n2 c2) := by
  obtain ⟨⟨f, hf⟩, bl, ow, y, ac, rs, gb, gr, kp, gv⟩ := h
  have ne : ∀ x, x ≠ rb → (wk.setCell ⟨rb, 0, none⟩ (.slice q2 n2 c2)).heap[x]? = wk.heap[x]? := fun x hx => Below.heap_setCell _ _ _ _ hx
  refine ⟨⟨⟨f, hf.keep fun x hx => ne x fun e => hf.notfp rs (by decide) (by decide) (by rw [← e]; exact hx)⟩, bl.setCell (p := ⟨rb, 0, none⟩) gr _, (o.far fun g hg => ne g fun e => o.notat rs (by decide) (by rw [← e]; exact hg)), fun x arr t hx h1 h2 => (ne x (by have := lt_of_heap hx; omega)).trans (kp x arr t hx h1 h2)⟩, ?_⟩
  exact cell_of_row _ _ _ _ _ _ (heap_setCell_same wk rb 0 _ _ _ rs)
theorem PB.cells {w v0 wk : World} {b r m yb ab rb : Nat} {L : List Wc} {c : Nat} {q : Option Addr} {nn cc : Nat} {M : List Wt} {a : Ac} (h : PB w v0 wk b r m yb ab rb L c q nn cc M a) : (wk.cell? ⟨yb, 0, none⟩ = some (.slice q nn cc) ∧ wk.cell? ⟨rb, 0, none⟩ = some (.slice none 0 0) ∧ wk.frozen? ⟨rb, 0, none⟩ = false) ∧ wk.cell? ⟨ab, 0, none⟩ = some (.int .i64 a.k) ∧ wk.cell? ⟨ab, 1, none⟩ = some (.int .i64 a.x.task) ∧ wk.cell? ⟨ab, 2, none⟩ = some (.int .i64 a.x.kind) ∧ wk.cell? ⟨ab, 3, none⟩ = some (.string a.x.key) ∧ wk.cell? ⟨ab, 4, none⟩ = some (.string a.x.tok) ∧ wk.cell? ⟨ab, 5, none⟩ = some (.int .i64 a.n) :=
  ⟨⟨cell_of_row _ _ _ _ _ _ h.y, cell_of_row _ _ _ _ _ _ h.rs, by simp [World.frozen?, h.rs]⟩, cell_of_row _ _ _ _ _ _ h.ac, cell_of_row _ _ _ _ _ _ h.ac, cell_of_row _ _ _ _ _ _ h.ac, cell_of_row _ _ _ _ _ _ h.ac, cell_of_row _ _ _ _ _ _ h.ac, cell_of_row _ _ _ _ _ _ h.ac⟩
/-- A cell of another block behind the answer's store. -/
theorem cell_rb {wk : World} {rb z i : Nat} {v u : Value} (hz : z ≠ rb) (h : wk.cell? ⟨z, i, none⟩ = some u) : (wk.setCell ⟨rb, 0, none⟩ v).cell? ⟨z, i, none⟩ = some u := by
  rw [World.cell?_setCell_far _ _ _ _ (by show rb ≠ z; exact fun e => hz e.symm)]
  exact h
/-- Behind the document's answer: its box, and the list that it holds. -/
structure PZ (w v0 wk : World) (b r m yb ab rb zb : Nat) (L : List Wc) (c : Nat) (q : Option Addr) (nn cc : Nat) (M : List Wt) (a : Ac) (q2 : Option Addr) (n2 c2 : Nat) (N : List Wt) : Prop where
  pb : PB w v0 wk b r m yb ab rb L c q nn cc M a
  z : wk.heap[zb]? = some (.cells #[.slice q2 n2 c2] 27)
  o : OwnG KW wk w.heap.size (.slice q2 n2 c2) N
  ne : zb ≠ rb
section
variable {w v0 wk w' : World} {b r m yb ab rb zb : Nat} {L L' : List Wc} {c c' : Nat} {q : Option Addr} {nn cc : Nat} {M : List Wt} {a : Ac} {q2 : Option Addr} {n2 c2 : Nat} {N : List Wt}
theorem PZ.below (h : PZ w v0 wk b r m yb ab rb zb L c q nn cc M a q2 n2 c2 N) (k : Below wk.heap.size wk w') : PZ w v0 w' b r m yb ab rb zb L c q nn cc M a q2 n2 c2 N :=
  ⟨h.pb.below k, (k.block _ (lt_of_heap h.z)).trans h.z, h.o.below k, h.ne⟩
theorem PZ.turn (h : PZ w v0 wk b r m yb ab rb zb L c q nn cc M a q2 n2 c2 N) (k : RQ b r m wk L' c' w') : PZ w v0 w' b r m yb ab rb zb L' c' q nn cc M a q2 n2 c2 N :=
  ⟨h.pb.turn k, (k.kp _ _ _ h.z (by decide) (by decide)).trans h.z, h.o.kp k.kp (by decide) (by decide), h.ne⟩
theorem PZ.zc (h : PZ w v0 wk b r m yb ab rb zb L c q nn cc M a q2 n2 c2 N) : wk.cell? ⟨zb, 0, none⟩ = some (.slice q2 n2 c2) := cell_of_row _ _ _ _ _ _ h.z
theorem PZ.s5 (h : PZ w v0 wk b r m yb ab rb zb L c q nn cc M a q2 n2 c2 N) : wk.cell? ⟨zb, 0, none⟩ = some (.slice q2 n2 c2) ∧ wk.cell? ⟨ab, 1, none⟩ = some (.int .i64 a.x.task) ∧ wk.cell? ⟨ab, 2, none⟩ = some (.int .i64 a.x.kind) ∧ wk.cell? ⟨ab, 3, none⟩ = some (.string a.x.key) ∧ wk.cell? ⟨ab, 4, none⟩ = some (.string a.x.tok) := by
  obtain ⟨_, _, a1, a2, a3, a4, _⟩ := h.pb.cells
  exact ⟨h.zc, a1, a2, a3, a4⟩
theorem PZ.p5 (h : PZ w v0 wk b r m yb ab rb zb L c q nn cc M a q2 n2 c2 N) (na : ab ≠ rb) (v : Value) : (wk.setCell ⟨rb, 0, none⟩ v).cell? ⟨zb, 0, none⟩ = some (.slice q2 n2 c2) ∧ (wk.setCell ⟨rb, 0, none⟩ v).cell? ⟨ab, 1, none⟩ = some (.int .i64 a.x.task) ∧ (wk.setCell ⟨rb, 0, none⟩ v).cell? ⟨ab, 2, none⟩ = some (.int .i64 a.x.kind) ∧ (wk.setCell ⟨rb, 0, none⟩ v).cell? ⟨ab, 3, none⟩ = some (.string a.x.key) ∧ (wk.setCell ⟨rb, 0, none⟩ v).cell? ⟨ab, 4, none⟩ = some (.string a.x.tok) := by
  obtain ⟨h0, h1, h2, h3, h4⟩ := h.s5
  exact ⟨cell_rb h.ne h0, cell_rb na h1, cell_rb na h2, cell_rb na h3, cell_rb na h4⟩
theorem PZ.fin (h : PZ w v0 wk b r m yb ab rb zb L c q nn cc M a q2 n2 c2 (wL L)) : PF w v0 (wk.setCell ⟨rb, 0, none⟩ (.slice q2 n2 c2)) b r m L c q2 n2 c2 ∧ (wk.setCell ⟨rb, 0, none⟩ (.slice q2 n2 c2)).cell? ⟨rb, 0, none⟩ = some (.slice q2 n2 c2) := h.pb.fin h.o
theorem play_res {W : World} {rb : Nat} {a : Go.Act} {v : Value} (y : W.cell? ⟨rb, 0, none⟩ = some v) (h6 : a.tmps[6]? = some (.pointer (some ⟨rb, 0, none⟩)) := by rfl) (h7 : a.tmps[7]? = some (.bool true) := by rfl) : (results Try.f12 a.tmps).run Try.prog W = .ok (.tuple #[.agg #[v], .bool true]) W := by
  simp [results, Try.results12, go_sem, h6, h7, y]
theorem PF.below (h : PF w v0 wk b r m L c q nn cc) (k : Below wk.heap.size wk w') : PF w v0 w' b r m L c q nn cc := by
  obtain ⟨⟨f, hf⟩, bl, ow, kp⟩ := h
  exact ⟨⟨f, hf.below k⟩, bl3 bl k, ow.below k, kp.trans (Kp.of_below k)⟩
theorem cell_drew {W : World} {p : Addr} {v : Value} (h : W.cell? p = some v) : W.drew.cell? p = some v := h
/-- A waiter's row. -/
def xR (x : Wt) : Obj := .cells #[.int .i64 x.task, .int .i64 x.kind, .string x.key, .string x.tok] 30
/-- Leave, Find: the rows that are compared. -/
structure LZ (wk : World) (rb zb w1 w2 : Nat) (q2 : Option Addr) (n2 c2 : Nat) (x : Wt) : Prop where
  z : wk.heap[zb]? = some (.cells #[.slice q2 n2 c2] 27)
  h1 : wk.heap[w1]? = some (xR x)
  h2 : wk.heap[w2]? = some (xR x)
  n0 : zb ≠ rb
  n1 : w1 ≠ rb
  n2 : w2 ≠ rb
theorem LZ.below {w1 w2 : Nat} {x : Wt} (h : LZ wk rb zb w1 w2 q2 n2 c2 x) (k : Below wk.heap.size wk w') : LZ w' rb zb w1 w2 q2 n2 c2 x :=
  ⟨(k.block _ (lt_of_heap h.z)).trans h.z, (k.block _ (lt_of_heap h.h1)).trans h.h1, (k.block _ (lt_of_heap h.h2)).trans h.h2, h.n0, h.n1, h.n2⟩
theorem LZ.set {w1 w2 : Nat} {x : Wt} (h : LZ wk rb zb w1 w2 q2 n2 c2 x) (v : Value) : LZ (wk.setCell ⟨rb, 0, none⟩ v) rb zb w1 w2 q2 n2 c2 x :=
  have ne : ∀ y, y ≠ rb → (wk.setCell ⟨rb, 0, none⟩ v).heap[y]? = wk.heap[y]? := fun _ hy => Below.heap_setCell _ _ _ _ hy
  ⟨(ne _ h.n0).trans h.z, (ne _ h.n1).trans h.h1, (ne _ h.n2).trans h.h2, h.n0, h.n1, h.n2⟩
theorem LZ.s {w1 w2 : Nat} {x : Wt} (h : LZ wk rb zb w1 w2 q2 n2 c2 x) : wk.cell? ⟨zb, 0, none⟩ = some (.slice q2 n2 c2) ∧ wk.cell? ⟨w1, 0, none⟩ = some (.int .i64 x.task) ∧ wk.cell? ⟨w1, 1, none⟩ = some (.int .i64 x.kind) ∧ wk.cell? ⟨w1, 2, none⟩ = some (.string x.key) ∧ wk.cell? ⟨w1, 3, none⟩ = some (.string x.tok) ∧ wk.cell? ⟨w2, 0, none⟩ = some (.int .i64 x.task) ∧ wk.cell? ⟨w2, 1, none⟩ = some (.int .i64 x.kind) ∧ wk.cell? ⟨w2, 2, none⟩ = some (.string x.key) ∧ wk.cell? ⟨w2, 3, none⟩ = some (.string x.tok) :=
  ⟨cell_of_row _ _ _ _ _ _ h.z, cell_of_row _ _ _ _ _ _ h.h1, cell_of_row _ _ _ _ _ _ h.h1, cell_of_row _ _ _ _ _ _ h.h1, cell_of_row _ _ _ _ _ _ h.h1, cell_of_row _ _ _ _ _ _ h.h2, cell_of_row _ _ _ _ _ _ h.h2, cell_of_row _ _ _ _ _ _ h.h2, cell_of_row _ _ _ _ _ _ h.h2⟩
theorem PZ.new (h : PB w v0 wk b r m yb ab rb L c q nn cc M a) (k : Below wk.heap.size wk w') (o : OwnG KW w' w.heap.size (.slice q2 n2 c2) N) : PZ w v0 (w'.alloc (.cells #[.slice q2 n2 c2] 27)) b r m yb ab rb w'.heap.size L c q nn cc M a q2 n2 c2 N := by
  have hs := k.size
  have hr := lt_of_heap h.rs
  exact ⟨h.below (bl3 k (bal _ _)), heap_alloc_new _ _, o.below (bal _ _), by omega⟩
/-- Leave, to the line where the two waiters are compared. -/
theorem lv_pz {x : Wt} {w3 w4 : World} (h : PB w v0 (w3.alloc (xR x)) b r m yb ab rb L c q nn cc M a) (hr : rb < w3.heap.size) (k : Below (w3.alloc (xR x)).heap.size (w3.alloc (xR x)) w4) (o : OwnG KW w4 w.heap.size (.slice q2 n2 c2) N) : PZ w v0 ((w4.alloc (.cells #[.slice q2 n2 c2] 27)).alloc (xR x)) b r m yb ab rb w4.heap.size L c q nn cc M a q2 n2 c2 N ∧ LZ ((w4.alloc (.cells #[.slice q2 n2 c2] 27)).alloc (xR x)) rb w4.heap.size w3.heap.size (w4.heap.size + 1) q2 n2 c2 x := by
  have Z := (PZ.new h k o).below (bal _ (xR x))
  have hs := k.size
  rw [World.size_alloc] at hs
  have B2 := bl3 (bal w4 (.cells #[.slice q2 n2 c2] 27)) (bal (w4.alloc (.cells #[.slice q2 n2 c2] 27)) (xR x))
  refine ⟨Z, Z.z, ?_, ?_, Z.ne, by omega, by omega⟩
  · exact (B2.block _ (by omega)).trans ((k.block _ (by simp)).trans (heap_alloc_new _ _))
  · have := heap_alloc_new (w4.alloc (.cells #[.slice q2 n2 c2] 27)) (xR x)
    rw [World.size_alloc] at this
    exact this
/-- Find, to the line where the two waiters are compared. -/
theorem fi_pz {x : Wt} {w3 w4 : World} (h : PB w v0 (w3.alloc (xR x)) b r m yb ab rb L c q nn cc M a) (hy : yb ≠ rb) (hr : rb < w3.heap.size) (k : Below (w3.alloc (xR x)).heap.size (w3.alloc (xR x)) w4) : PZ w v0 (w4.alloc (xR x)) b r m yb ab rb yb L c q nn cc M a q nn cc M ∧ LZ (w4.alloc (xR x)) rb yb w3.heap.size w4.heap.size q nn cc x := by
  have hs := k.size
  rw [World.size_alloc] at hs
  have H := h.below (bl3 k (bal w4 (xR x)))
  refine ⟨⟨H, H.y, H.ow, hy⟩, H.y, ?_, heap_alloc_new _ _, hy, by omega, by omega⟩
  exact ((bal w4 (xR x)).block _ (by omega)).trans ((k.block _ (by simp)).trans (heap_alloc_new _ _))
theorem out_nil (L : List Wc) : outL L [] = L := by simp [outL]
theorem nc_out {L : List Wc} {c : Nat} (h : RI L c) (tok : ByteArray) : ncL L tok = outL L (cnL L tok) := by
  unfold ncL outL
  refine List.filter_congr fun x hx => ?_
  congr 1
  rw [Bool.eq_iff_iff, decide_eq_true_iff, List.any_eq_true]
  constructor
  · intro e
    exact ⟨x, List.mem_filter.2 ⟨hx, decide_eq_true e⟩, decide_eq_true rfl⟩
  · rintro ⟨y, hy, e⟩
    have h2 := List.mem_filter.1 hy
    have := h.uniq h2.1 hx (of_decide_eq_true e)
    rw [← this]
    exact of_decide_eq_true h2.2
theorem wL_cn (L : List Wc) (tok : ByteArray) : (wL L).filter (fun x => decide (x.tok = tok)) = wL (cnL L tok) := by
  unfold wL cnL
  rw [List.filter_map]
  rfl
theorem wL_fst (L : List Wc) (key : ByteArray) (n : Nat) : ((wL L).filter fun x => decide (x.key = key)).take n = wL ((qK L key).take n) := by
  rw [← wL_queue]
  unfold wL
  rw [List.map_take]
theorem wL_le (L : List Wc) : (wL L).length = L.length := by unfold wL; rw [List.length_map]
theorem fd_cases {L : List Wc} {c : Nat} (h : RI L c) (t : Int) : (fdO L t = none ∧ fdE L t = (if taskB t then 4 else 1) ∧ ∀ x ∈ wL L, x.task ≠ t) ∨ ∃ x ∈ L, x.w.task = t ∧ fdO L t = some x ∧ fdE L t = 0 ∧ taskB t = true := by
  by_cases e : ∃ x ∈ L, x.w.task = t
  · obtain ⟨x, hx, rfl⟩ := e
    have tb : taskB x.w.task = true := decide_eq_true (h.ok x hx).1
    refine Or.inr ⟨x, hx, rfl, fdO_some h hx, ?_, tb⟩
    unfold fdE
    rw [fdO_some h hx, tb]
    simp
  · have hn : ∀ x ∈ L, x.w.task ≠ t := fun x hx e2 => e ⟨x, hx, e2⟩
    refine Or.inl ⟨fdO_none hn, ?_, fun x hx => ?_⟩
    · unfold fdE
      rw [fdO_none hn]
      cases taskB t <;> simp
    · obtain ⟨y, hy, rfl⟩ := List.mem_map.1 hx
      exact hn y hy
/-- The room without a task. -/
def dL (L : List Wc) (t : Int) : List Wc := L.filter fun x => !decide (x.w.task = t)
theorem lv_out {L : List Wc} {y : Wc} (hy : y ∈ L) {t : Int} (ht : y.w.task = t) : outL L (gnL (fun _ x => decide (x.w.task = t)) 0 (qK L y.w.key)) = dL L t := by
  rw [gnL_filter]
  unfold outL dL
  refine List.filter_congr fun x _ => ?_
  congr 1
  rw [Bool.eq_iff_iff, decide_eq_true_iff, List.any_eq_true]
  constructor
  · rintro ⟨z, hz, e⟩
    have e2 := of_decide_eq_true (List.mem_filter.1 hz).2
    have e3 := of_decide_eq_true e
    omega
  · intro e
    exact ⟨y, List.mem_filter.2 ⟨qK_mem.2 ⟨hy, rfl⟩, decide_eq_true ht⟩, decide_eq_true (ht.trans e.symm)⟩
theorem wL_drop (L : List Wc) (t : Int) : wL (dL L t) = dropT (wL L) t := by
  unfold wL dL dropT
  rw [List.filter_map]
  rfl
theorem filt_at (p : Wc → Bool) (L : List Wc) (i : Nat) (hi : i < L.length) (hq : p L[i] = true) : (L.filter p)[((L.take i).filter p).length]? = some L[i] := by
  have e : L = L.take i ++ L[i] :: L.drop (i + 1) := by rw [← List.drop_eq_getElem_cons hi, List.take_append_drop]
  have e2 : L.filter p = (L.take i).filter p ++ L[i] :: (L.drop (i + 1)).filter p := by
    conv => lhs; rw [e]
    rw [List.filter_append, List.filter_cons_of_pos hq]
  rw [e2, List.getElem?_append_right (Nat.le_refl _)]
  simp
theorem fd_pos {L : List Wc} {c : Nat} (h : RI L c) {t : Int} {x : Wc} (ho : fdO L t = some x) (hx : x ∈ L) (ht : x.w.task = t) {i : Nat} (hi : i < (wL L).length) (he : (wL L)[i].task = t) : (wL L)[i] = x.w ∧ fdP L t = (((wL L).take i).filter fun y => decide (y.key = x.w.key)).length := by
  have hi2 : i < L.length := by rw [wL_le] at hi; exact hi
  have e0 : (wL L)[i] = L[i].w := by simp [wL]
  rw [e0] at he
  have e1 : L[i] = x := h.uniq (List.getElem_mem hi2) hx (he.trans ht.symm)
  refine ⟨by rw [e0, e1], ?_⟩
  have e2 := filt_at (fun y => decide (y.w.key = x.w.key)) L i hi2 (by rw [e1]; exact decide_eq_true rfl)
  have e3 := idxT_hit (qK L x.w.key) 0 _ L[i] e2 (h.tk.sublist List.filter_sublist)
  have e4 : fdP L t = idxT (qK L x.w.key) t 0 := by unfold fdP; rw [ho]
  rw [e1, ht] at e3
  rw [e4, e3]
  unfold wL
  rw [← List.map_take, List.filter_map, List.length_map]
  have e5 : ((fun y : Wt => decide (y.key = x.w.key)) ∘ fun y : Wc => y.w) = fun y : Wc => decide (y.w.key = x.w.key) := rfl
  rw [e5]
  omega
/-- Wake, First, Cancel: what both sides leave, to the line where the two lists are compared. -/
theorem wk_pz {G : List Wc} {w3 w4 : World} {Q : List Wt} {t : Array Value} {e : Ending} {p1 : Option Addr} {n1 c1 : Nat} (h : PB w v0 w3 b r m yb ab rb (outL L G) c q nn cc (wL L) a) (g1 : GS KW w3 (.slice p1 n1 c1) (wL G)) (hQ : Q = wL G) (k : WkR w3 (.slice q nn cc) (wL L) Q t e w4) (hl : (wL G).length ≤ 100000000) : ∃ q2 n2 c2 p2 c3, e = .returned (.tuple (#[.agg #[.slice q2 n2 c2], .slice p2 (wL G).length c3] ++ t)) ∧ Hid ((w4.alloc (.cells #[.slice q2 n2 c2] 27)).drew.cell? ⟨w4.heap.size, 0, none⟩ = some (.slice q2 n2 c2)) ∧ Hid (Calls Try.prog 17 #[.slice p1 n1 c1, .slice p2 (wL G).length c3] (w4.alloc (.cells #[.slice q2 n2 c2] 27)).drew fun e w' => e = .returned (.bool true) ∧ PZ w v0 w' b r m yb ab rb w4.heap.size (outL L G) c q nn cc (wL L) a q2 n2 c2 (wL (outL L G)) ∧ w'.cell? ⟨w4.heap.size, 0, none⟩ = some (.slice q2 n2 c2) ∧ w'.cell? ⟨rb, 0, none⟩ = some (.slice none 0 0) ∧ w'.frozen? ⟨rb, 0, none⟩ = false ∧ (w'.setCell ⟨rb, 0, none⟩ (.slice q2 n2 c2)).cell? ⟨w4.heap.size, 0, none⟩ = some (.slice q2 n2 c2)) := by
  subst hQ
  obtain ⟨v', p, c0, he, hg, ho, hq, hb⟩ := k
  rw [← wL_out] at hg ho
  obtain ⟨q2, c2, rfl⟩ := hg.form
  have o : OwnG KW w4 w.heap.size (.slice q2 (wL (outL L G)).length c2) (wL (outL L G)) := by
    rcases ho with ⟨e1, e2⟩ | o
    · rw [e1, e2]; exact h.ow.below hb
    · exact o.low h.bl.size
  have Z := (PZ.new h hb o).below (drew_below _ 1)
  have B2 := bl3 (bal w4 (.cells #[.slice q2 (wL (outL L G)).length c2] 27)) (drew_below _ 1)
  refine ⟨q2, _, c2, p, c0, he, hid Z.zc, hid ((waiters_same _ _ _ (wL G) (g1.below (bl3 hb B2)) (hq.below B2) (by omega)).mono fun e w' hw => ?_)⟩
  obtain ⟨h1, nd, rfl⟩ := hw
  have Z2 := Z.below (drew_below _ nd)
  exact ⟨h1, Z2, Z2.zc, Z2.pb.cells.1.2.1, Z2.pb.cells.1.2.2, cell_rb Z2.ne Z2.zc⟩
end
set_option maxRecDepth 100000 in
set_option maxHeartbeats 32000000 in
theorem play_any (w wk : World) (b r m : Nat) (L : List Wc) (c : Nat) (f : ByteArray → Option Value) (hx : RX wk b r m L c f) (q : Option Addr) (cc : Nat) (ho : OwnG KW wk w.heap.size (.slice q L.length cc) (wL L)) (hbl : Below w.heap.size w wk) (hgb : w.heap.size ≤ b) (a : Ac) (hok : acOk a) (hc : c ≤ 100000000000000000) (h7 : am8 a.k ≠ 7) : Calls Try.prog 12 #[.pointer (some ⟨r, 0, none⟩), .agg #[.slice q L.length cc], .agg #[.int .i64 a.k, .int .i64 a.x.task, .int .i64 a.x.kind, .string a.x.key, .string a.x.tok, .int .i64 a.n]] wk fun e w' => ∃ L2 c3 q2 n2 c2, e = .returned (.tuple #[.agg #[.slice q2 n2 c2], .bool true]) ∧ PF w wk w' b r m L2 c3 q2 n2 c2 ∧ c3 ≤ c + 1 := by
  have AM := hid (fun W' => among8_any a.k W')
  obtain ⟨W, hW⟩ : ∃ W, W = ((wk.alloc (.cells #[.slice q L.length cc] 27)).alloc (.cells #[.int .i64 a.k, .int .i64 a.x.task, .int .i64 a.x.kind, .string a.x.key, .string a.x.tok, .int .i64 a.n] 32)).alloc (.cells #[.slice none 0 0] 27) := ⟨_, rfl⟩
  have b1 := bal wk (.cells #[.slice q L.length cc] 27)
  have b2 := bal (wk.alloc (.cells #[.slice q L.length cc] 27)) (.cells #[.int .i64 a.k, .int .i64 a.x.task, .int .i64 a.x.kind, .string a.x.key, .string a.x.tok, .int .i64 a.n] 32)
  have b3 := bal ((wk.alloc (.cells #[.slice q L.length cc] 27)).alloc (.cells #[.int .i64 a.k, .int .i64 a.x.task, .int .i64 a.x.kind, .string a.x.key, .string a.x.tok, .int .i64 a.n] 32)) (.cells #[.slice none 0 0] 27)
  rw [← hW] at b3
  have P0 : Hid (PB w wk W b r m wk.heap.size (wk.heap.size + 1) (wk.heap.size + 1 + 1) L c q L.length cc (wL L) a) := by
    have bb := bl3 b1 (bl3 b2 b3)
    have kw := hbl.size
    have k1 : W.heap[wk.heap.size]? = some (.cells #[.slice q L.length cc] 27) := ((bl3 b2 b3).block _ (by simp)).trans (heap_alloc_new _ _)
    have k2 : W.heap[wk.heap.size + 1]? = some (.cells #[.int .i64 a.k, .int .i64 a.x.task, .int .i64 a.x.kind, .string a.x.key, .string a.x.tok, .int .i64 a.n] 32) := (b3.block _ (by simp)).trans (by
      have := heap_alloc_new (wk.alloc (.cells #[.slice q L.length cc] 27)) (.cells #[.int .i64 a.k, .int .i64 a.x.task, .int .i64 a.x.kind, .string a.x.key, .string a.x.tok, .int .i64 a.n] 32)
      rw [World.size_alloc] at this
      exact this)
    have k3 : W.heap[wk.heap.size + 1 + 1]? = some (.cells #[.slice none 0 0] 27) := by
      have := heap_alloc_new ((wk.alloc (.cells #[.slice q L.length cc] 27)).alloc (.cells #[.int .i64 a.k, .int .i64 a.x.task, .int .i64 a.x.kind, .string a.x.key, .string a.x.tok, .int .i64 a.n] 32)) (.cells #[.slice none 0 0] 27)
      rw [World.size_alloc, World.size_alloc] at this
      rw [hW]
      exact this
    exact ⟨⟨f, hx.below bb⟩, bl3 hbl bb, ho.below bb, k1, k2, k3, hgb, by omega, Kp.of_below bb, by omega⟩
  have OK := hid hok
  have TSK : Hid ((wL L).length ≤ 128 ∧ (wL L).Pairwise fun x y => x.task ≠ y.task) := ⟨wL_len hx.ri, wL_pw hx.ri⟩
  have RI0 := hid hx.ri
  clear hx ho hbl hgb hok b1 b2 b3
  go_enter Try.func12, Try.ntmps12
  go_upto_region 1 with fail
  rw [← hW]
  clear hW
  obtain ⟨yb, hyb⟩ : ∃ yb, yb = wk.heap.size := ⟨_, rfl⟩
  obtain ⟨ab, hab⟩ : ∃ ab, ab = wk.heap.size + 1 := ⟨_, rfl⟩
  obtain ⟨rb, hrb⟩ : ∃ rb, rb = wk.heap.size + 1 + 1 := ⟨_, rfl⟩
  rw [← hrb, ← hab, ← hyb] at P0
  rw [← hrb, ← hab, ← hyb]
  have NE : yb ≠ rb ∧ ab ≠ rb := by omega
  clear hyb hab hrb
  obtain ⟨⟨y0, r0, f0⟩, a0, a1, a2, a3, a4, a5⟩ := P0.out.cells
  go_upto_region 2 with (go_at_call 8; refine (AM.out _).mono ?_; rintro e w2 ⟨rfl, hw2⟩; rw [hw2]; clear hw2)
  clear AM
  generalize am8 a.k = kd0 at *
  by_cases hj : kd0 = 0 ∨ kd0 = 1
  · have RJ := hid (rjoin_both q L.length cc (wL L) a.x W w.heap.size P0.out.ow P0.out.bl.size TSK.out.1 (fun h0 => ri_lt RI0.out h0) OK.out.2)
    rw [← wL_joined L c a.x, wL_join] at RJ
    rcases hj with rfl | rfl
    all_goals
      go_upto_region 5 with (go_at_call 14; refine RJ.out.mono ?_; rintro e w3 ⟨q2, n2, c2, rfl, o3, b3⟩; have O3 := hid o3; have B3 := hid b3; clear o3 b3)
      have Z4 := hid (PZ.new P0.out B3.out O3.out)
      clear O3 B3 P0
      have ZD := hid (Z4.out.below (drew_below _ 1))
      have JN : Hid (Calls Try.prog 11 #[.pointer (some ⟨r, 0, none⟩), .int .i64 a.x.task, .string a.x.key, .string a.x.tok, .int .i64 a.x.kind] (w3.alloc (.cells #[.slice q2 n2 c2] 27)).drew fun e w' => e = .returned (.int .i64 (joinE L a.x)) ∧ PZ w wk w' b r m yb ab rb w3.heap.size (joinL L c a.x) (joinC L c a.x) q L.length cc (wL L) a q2 n2 c2 (wL (joinL L c a.x))) := by
        obtain ⟨f1, hf⟩ := ZD.out.pb.rx
        exact (join_any a.x _ b r m L c f1 hf OK.out.1 OK.out.2 (by omega)).mono fun e w' ⟨h1, h2⟩ => ⟨h1, ZD.out.turn (hf.rq h2)⟩
      refine pl5 (G := fun w' => PZ w wk w' b r m yb ab rb w3.heap.size (joinL L c a.x) (joinC L c a.x) q L.length cc (wL L) a q2 n2 c2 (wL (joinL L c a.x))) ZD.out.s5 (JN.out.mono fun e w' ⟨h1, h2⟩ => ⟨h1, h2, h2.s5, h2.pb.cells.1.2.1, h2.pb.cells.1.2.2, h2.p5 NE.2 _⟩) ?_
      intro W' _ _ _ _ _ _ _ _ _ _ _ _ _ _ _ _ _ hG
      go_wp2_with fail
      exact bodyPost_ret (v := .tuple #[.agg #[.slice q2 n2 c2], .bool true]) (play_res hG.fin.2) rfl ⟨_, _, _, _, _, rfl, hG.fin.1, joinC_le _ _ _⟩
  have n0 : kd0 ≠ 0 := fun e => hj (Or.inl e)
  have n1 : kd0 ≠ 1 := fun e => hj (Or.inr e)
  clear hj
  obtain ⟨f0, hf0⟩ := P0.out.rx
  have HF := hid hf0
  clear hf0
  by_cases h3 : kd0 = 3
  · subst h3
    have WA := hid (wake_any a.x.key W b r m L c f0 HF.out OK.out.1)
    have RW : Hid (∀ w3, PB w wk w3 b r m yb ab rb (outL L (qK L a.x.key)) c q L.length cc (wL L) a → Calls Try.prog 34 #[.agg #[.slice q L.length cc], .string a.x.key] w3 (WkR w3 (.slice q L.length cc) (wL L) ((wL L).filter fun x => decide (x.key = a.x.key)) #[])) := hid fun w3 h => rwake_any _ (wL L) a.x.key w3 (h.ow.gs KW_ok.len) TSK.out.1 TSK.out.2
    go_upto_region 12 with (go_at_call 10; refine WA.out.mono ?_; rintro e w3 ⟨p1, c1, rfl, o1, rr1⟩; have P3 := hid (P0.out.turn (HF.out.rq rr1)); have G1 : Hid (GS KW w3 (.slice p1 (qK L a.x.key).length c1) (wL (qK L a.x.key))) := hid (o1.gs KW_ok.len); obtain ⟨⟨y3, r3, f3⟩, a03, a13, a23, a33, a43, a53⟩ := P3.out.cells; clear o1 rr1)
    go_upto_region 13 with (go_at_call 34; refine (RW.out _ P3.out).mono ?_; intro e w4 hk; obtain ⟨q2, n2, c2, p2, c3, he, SZ, CZ⟩ := wk_pz P3.out G1.out (wL_queue L a.x.key).symm hk (by have := qK_len L a.x.key; have := RI0.out.len; unfold wL; rw [List.length_map]; omega); have he2 : e = .returned (.tuple #[.agg #[.slice q2 n2 c2], .slice p2 (wL (qK L a.x.key)).length c3]) := he.trans (by simp); subst he2; clear he hk)
    refine pl13 (G := fun w' => PZ w wk w' b r m yb ab rb w4.heap.size (outL L (qK L a.x.key)) c q L.length cc (wL L) a q2 n2 c2 (wL (outL L (qK L a.x.key)))) SZ.out CZ.out ?_
    intro W' _ _ _ _ hG
    go_wp2_with fail
    exact bodyPost_ret (v := .tuple #[.agg #[.slice q2 n2 c2], .bool true]) (play_res hG.fin.2) rfl ⟨_, _, _, _, _, rfl, hG.fin.1, Nat.le_succ _⟩
  by_cases h4 : kd0 = 4
  · subst h4
    by_cases hn : a.n < 0
    · have FA := hid (first_no a.x.key a.n hn W r)
      have RF : Hid (∀ w3, PB w wk w3 b r m yb ab rb (outL L []) c q L.length cc (wL L) a → Calls Try.prog 35 #[.agg #[.slice q L.length cc], .string a.x.key, .int .i64 a.n] w3 (WkR w3 (.slice q L.length cc) (wL L) [] #[.int .i64 1])) := hid fun w3 h => (rfirst_no _ (wL L) a.x.key a.n w3 (h.ow.gs KW_ok.len) hn).mono fun e w' ⟨h1, h2⟩ => ⟨_, none, 0, (by first | exact h1 | simpa using h1), (h.ow.gs KW_ok.len).below h2, Or.inl ⟨rfl, rfl⟩, Or.inl ⟨Or.inl rfl, rfl⟩, h2⟩
      go_upto_region 16 with (go_at_call 24; refine FA.out.mono ?_; rintro e w3 ⟨rfl, b3⟩; have P3 : Hid (PB w wk w3 b r m yb ab rb (outL L []) c q L.length cc (wL L) a) := hid (by rw [out_nil]; exact P0.out.below b3); have G1 : Hid (GS KW w3 (.slice none 0 0) (wL [])) := hid (Or.inl ⟨Or.inl rfl, rfl⟩); obtain ⟨⟨y3, r3, f3⟩, a03, a13, a23, a33, a43, a53⟩ := P3.out.cells; clear b3)
      go_upto_region 17 with (go_at_call 35; refine (RF.out _ P3.out).mono ?_; intro e w4 hk; obtain ⟨q2, n2, c2, p2, c3, he, SZ, CZ⟩ := wk_pz P3.out G1.out rfl hk (by simp [wL]); have he2 : e = .returned (.tuple #[.agg #[.slice q2 n2 c2], .slice p2 (wL []).length c3, .int .i64 1]) := he.trans (by simp); subst he2; clear he hk)
      refine pl17 (E := 1) (G := fun w' => PZ w wk w' b r m yb ab rb w4.heap.size (outL L []) c q L.length cc (wL L) a q2 n2 c2 (wL (outL L []))) SZ.out CZ.out ?_
      intro W' _ _ _ _ _ _ _ _ _ hG
      go_wp2_with fail
      exact bodyPost_ret (v := .tuple #[.agg #[.slice q2 n2 c2], .bool true]) (play_res hG.fin.2) rfl ⟨_, _, _, _, _, rfl, hG.fin.1, Nat.le_succ _⟩
    · have hn0 : 0 ≤ a.n := by omega
      obtain ⟨T, hT⟩ : ∃ T, T = (qK L a.x.key).take a.n.toNat := ⟨_, rfl⟩
      have FA := hid (first_ok a.x.key a.n hn0 W b r m L c f0 HF.out OK.out.1)
      rw [← hT] at FA
      have HT : Hid (((wL L).filter fun x => decide (x.key = a.x.key)).take a.n.toNat = wL T) := hid ((wL_fst L a.x.key a.n.toNat).trans (by rw [hT]))
      have LT : Hid ((wL T).length ≤ 100000000) := hid (by have := qK_len L a.x.key; have := RI0.out.len; rw [wL_le, hT, List.length_take]; omega)
      clear hT
      have RF : Hid (∀ w3, PB w wk w3 b r m yb ab rb (outL L T) c q L.length cc (wL L) a → Calls Try.prog 35 #[.agg #[.slice q L.length cc], .string a.x.key, .int .i64 a.n] w3 (WkR w3 (.slice q L.length cc) (wL L) (((wL L).filter fun x => decide (x.key = a.x.key)).take a.n.toNat) #[.int .i64 0])) := hid fun w3 h => rfirst_ok _ (wL L) a.x.key a.n w3 (h.ow.gs KW_ok.len) TSK.out.1 TSK.out.2 hn0
      go_upto_region 16 with (go_at_call 24; refine FA.out.mono ?_; rintro e w3 ⟨p1, c1, rfl, o1, rr1⟩; have P3 := hid (P0.out.turn (HF.out.rq rr1)); have G1 : Hid (GS KW w3 (.slice p1 T.length c1) (wL T)) := hid (o1.gs KW_ok.len); obtain ⟨⟨y3, r3, f3⟩, a03, a13, a23, a33, a43, a53⟩ := P3.out.cells; clear o1 rr1)
      go_upto_region 17 with (go_at_call 35; refine (RF.out _ P3.out).mono ?_; intro e w4 hk; obtain ⟨q2, n2, c2, p2, c3, he, SZ, CZ⟩ := wk_pz P3.out G1.out HT.out hk LT.out; have he2 : e = .returned (.tuple #[.agg #[.slice q2 n2 c2], .slice p2 (wL T).length c3, .int .i64 0]) := he.trans (by simp); subst he2; clear he hk)
      refine pl17 (E := 0) (G := fun w' => PZ w wk w' b r m yb ab rb w4.heap.size (outL L T) c q L.length cc (wL L) a q2 n2 c2 (wL (outL L T))) SZ.out CZ.out ?_
      intro W' _ _ _ _ _ _ _ _ _ hG
      go_wp2_with fail
      exact bodyPost_ret (v := .tuple #[.agg #[.slice q2 n2 c2], .bool true]) (play_res hG.fin.2) rfl ⟨_, _, _, _, _, rfl, hG.fin.1, Nat.le_succ _⟩
  by_cases h5 : kd0 = 5
  · subst h5
    by_cases ht : a.x.tok.size = 0
    · have he0 : a.x.tok = ByteArray.empty := ByteArray.ext (Array.eq_empty_of_size_eq_zero ht)
      have FA : Hid (Calls Try.prog 36 #[.pointer (some ⟨r, 0, none⟩), .string a.x.tok] W fun e w' => e = .returned (.slice none 0 0) ∧ Below W.heap.size W w') := hid (by rw [he0]; exact cancel_none W r)
      have RF : Hid (∀ w3, PB w wk w3 b r m yb ab rb (outL L []) c q L.length cc (wL L) a → Calls Try.prog 37 #[.agg #[.slice q L.length cc], .string a.x.tok] w3 (WkR w3 (.slice q L.length cc) (wL L) [] #[])) := hid fun w3 h => by rw [he0]; exact rcancel_e _ (wL L) w3 (h.ow.gs KW_ok.len) TSK.out.1 TSK.out.2
      clear he0 ht
      go_upto_region 20 with (go_at_call 36; refine FA.out.mono ?_; rintro e w3 ⟨rfl, b3⟩; have P3 : Hid (PB w wk w3 b r m yb ab rb (outL L []) c q L.length cc (wL L) a) := hid (by rw [out_nil]; exact P0.out.below b3); have G1 : Hid (GS KW w3 (.slice none 0 0) (wL [])) := hid (Or.inl ⟨Or.inl rfl, rfl⟩); obtain ⟨⟨y3, r3, f3⟩, a03, a13, a23, a33, a43, a53⟩ := P3.out.cells; clear b3)
      go_upto_region 21 with (go_at_call 37; refine (RF.out _ P3.out).mono ?_; intro e w4 hk; obtain ⟨q2, n2, c2, p2, c3, he, SZ, CZ⟩ := wk_pz P3.out G1.out rfl hk (by simp [wL]); have he2 : e = .returned (.tuple #[.agg #[.slice q2 n2 c2], .slice p2 (wL []).length c3]) := he.trans (by simp); subst he2; clear he hk)
      refine pl21 (G := fun w' => PZ w wk w' b r m yb ab rb w4.heap.size (outL L []) c q L.length cc (wL L) a q2 n2 c2 (wL (outL L []))) SZ.out CZ.out ?_
      intro W' _ _ _ _ hG
      go_wp2_with fail
      exact bodyPost_ret (v := .tuple #[.agg #[.slice q2 n2 c2], .bool true]) (play_res hG.fin.2) rfl ⟨_, _, _, _, _, rfl, hG.fin.1, Nat.le_succ _⟩
    · obtain ⟨T, hT⟩ : ∃ T, T = cnL L a.x.tok := ⟨_, rfl⟩
      have FA : Hid (Calls Try.prog 36 #[.pointer (some ⟨r, 0, none⟩), .string a.x.tok] W fun e w' => ∃ p1 c1, e = .returned (.slice p1 T.length c1) ∧ OwnG KW w' W.heap.size (.slice p1 T.length c1) (wL T) ∧ RR W b r m f0 (outL L T) c w') := hid ((cancel_ok a.x.tok W b r m L c f0 HF.out (by omega)).mono fun e w' hk => by
        obtain ⟨⟨p1, c1, h1, h2⟩, h3⟩ := hk
        rw [nc_out RI0.out, ← hT] at h3
        rw [← hT] at h1 h2
        exact ⟨p1, c1, h1, h2, h3⟩)
      have HT : Hid (((wL L).filter fun x => decide (x.tok = a.x.tok)) = wL T) := hid ((wL_cn L a.x.tok).trans (by rw [hT]))
      have LT : Hid ((wL T).length ≤ 100000000) := hid (by have := RI0.out.len; have := List.length_filter_le (fun x : Wc => decide (x.w.tok = a.x.tok)) L; rw [wL_le, hT]; unfold cnL; omega)
      clear hT
      have RF : Hid (∀ w3, PB w wk w3 b r m yb ab rb (outL L T) c q L.length cc (wL L) a → Calls Try.prog 37 #[.agg #[.slice q L.length cc], .string a.x.tok] w3 (WkR w3 (.slice q L.length cc) (wL L) ((wL L).filter fun x => decide (x.tok = a.x.tok)) #[])) := hid fun w3 h => rcancel_ok _ (wL L) a.x.tok w3 (h.ow.gs KW_ok.len) TSK.out.1 TSK.out.2 (by omega)
      clear ht
      go_upto_region 20 with (go_at_call 36; refine FA.out.mono ?_; rintro e w3 ⟨p1, c1, rfl, o1, rr1⟩; have P3 := hid (P0.out.turn (HF.out.rq rr1)); have G1 : Hid (GS KW w3 (.slice p1 T.length c1) (wL T)) := hid (o1.gs KW_ok.len); obtain ⟨⟨y3, r3, f3⟩, a03, a13, a23, a33, a43, a53⟩ := P3.out.cells; clear o1 rr1)
      go_upto_region 21 with (go_at_call 37; refine (RF.out _ P3.out).mono ?_; intro e w4 hk; obtain ⟨q2, n2, c2, p2, c3, he, SZ, CZ⟩ := wk_pz P3.out G1.out HT.out hk LT.out; have he2 : e = .returned (.tuple #[.agg #[.slice q2 n2 c2], .slice p2 (wL T).length c3]) := he.trans (by simp); subst he2; clear he hk)
      refine pl21 (G := fun w' => PZ w wk w' b r m yb ab rb w4.heap.size (outL L T) c q L.length cc (wL L) a q2 n2 c2 (wL (outL L T))) SZ.out CZ.out ?_
      intro W' _ _ _ _ hG
      go_wp2_with fail
      exact bodyPost_ret (v := .tuple #[.agg #[.slice q2 n2 c2], .bool true]) (play_res hG.fin.2) rfl ⟨_, _, _, _, _, rfl, hG.fin.1, Nat.le_succ _⟩
  by_cases h2 : kd0 = 2
  · subst h2
    have LV : ∃ (x : Wt) (E : Int) (L' : List Wc), Hid (Calls Try.prog 32 #[.pointer (some ⟨r, 0, none⟩), .int .i64 a.x.task] W fun e w' => e = .returned (.tuple #[.agg #[.int .i64 x.task, .int .i64 x.kind, .string x.key, .string x.tok], .int .i64 E]) ∧ RQ b r m W L' c w') ∧ Hid (∀ w3, PB w wk w3 b r m yb ab rb L' c q L.length cc (wL L) a → Calls Try.prog 33 #[.agg #[.slice q L.length cc], .int .i64 a.x.task] w3 fun e w' => ∃ q2 n2 c2, e = .returned (.tuple #[.agg #[.slice q2 n2 c2], .agg #[.int .i64 x.task, .int .i64 x.kind, .string x.key, .string x.tok], .int .i64 E]) ∧ OwnG KW w' w.heap.size (.slice q2 n2 c2) (wL L') ∧ Below w3.heap.size w3 w') := by
      rcases fd_cases RI0.out a.x.task with ⟨e1, e2, e3⟩ | ⟨x, hx, e1, e2, e3, e4⟩
      · have en : fdE L a.x.task ≠ 0 := by rw [e2]; split <;> omega
        refine ⟨w0, fdE L a.x.task, L, hid ((leave_no a.x.task W b r m L c f0 HF.out en).mono fun e w' ⟨h1, h2⟩ => ⟨h1, HF.out.rq (HF.out.rr h2)⟩), hid fun w3 h => ?_⟩
        rw [e2]
        exact (rleave_no _ (wL L) a.x.task w3 (h.ow.gs KW_ok.len) TSK.out.1 e3).mono fun e w' ⟨h1, h2⟩ => ⟨_, _, _, h1, h.ow.below h2, h2⟩
      · have ew : fdW L a.x.task = x.w := by unfold fdW; rw [e2]; rfl
        have LK := leave_ok a.x.task W b r m L c f0 HF.out e3 (by rw [ew]; exact Nat.le_trans (RI0.out.ok x hx).2.1 (by decide))
        rw [ew, lv_out hx e1] at LK
        refine ⟨x.w, 0, dL L a.x.task, hid (LK.mono fun e w' ⟨h1, h2⟩ => ⟨h1, HF.out.rq h2⟩), hid fun w3 h => ?_⟩
        refine (rleave_ok _ (wL L) a.x.task w3 (h.ow.gs KW_ok.len) TSK.out.1 TSK.out.2 e4 ⟨x.w, List.mem_map_of_mem hx, e1⟩).mono fun e w' hk => ?_
        obtain ⟨v', y, hy, ht, h1, h2, h3⟩ := hk
        obtain ⟨z, hz, rfl⟩ := List.mem_map.1 hy
        have ez := RI0.out.uniq hz hx (ht.trans e1.symm)
        subst ez
        rw [← wL_drop] at h2
        obtain ⟨q2, c2, rfl⟩ := (h2.gs KW_ok.len).form
        exact ⟨_, _, _, h1, h2.low h.bl.size, h3⟩
    obtain ⟨x, E, L', FA, RF⟩ := LV
    go_upto_region 8 with (go_at_call 32; refine FA.out.mono ?_; rintro e w3 ⟨rfl, k3⟩; have P3 := hid (P0.out.turn k3); have PV := hid (P3.out.below (bal w3 (.cells #[.int .i64 x.task, .int .i64 x.kind, .string x.key, .string x.tok] 30))); obtain ⟨⟨y3, r3, f3⟩, a03, a13, a23, a33, a43, a53⟩ := PV.out.cells; clear k3)
    go_upto_region 9 with (go_at_call 33; refine (RF.out _ PV.out).mono ?_; rintro e w4 ⟨q2, n2, c2, rfl, o4, b4⟩; have O4 := hid o4; have B4 := hid b4; clear o4 b4)
    obtain ⟨PZ9, LZ9⟩ := lv_pz (x := x) PV.out (Nat.lt_of_lt_of_le (lt_of_heap P3.out.rs) (Nat.le_refl _)) B4.out O4.out
    have ZZ := hid PZ9
    have LL := hid LZ9
    clear PZ9 LZ9 O4 B4 PV
    refine pl9 (LL.out.below (drew_below _ 1)).s ZZ.out.pb.cells.1.2.1 ZZ.out.pb.cells.1.2.2 ((LL.out.set (.slice q2 n2 c2)).below (drew_below _ 1)).s ?_
    intro _ _ _ _ _ _ _ _ _
    go_wp2_with fail
    exact bodyPost_ret (v := .tuple #[.agg #[.slice q2 n2 c2], .bool true]) (play_res (cell_drew ZZ.out.fin.2)) rfl ⟨_, _, _, _, _, rfl, ZZ.out.fin.1.below (drew_below _ 1), Nat.le_succ _⟩
  have FD : ∃ (x : Wt) (n E : Int), Hid (Calls Try.prog 25 #[.pointer (some ⟨r, 0, none⟩), .int .i64 a.x.task] W fun e w' => e = .returned (.tuple #[.agg #[.int .i64 x.task, .int .i64 x.kind, .string x.key, .string x.tok], .int .i64 n, .int .i64 E]) ∧ Below W.heap.size W w') ∧ Hid (∀ w3, PB w wk w3 b r m yb ab rb L c q L.length cc (wL L) a → Calls Try.prog 38 #[.agg #[.slice q L.length cc], .int .i64 a.x.task] w3 fun e w' => e = .returned (.tuple #[.agg #[.int .i64 x.task, .int .i64 x.kind, .string x.key, .string x.tok], .int .i64 n, .int .i64 E]) ∧ Below w3.heap.size w3 w') := by
    have FA := find_any a.x.task W b r m L c f0 HF.out
    rcases fd_cases RI0.out a.x.task with ⟨e1, e2, e3⟩ | ⟨x, hx, e1, e2, e3, e4⟩
    · have ew : fdW L a.x.task = w0 := by unfold fdW; rw [e1]; rfl
      have ep : fdP L a.x.task = 0 := by unfold fdP; rw [e1]
      rw [ew, ep, e2] at FA
      exact ⟨w0, 0, _, hid FA, hid fun w3 h => rfind_no _ (wL L) a.x.task w3 (h.ow.gs KW_ok.len) TSK.out.1 fun _ => e3⟩
    · have ew : fdW L a.x.task = x.w := by unfold fdW; rw [e2]; rfl
      rw [ew, e3] at FA
      refine ⟨x.w, fdP L a.x.task, 0, hid FA, hid fun w3 h => ?_⟩
      refine (rfind_ok _ (wL L) a.x.task w3 (h.ow.gs KW_ok.len) TSK.out.1 TSK.out.2 e4 ⟨x.w, List.mem_map_of_mem hx, e1⟩).mono fun e w' hk => ?_
      obtain ⟨i, hi, h1, h2, h3⟩ := hk
      obtain ⟨h4, h5⟩ := fd_pos RI0.out e2 hx e1 hi h1
      rw [h4, ← h5] at h2
      exact ⟨h2, h3⟩
  obtain ⟨x, n, E, FA, RF⟩ := FD
  go_upto_region 23 with (go_at_call 25; refine FA.out.mono ?_; rintro e w3 ⟨rfl, k3⟩; have P3 := hid (P0.out.below k3); have PV := hid (P3.out.below (bal w3 (.cells #[.int .i64 x.task, .int .i64 x.kind, .string x.key, .string x.tok] 30))); obtain ⟨⟨y3, r3, f3⟩, a03, a13, a23, a33, a43, a53⟩ := PV.out.cells; clear k3)
  go_upto_region 24 with (go_at_call 38; refine (RF.out _ PV.out).mono ?_; rintro e w4 ⟨rfl, b4⟩; have B4 := hid b4; clear b4)
  obtain ⟨PZ9, LZ9⟩ := fi_pz (x := x) PV.out NE.1 (Nat.lt_of_lt_of_le (lt_of_heap P3.out.rs) (Nat.le_refl _)) B4.out
  have ZZ := hid PZ9
  have LL := hid LZ9
  clear PZ9 LZ9 B4 PV
  refine pl24 (LL.out.below (drew_below _ 1)).s ZZ.out.pb.cells.1.2.1 ZZ.out.pb.cells.1.2.2 ((LL.out.set (.slice q L.length cc)).below (drew_below _ 1)).s ?_
  intro _ _ _ _ _ _ _ _ _ _ _ _ _ _
  go_wp2_with fail
  exact bodyPost_ret (v := .tuple #[.agg #[.slice q L.length cc], .bool true]) (play_res (cell_drew ZZ.out.fin.2)) rfl ⟨_, _, _, _, _, rfl, ZZ.out.fin.1.below (drew_below _ 1), Nat.le_succ _⟩
end Go.Proofs.Ytofdfofpdfaimaa
namespace Go.Proofs.Ytofdfofpdfaimaa
open Go.RowKit Go.Maps

set_option maxRecDepth 100000 in
set_option maxHeartbeats 32000000 in
theorem ps15 {Q : Exit → Act → World → Prop} {w wr : World} {X o j n cz r yb : Nat} {k tk kd num : Int} {ky tok : ByteArray} {v : Value} {G : World → World → Option Addr → Nat → Nat → Prop} {H : World → Nat → Option Addr → Nat → Nat → Prop} {t1 t2 t6 t7 t8 t9 t10 t11 t12 t13 t14 t15 t16 t17 t18 t19 t20 t21 t22 t23 t24 t25 t26 t27 t28 t29 t30 t31 t32 t33 t34 t35 t36 t37 t38 t39 t40 t41 t42 t43 t44 t45 t46 t47 t48 t49 t50 t51 t52 t53 t54 t55 t56 t57 t58 t59 t60 t61 t62 t63 : Value} (hj : (j : Int) < (n : Nat)) (hb : Below w.heap.size w wr) (y0 : wr.heap[yb]? = some (.cells #[v] 27))
    (hF : ∀ w', Below w.heap.size w w' → w'.cell? ⟨X, o + j * 6, none⟩ = some (.int .i64 k) ∧ w'.cell? ⟨X, o + j * 6 + 1, none⟩ = some (.int .i64 tk) ∧ w'.cell? ⟨X, o + j * 6 + 2, none⟩ = some (.int .i64 kd) ∧ w'.cell? ⟨X, o + j * 6 + 3, none⟩ = some (.string ky) ∧ w'.cell? ⟨X, o + j * 6 + 4, none⟩ = some (.string tok) ∧ w'.cell? ⟨X, o + j * 6 + 5, none⟩ = some (.int .i64 num))
    (hJ : ∀ w1, Below wr.heap.size wr w1 → Calls Try.prog 12 #[.pointer (some ⟨r, 0, none⟩), .agg #[v], .agg #[.int .i64 k, .int .i64 tk, .int .i64 kd, .string ky, .string tok, .int .i64 num]] w1 fun e w' => ∃ q2 n2 c2, e = .returned (.tuple #[.agg #[.slice q2 n2 c2], .bool true]) ∧ G w1 w' q2 n2 c2)
    (hG : ∀ w1 w' q2 n2 c2, Below wr.heap.size wr w1 → G w1 w' q2 n2 c2 → Below w.heap.size w w' ∧ w'.heap[yb]? = some (.cells #[v] 27) ∧ Kp w1 w')
    (hA : ∀ w1 w6 q2 n2 c2, Below wr.heap.size wr w1 → G w1 w6 q2 n2 c2 → H (w6.alloc (.cells #[.slice q2 n2 c2] 27)) w6.heap.size q2 n2 c2)
    (hB : ∀ w1 w6 zb q2 n2 c2, Below wr.heap.size wr w1 → wr.heap.size ≤ zb → w6.heap[zb]? = some (.cells #[.slice none 0 0] 27) → G w1 w6 q2 n2 c2 → H (w6.setCell ⟨zb, 0, none⟩ (.slice q2 n2 c2)) zb q2 n2 c2)
    (h : ∀ (W' : World) (zb : Nat) (q2 : Option Addr) (n2 c2 : Nat) (x47 x48 x49 x50 x51 x52 x53 x54 x55 x56 : Value), H W' zb q2 n2 c2 → Q .normal { tmps := List.toArray ((.slice (some ⟨X, o, none⟩) n cz) :: t1 :: t2 :: (.pointer (some ⟨r, 0, none⟩)) :: (.pointer (some ⟨yb, 0, none⟩)) :: (.int .i64 (j : Nat)) :: t6 :: (.pointer (some ⟨zb, 0, none⟩)) :: (.bool true) :: t9 :: t10 :: t11 :: t12 :: t13 :: t14 :: t15 :: t16 :: t17 :: t18 :: t19 :: t20 :: t21 :: t22 :: t23 :: t24 :: t25 :: t26 :: t27 :: t28 :: t29 :: t30 :: t31 :: t32 :: t33 :: t34 :: t35 :: t36 :: t37 :: t38 :: t39 :: t40 :: t41 :: t42 :: t43 :: t44 :: t45 :: t46 :: x47 :: x48 :: x49 :: x50 :: x51 :: x52 :: x53 :: x54 :: x55 :: x56 :: t57 :: t58 :: t59 :: t60 :: t61 :: t62 :: t63 :: []), defers := [] } W') :
    (Code.region 15 (List.toArray ({ dst := some 48, op := Op.move (Operand.tmp 3), type := 23, pos := "law.go:125", after := #[], guard := none } :: { dst := some 49, op := Op.load 27 (Operand.tmp 4), type := 27, pos := "law.go:125", after := #[], guard := none } :: { dst := some 50, op := Op.move (Operand.tmp 0), type := 22, pos := "law.go:125", after := #[], guard := none } :: { dst := some 51, op := Op.move (Operand.tmp 5), type := 3, pos := "law.go:125", after := #[], guard := none } :: { dst := some 52, op := Op.indexAddr 22 (Operand.tmp 50) (Operand.tmp 51), type := 0, pos := "law.go:125", after := #[{ on := 2, ground := Ground.data }, { on := 3, ground := Ground.data }], guard := none } :: { dst := some 53, op := Op.load 32 (Operand.tmp 52), type := 32, pos := "law.go:125", after := #[{ on := 4, ground := Ground.data }], guard := none } :: { dst := some 54, op := Op.call { callee := Callee.value (Operand.func 12), args := #[Operand.tmp 48, Operand.tmp 49, Operand.tmp 53], argTypes := #[23, 27, 32] }, type := 36, pos := "law.go:125", after := #[{ on := 0, ground := Ground.data }, { on := 1, ground := Ground.data }, { on := 5, ground := Ground.data }], guard := none } :: { dst := some 47, op := Op.move (Operand.tmp 54), type := 36, pos := "law.go:125", after := #[{ on := 6, ground := Ground.data }], guard := none } :: { dst := some 55, op := Op.extract (Operand.tmp 47) 0, type := 27, pos := "law.go:125", after := #[{ on := 7, ground := Ground.data }], guard := none } :: { dst := some 56, op := Op.extract (Operand.tmp 47) 1, type := 4, pos := "law.go:125", after := #[{ on := 7, ground := Ground.data }, { on := 11, ground := Ground.gcOnly Departure.lateStores }], guard := none } :: { dst := some 7, op := Op.alloc 27, type := 0, pos := "law.go:125", after := #[], guard := none } :: { dst := none, op := Op.store 27 (Operand.tmp 7) (Operand.tmp 55), type := 0, pos := "law.go:125", after := #[{ on := 10, ground := Ground.data }, { on := 8, ground := Ground.data }, { on := 6, ground := Ground.chain }, { on := 0, ground := Ground.phase }, { on := 1, ground := Ground.phase }, { on := 2, ground := Ground.phase }, { on := 3, ground := Ground.phase }, { on := 4, ground := Ground.phase }, { on := 5, ground := Ground.phase }, { on := 6, ground := Ground.phase }, { on := 7, ground := Ground.phase }, { on := 8, ground := Ground.phase }, { on := 9, ground := Ground.textOnly Departure.lateStores }, { on := 10, ground := Ground.phase }], guard := none } :: { dst := some 8, op := Op.assign (Operand.tmp 56), type := 4, pos := "law.go:125", after := #[{ on := 9, ground := Ground.data }, { on := 11, ground := Ground.chain }, { on := 0, ground := Ground.phase }, { on := 1, ground := Ground.phase }, { on := 2, ground := Ground.phase }, { on := 3, ground := Ground.phase }, { on := 4, ground := Ground.phase }, { on := 5, ground := Ground.phase }, { on := 6, ground := Ground.phase }, { on := 7, ground := Ground.phase }, { on := 8, ground := Ground.phase }, { on := 9, ground := Ground.phase }, { on := 10, ground := Ground.phase }, { on := 11, ground := Ground.phase }], guard := none } :: [])) true).wp Try.prog Q { tmps := List.toArray ((.slice (some ⟨X, o, none⟩) n cz) :: t1 :: t2 :: (.pointer (some ⟨r, 0, none⟩)) :: (.pointer (some ⟨yb, 0, none⟩)) :: (.int .i64 (j : Nat)) :: t6 :: t7 :: t8 :: t9 :: t10 :: t11 :: t12 :: t13 :: t14 :: t15 :: t16 :: t17 :: t18 :: t19 :: t20 :: t21 :: t22 :: t23 :: t24 :: t25 :: t26 :: t27 :: t28 :: t29 :: t30 :: t31 :: t32 :: t33 :: t34 :: t35 :: t36 :: t37 :: t38 :: t39 :: t40 :: t41 :: t42 :: t43 :: t44 :: t45 :: t46 :: t47 :: t48 :: t49 :: t50 :: t51 :: t52 :: t53 :: t54 :: t55 :: t56 :: t57 :: t58 :: t59 :: t60 :: t61 :: t62 :: t63 :: []), defers := [] } wr := by
  have FA := hid hF
  have JN := hid hJ
  have GG := hid hG
  have HA := hid hA
  have HB := hid hB
  have hH := hid h
  have B1 : Hid (∀ w1, Below wr.heap.size wr w1 → (fun w' => Below w.heap.size w w' ∧ w'.heap[yb]? = some (.cells #[v] 27)) w1) := hid fun w1 k => ⟨hb.trans (k.mono hb.size), (k.block _ (lt_of_heap y0)).trans y0⟩
  have HS : Hid (w.heap.size ≤ wr.heap.size) := hid hb.size
  have YL : Hid (yb < wr.heap.size) := hid (lt_of_heap y0)
  clear h hF hJ hG hA hB hb y0
  refine wp_region_noPanic ?_
  refine wp_region_held_drew (S := (fun w' => Below w.heap.size w w' ∧ w'.heap[yb]? = some (.cells #[v] 27))) (by kernel_rfl) ?_ (fun hHeld => ?_)
  · exact B1.out _ (drew_below _ 1)
  refine wpAnyH_take (i := 0) (oi := { dst := some 48, op := Op.move (Operand.tmp 3), type := 23, pos := "law.go:125", after := #[], guard := none }) (v := ?_) rfl (by kernel_rfl) (by kernel_rfl) (by kernel_rfl) (fun _ _ _ h => h) (Or.inl ⟨by rfl, ?_⟩) (by assumption) ?_
  rotate_left
  · intro w hSw
    go_simp
    try with_reducible rfl
  try simp only [Act.put, List.setIfInBounds_toArray, List.set_cons_zero, List.set_cons_succ]
  refine wpAnyH_take (i := 2) (oi := { dst := some 50, op := Op.move (Operand.tmp 0), type := 22, pos := "law.go:125", after := #[], guard := none }) (v := ?_) rfl (by kernel_rfl) (by kernel_rfl) (by kernel_rfl) (fun _ _ _ h => h) (Or.inl ⟨by rfl, ?_⟩) (by assumption) ?_
  rotate_left
  · intro w hSw
    go_simp
    try with_reducible rfl
  try simp only [Act.put, List.setIfInBounds_toArray, List.set_cons_zero, List.set_cons_succ]
  refine wpAnyH_take (i := 3) (oi := { dst := some 51, op := Op.move (Operand.tmp 5), type := 3, pos := "law.go:125", after := #[], guard := none }) (v := ?_) rfl (by kernel_rfl) (by kernel_rfl) (by kernel_rfl) (fun _ _ _ h => h) (Or.inl ⟨by rfl, ?_⟩) (by assumption) ?_
  rotate_left
  · intro w hSw
    go_simp
    try with_reducible rfl
  try simp only [Act.put, List.setIfInBounds_toArray, List.set_cons_zero, List.set_cons_succ]
  refine wpAnyH_take (i := 4) (oi := { dst := some 52, op := Op.indexAddr 22 (Operand.tmp 50) (Operand.tmp 51), type := 0, pos := "law.go:125", after := #[{ on := 2, ground := Ground.data }, { on := 3, ground := Ground.data }], guard := none }) (v := ?_) rfl (by kernel_rfl) (by kernel_rfl) (by kernel_rfl) (fun _ _ _ h => h) (Or.inl ⟨by rfl, ?_⟩) (by assumption) ?_
  rotate_left
  · intro w hSw
    go_simp
    try with_reducible rfl
  try simp only [Act.put, List.setIfInBounds_toArray, List.set_cons_zero, List.set_cons_succ]
  refine wpAnyH_take (i := 5) (oi := { dst := some 53, op := Op.load 32 (Operand.tmp 52), type := 32, pos := "law.go:125", after := #[{ on := 4, ground := Ground.data }], guard := none }) (v := ?_) rfl (by kernel_rfl) (by kernel_rfl) (by kernel_rfl) (fun _ _ _ h => h) (Or.inl ⟨by rfl, ?_⟩) (by assumption) ?_
  rotate_left
  · intro w hSw
    obtain ⟨a0, a1, a2, a3, a4, a5⟩ := FA.out w hSw.1
    go_simp
    try with_reducible rfl
  try simp only [Act.put, List.setIfInBounds_toArray, List.set_cons_zero, List.set_cons_succ]
  refine wpAnyH_take (i := 1) (oi := { dst := some 49, op := Op.load 27 (Operand.tmp 4), type := 27, pos := "law.go:125", after := #[], guard := none }) (v := ?_) rfl (by kernel_rfl) (by kernel_rfl) (by kernel_rfl) (fun _ _ _ h => h) (Or.inl ⟨by rfl, ?_⟩) (by assumption) ?_
  rotate_left
  · intro w hSw
    have hSc := cell_of_row _ _ 0 _ _ _ hSw.2
    go_simp
    try with_reducible rfl
  try simp only [Act.put, List.setIfInBounds_toArray, List.set_cons_zero, List.set_cons_succ]
  refine wpAnyH_ready (rs := [6, 10]) (by kernel_rfl) (by simp) ?_
  refine (AllReadyH.cons (o := { dst := some 54, op := Op.call { callee := Callee.value (Operand.func 12), args := #[Operand.tmp 48, Operand.tmp 49, Operand.tmp 53], argTypes := #[23, 27, 32] }, type := 36, pos := "law.go:125", after := #[{ on := 0, ground := Ground.data }, { on := 1, ground := Ground.data }, { on := 5, ground := Ground.data }], guard := none }) rfl (fun K hK => ?_) (AllReadyH.cons (o := { dst := some 7, op := Op.alloc 27, type := 0, pos := "law.go:125", after := #[], guard := none }) rfl (fun K hK => ?_) AllReadyH.nil))
  · go_simp
    go_at_call 12
    refine (JN.out _ (drew_below _ 1)).mono ?_
    rintro e w6 ⟨q6, n6, c6, rfl, g6⟩
    have G6 := hid g6
    have K6 := hid (GG.out _ _ _ _ _ (drew_below _ 1) g6)
    clear g6
    go_wp2_with fail
    refine hK.out _ _ ?_ (fun hHeld => ?_)
    · exact ⟨K6.out.1, K6.out.2.1⟩
    clear hK K
    try simp only [Act.put, List.setIfInBounds_toArray, List.set_cons_zero, List.set_cons_succ]
    refine wpAnyH_take (i := 7) (oi := { dst := some 47, op := Op.move (Operand.tmp 54), type := 36, pos := "law.go:125", after := #[{ on := 6, ground := Ground.data }], guard := none }) (v := ?_) rfl (by kernel_rfl) (by kernel_rfl) (by kernel_rfl) (fun _ _ _ h => h) (Or.inl ⟨by rfl, ?_⟩) (by assumption) ?_
    rotate_left
    · intro w hSw
      go_simp
      try with_reducible rfl
    try simp only [Act.put, List.setIfInBounds_toArray, List.set_cons_zero, List.set_cons_succ]
    refine wpAnyH_take (i := 8) (oi := { dst := some 55, op := Op.extract (Operand.tmp 47) 0, type := 27, pos := "law.go:125", after := #[{ on := 7, ground := Ground.data }], guard := none }) (v := ?_) rfl (by kernel_rfl) (by kernel_rfl) (by kernel_rfl) (fun _ _ _ h => h) (Or.inl ⟨by rfl, ?_⟩) (by assumption) ?_
    rotate_left
    · intro w hSw
      go_simp
      try with_reducible rfl
    try simp only [Act.put, List.setIfInBounds_toArray, List.set_cons_zero, List.set_cons_succ]
    refine wpAnyH_take (i := 9) (oi := { dst := some 56, op := Op.extract (Operand.tmp 47) 1, type := 4, pos := "law.go:125", after := #[{ on := 7, ground := Ground.data }, { on := 11, ground := Ground.gcOnly Departure.lateStores }], guard := none }) (v := ?_) rfl (by kernel_rfl) (by kernel_rfl) (by kernel_rfl) (fun _ _ _ h => h) (Or.inl ⟨by rfl, ?_⟩) (by assumption) ?_
    rotate_left
    · intro w hSw
      go_simp
      try with_reducible rfl
    try simp only [Act.put, List.setIfInBounds_toArray, List.set_cons_zero, List.set_cons_succ]
    have SB : Hid ((fun w' => Below w.heap.size w w' ∧ w'.heap[yb]? = some (.cells #[v] 27)) (w6.alloc (.cells #[.slice none 0 0] 27))) := hid ⟨K6.out.1.trans ((bal _ _).mono K6.out.1.size), ((bal _ _).block _ (lt_of_heap K6.out.2.1)).trans K6.out.2.1⟩
    refine wpAnyH_ready (rs := [10]) (by kernel_rfl) (by simp) ?_
    refine AllReadyH.cons (o := { dst := some 7, op := Op.alloc 27, type := 0, pos := "law.go:125", after := #[], guard := none }) rfl (fun K hK => ?_) AllReadyH.nil
    go_simp
    refine hK.out _ _ ?_ (fun hHeld => ?_)
    · exact SB.out
    clear hK K
    try simp only [Act.put, List.setIfInBounds_toArray, List.set_cons_zero, List.set_cons_succ]
    have SA : Hid ((fun w' => Below w.heap.size w w' ∧ w'.heap[yb]? = some (.cells #[v] 27)) (w6.alloc (.cells #[.slice q6 n6 c6] 27))) := hid ⟨K6.out.1.trans ((bal _ _).mono K6.out.1.size), ((bal _ _).block _ (lt_of_heap K6.out.2.1)).trans K6.out.2.1⟩
    refine wpAnyH_ready (rs := [11]) (by kernel_rfl) (by simp) ?_
    refine AllReadyH.cons (o := { dst := none, op := Op.store 27 (Operand.tmp 7) (Operand.tmp 55), type := 0, pos := "law.go:125", after := #[{ on := 10, ground := Ground.data }, { on := 8, ground := Ground.data }, { on := 6, ground := Ground.chain }, { on := 0, ground := Ground.phase }, { on := 1, ground := Ground.phase }, { on := 2, ground := Ground.phase }, { on := 3, ground := Ground.phase }, { on := 4, ground := Ground.phase }, { on := 5, ground := Ground.phase }, { on := 6, ground := Ground.phase }, { on := 7, ground := Ground.phase }, { on := 8, ground := Ground.phase }, { on := 9, ground := Ground.textOnly Departure.lateStores }, { on := 10, ground := Ground.phase }], guard := none }) rfl (fun K hK => ?_) AllReadyH.nil
    go_simp
    refine hK.out _ _ ?_ (fun hHeld => ?_)
    · exact SA.out
    clear hK K
    try simp only [Act.put, List.setIfInBounds_toArray, List.set_cons_zero, List.set_cons_succ]
    refine wpAnyH_take (i := 12) (oi := { dst := some 8, op := Op.assign (Operand.tmp 56), type := 4, pos := "law.go:125", after := #[{ on := 9, ground := Ground.data }, { on := 11, ground := Ground.chain }, { on := 0, ground := Ground.phase }, { on := 1, ground := Ground.phase }, { on := 2, ground := Ground.phase }, { on := 3, ground := Ground.phase }, { on := 4, ground := Ground.phase }, { on := 5, ground := Ground.phase }, { on := 6, ground := Ground.phase }, { on := 7, ground := Ground.phase }, { on := 8, ground := Ground.phase }, { on := 9, ground := Ground.phase }, { on := 10, ground := Ground.phase }, { on := 11, ground := Ground.phase }], guard := none }) (v := ?_) rfl (by kernel_rfl) (by kernel_rfl) (by kernel_rfl) (fun _ _ _ h => h) (Or.inl ⟨by rfl, ?_⟩) (by assumption) ?_
    rotate_left
    · intro w hSw
      go_simp
      try with_reducible rfl
    try simp only [Act.put, List.setIfInBounds_toArray, List.set_cons_zero, List.set_cons_succ]
    refine wpAnyH_done (by kernel_rfl) ?_ _
    refine NoPanic.normal ?_
    exact hH.out _ _ _ _ _ _ _ _ _ _ _ _ _ _ _ (HA.out _ _ _ _ _ (drew_below _ 1) G6.out)
  · go_simp
    refine hK.out _ _ ?_ (fun hHeld => ?_)
    · exact B1.out _ (bl3 (drew_below _ 1) (bal _ (.cells #[.slice none 0 0] 27)))
    clear hK K
    try simp only [Act.put, List.setIfInBounds_toArray, List.set_cons_zero, List.set_cons_succ]
    refine wpAnyH_ready (rs := [6]) (by kernel_rfl) (by simp) ?_
    refine AllReadyH.cons (o := { dst := some 54, op := Op.call { callee := Callee.value (Operand.func 12), args := #[Operand.tmp 48, Operand.tmp 49, Operand.tmp 53], argTypes := #[23, 27, 32] }, type := 36, pos := "law.go:125", after := #[{ on := 0, ground := Ground.data }, { on := 1, ground := Ground.data }, { on := 5, ground := Ground.data }], guard := none }) rfl (fun K hK => ?_) AllReadyH.nil
    go_simp
    go_at_call 12
    refine (JN.out _ (bl3 (drew_below _ 1) (bal _ (.cells #[.slice none 0 0] 27)))).mono ?_
    rintro e w6 ⟨q6, n6, c6, rfl, g6⟩
    have G6 := hid g6
    have K6 := hid (GG.out _ _ _ _ _ (bl3 (drew_below _ 1) (bal _ (.cells #[.slice none 0 0] 27))) g6)
    clear g6
    have Z6 : w6.heap[wr.heap.size]? = some (.cells #[.slice none 0 0] 27) := (K6.out.2.2 _ _ _ (heap_alloc_new wr.drew (.cells #[.slice none 0 0] 27)) (by decide) (by decide)).trans (heap_alloc_new wr.drew (.cells #[.slice none 0 0] 27))
    have zc := cell_of_row _ _ 0 _ _ _ Z6
    have zf : ∀ i, w6.frozen? ⟨wr.heap.size, i, none⟩ = false := fun i => by simp [World.frozen?, Z6]
    go_wp2_with fail
    refine hK.out _ _ ?_ (fun hHeld => ?_)
    · exact ⟨K6.out.1, K6.out.2.1⟩
    clear hK K
    try simp only [Act.put, List.setIfInBounds_toArray, List.set_cons_zero, List.set_cons_succ]
    refine wpAnyH_take (i := 7) (oi := { dst := some 47, op := Op.move (Operand.tmp 54), type := 36, pos := "law.go:125", after := #[{ on := 6, ground := Ground.data }], guard := none }) (v := ?_) rfl (by kernel_rfl) (by kernel_rfl) (by kernel_rfl) (fun _ _ _ h => h) (Or.inl ⟨by rfl, ?_⟩) (by assumption) ?_
    rotate_left
    · intro w hSw
      go_simp
      try with_reducible rfl
    try simp only [Act.put, List.setIfInBounds_toArray, List.set_cons_zero, List.set_cons_succ]
    refine wpAnyH_take (i := 8) (oi := { dst := some 55, op := Op.extract (Operand.tmp 47) 0, type := 27, pos := "law.go:125", after := #[{ on := 7, ground := Ground.data }], guard := none }) (v := ?_) rfl (by kernel_rfl) (by kernel_rfl) (by kernel_rfl) (fun _ _ _ h => h) (Or.inl ⟨by rfl, ?_⟩) (by assumption) ?_
    rotate_left
    · intro w hSw
      go_simp
      try with_reducible rfl
    try simp only [Act.put, List.setIfInBounds_toArray, List.set_cons_zero, List.set_cons_succ]
    refine wpAnyH_take (i := 9) (oi := { dst := some 56, op := Op.extract (Operand.tmp 47) 1, type := 4, pos := "law.go:125", after := #[{ on := 7, ground := Ground.data }, { on := 11, ground := Ground.gcOnly Departure.lateStores }], guard := none }) (v := ?_) rfl (by kernel_rfl) (by kernel_rfl) (by kernel_rfl) (fun _ _ _ h => h) (Or.inl ⟨by rfl, ?_⟩) (by assumption) ?_
    rotate_left
    · intro w hSw
      go_simp
      try with_reducible rfl
    try simp only [Act.put, List.setIfInBounds_toArray, List.set_cons_zero, List.set_cons_succ]
    have SA : Hid ((fun w' => Below w.heap.size w w' ∧ w'.heap[yb]? = some (.cells #[v] 27)) (w6.setCell ⟨wr.heap.size, 0, none⟩ (.slice q6 n6 c6))) := hid ⟨K6.out.1.setCell (p := ⟨wr.heap.size, 0, none⟩) HS.out _, (Below.heap_setCell _ _ _ _ (by have := YL.out; show yb ≠ wr.heap.size; omega)).trans K6.out.2.1⟩
    refine wpAnyH_ready (rs := [11]) (by kernel_rfl) (by simp) ?_
    refine AllReadyH.cons (o := { dst := none, op := Op.store 27 (Operand.tmp 7) (Operand.tmp 55), type := 0, pos := "law.go:125", after := #[{ on := 10, ground := Ground.data }, { on := 8, ground := Ground.data }, { on := 6, ground := Ground.chain }, { on := 0, ground := Ground.phase }, { on := 1, ground := Ground.phase }, { on := 2, ground := Ground.phase }, { on := 3, ground := Ground.phase }, { on := 4, ground := Ground.phase }, { on := 5, ground := Ground.phase }, { on := 6, ground := Ground.phase }, { on := 7, ground := Ground.phase }, { on := 8, ground := Ground.phase }, { on := 9, ground := Ground.textOnly Departure.lateStores }, { on := 10, ground := Ground.phase }], guard := none }) rfl (fun K hK => ?_) AllReadyH.nil
    go_simp
    refine hK.out _ _ ?_ (fun hHeld => ?_)
    · exact SA.out
    clear hK K
    try simp only [Act.put, List.setIfInBounds_toArray, List.set_cons_zero, List.set_cons_succ]
    refine wpAnyH_take (i := 12) (oi := { dst := some 8, op := Op.assign (Operand.tmp 56), type := 4, pos := "law.go:125", after := #[{ on := 9, ground := Ground.data }, { on := 11, ground := Ground.chain }, { on := 0, ground := Ground.phase }, { on := 1, ground := Ground.phase }, { on := 2, ground := Ground.phase }, { on := 3, ground := Ground.phase }, { on := 4, ground := Ground.phase }, { on := 5, ground := Ground.phase }, { on := 6, ground := Ground.phase }, { on := 7, ground := Ground.phase }, { on := 8, ground := Ground.phase }, { on := 9, ground := Ground.phase }, { on := 10, ground := Ground.phase }, { on := 11, ground := Ground.phase }], guard := none }) (v := ?_) rfl (by kernel_rfl) (by kernel_rfl) (by kernel_rfl) (fun _ _ _ h => h) (Or.inl ⟨by rfl, ?_⟩) (by assumption) ?_
    rotate_left
    · intro w hSw
      go_simp
      try with_reducible rfl
    try simp only [Act.put, List.setIfInBounds_toArray, List.set_cons_zero, List.set_cons_succ]
    refine wpAnyH_done (by kernel_rfl) ?_ _
    refine NoPanic.normal ?_
    exact hH.out _ _ _ _ _ _ _ _ _ _ _ _ _ _ _ (HB.out _ _ _ _ _ _ (bl3 (drew_below _ 1) (bal _ (.cells #[.slice none 0 0] 27))) (Nat.le_refl _) Z6 G6.out)
end Go.Proofs.Ytofdfofpdfaimaa
namespace Go.Proofs.Ytofdfofpdfaimaa
open Go.RowKit Go.Maps

/-- Between two acts: the room, the document's list in its box. -/
structure WP (w wk : World) (b r m yb : Nat) (L : List Wc) (c : Nat) (q : Option Addr) (cc : Nat) : Prop where
  rx : ∃ f, RX wk b r m L c f
  bl : Below w.heap.size w wk
  ow : OwnG KW wk w.heap.size (.slice q L.length cc) (wL L)
  y : wk.heap[yb]? = some (.cells #[.slice q L.length cc] 27)
  gb : w.heap.size ≤ b
  gy : w.heap.size ≤ yb
theorem WP.below {w wk w' : World} {b r m yb : Nat} {L : List Wc} {c : Nat} {q : Option Addr} {cc : Nat} (h : WP w wk b r m yb L c q cc) (k : Below wk.heap.size wk w') : WP w w' b r m yb L c q cc := by
  obtain ⟨⟨f, hf⟩, bl, ow, y, gb, gy⟩ := h
  exact ⟨⟨f, hf.below k⟩, bl3 bl k, ow.below k, (k.block _ (lt_of_heap y)).trans y, gb, gy⟩
/-- A clone goes on; the old room is used once more. -/
theorem WP.clone {w wr w2 w3 w4 : World} {b r m yb : Nat} {L : List Wc} {c : Nat} {q : Option Addr} {cc : Nat} (h : WP w wr b r m yb L c q cc) {f f' f3 : ByteArray → Option Value} {r' m' : Nat} {L3 L4 : List Wc} {c3 c4 : Nat} (hf : RX wr b r m L c f) (h2 : RX w2 wr.heap.size r' m' L c f') (b2 : Below wr.heap.size wr w2) (k3 : RR w2 b r m f L3 c3 w3) (hf3 : RX w3 b r m L3 c3 f3) (hz : ∀ x, FP r m f3 x → FP r m f x ∨ w2.heap.size ≤ x) (k4 : RR w3 b r m f3 L4 c4 w4) : WP w w4 wr.heap.size r' m' yb L c q cc := by
  have H2 := h.below b2
  have s2 := b2.size
  have q3 := (hf.below b2).rq k3
  have q4 := hf3.rq k4
  have kp := q3.kp.trans q4.kp
  have sw := h.bl.size
  have n3 : RX w3 wr.heap.size r' m' L c f' := h2.keep fun x hx => k3.bt.block x (h2.lt hx).2 (fun e => by have := (hf.lt e).2; have := (h2.lt hx).1; omega)
  have n4 : RX w4 wr.heap.size r' m' L c f' := n3.keep fun x hx => k4.bt.block x (n3.lt hx).2 (fun e => by
    have a1 := (h2.lt hx).1
    have a2 := (h2.lt hx).2
    rcases hz x e with e | e
    · have := (hf.lt e).2; omega
    · omega)
  exact ⟨⟨f', n4⟩, (H2.bl.trans (q3.bl.mono h.gb)).trans (q4.bl.mono h.gb), H2.ow.kp kp (by decide) (by decide), (kp _ _ _ H2.y (by decide) (by decide)).trans H2.y, sw, h.gy⟩
/-- Behind an act: the answer in its box. -/
structure WQ (w wk : World) (b r m yb zb : Nat) (L : List Wc) (c : Nat) (q : Option Addr) (cc : Nat) : Prop where
  rx : ∃ f, RX wk b r m L c f
  bl : Below w.heap.size w wk
  ow : OwnG KW wk w.heap.size (.slice q L.length cc) (wL L)
  y : ∃ v, wk.heap[yb]? = some (.cells #[v] 27)
  z : wk.heap[zb]? = some (.cells #[.slice q L.length cc] 27)
  gb : w.heap.size ≤ b
  gy : w.heap.size ≤ yb
theorem ow_len {w : World} {base : Nat} {q : Option Addr} {n c : Nat} {L : List Wc} (h : OwnG KW w base (.slice q n c) (wL L)) : n = L.length := by
  obtain ⟨p, cap, e⟩ := (h.gs KW_ok.len).form
  injection e with e1 e2 e3
  rw [e2, wL_le]
theorem WQ.ofA {w wr w1 w6 : World} {b r m yb : Nat} {L L2 : List Wc} {c c2 : Nat} {q q2 : Option Addr} {cc n2 cc2 : Nat} (h : WP w wr b r m yb L c q cc) (k : Below wr.heap.size wr w1) (p : PF w w1 w6 b r m L2 c2 q2 n2 cc2) : n2 = L2.length ∧ WQ w (w6.alloc (.cells #[.slice q2 n2 cc2] 27)) b r m yb w6.heap.size L2 c2 q2 cc2 := by
  obtain ⟨⟨f, hf⟩, bl, ow, kp⟩ := p
  have e := ow_len ow
  subst e
  have H1 := h.below k
  have B := bal w6 (.cells #[.slice q2 L2.length cc2] 27)
  have y6 := (kp _ _ _ H1.y (by decide) (by decide)).trans H1.y
  exact ⟨rfl, ⟨f, hf.below B⟩, bl3 bl B, ow.below B, ⟨_, (B.block _ (lt_of_heap y6)).trans y6⟩, heap_alloc_new _ _, h.gb, h.gy⟩
theorem WQ.ofB {w wr w1 w6 : World} {b r m yb zb : Nat} {L L2 : List Wc} {c c2 : Nat} {q q2 : Option Addr} {cc n2 cc2 : Nat} (h : WP w wr b r m yb L c q cc) (k : Below wr.heap.size wr w1) (hz : wr.heap.size ≤ zb) (z : w6.heap[zb]? = some (.cells #[.slice none 0 0] 27)) (p : PF w w1 w6 b r m L2 c2 q2 n2 cc2) : n2 = L2.length ∧ WQ w (w6.setCell ⟨zb, 0, none⟩ (.slice q2 n2 cc2)) b r m yb zb L2 c2 q2 cc2 := by
  obtain ⟨⟨f, hf⟩, bl, ow, kp⟩ := p
  have e := ow_len ow
  subst e
  have H1 := h.below k
  have y6 := (kp _ _ _ H1.y (by decide) (by decide)).trans H1.y
  have ly := lt_of_heap h.y
  have hs := h.bl.size
  have ne : ∀ x, x ≠ zb → (w6.setCell ⟨zb, 0, none⟩ (.slice q2 L2.length cc2)).heap[x]? = w6.heap[x]? := fun _ hx => Below.heap_setCell _ _ _ _ hx
  exact ⟨rfl, ⟨f, hf.keep fun x hx => ne x fun e => hf.notfp z (by decide) (by decide) (by rw [← e]; exact hx)⟩, bl.setCell (p := ⟨zb, 0, none⟩) (by show w.heap.size ≤ zb; omega) _, (ow.far fun g hg => ne g fun e => ow.notat z (by decide) (by rw [← e]; exact hg)), ⟨_, (ne yb (by omega)).trans y6⟩, heap_setCell_same w6 zb 0 _ _ _ z, h.gb, h.gy⟩
theorem WQ.set {w wk : World} {b r m yb zb : Nat} {L : List Wc} {c : Nat} {q : Option Addr} {cc : Nat} (h : WQ w wk b r m yb zb L c q cc) : WP w (wk.setCell ⟨yb, 0, none⟩ (.slice q L.length cc)) b r m yb L c q cc := by
  obtain ⟨⟨f, hf⟩, bl, ow, ⟨v, y⟩, z, gb, gy⟩ := h
  have ne : ∀ x, x ≠ yb → (wk.setCell ⟨yb, 0, none⟩ (.slice q L.length cc)).heap[x]? = wk.heap[x]? := fun _ hx => Below.heap_setCell _ _ _ _ hx
  exact ⟨⟨f, hf.keep fun x hx => ne x fun e => hf.notfp y (by decide) (by decide) (by rw [← e]; exact hx)⟩, bl.setCell (p := ⟨yb, 0, none⟩) gy _, (ow.far fun g hg => ne g fun e => ow.notat y (by decide) (by rw [← e]; exact hg)), heap_setCell_same wk yb 0 _ _ _ y, gb, gy⟩
theorem WQ.cells {w wk : World} {b r m yb zb : Nat} {L : List Wc} {c : Nat} {q : Option Addr} {cc : Nat} (h : WQ w wk b r m yb zb L c q cc) : wk.cell? ⟨zb, 0, none⟩ = some (.slice q L.length cc) ∧ (∃ v, wk.cell? ⟨yb, 0, none⟩ = some v) ∧ wk.frozen? ⟨yb, 0, none⟩ = false := by
  obtain ⟨v, y⟩ := h.y
  exact ⟨cell_of_row _ _ _ _ _ _ h.z, ⟨v, cell_of_row _ _ _ _ _ _ y⟩, by simp [World.frozen?, y]⟩
set_option maxRecDepth 100000 in
set_option maxHeartbeats 32000000 in
theorem waitPlays_any (v : Value) (l : List Ac) (w : World) (h : GS KA w v l) (hok : ∀ a ∈ l, acOk a) (hl : l.length ≤ 1000000000000000) : Calls Try.prog 3 #[v] w fun e w' => e = .returned (.bool true) ∧ Below w.heap.size w w' := by
  obtain ⟨p, cap, rfl⟩ := h.form
  have A1 := hid (fun W' (hb : Below w.heap.size w W') j (hj : j < l.length) => GS.atA (h.below hb) hj)
  have OK1 := hid hok
  obtain ⟨n, hn⟩ : ∃ n, n = l.length := ⟨_, rfl⟩
  have M1 := hid hn
  rw [← hn] at hl ⊢
  clear h hok hn
  have NW := hid (new_any w)
  go_enter Try.func3, Try.ntmps3
  go_upto_region 2 with (go_at_call 7; refine NW.out.mono ?_; rintro e w1 ⟨rfl, hx1, hb1⟩; have X1 := hid hx1; have Y1 := hid hb1; clear hx1 hb1 NW)
  have E0 : Hid (WP w (w1.alloc (.cells #[.slice none 0 0] 27)) w.heap.size (w.heap.size + 1) w.heap.size w1.heap.size [] 0 none 0) := by
    have bb := bal w1 (.cells #[.slice none 0 0] 27)
    exact ⟨⟨_, X1.out.below bb⟩, bl3 Y1.out bb, OwnG.nil _ _ _, heap_alloc_new _ _, Nat.le_refl _, Y1.out.size⟩
  clear X1 Y1
  obtain ⟨yb, hyb⟩ : ∃ yb, yb = w1.heap.size := ⟨_, rfl⟩
  go_upto_region 6 with fail
  rw [← hyb] at E0 ⊢
  clear hyb
  go_loopw [3, 5] (fun v3 v5 wq => ∃ (k b r m : Nat) (wr : World) (L : List Wc) (c : Nat) (q : Option Addr) (cc : Nat), v3 = .pointer (some ⟨r, 0, none⟩) ∧ v5 = .int .i64 k ∧ wr = wq ∧ k ≤ n ∧ c ≤ k ∧ Hid (WP w wr b r m yb L c q cc)) (fun _ v5 _ => n - (intOf v5).toNat)
  case atStart => exact ⟨0, _, _, _, _, [], 0, none, 0, rfl, rfl, rfl, Nat.zero_le _, Nat.le_refl _, E0⟩
  case round =>
    obtain ⟨k, b, r, m, wr, L, c, q, cc, rfl, rfl, rfl, hk, hck, HE⟩ := hrel
    clear E0
    by_cases hlt : k < n
    · have hki : (k : Int) < (n : Nat) := by omega
      have hkl : k < l.length := by have := M1.out; omega
      obtain ⟨X, o, e1, a0, a1, a2, a3, a4, a5⟩ := A1.out wr HE.out.bl k hkl
      obtain rfl : p = some ⟨X, o, none⟩ := e1
      have CE : Hid (∀ w', Below w.heap.size w w' → w'.cell? ⟨X, o + k * 6, none⟩ = some (.int .i64 l[k].k) ∧ w'.cell? ⟨X, o + k * 6 + 1, none⟩ = some (.int .i64 l[k].x.task) ∧ w'.cell? ⟨X, o + k * 6 + 2, none⟩ = some (.int .i64 l[k].x.kind) ∧ w'.cell? ⟨X, o + k * 6 + 3, none⟩ = some (.string l[k].x.key) ∧ w'.cell? ⟨X, o + k * 6 + 4, none⟩ = some (.string l[k].x.tok) ∧ w'.cell? ⟨X, o + k * 6 + 5, none⟩ = some (.int .i64 l[k].n)) := fun w' hb => by
        obtain ⟨X2, o2, e2, x0, x1, x2, x3, x4, x5⟩ := A1.out w' hb k hkl
        injection e2 with e2
        injection e2 with e2 e3
        subst e2 e3
        exact ⟨x0, x1, x2, x3, x4, x5⟩
      have OKk : Hid (acOk l[k]) := OK1.out _ (List.getElem_mem hkl)
      generalize l[k] = a at *
      have AM := hid (fun W' => among8_any a.k W')
      by_cases h7 : am8 a.k = 7
      · rw [h7] at AM
        obtain ⟨f, hf⟩ := HE.out.rx
        have HF := hid hf
        have CL := hid (clone_any wr b r m L c f hf)
        clear hf h7
        have WA : Hid (∀ w2, Below wr.heap.size wr w2 → Calls Try.prog 10 #[.pointer (some ⟨r, 0, none⟩), .string a.x.key] w2 fun e w3 => ∃ p3 n3 c3, e = .returned (.slice p3 n3 c3) ∧ RR w2 b r m f (outL L (qK L a.x.key)) c w3) := hid fun w2 k2 => (wake_any a.x.key w2 b r m L c f (HF.out.below k2) OKk.out.1).mono fun e w3 ⟨p3, c3, h1, _, h3⟩ => ⟨p3, _, c3, h1, h3⟩
        go_upto_region 12 with (first | (go_at_call 8; refine (AM.out _).mono ?_; rintro e w2 ⟨rfl, hw2⟩; rw [hw2]; clear hw2) | (go_at_call 9; refine CL.out.mono ?_; rintro e w2 ⟨r', m', f', rfl, hx2, hk2⟩; have X2 := hid hx2; have K2 := hid hk2; obtain ⟨b0, b1, b2, b3, b4, b5⟩ := CE.out w2 (bl3 HE.out.bl hk2); clear hx2 hk2))
        clear a0 a1 a2 a3 a4 a5 AM CL
        go_upto_region 13 with (go_at_call 10; refine (WA.out _ K2.out).mono ?_; rintro e w3 ⟨p3, n3, c3, rfl, k3⟩; have K3 := hid k3; have B3 : Hid (Below w.heap.size w w3) := hid ((bl3 HE.out.bl K2.out).trans (((HF.out.below K2.out).rq k3).bl.mono HE.out.gb)); obtain ⟨d0, d1, d2, d3, d4, d5⟩ := CE.out w3 B3.out; clear k3)
        clear b0 b1 b2 b3 b4 b5 WA
        obtain ⟨f3, hf3, hz3⟩ := K3.out.ex
        have JN := hid (join_any ⟨a.x.task, 0, ⟨#[111, 116, 104, 101, 114]⟩, ⟨#[]⟩⟩ w3 b r m _ c f3 hf3 (show (⟨#[111, 116, 104, 101, 114]⟩ : ByteArray).size ≤ maxLen by decide) (show (⟨#[]⟩ : ByteArray).size ≤ maxLen by decide) (by omega))
        have HC := hid (fun w4 L4 c4 (k4 : RR w3 b r m f3 L4 c4 w4) => HE.out.clone HF.out X2.out K2.out K3.out hf3 hz3 k4)
        clear hf3 hz3
        go_upto_region 19 with (go_at_call 11; refine JN.out.mono ?_; rintro e w4 ⟨rfl, k4⟩; have H4 := hid (HC.out _ _ _ k4); clear k4)
        clear d0 d1 d2 d3 d4 d5 JN HC
        obtain ⟨f4, hf4⟩ := H4.out.rx
        have TO := hid (told_any _ _ _ _ _ _ f4 hf4 _ _ (H4.out.ow.gs KW_ok.len))
        have y4 := cell_of_row _ _ 0 _ _ _ H4.out.y
        clear hf4
        go_wp2_with (go_at_call 13; refine TO.out.mono ?_; rintro e w5 ⟨rfl, hb5⟩; have H5 := hid (H4.out.below hb5); clear hb5)
        go_roundw
        case rel => exact ⟨k + 1, _, _, _, _, _, _, _, _, rfl, by go_num, rfl, by omega, by omega, H5⟩
        case measure => simp [intOf]; omega
      · have H7 := hid h7
        obtain ⟨kd, hkd⟩ : ∃ kd, kd = am8 a.k := ⟨_, rfl⟩
        rw [← hkd] at AM h7
        clear hkd
        go_upto_region 15 with (go_at_call 8; refine (AM.out _).mono ?_; rintro e w2 ⟨rfl, hw2⟩; rw [hw2]; clear hw2)
        clear a0 a1 a2 a3 a4 a5 AM h7
        refine ps15 (w := w) (v := .slice q L.length cc) (G := fun w1 w6 q2 n2 c2 => ∃ L2 c3, PF w w1 w6 b r m L2 c3 q2 n2 c2 ∧ c3 ≤ c + 1) (H := fun W' zb q2 n2 c2 => ∃ L2 c3, n2 = L2.length ∧ c3 ≤ c + 1 ∧ WQ w W' b r m yb zb L2 c3 q2 c2) hki HE.out.bl HE.out.y (fun w' hb => CE.out w' hb) (fun w1 k1 => ?_) (fun w1 w6 q2 n2 c2 k1 hg => ?_) (fun w1 w6 q2 n2 c2 k1 hg => ?_) (fun w1 w6 zb q2 n2 c2 k1 hz z hg => ?_) ?_
        · have H1 := HE.out.below k1
          obtain ⟨f1, hf1⟩ := H1.rx
          exact (play_any w w1 b r m L c f1 hf1 q cc H1.ow H1.bl H1.gb a OKk.out (by omega) H7.out).mono fun e w' ⟨L2, c3, q2, n2, c2, he, hp, hc⟩ => ⟨q2, n2, c2, he, L2, c3, hp, hc⟩
        · obtain ⟨L2, c3, hp, _⟩ := hg
          have H1 := HE.out.below k1
          exact ⟨hp.bl, (hp.kp _ _ _ H1.y (by decide) (by decide)).trans H1.y, hp.kp⟩
        · obtain ⟨L2, c3, hp, hc⟩ := hg
          obtain ⟨h1, h2⟩ := WQ.ofA HE.out k1 hp
          exact ⟨L2, c3, h1, hc, h2⟩
        · obtain ⟨L2, c3, hp, hc⟩ := hg
          obtain ⟨h1, h2⟩ := WQ.ofB HE.out k1 hz z hp
          exact ⟨L2, c3, h1, hc, h2⟩
        rintro W' zb q2 n2 c2 _ _ _ _ _ _ _ _ _ _ ⟨L2, c3, rfl, hc3, hq⟩
        have H4 := hid hq.set
        obtain ⟨z0, ⟨vy, y0⟩, yf⟩ := hq.cells
        clear hq
        go_upto_region 19 with fail
        clear z0 y0 yf
        obtain ⟨f4, hf4⟩ := H4.out.rx
        have TO := hid (told_any _ _ _ _ _ _ f4 hf4 _ _ (H4.out.ow.gs KW_ok.len))
        have y4 := cell_of_row _ _ 0 _ _ _ H4.out.y
        clear hf4
        go_wp2_with (go_at_call 13; refine TO.out.mono ?_; rintro e w5 ⟨rfl, hb5⟩; have H5 := hid (H4.out.below hb5); clear hb5)
        go_roundw
        case rel => exact ⟨k + 1, _, _, _, _, _, _, _, _, rfl, by go_num, rfl, by omega, by omega, H5⟩
        case measure => simp [intOf]; omega
    · obtain rfl : k = n := by omega
      have BZ := hid HE.out.bl
      go_wp2_with fail
      go_returns
      exact ⟨rfl, BZ.out⟩
end Go.Proofs.Ytofdfofpdfaimaa
