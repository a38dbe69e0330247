/- Registry: a range's body compares what it is handed with the document's row: its region, in whatever order. -/
import Derived.Test.YtffabehipcomfaaDoorRa5
import Derived.Test.YtffabehipcomfaaDoorRz4
namespace Go.Proofs.YtffabehipcomfaaDoor
open Go.RowKit

set_option maxRecDepth 100000 in
set_option maxHeartbeats 32000000 in
theorem eg8 {n l : Nat} {Q : Exit → Act → World → Prop} {nb yb pb k m X o cq : Nat} {nm ct : ByteArray} {ag : Bool} {pt pq pf pc ck : Int} {v1 v2 : Value} {W : World} {t0 t1 t2 t4 t5 t9 t10 t11 t12 t13 t14 t15 t16 t17 t18 t19 t20 t21 t22 t23 t24 t25 t26 t27 t28 t29 t30 t31 t32 t33 t34 t35 t36 t37 t38 t39 t40 t41 t42 t43 t44 t45 : Value} (hk : (k : Int) < (m : Nat))
    (hF : ∀ w', Below W.heap.size W w' → w'.cell? ⟨nb, 0, none⟩ = some (.int .i64 (k : Nat)) ∧ w'.cell? ⟨yb, 0, none⟩ = some (.slice (some ⟨X, o, none⟩) m cq) ∧ w'.cell? ⟨pb, 0, none⟩ = some (.string nm) ∧ w'.cell? ⟨pb, 1, none⟩ = some v1 ∧ w'.cell? ⟨pb, 2, none⟩ = some (.bool ag) ∧ w'.cell? ⟨pb, 3, none⟩ = some (.int .i64 pt) ∧ w'.cell? ⟨pb, 4, none⟩ = some (.int .i64 pq) ∧ w'.cell? ⟨pb, 5, none⟩ = some (.int .i64 pf) ∧ w'.cell? ⟨pb, 6, none⟩ = some (.int .i64 pc) ∧ w'.cell? ⟨pb, 7, none⟩ = some (.int .i64 ck) ∧ w'.cell? ⟨pb, 8, none⟩ = some (.string ct) ∧ w'.cell? ⟨X, o + k * 9, none⟩ = some (.string nm) ∧ w'.cell? ⟨X, o + k * 9 + 1, none⟩ = some v2 ∧ w'.cell? ⟨X, o + k * 9 + 2, none⟩ = some (.bool ag) ∧ w'.cell? ⟨X, o + k * 9 + 3, none⟩ = some (.int .i64 pt) ∧ w'.cell? ⟨X, o + k * 9 + 4, none⟩ = some (.int .i64 pq) ∧ w'.cell? ⟨X, o + k * 9 + 5, none⟩ = some (.int .i64 pf) ∧ w'.cell? ⟨X, o + k * 9 + 6, none⟩ = some (.int .i64 pc) ∧ w'.cell? ⟨X, o + k * 9 + 7, none⟩ = some (.int .i64 ck) ∧ w'.cell? ⟨X, o + k * 9 + 8, none⟩ = some (.string ct))
    (hS : ∀ w', Below W.heap.size W w' → Calls Tryd.prog 10 #[(.agg #[.string nm, v1, .bool ag, .int .i64 pt, .int .i64 pq, .int .i64 pf, .int .i64 pc, .int .i64 ck, .string ct]), (.agg #[.string nm, v2, .bool ag, .int .i64 pt, .int .i64 pq, .int .i64 pf, .int .i64 pc, .int .i64 ck, .string ct])] w' fun e w2 => e = .returned (.bool true) ∧ Below w'.heap.size w' w2)
    (h : ∀ (W' : World) (x16 x17 x18 x19 x20 x21 x22 x23 x24 x25 x26 x27 x28 x29 x30 x31 x32 x33 x34 : Value), Below W.heap.size W W' → Q .normal { tmps := #[t0, t1, t2, .pointer (some ⟨yb, 0, none⟩), t4, t5, .pointer (some ⟨nb, 0, none⟩), .int .i64 (k : Nat), .pointer (some ⟨pb, 0, none⟩), t9, t10, t11, t12, t13, t14, t15, x16, x17, x18, x19, x20, x21, x22, x23, x24, x25, x26, x27, x28, x29, x30, x31, x32, x33, x34, .bool false, t36, t37, t38, t39, t40, t41, t42, t43, t44, t45], defers := [] } W') :
    (Code.region 8 #[{ dst := some 16, op := Op.move (Operand.tmp 7), type := 3, pos := "law.go:54", after := #[], guard := none }, { dst := some 17, op := Op.load 3 (Operand.tmp 6), type := 3, pos := "law.go:54", after := #[], guard := none }, { dst := some 18, op := Op.binOp BinOp.neq 3 (Operand.tmp 16) (Operand.tmp 17) 3, type := 4, pos := "law.go:54", after := #[{ on := 0, ground := Ground.data }, { on := 1, ground := Ground.data }], guard := none }, { dst := some 19, op := Op.move (Operand.tmp 18), type := 4, pos := "law.go:54", after := #[{ on := 2, ground := Ground.data }], guard := none }, { dst := some 20, op := Op.load 3 (Operand.tmp 6), type := 3, pos := "law.go:54", after := #[{ on := 3, ground := Ground.guard }], guard := some (3, false) }, { dst := some 21, op := Op.fieldAddr 26 (Operand.tmp 3) 0, type := 0, pos := "law.go:54", after := #[{ on := 3, ground := Ground.guard }], guard := some (3, false) }, { dst := some 22, op := Op.load 24 (Operand.tmp 21), type := 24, pos := "law.go:54", after := #[{ on := 5, ground := Ground.data }, { on := 3, ground := Ground.guard }], guard := some (3, false) }, { dst := some 23, op := Op.call { callee := Callee.builtin Builtin.len, args := #[Operand.tmp 22], argTypes := #[24] }, type := 3, pos := "law.go:54", after := #[{ on := 6, ground := Ground.data }, { on := 3, ground := Ground.guard }], guard := some (3, false) }, { dst := some 24, op := Op.binOp BinOp.geq 3 (Operand.tmp 20) (Operand.tmp 23) 3, type := 4, pos := "law.go:54", after := #[{ on := 4, ground := Ground.data }, { on := 7, ground := Ground.data }, { on := 3, ground := Ground.guard }], guard := some (3, false) }, { dst := some 25, op := Op.pick (Operand.tmp 19) (Operand.const (Value.bool true)) (Operand.tmp 24), type := 4, pos := "law.go:54", after := #[{ on := 3, ground := Ground.data }, { on := 8, ground := Ground.data }], guard := none }, { dst := some 26, op := Op.move (Operand.tmp 25), type := 4, pos := "law.go:54", after := #[{ on := 9, ground := Ground.data }, { on := 3, ground := Ground.chain }], guard := none }, { dst := some 27, op := Op.load 37 (Operand.tmp 8), type := 37, pos := "law.go:54", after := #[{ on := 10, ground := Ground.guard }], guard := some (10, false) }, { dst := some 28, op := Op.fieldAddr 26 (Operand.tmp 3) 0, type := 0, pos := "law.go:54", after := #[{ on := 10, ground := Ground.guard }], guard := some (10, false) }, { dst := some 29, op := Op.load 24 (Operand.tmp 28), type := 24, pos := "law.go:54", after := #[{ on := 12, ground := Ground.data }, { on := 10, ground := Ground.guard }], guard := some (10, false) }, { dst := some 30, op := Op.load 3 (Operand.tmp 6), type := 3, pos := "law.go:54", after := #[{ on := 10, ground := Ground.guard }], guard := some (10, false) }, { dst := some 31, op := Op.indexAddr 24 (Operand.tmp 29) (Operand.tmp 30), type := 0, pos := "law.go:54", after := #[{ on := 13, ground := Ground.data }, { on := 14, ground := Ground.data }, { on := 10, ground := Ground.guard }], guard := some (10, false) }, { dst := some 32, op := Op.load 37 (Operand.tmp 31), type := 37, pos := "law.go:54", after := #[{ on := 15, ground := Ground.data }, { on := 10, ground := Ground.guard }], guard := some (10, false) }, { dst := some 33, op := Op.call { callee := Callee.value (Operand.func 10), args := #[Operand.tmp 27, Operand.tmp 32], argTypes := #[37, 37] }, type := 4, pos := "law.go:54", after := #[{ on := 11, ground := Ground.data }, { on := 16, ground := Ground.data }, { on := 10, ground := Ground.chain }, { on := 10, ground := Ground.guard }], guard := some (10, false) }, { dst := some 34, op := Op.unOp UnOp.not 4 (Operand.tmp 33), type := 4, pos := "law.go:54", after := #[{ on := 17, ground := Ground.data }, { on := 10, ground := Ground.guard }], guard := some (10, false) }, { dst := some 35, op := Op.pick (Operand.tmp 26) (Operand.const (Value.bool true)) (Operand.tmp 34), type := 4, pos := "law.go:54", after := #[{ on := 10, ground := Ground.data }, { on := 18, ground := Ground.data }], guard := none }] true).wpIn (Fence.wide.inRound l) n Tryd.prog Q { tmps := #[t0, t1, t2, .pointer (some ⟨yb, 0, none⟩), t4, t5, .pointer (some ⟨nb, 0, none⟩), .int .i64 (k : Nat), .pointer (some ⟨pb, 0, none⟩), t9, t10, t11, t12, t13, t14, t15, t16, t17, t18, t19, t20, t21, t22, t23, t24, t25, t26, t27, t28, t29, t30, t31, t32, t33, t34, t35, t36, t37, t38, t39, t40, t41, t42, t43, t44, t45], defers := [] } W := by
  have FA := hidr hF
  have SM := hidr hS
  have hH := hidr h
  have hk2 : ¬ (m : Int) ≤ (k : Nat) := by omega
  clear h hF hS
  refine wpIn_region_held_round (S := (fun w' => Below W.heap.size W w')) (by kernel_rfl) (by kernel_rfl) ?_ (fun hHeld => ?_)
  · exact Below.drew (Below.refl _ _)
  refine wpAnyH_take (i := 0) (oi := { dst := some 16, op := Op.move (Operand.tmp 7), type := 3, pos := "law.go:54", after := #[], guard := none }) (v := ?_) rfl (by kernel_rfl) (by kernel_rfl) (by kernel_rfl) (fun _ _ _ h => h) (Or.inl ⟨by rfl, ?_⟩) (by assumption) ?_
  rotate_left
  · intro w hSw
    go_simp
    try with_reducible rfl
  try simp only [Act.put, List.setIfInBounds_toArray, List.set_cons_zero, List.set_cons_succ]
  refine wpAnyH_take (i := 1) (oi := { dst := some 17, op := Op.load 3 (Operand.tmp 6), type := 3, pos := "law.go:54", after := #[], guard := none }) (v := ?_) rfl (by kernel_rfl) (by kernel_rfl) (by kernel_rfl) (fun _ _ _ h => h) (Or.inl ⟨by rfl, ?_⟩) (by assumption) ?_
  rotate_left
  · intro w hSw
    obtain ⟨c0, c1, y0, y1, y2, y3, y4, y5, y6, y7, y8, x0, x1, x2, x3, x4, x5, x6, x7, x8⟩ := FA.out w hSw
    go_simp
    try with_reducible rfl
  try simp only [Act.put, List.setIfInBounds_toArray, List.set_cons_zero, List.set_cons_succ]
  refine wpAnyH_take (i := 2) (oi := { dst := some 18, op := Op.binOp BinOp.neq 3 (Operand.tmp 16) (Operand.tmp 17) 3, type := 4, pos := "law.go:54", after := #[{ on := 0, ground := Ground.data }, { on := 1, ground := Ground.data }], guard := none }) (v := ?_) rfl (by kernel_rfl) (by kernel_rfl) (by kernel_rfl) (fun _ _ _ h => h) (Or.inl ⟨by rfl, ?_⟩) (by assumption) ?_
  rotate_left
  · intro w hSw
    go_simp
    try with_reducible rfl
  try simp only [Act.put, List.setIfInBounds_toArray, List.set_cons_zero, List.set_cons_succ]
  refine wpAnyH_take (i := 3) (oi := { dst := some 19, op := Op.move (Operand.tmp 18), type := 4, pos := "law.go:54", after := #[{ on := 2, ground := Ground.data }], guard := none }) (v := ?_) rfl (by kernel_rfl) (by kernel_rfl) (by kernel_rfl) (fun _ _ _ h => h) (Or.inl ⟨by rfl, ?_⟩) (by assumption) ?_
  rotate_left
  · intro w hSw
    go_simp
    try with_reducible rfl
  try simp only [Act.put, List.setIfInBounds_toArray, List.set_cons_zero, List.set_cons_succ]
  refine wpAnyH_take (i := 4) (oi := { dst := some 20, op := Op.load 3 (Operand.tmp 6), type := 3, pos := "law.go:54", after := #[{ on := 3, ground := Ground.guard }], guard := some (3, false) }) (v := ?_) rfl (by kernel_rfl) (by kernel_rfl) (by kernel_rfl) (fun _ _ _ h => h) (Or.inl ⟨by rfl, ?_⟩) (by assumption) ?_
  rotate_left
  · intro w hSw
    obtain ⟨c0, c1, y0, y1, y2, y3, y4, y5, y6, y7, y8, x0, x1, x2, x3, x4, x5, x6, x7, x8⟩ := FA.out w hSw
    go_simp
    try with_reducible rfl
  try simp only [Act.put, List.setIfInBounds_toArray, List.set_cons_zero, List.set_cons_succ]
  refine wpAnyH_take (i := 5) (oi := { dst := some 21, op := Op.fieldAddr 26 (Operand.tmp 3) 0, type := 0, pos := "law.go:54", after := #[{ on := 3, ground := Ground.guard }], guard := some (3, false) }) (v := ?_) rfl (by kernel_rfl) (by kernel_rfl) (by kernel_rfl) (fun _ _ _ h => h) (Or.inl ⟨by rfl, ?_⟩) (by assumption) ?_
  rotate_left
  · intro w hSw
    go_simp
    try with_reducible rfl
  try simp only [Act.put, List.setIfInBounds_toArray, List.set_cons_zero, List.set_cons_succ]
  refine wpAnyH_take (i := 6) (oi := { dst := some 22, op := Op.load 24 (Operand.tmp 21), type := 24, pos := "law.go:54", after := #[{ on := 5, ground := Ground.data }, { on := 3, ground := Ground.guard }], guard := some (3, false) }) (v := ?_) rfl (by kernel_rfl) (by kernel_rfl) (by kernel_rfl) (fun _ _ _ h => h) (Or.inl ⟨by rfl, ?_⟩) (by assumption) ?_
  rotate_left
  · intro w hSw
    obtain ⟨c0, c1, y0, y1, y2, y3, y4, y5, y6, y7, y8, x0, x1, x2, x3, x4, x5, x6, x7, x8⟩ := FA.out w hSw
    go_simp
    try with_reducible rfl
  try simp only [Act.put, List.setIfInBounds_toArray, List.set_cons_zero, List.set_cons_succ]
  refine wpAnyH_take (i := 7) (oi := { dst := some 23, op := Op.call { callee := Callee.builtin Builtin.len, args := #[Operand.tmp 22], argTypes := #[24] }, type := 3, pos := "law.go:54", after := #[{ on := 6, ground := Ground.data }, { on := 3, ground := Ground.guard }], guard := some (3, false) }) (v := ?_) rfl (by kernel_rfl) (by kernel_rfl) (by kernel_rfl) (fun _ _ _ h => h) (Or.inl ⟨by rfl, ?_⟩) (by assumption) ?_
  rotate_left
  · intro w hSw
    go_simp
    try with_reducible rfl
  try simp only [Act.put, List.setIfInBounds_toArray, List.set_cons_zero, List.set_cons_succ]
  refine wpAnyH_take (i := 8) (oi := { dst := some 24, op := Op.binOp BinOp.geq 3 (Operand.tmp 20) (Operand.tmp 23) 3, type := 4, pos := "law.go:54", after := #[{ on := 4, ground := Ground.data }, { on := 7, ground := Ground.data }, { on := 3, ground := Ground.guard }], guard := some (3, false) }) (v := ?_) rfl (by kernel_rfl) (by kernel_rfl) (by kernel_rfl) (fun _ _ _ h => h) (Or.inl ⟨by rfl, ?_⟩) (by assumption) ?_
  rotate_left
  · intro w hSw
    go_simp
    try with_reducible rfl
  try simp only [Act.put, List.setIfInBounds_toArray, List.set_cons_zero, List.set_cons_succ]
  refine wpAnyH_take (i := 9) (oi := { dst := some 25, op := Op.pick (Operand.tmp 19) (Operand.const (Value.bool true)) (Operand.tmp 24), type := 4, pos := "law.go:54", after := #[{ on := 3, ground := Ground.data }, { on := 8, ground := Ground.data }], guard := none }) (v := ?_) rfl (by kernel_rfl) (by kernel_rfl) (by kernel_rfl) (fun _ _ _ h => h) (Or.inl ⟨by rfl, ?_⟩) (by assumption) ?_
  rotate_left
  · intro w hSw
    go_simp
    try with_reducible rfl
  try simp only [Act.put, List.setIfInBounds_toArray, List.set_cons_zero, List.set_cons_succ]
  refine wpAnyH_take (i := 10) (oi := { dst := some 26, op := Op.move (Operand.tmp 25), type := 4, pos := "law.go:54", after := #[{ on := 9, ground := Ground.data }, { on := 3, ground := Ground.chain }], guard := none }) (v := ?_) rfl (by kernel_rfl) (by kernel_rfl) (by kernel_rfl) (fun _ _ _ h => h) (Or.inl ⟨by rfl, ?_⟩) (by assumption) ?_
  rotate_left
  · intro w hSw
    go_simp
    try with_reducible rfl
  try simp only [Act.put, List.setIfInBounds_toArray, List.set_cons_zero, List.set_cons_succ]
  refine wpAnyH_take (i := 11) (oi := { dst := some 27, op := Op.load 37 (Operand.tmp 8), type := 37, pos := "law.go:54", after := #[{ on := 10, ground := Ground.guard }], guard := some (10, false) }) (v := ?_) rfl (by kernel_rfl) (by kernel_rfl) (by kernel_rfl) (fun _ _ _ h => h) (Or.inl ⟨by rfl, ?_⟩) (by assumption) ?_
  rotate_left
  · intro w hSw
    obtain ⟨c0, c1, y0, y1, y2, y3, y4, y5, y6, y7, y8, x0, x1, x2, x3, x4, x5, x6, x7, x8⟩ := FA.out w hSw
    go_simp
    try with_reducible rfl
  try simp only [Act.put, List.setIfInBounds_toArray, List.set_cons_zero, List.set_cons_succ]
  refine wpAnyH_take (i := 12) (oi := { dst := some 28, op := Op.fieldAddr 26 (Operand.tmp 3) 0, type := 0, pos := "law.go:54", after := #[{ on := 10, ground := Ground.guard }], guard := some (10, false) }) (v := ?_) rfl (by kernel_rfl) (by kernel_rfl) (by kernel_rfl) (fun _ _ _ h => h) (Or.inl ⟨by rfl, ?_⟩) (by assumption) ?_
  rotate_left
  · intro w hSw
    go_simp
    try with_reducible rfl
  try simp only [Act.put, List.setIfInBounds_toArray, List.set_cons_zero, List.set_cons_succ]
  refine wpAnyH_take (i := 13) (oi := { dst := some 29, op := Op.load 24 (Operand.tmp 28), type := 24, pos := "law.go:54", after := #[{ on := 12, ground := Ground.data }, { on := 10, ground := Ground.guard }], guard := some (10, false) }) (v := ?_) rfl (by kernel_rfl) (by kernel_rfl) (by kernel_rfl) (fun _ _ _ h => h) (Or.inl ⟨by rfl, ?_⟩) (by assumption) ?_
  rotate_left
  · intro w hSw
    obtain ⟨c0, c1, y0, y1, y2, y3, y4, y5, y6, y7, y8, x0, x1, x2, x3, x4, x5, x6, x7, x8⟩ := FA.out w hSw
    go_simp
    try with_reducible rfl
  try simp only [Act.put, List.setIfInBounds_toArray, List.set_cons_zero, List.set_cons_succ]
  refine wpAnyH_take (i := 14) (oi := { dst := some 30, op := Op.load 3 (Operand.tmp 6), type := 3, pos := "law.go:54", after := #[{ on := 10, ground := Ground.guard }], guard := some (10, false) }) (v := ?_) rfl (by kernel_rfl) (by kernel_rfl) (by kernel_rfl) (fun _ _ _ h => h) (Or.inl ⟨by rfl, ?_⟩) (by assumption) ?_
  rotate_left
  · intro w hSw
    obtain ⟨c0, c1, y0, y1, y2, y3, y4, y5, y6, y7, y8, x0, x1, x2, x3, x4, x5, x6, x7, x8⟩ := FA.out w hSw
    go_simp
    try with_reducible rfl
  try simp only [Act.put, List.setIfInBounds_toArray, List.set_cons_zero, List.set_cons_succ]
  refine wpAnyH_take (i := 15) (oi := { dst := some 31, op := Op.indexAddr 24 (Operand.tmp 29) (Operand.tmp 30), type := 0, pos := "law.go:54", after := #[{ on := 13, ground := Ground.data }, { on := 14, ground := Ground.data }, { on := 10, ground := Ground.guard }], guard := some (10, false) }) (v := ?_) rfl (by kernel_rfl) (by kernel_rfl) (by kernel_rfl) (fun _ _ _ h => h) (Or.inl ⟨by rfl, ?_⟩) (by assumption) ?_
  rotate_left
  · intro w hSw
    go_simp
    try with_reducible rfl
  try simp only [Act.put, List.setIfInBounds_toArray, List.set_cons_zero, List.set_cons_succ]
  refine wpAnyH_take (i := 16) (oi := { dst := some 32, op := Op.load 37 (Operand.tmp 31), type := 37, pos := "law.go:54", after := #[{ on := 15, ground := Ground.data }, { on := 10, ground := Ground.guard }], guard := some (10, false) }) (v := ?_) rfl (by kernel_rfl) (by kernel_rfl) (by kernel_rfl) (fun _ _ _ h => h) (Or.inl ⟨by rfl, ?_⟩) (by assumption) ?_
  rotate_left
  · intro w hSw
    obtain ⟨c0, c1, y0, y1, y2, y3, y4, y5, y6, y7, y8, x0, x1, x2, x3, x4, x5, x6, x7, x8⟩ := FA.out w hSw
    go_simp
    try with_reducible rfl
  try simp only [Act.put, List.setIfInBounds_toArray, List.set_cons_zero, List.set_cons_succ]
  refine wpAnyH_ready (rs := [17]) (by kernel_rfl) (by simp) ?_
  refine AllReadyH.cons (o := { dst := some 33, op := Op.call { callee := Callee.value (Operand.func 10), args := #[Operand.tmp 27, Operand.tmp 32], argTypes := #[37, 37] }, type := 4, pos := "law.go:54", after := #[{ on := 11, ground := Ground.data }, { on := 16, ground := Ground.data }, { on := 10, ground := Ground.chain }, { on := 10, ground := Ground.guard }], guard := some (10, false) }) rfl (fun K hK => ?_) AllReadyH.nil
  go_simp
  go_at_call 10
  refine (SM.out _ (by assumption)).mono ?_
  rintro e w6 ⟨rfl, b6⟩
  have B6 : Hid (Below W.heap.size W w6) := blr (by assumption) b6
  clear b6
  go_wp2_with fail
  refine hK.out _ _ ?_ (fun hHeld => ?_)
  · exact B6.out
  clear hK K
  try simp only [Act.put, List.setIfInBounds_toArray, List.set_cons_zero, List.set_cons_succ]
  refine wpAnyH_take (i := 18) (oi := { dst := some 34, op := Op.unOp UnOp.not 4 (Operand.tmp 33), type := 4, pos := "law.go:54", after := #[{ on := 17, ground := Ground.data }, { on := 10, ground := Ground.guard }], guard := some (10, false) }) (v := ?_) rfl (by kernel_rfl) (by kernel_rfl) (by kernel_rfl) (fun _ _ _ h => h) (Or.inl ⟨by rfl, ?_⟩) (by assumption) ?_
  rotate_left
  · intro w hSw
    go_simp
    try with_reducible rfl
  try simp only [Act.put, List.setIfInBounds_toArray, List.set_cons_zero, List.set_cons_succ]
  refine wpAnyH_take (i := 19) (oi := { dst := some 35, op := Op.pick (Operand.tmp 26) (Operand.const (Value.bool true)) (Operand.tmp 34), type := 4, pos := "law.go:54", after := #[{ on := 10, ground := Ground.data }, { on := 18, ground := Ground.data }], guard := none }) (v := ?_) rfl (by kernel_rfl) (by kernel_rfl) (by kernel_rfl) (fun _ _ _ h => h) (Or.inl ⟨by rfl, ?_⟩) (by assumption) ?_
  rotate_left
  · intro w hSw
    go_simp
    try with_reducible rfl
  try simp only [Act.put, List.setIfInBounds_toArray, List.set_cons_zero, List.set_cons_succ]
  refine wpAnyH_done (by kernel_rfl) ?_ _
  exact QN.normal (hH.out _ _ _ _ _ _ _ _ _ _ _ _ _ _ _ _ _ _ _ _ B6.out)
set_option maxRecDepth 100000 in
set_option maxHeartbeats 32000000 in
theorem eg12 {n l : Nat} {Q : Exit → Act → World → Prop} {nb yb pb k m X o cq : Nat} {nm ct : ByteArray} {ag : Bool} {pt pq pf pc ck : Int} {v1 v2 : Value} {W : World} {t0 t1 t2 t3 t4 t5 t7 t8 t12 t13 t14 t15 t16 t17 t18 t19 t20 t21 t22 t23 t24 t25 t26 t27 t28 t29 t30 t31 t32 t33 t34 t35 t36 t37 t38 t39 t40 t41 t42 t43 t44 t45 t46 t47 t48 t49 t50 t51 t52 t53 t54 t55 t56 t57 t58 t59 t60 t61 t62 t63 t64 t65 t66 t67 t68 : Value} (hk : (k : Int) < (m : Nat))
    (hF : ∀ w', Below W.heap.size W w' → w'.cell? ⟨nb, 0, none⟩ = some (.int .i64 (k : Nat)) ∧ w'.cell? ⟨yb, 0, none⟩ = some (.slice (some ⟨X, o, none⟩) m cq) ∧ w'.cell? ⟨pb, 0, none⟩ = some (.string nm) ∧ w'.cell? ⟨pb, 1, none⟩ = some v1 ∧ w'.cell? ⟨pb, 2, none⟩ = some (.bool ag) ∧ w'.cell? ⟨pb, 3, none⟩ = some (.int .i64 pt) ∧ w'.cell? ⟨pb, 4, none⟩ = some (.int .i64 pq) ∧ w'.cell? ⟨pb, 5, none⟩ = some (.int .i64 pf) ∧ w'.cell? ⟨pb, 6, none⟩ = some (.int .i64 pc) ∧ w'.cell? ⟨pb, 7, none⟩ = some (.int .i64 ck) ∧ w'.cell? ⟨pb, 8, none⟩ = some (.string ct) ∧ w'.cell? ⟨X, o + k * 9, none⟩ = some (.string nm) ∧ w'.cell? ⟨X, o + k * 9 + 1, none⟩ = some v2 ∧ w'.cell? ⟨X, o + k * 9 + 2, none⟩ = some (.bool ag) ∧ w'.cell? ⟨X, o + k * 9 + 3, none⟩ = some (.int .i64 pt) ∧ w'.cell? ⟨X, o + k * 9 + 4, none⟩ = some (.int .i64 pq) ∧ w'.cell? ⟨X, o + k * 9 + 5, none⟩ = some (.int .i64 pf) ∧ w'.cell? ⟨X, o + k * 9 + 6, none⟩ = some (.int .i64 pc) ∧ w'.cell? ⟨X, o + k * 9 + 7, none⟩ = some (.int .i64 ck) ∧ w'.cell? ⟨X, o + k * 9 + 8, none⟩ = some (.string ct))
    (hS : ∀ w', Below W.heap.size W w' → Calls Tryd.prog 10 #[(.agg #[.string nm, v1, .bool ag, .int .i64 pt, .int .i64 pq, .int .i64 pf, .int .i64 pc, .int .i64 ck, .string ct]), (.agg #[.string nm, v2, .bool ag, .int .i64 pt, .int .i64 pq, .int .i64 pf, .int .i64 pc, .int .i64 ck, .string ct])] w' fun e w2 => e = .returned (.bool true) ∧ Below w'.heap.size w' w2)
    (h : ∀ (W' : World) (x42 x43 x44 x45 x46 x47 x48 x49 x50 x51 x52 x53 x54 x55 x56 x57 x58 x59 x60 : Value), Below W.heap.size W W' → Q .normal { tmps := #[t0, t1, t2, t3, t4, t5, .pointer (some ⟨yb, 0, none⟩), t7, t8, .pointer (some ⟨nb, 0, none⟩), .int .i64 (k : Nat), .pointer (some ⟨pb, 0, none⟩), t12, t13, t14, t15, t16, t17, t18, t19, t20, t21, t22, t23, t24, t25, t26, t27, t28, t29, t30, t31, t32, t33, t34, t35, t36, t37, t38, t39, t40, t41, x42, x43, x44, x45, x46, x47, x48, x49, x50, x51, x52, x53, x54, x55, x56, x57, x58, x59, x60, .bool false, t62, t63, t64, t65, t66, t67, t68], defers := [] } W') :
    (Code.region 12 #[{ dst := some 42, op := Op.move (Operand.tmp 10), type := 3, pos := "law.go:118", after := #[], guard := none }, { dst := some 43, op := Op.load 3 (Operand.tmp 9), type := 3, pos := "law.go:118", after := #[], guard := none }, { dst := some 44, op := Op.binOp BinOp.neq 3 (Operand.tmp 42) (Operand.tmp 43) 3, type := 4, pos := "law.go:118", after := #[{ on := 0, ground := Ground.data }, { on := 1, ground := Ground.data }], guard := none }, { dst := some 45, op := Op.move (Operand.tmp 44), type := 4, pos := "law.go:118", after := #[{ on := 2, ground := Ground.data }], guard := none }, { dst := some 46, op := Op.load 3 (Operand.tmp 9), type := 3, pos := "law.go:118", after := #[{ on := 3, ground := Ground.guard }], guard := some (3, false) }, { dst := some 47, op := Op.fieldAddr 26 (Operand.tmp 6) 0, type := 0, pos := "law.go:118", after := #[{ on := 3, ground := Ground.guard }], guard := some (3, false) }, { dst := some 48, op := Op.load 24 (Operand.tmp 47), type := 24, pos := "law.go:118", after := #[{ on := 5, ground := Ground.data }, { on := 3, ground := Ground.guard }], guard := some (3, false) }, { dst := some 49, op := Op.call { callee := Callee.builtin Builtin.len, args := #[Operand.tmp 48], argTypes := #[24] }, type := 3, pos := "law.go:118", after := #[{ on := 6, ground := Ground.data }, { on := 3, ground := Ground.guard }], guard := some (3, false) }, { dst := some 50, op := Op.binOp BinOp.geq 3 (Operand.tmp 46) (Operand.tmp 49) 3, type := 4, pos := "law.go:118", after := #[{ on := 4, ground := Ground.data }, { on := 7, ground := Ground.data }, { on := 3, ground := Ground.guard }], guard := some (3, false) }, { dst := some 51, op := Op.pick (Operand.tmp 45) (Operand.const (Value.bool true)) (Operand.tmp 50), type := 4, pos := "law.go:118", after := #[{ on := 3, ground := Ground.data }, { on := 8, ground := Ground.data }], guard := none }, { dst := some 52, op := Op.move (Operand.tmp 51), type := 4, pos := "law.go:118", after := #[{ on := 9, ground := Ground.data }, { on := 3, ground := Ground.chain }], guard := none }, { dst := some 53, op := Op.load 37 (Operand.tmp 11), type := 37, pos := "law.go:118", after := #[{ on := 10, ground := Ground.guard }], guard := some (10, false) }, { dst := some 54, op := Op.fieldAddr 26 (Operand.tmp 6) 0, type := 0, pos := "law.go:118", after := #[{ on := 10, ground := Ground.guard }], guard := some (10, false) }, { dst := some 55, op := Op.load 24 (Operand.tmp 54), type := 24, pos := "law.go:118", after := #[{ on := 12, ground := Ground.data }, { on := 10, ground := Ground.guard }], guard := some (10, false) }, { dst := some 56, op := Op.load 3 (Operand.tmp 9), type := 3, pos := "law.go:118", after := #[{ on := 10, ground := Ground.guard }], guard := some (10, false) }, { dst := some 57, op := Op.indexAddr 24 (Operand.tmp 55) (Operand.tmp 56), type := 0, pos := "law.go:118", after := #[{ on := 13, ground := Ground.data }, { on := 14, ground := Ground.data }, { on := 10, ground := Ground.guard }], guard := some (10, false) }, { dst := some 58, op := Op.load 37 (Operand.tmp 57), type := 37, pos := "law.go:118", after := #[{ on := 15, ground := Ground.data }, { on := 10, ground := Ground.guard }], guard := some (10, false) }, { dst := some 59, op := Op.call { callee := Callee.value (Operand.func 10), args := #[Operand.tmp 53, Operand.tmp 58], argTypes := #[37, 37] }, type := 4, pos := "law.go:118", after := #[{ on := 11, ground := Ground.data }, { on := 16, ground := Ground.data }, { on := 10, ground := Ground.chain }, { on := 10, ground := Ground.guard }], guard := some (10, false) }, { dst := some 60, op := Op.unOp UnOp.not 4 (Operand.tmp 59), type := 4, pos := "law.go:118", after := #[{ on := 17, ground := Ground.data }, { on := 10, ground := Ground.guard }], guard := some (10, false) }, { dst := some 61, op := Op.pick (Operand.tmp 52) (Operand.const (Value.bool true)) (Operand.tmp 60), type := 4, pos := "law.go:118", after := #[{ on := 10, ground := Ground.data }, { on := 18, ground := Ground.data }], guard := none }] true).wpIn (Fence.wide.inRound l) n Tryd.prog Q { tmps := #[t0, t1, t2, t3, t4, t5, .pointer (some ⟨yb, 0, none⟩), t7, t8, .pointer (some ⟨nb, 0, none⟩), .int .i64 (k : Nat), .pointer (some ⟨pb, 0, none⟩), t12, t13, t14, t15, t16, t17, t18, t19, t20, t21, t22, t23, t24, t25, t26, t27, t28, t29, t30, t31, t32, t33, t34, t35, t36, t37, t38, t39, t40, t41, t42, t43, t44, t45, t46, t47, t48, t49, t50, t51, t52, t53, t54, t55, t56, t57, t58, t59, t60, t61, t62, t63, t64, t65, t66, t67, t68], defers := [] } W := by
  have FA := hidr hF
  have SM := hidr hS
  have hH := hidr h
  have hk2 : ¬ (m : Int) ≤ (k : Nat) := by omega
  clear h hF hS
  refine wpIn_region_held_round (S := (fun w' => Below W.heap.size W w')) (by kernel_rfl) (by kernel_rfl) ?_ (fun hHeld => ?_)
  · exact Below.drew (Below.refl _ _)
  refine wpAnyH_take (i := 0) (oi := { dst := some 42, op := Op.move (Operand.tmp 10), type := 3, pos := "law.go:118", after := #[], guard := none }) (v := ?_) rfl (by kernel_rfl) (by kernel_rfl) (by kernel_rfl) (fun _ _ _ h => h) (Or.inl ⟨by rfl, ?_⟩) (by assumption) ?_
  rotate_left
  · intro w hSw
    go_simp
    try with_reducible rfl
  try simp only [Act.put, List.setIfInBounds_toArray, List.set_cons_zero, List.set_cons_succ]
  refine wpAnyH_take (i := 1) (oi := { dst := some 43, op := Op.load 3 (Operand.tmp 9), type := 3, pos := "law.go:118", after := #[], guard := none }) (v := ?_) rfl (by kernel_rfl) (by kernel_rfl) (by kernel_rfl) (fun _ _ _ h => h) (Or.inl ⟨by rfl, ?_⟩) (by assumption) ?_
  rotate_left
  · intro w hSw
    obtain ⟨c0, c1, y0, y1, y2, y3, y4, y5, y6, y7, y8, x0, x1, x2, x3, x4, x5, x6, x7, x8⟩ := FA.out w hSw
    go_simp
    try with_reducible rfl
  try simp only [Act.put, List.setIfInBounds_toArray, List.set_cons_zero, List.set_cons_succ]
  refine wpAnyH_take (i := 2) (oi := { dst := some 44, op := Op.binOp BinOp.neq 3 (Operand.tmp 42) (Operand.tmp 43) 3, type := 4, pos := "law.go:118", after := #[{ on := 0, ground := Ground.data }, { on := 1, ground := Ground.data }], guard := none }) (v := ?_) rfl (by kernel_rfl) (by kernel_rfl) (by kernel_rfl) (fun _ _ _ h => h) (Or.inl ⟨by rfl, ?_⟩) (by assumption) ?_
  rotate_left
  · intro w hSw
    go_simp
    try with_reducible rfl
  try simp only [Act.put, List.setIfInBounds_toArray, List.set_cons_zero, List.set_cons_succ]
  refine wpAnyH_take (i := 3) (oi := { dst := some 45, op := Op.move (Operand.tmp 44), type := 4, pos := "law.go:118", after := #[{ on := 2, ground := Ground.data }], guard := none }) (v := ?_) rfl (by kernel_rfl) (by kernel_rfl) (by kernel_rfl) (fun _ _ _ h => h) (Or.inl ⟨by rfl, ?_⟩) (by assumption) ?_
  rotate_left
  · intro w hSw
    go_simp
    try with_reducible rfl
  try simp only [Act.put, List.setIfInBounds_toArray, List.set_cons_zero, List.set_cons_succ]
  refine wpAnyH_take (i := 4) (oi := { dst := some 46, op := Op.load 3 (Operand.tmp 9), type := 3, pos := "law.go:118", after := #[{ on := 3, ground := Ground.guard }], guard := some (3, false) }) (v := ?_) rfl (by kernel_rfl) (by kernel_rfl) (by kernel_rfl) (fun _ _ _ h => h) (Or.inl ⟨by rfl, ?_⟩) (by assumption) ?_
  rotate_left
  · intro w hSw
    obtain ⟨c0, c1, y0, y1, y2, y3, y4, y5, y6, y7, y8, x0, x1, x2, x3, x4, x5, x6, x7, x8⟩ := FA.out w hSw
    go_simp
    try with_reducible rfl
  try simp only [Act.put, List.setIfInBounds_toArray, List.set_cons_zero, List.set_cons_succ]
  refine wpAnyH_take (i := 5) (oi := { dst := some 47, op := Op.fieldAddr 26 (Operand.tmp 6) 0, type := 0, pos := "law.go:118", after := #[{ on := 3, ground := Ground.guard }], guard := some (3, false) }) (v := ?_) rfl (by kernel_rfl) (by kernel_rfl) (by kernel_rfl) (fun _ _ _ h => h) (Or.inl ⟨by rfl, ?_⟩) (by assumption) ?_
  rotate_left
  · intro w hSw
    go_simp
    try with_reducible rfl
  try simp only [Act.put, List.setIfInBounds_toArray, List.set_cons_zero, List.set_cons_succ]
  refine wpAnyH_take (i := 6) (oi := { dst := some 48, op := Op.load 24 (Operand.tmp 47), type := 24, pos := "law.go:118", after := #[{ on := 5, ground := Ground.data }, { on := 3, ground := Ground.guard }], guard := some (3, false) }) (v := ?_) rfl (by kernel_rfl) (by kernel_rfl) (by kernel_rfl) (fun _ _ _ h => h) (Or.inl ⟨by rfl, ?_⟩) (by assumption) ?_
  rotate_left
  · intro w hSw
    obtain ⟨c0, c1, y0, y1, y2, y3, y4, y5, y6, y7, y8, x0, x1, x2, x3, x4, x5, x6, x7, x8⟩ := FA.out w hSw
    go_simp
    try with_reducible rfl
  try simp only [Act.put, List.setIfInBounds_toArray, List.set_cons_zero, List.set_cons_succ]
  refine wpAnyH_take (i := 7) (oi := { dst := some 49, op := Op.call { callee := Callee.builtin Builtin.len, args := #[Operand.tmp 48], argTypes := #[24] }, type := 3, pos := "law.go:118", after := #[{ on := 6, ground := Ground.data }, { on := 3, ground := Ground.guard }], guard := some (3, false) }) (v := ?_) rfl (by kernel_rfl) (by kernel_rfl) (by kernel_rfl) (fun _ _ _ h => h) (Or.inl ⟨by rfl, ?_⟩) (by assumption) ?_
  rotate_left
  · intro w hSw
    go_simp
    try with_reducible rfl
  try simp only [Act.put, List.setIfInBounds_toArray, List.set_cons_zero, List.set_cons_succ]
  refine wpAnyH_take (i := 8) (oi := { dst := some 50, op := Op.binOp BinOp.geq 3 (Operand.tmp 46) (Operand.tmp 49) 3, type := 4, pos := "law.go:118", after := #[{ on := 4, ground := Ground.data }, { on := 7, ground := Ground.data }, { on := 3, ground := Ground.guard }], guard := some (3, false) }) (v := ?_) rfl (by kernel_rfl) (by kernel_rfl) (by kernel_rfl) (fun _ _ _ h => h) (Or.inl ⟨by rfl, ?_⟩) (by assumption) ?_
  rotate_left
  · intro w hSw
    go_simp
    try with_reducible rfl
  try simp only [Act.put, List.setIfInBounds_toArray, List.set_cons_zero, List.set_cons_succ]
  refine wpAnyH_take (i := 9) (oi := { dst := some 51, op := Op.pick (Operand.tmp 45) (Operand.const (Value.bool true)) (Operand.tmp 50), type := 4, pos := "law.go:118", after := #[{ on := 3, ground := Ground.data }, { on := 8, ground := Ground.data }], guard := none }) (v := ?_) rfl (by kernel_rfl) (by kernel_rfl) (by kernel_rfl) (fun _ _ _ h => h) (Or.inl ⟨by rfl, ?_⟩) (by assumption) ?_
  rotate_left
  · intro w hSw
    go_simp
    try with_reducible rfl
  try simp only [Act.put, List.setIfInBounds_toArray, List.set_cons_zero, List.set_cons_succ]
  refine wpAnyH_take (i := 10) (oi := { dst := some 52, op := Op.move (Operand.tmp 51), type := 4, pos := "law.go:118", after := #[{ on := 9, ground := Ground.data }, { on := 3, ground := Ground.chain }], guard := none }) (v := ?_) rfl (by kernel_rfl) (by kernel_rfl) (by kernel_rfl) (fun _ _ _ h => h) (Or.inl ⟨by rfl, ?_⟩) (by assumption) ?_
  rotate_left
  · intro w hSw
    go_simp
    try with_reducible rfl
  try simp only [Act.put, List.setIfInBounds_toArray, List.set_cons_zero, List.set_cons_succ]
  refine wpAnyH_take (i := 11) (oi := { dst := some 53, op := Op.load 37 (Operand.tmp 11), type := 37, pos := "law.go:118", after := #[{ on := 10, ground := Ground.guard }], guard := some (10, false) }) (v := ?_) rfl (by kernel_rfl) (by kernel_rfl) (by kernel_rfl) (fun _ _ _ h => h) (Or.inl ⟨by rfl, ?_⟩) (by assumption) ?_
  rotate_left
  · intro w hSw
    obtain ⟨c0, c1, y0, y1, y2, y3, y4, y5, y6, y7, y8, x0, x1, x2, x3, x4, x5, x6, x7, x8⟩ := FA.out w hSw
    go_simp
    try with_reducible rfl
  try simp only [Act.put, List.setIfInBounds_toArray, List.set_cons_zero, List.set_cons_succ]
  refine wpAnyH_take (i := 12) (oi := { dst := some 54, op := Op.fieldAddr 26 (Operand.tmp 6) 0, type := 0, pos := "law.go:118", after := #[{ on := 10, ground := Ground.guard }], guard := some (10, false) }) (v := ?_) rfl (by kernel_rfl) (by kernel_rfl) (by kernel_rfl) (fun _ _ _ h => h) (Or.inl ⟨by rfl, ?_⟩) (by assumption) ?_
  rotate_left
  · intro w hSw
    go_simp
    try with_reducible rfl
  try simp only [Act.put, List.setIfInBounds_toArray, List.set_cons_zero, List.set_cons_succ]
  refine wpAnyH_take (i := 13) (oi := { dst := some 55, op := Op.load 24 (Operand.tmp 54), type := 24, pos := "law.go:118", after := #[{ on := 12, ground := Ground.data }, { on := 10, ground := Ground.guard }], guard := some (10, false) }) (v := ?_) rfl (by kernel_rfl) (by kernel_rfl) (by kernel_rfl) (fun _ _ _ h => h) (Or.inl ⟨by rfl, ?_⟩) (by assumption) ?_
  rotate_left
  · intro w hSw
    obtain ⟨c0, c1, y0, y1, y2, y3, y4, y5, y6, y7, y8, x0, x1, x2, x3, x4, x5, x6, x7, x8⟩ := FA.out w hSw
    go_simp
    try with_reducible rfl
  try simp only [Act.put, List.setIfInBounds_toArray, List.set_cons_zero, List.set_cons_succ]
  refine wpAnyH_take (i := 14) (oi := { dst := some 56, op := Op.load 3 (Operand.tmp 9), type := 3, pos := "law.go:118", after := #[{ on := 10, ground := Ground.guard }], guard := some (10, false) }) (v := ?_) rfl (by kernel_rfl) (by kernel_rfl) (by kernel_rfl) (fun _ _ _ h => h) (Or.inl ⟨by rfl, ?_⟩) (by assumption) ?_
  rotate_left
  · intro w hSw
    obtain ⟨c0, c1, y0, y1, y2, y3, y4, y5, y6, y7, y8, x0, x1, x2, x3, x4, x5, x6, x7, x8⟩ := FA.out w hSw
    go_simp
    try with_reducible rfl
  try simp only [Act.put, List.setIfInBounds_toArray, List.set_cons_zero, List.set_cons_succ]
  refine wpAnyH_take (i := 15) (oi := { dst := some 57, op := Op.indexAddr 24 (Operand.tmp 55) (Operand.tmp 56), type := 0, pos := "law.go:118", after := #[{ on := 13, ground := Ground.data }, { on := 14, ground := Ground.data }, { on := 10, ground := Ground.guard }], guard := some (10, false) }) (v := ?_) rfl (by kernel_rfl) (by kernel_rfl) (by kernel_rfl) (fun _ _ _ h => h) (Or.inl ⟨by rfl, ?_⟩) (by assumption) ?_
  rotate_left
  · intro w hSw
    go_simp
    try with_reducible rfl
  try simp only [Act.put, List.setIfInBounds_toArray, List.set_cons_zero, List.set_cons_succ]
  refine wpAnyH_take (i := 16) (oi := { dst := some 58, op := Op.load 37 (Operand.tmp 57), type := 37, pos := "law.go:118", after := #[{ on := 15, ground := Ground.data }, { on := 10, ground := Ground.guard }], guard := some (10, false) }) (v := ?_) rfl (by kernel_rfl) (by kernel_rfl) (by kernel_rfl) (fun _ _ _ h => h) (Or.inl ⟨by rfl, ?_⟩) (by assumption) ?_
  rotate_left
  · intro w hSw
    obtain ⟨c0, c1, y0, y1, y2, y3, y4, y5, y6, y7, y8, x0, x1, x2, x3, x4, x5, x6, x7, x8⟩ := FA.out w hSw
    go_simp
    try with_reducible rfl
  try simp only [Act.put, List.setIfInBounds_toArray, List.set_cons_zero, List.set_cons_succ]
  refine wpAnyH_ready (rs := [17]) (by kernel_rfl) (by simp) ?_
  refine AllReadyH.cons (o := { dst := some 59, op := Op.call { callee := Callee.value (Operand.func 10), args := #[Operand.tmp 53, Operand.tmp 58], argTypes := #[37, 37] }, type := 4, pos := "law.go:118", after := #[{ on := 11, ground := Ground.data }, { on := 16, ground := Ground.data }, { on := 10, ground := Ground.chain }, { on := 10, ground := Ground.guard }], guard := some (10, false) }) rfl (fun K hK => ?_) AllReadyH.nil
  go_simp
  go_at_call 10
  refine (SM.out _ (by assumption)).mono ?_
  rintro e w6 ⟨rfl, b6⟩
  have B6 : Hid (Below W.heap.size W w6) := blr (by assumption) b6
  clear b6
  go_wp2_with fail
  refine hK.out _ _ ?_ (fun hHeld => ?_)
  · exact B6.out
  clear hK K
  try simp only [Act.put, List.setIfInBounds_toArray, List.set_cons_zero, List.set_cons_succ]
  refine wpAnyH_take (i := 18) (oi := { dst := some 60, op := Op.unOp UnOp.not 4 (Operand.tmp 59), type := 4, pos := "law.go:118", after := #[{ on := 17, ground := Ground.data }, { on := 10, ground := Ground.guard }], guard := some (10, false) }) (v := ?_) rfl (by kernel_rfl) (by kernel_rfl) (by kernel_rfl) (fun _ _ _ h => h) (Or.inl ⟨by rfl, ?_⟩) (by assumption) ?_
  rotate_left
  · intro w hSw
    go_simp
    try with_reducible rfl
  try simp only [Act.put, List.setIfInBounds_toArray, List.set_cons_zero, List.set_cons_succ]
  refine wpAnyH_take (i := 19) (oi := { dst := some 61, op := Op.pick (Operand.tmp 52) (Operand.const (Value.bool true)) (Operand.tmp 60), type := 4, pos := "law.go:118", after := #[{ on := 10, ground := Ground.data }, { on := 18, ground := Ground.data }], guard := none }) (v := ?_) rfl (by kernel_rfl) (by kernel_rfl) (by kernel_rfl) (fun _ _ _ h => h) (Or.inl ⟨by rfl, ?_⟩) (by assumption) ?_
  rotate_left
  · intro w hSw
    go_simp
    try with_reducible rfl
  try simp only [Act.put, List.setIfInBounds_toArray, List.set_cons_zero, List.set_cons_succ]
  refine wpAnyH_done (by kernel_rfl) ?_ _
  exact QN.normal (hH.out _ _ _ _ _ _ _ _ _ _ _ _ _ _ _ _ _ _ _ _ B6.out)
end Go.Proofs.YtffabehipcomfaaDoor
