/- Graph: a region of heaviest that draws its order, in a round. -/
import Derived.Test.YtghkhceplpjegaaYk4
namespace Go.Proofs.Ytghkhceplpjegaa
open Go.RowKit
attribute [local go_sem] Oper.semAt_some

set_option maxRecDepth 100000 in
set_option maxHeartbeats 8000000 in
theorem hv9 {n l : Nat} {Q : Exit → Act → World → Prop} {N b6 b7 X6 X7 c6 c7 x y : Nat} {fy u : Int} {W : World} {t0 t1 t2 t3 t4 t5 t8 t10 t11 t13 t14 t15 t16 t17 t18 t19 t20 t21 t22 t23 t24 t25 t26 t27 t28 t29 t30 t31 t32 t33 t34 t35 t36 t37 t38 t39 t40 t41 t42 t43 t44 t45 t46 t47 t48 t49 t50 t51 t52 t53 t54 t55 : Value} (hQ : ∀ c (d : Option Tmp) v a w, Q (.panic c) (a.put d v) w → Q (.panic c) a w) (hx : x < N) (hy : y < N) (e6 : W.drew.cell? ⟨b6, 0, none⟩ = some (.slice (some ⟨X6, 0, none⟩) N c6)) (e7 : W.drew.cell? ⟨b7, 0, none⟩ = some (.slice (some ⟨X7, 0, none⟩) N c7)) (cy : W.drew.cell? ⟨X6, y, none⟩ = some (.int .i64 fy)) (cx : W.drew.cell? ⟨X7, x, none⟩ = some (.int .i64 u)) (fz : W.drew.frozen? ⟨X7, x, none⟩ = false)
    (h : Q .normal { tmps := #[t0, t1, t2, t3, t4, t5, .pointer (some ⟨b6, 0, none⟩), .pointer (some ⟨b7, 0, none⟩), t8, .int .i64 (x : Nat), .int .i64 fy, t11, .int .i64 (y : Nat), t13, t14, t15, t16, t17, t18, t19, t20, t21, t22, t23, t24, t25, t26, t27, t28, t29, t30, t31, t32, t33, t34, t35, t36, t37, .slice (some ⟨X7, 0, none⟩) N c7, .int .i64 (x : Nat), .slice (some ⟨X6, 0, none⟩) N c6, .int .i64 (y : Nat), .pointer (some ⟨X6, y, none⟩), .int .i64 fy, .int .i64 (y : Nat), .pointer (some ⟨X7, x, none⟩), t46, t47, t48, t49, t50, t51, t52, t53, t54, t55], defers := [] } (W.drew.setCell ⟨X7, x, none⟩ (.int .i64 y))) :
    (Code.region 9 #[{ dst := some 38, op := Op.load 25 (Operand.tmp 7), type := 25, pos := "way.go:38", after := #[{ on := 7, ground := Ground.gcOnly Departure.lateStores }], guard := none }, { dst := some 39, op := Op.move (Operand.tmp 9), type := 3, pos := "way.go:38", after := #[{ on := 7, ground := Ground.gcOnly Departure.lateStores }], guard := none }, { dst := some 40, op := Op.load 25 (Operand.tmp 6), type := 25, pos := "way.go:38", after := #[], guard := none }, { dst := some 41, op := Op.move (Operand.tmp 12), type := 3, pos := "way.go:38", after := #[], guard := none }, { dst := some 42, op := Op.indexAddr 25 (Operand.tmp 40) (Operand.tmp 41), type := 0, pos := "way.go:38", after := #[{ on := 2, ground := Ground.data }, { on := 3, ground := Ground.data }], guard := none }, { dst := some 43, op := Op.load 3 (Operand.tmp 42), type := 3, pos := "way.go:38", after := #[{ on := 4, ground := Ground.data }], guard := none }, { dst := some 44, op := Op.move (Operand.tmp 12), type := 3, pos := "way.go:38", after := #[{ on := 7, ground := Ground.gcOnly Departure.lateStores }], guard := none }, { dst := some 10, op := Op.assign (Operand.tmp 43), type := 3, pos := "way.go:38", after := #[{ on := 5, ground := Ground.data }, { on := 0, ground := Ground.textOnly Departure.lateStores }, { on := 1, ground := Ground.textOnly Departure.lateStores }, { on := 2, ground := Ground.phase }, { on := 3, ground := Ground.phase }, { on := 4, ground := Ground.phase }, { on := 5, ground := Ground.phase }, { on := 6, ground := Ground.textOnly Departure.lateStores }], guard := none }, { dst := some 45, op := Op.indexAddr 25 (Operand.tmp 38) (Operand.tmp 39), type := 0, pos := "way.go:38", after := #[{ on := 0, ground := Ground.data }, { on := 1, ground := Ground.data }, { on := 0, ground := Ground.phase }, { on := 1, ground := Ground.phase }, { on := 2, ground := Ground.phase }, { on := 3, ground := Ground.phase }, { on := 4, ground := Ground.phase }, { on := 5, ground := Ground.phase }, { on := 6, ground := Ground.phase }, { on := 7, ground := Ground.phase }], guard := none }, { dst := none, op := Op.store 3 (Operand.tmp 45) (Operand.tmp 44), type := 0, pos := "way.go:38", after := #[{ on := 8, ground := Ground.data }, { on := 6, ground := Ground.data }, { on := 7, ground := Ground.chain }, { on := 0, ground := Ground.phase }, { on := 1, ground := Ground.phase }, { on := 2, ground := Ground.phase }, { on := 3, ground := Ground.phase }, { on := 4, ground := Ground.phase }, { on := 5, ground := Ground.phase }, { on := 6, ground := Ground.phase }, { on := 7, ground := Ground.phase }], guard := none }] true).wpIn (Fence.wide.inRound l) n Try.prog Q { tmps := #[t0, t1, t2, t3, t4, t5, .pointer (some ⟨b6, 0, none⟩), .pointer (some ⟨b7, 0, none⟩), t8, .int .i64 (x : Nat), t10, t11, .int .i64 (y : Nat), t13, t14, t15, t16, t17, t18, t19, t20, t21, t22, t23, t24, t25, t26, t27, t28, t29, t30, t31, t32, t33, t34, t35, t36, t37, t38, t39, t40, t41, t42, t43, t44, t45, t46, t47, t48, t49, t50, t51, t52, t53, t54, t55], defers := [] } W := by
  have hxi : (x : Int) < (N : Nat) := by omega
  have hyi : (y : Int) < (N : Nat) := by omega
  refine wpIn_region_any_round (F := Fence.wide) rfl (by kernel_rfl) (by kernel_rfl) ?_
  show wpAnyIn Fence.wide n Try.prog .any _ Q 10 #[false, false, false, false, false, false, false, false, false, false] _ _
  refine wpAnyIn_take (i := 1) (oi := { dst := some 39, op := Op.move (Operand.tmp 9), type := 3, pos := "way.go:38", after := #[{ on := 7, ground := Ground.gcOnly Departure.lateStores }], guard := none }) (v := .int .i64 x) rfl rfl (by kernel_rfl) (by kernel_rfl) (by kernel_rfl) (fun c a w h => hQ c _ _ a w h) ⟨Or.inl ⟨by rfl, fun _ => rfl⟩, fun _ => rfl⟩ ?_
  try simp only [Act.put, List.setIfInBounds_toArray, List.set_cons_zero, List.set_cons_succ]
  refine wpAnyIn_take (i := 3) (oi := { dst := some 41, op := Op.move (Operand.tmp 12), type := 3, pos := "way.go:38", after := #[], guard := none }) (v := .int .i64 y) rfl rfl (by kernel_rfl) (by kernel_rfl) (by kernel_rfl) (fun c a w h => hQ c _ _ a w h) ⟨Or.inl ⟨by rfl, fun _ => rfl⟩, fun _ => rfl⟩ ?_
  try simp only [Act.put, List.setIfInBounds_toArray, List.set_cons_zero, List.set_cons_succ]
  refine wpAnyIn_take (i := 6) (oi := { dst := some 44, op := Op.move (Operand.tmp 12), type := 3, pos := "way.go:38", after := #[{ on := 7, ground := Ground.gcOnly Departure.lateStores }], guard := none }) (v := .int .i64 y) rfl rfl (by kernel_rfl) (by kernel_rfl) (by kernel_rfl) (fun c a w h => hQ c _ _ a w h) ⟨Or.inl ⟨by rfl, fun _ => rfl⟩, fun _ => rfl⟩ ?_
  try simp only [Act.put, List.setIfInBounds_toArray, List.set_cons_zero, List.set_cons_succ]
  refine wpAnyIn_ready (rs := [0, 2]) (by kernel_rfl) (by simp) ?_
  refine (BigFrame.allReadyIn_want (o := { dst := some 38, op := Op.load 25 (Operand.tmp 7), type := 25, pos := "way.go:38", after := #[{ on := 7, ground := Ground.gcOnly Departure.lateStores }], guard := none }) rfl (by rfl) (fun K hK => ?_) (BigFrame.allReadyIn_want (o := { dst := some 40, op := Op.load 25 (Operand.tmp 6), type := 25, pos := "way.go:38", after := #[], guard := none }) rfl (by rfl) (fun K hK => ?_) AllReadyIn.nil))
  · first | gi_big_move | gi_big_op
    refine hK _ _ ?_
    simp only [List.setIfInBounds_toArray, List.set_cons_zero]
    refine wpAnyIn_ready (rs := [2]) (by kernel_rfl) (by simp) ?_
    refine (BigFrame.allReadyIn_want (o := { dst := some 40, op := Op.load 25 (Operand.tmp 6), type := 25, pos := "way.go:38", after := #[], guard := none }) rfl (by rfl) (fun K hK => ?_) AllReadyIn.nil)
    · first | gi_big_move | gi_big_op
      refine hK _ _ ?_
      simp only [List.setIfInBounds_toArray, List.set_cons_zero, List.set_cons_succ]
      refine wpAnyIn_take (i := 4) (oi := { dst := some 42, op := Op.indexAddr 25 (Operand.tmp 40) (Operand.tmp 41), type := 0, pos := "way.go:38", after := #[{ on := 2, ground := Ground.data }, { on := 3, ground := Ground.data }], guard := none }) (v := .pointer (some ⟨X6, y, none⟩)) rfl rfl (by kernel_rfl) (by kernel_rfl) (by kernel_rfl) (fun c a w h => hQ c _ _ a w h) ⟨Or.inl ⟨by rfl, fun w => by go_simp⟩, fun _ => rfl⟩ ?_
      try simp only [Act.put, List.setIfInBounds_toArray, List.set_cons_zero, List.set_cons_succ]
      refine wpAnyIn_ready (rs := [5]) (by kernel_rfl) (by simp) ?_
      refine (BigFrame.allReadyIn_want (o := { dst := some 43, op := Op.load 3 (Operand.tmp 42), type := 3, pos := "way.go:38", after := #[{ on := 4, ground := Ground.data }], guard := none }) rfl (by rfl) (fun K hK => ?_) AllReadyIn.nil)
      · first | gi_big_move | gi_big_op
        refine hK _ _ ?_
        simp only [List.setIfInBounds_toArray, List.set_cons_zero, List.set_cons_succ]
        refine wpAnyIn_take (i := 7) (oi := { dst := some 10, op := Op.assign (Operand.tmp 43), type := 3, pos := "way.go:38", after := #[{ on := 5, ground := Ground.data }, { on := 0, ground := Ground.textOnly Departure.lateStores }, { on := 1, ground := Ground.textOnly Departure.lateStores }, { on := 2, ground := Ground.phase }, { on := 3, ground := Ground.phase }, { on := 4, ground := Ground.phase }, { on := 5, ground := Ground.phase }, { on := 6, ground := Ground.textOnly Departure.lateStores }], guard := none }) (v := .int .i64 fy) rfl rfl (by kernel_rfl) (by kernel_rfl) (by kernel_rfl) (fun c a w h => hQ c _ _ a w h) ⟨Or.inl ⟨by rfl, fun _ => rfl⟩, fun _ => rfl⟩ ?_
        try simp only [Act.put, List.setIfInBounds_toArray, List.set_cons_zero, List.set_cons_succ]
        refine wpAnyIn_take (i := 8) (oi := { dst := some 45, op := Op.indexAddr 25 (Operand.tmp 38) (Operand.tmp 39), type := 0, pos := "way.go:38", after := #[{ on := 0, ground := Ground.data }, { on := 1, ground := Ground.data }, { on := 0, ground := Ground.phase }, { on := 1, ground := Ground.phase }, { on := 2, ground := Ground.phase }, { on := 3, ground := Ground.phase }, { on := 4, ground := Ground.phase }, { on := 5, ground := Ground.phase }, { on := 6, ground := Ground.phase }, { on := 7, ground := Ground.phase }], guard := none }) (v := .pointer (some ⟨X7, x, none⟩)) rfl rfl (by kernel_rfl) (by kernel_rfl) (by kernel_rfl) (fun c a w h => hQ c _ _ a w h) ⟨Or.inl ⟨by rfl, fun w => by go_simp⟩, fun _ => rfl⟩ ?_
        try simp only [Act.put, List.setIfInBounds_toArray, List.set_cons_zero, List.set_cons_succ]
        refine wpAnyIn_ready (rs := [9]) (by kernel_rfl) (by simp) ?_
        refine (BigFrame.allReadyIn_want (o := { dst := none, op := Op.store 3 (Operand.tmp 45) (Operand.tmp 44), type := 0, pos := "way.go:38", after := #[{ on := 8, ground := Ground.data }, { on := 6, ground := Ground.data }, { on := 7, ground := Ground.chain }, { on := 0, ground := Ground.phase }, { on := 1, ground := Ground.phase }, { on := 2, ground := Ground.phase }, { on := 3, ground := Ground.phase }, { on := 4, ground := Ground.phase }, { on := 5, ground := Ground.phase }, { on := 6, ground := Ground.phase }, { on := 7, ground := Ground.phase }], guard := none }) rfl (by rfl) (fun K hK => ?_) AllReadyIn.nil)
        · first | gi_big_move | gi_big_op
          refine hK _ _ ?_
          simp only [List.setIfInBounds_toArray, List.set_cons_zero, List.set_cons_succ]
          exact wpAnyIn_done (by kernel_rfl) h _
  · first | gi_big_move | gi_big_op
    refine hK _ _ ?_
    simp only [List.setIfInBounds_toArray, List.set_cons_zero, List.set_cons_succ]
    refine wpAnyIn_take (i := 4) (oi := { dst := some 42, op := Op.indexAddr 25 (Operand.tmp 40) (Operand.tmp 41), type := 0, pos := "way.go:38", after := #[{ on := 2, ground := Ground.data }, { on := 3, ground := Ground.data }], guard := none }) (v := .pointer (some ⟨X6, y, none⟩)) rfl rfl (by kernel_rfl) (by kernel_rfl) (by kernel_rfl) (fun c a w h => hQ c _ _ a w h) ⟨Or.inl ⟨by rfl, fun w => by go_simp⟩, fun _ => rfl⟩ ?_
    try simp only [Act.put, List.setIfInBounds_toArray, List.set_cons_zero, List.set_cons_succ]
    refine wpAnyIn_ready (rs := [0, 5]) (by kernel_rfl) (by simp) ?_
    refine (BigFrame.allReadyIn_want (o := { dst := some 38, op := Op.load 25 (Operand.tmp 7), type := 25, pos := "way.go:38", after := #[{ on := 7, ground := Ground.gcOnly Departure.lateStores }], guard := none }) rfl (by rfl) (fun K hK => ?_) (BigFrame.allReadyIn_want (o := { dst := some 43, op := Op.load 3 (Operand.tmp 42), type := 3, pos := "way.go:38", after := #[{ on := 4, ground := Ground.data }], guard := none }) rfl (by rfl) (fun K hK => ?_) AllReadyIn.nil))
    · first | gi_big_move | gi_big_op
      refine hK _ _ ?_
      simp only [List.setIfInBounds_toArray, List.set_cons_zero]
      refine wpAnyIn_ready (rs := [5]) (by kernel_rfl) (by simp) ?_
      refine (BigFrame.allReadyIn_want (o := { dst := some 43, op := Op.load 3 (Operand.tmp 42), type := 3, pos := "way.go:38", after := #[{ on := 4, ground := Ground.data }], guard := none }) rfl (by rfl) (fun K hK => ?_) AllReadyIn.nil)
      · first | gi_big_move | gi_big_op
        refine hK _ _ ?_
        simp only [List.setIfInBounds_toArray, List.set_cons_zero, List.set_cons_succ]
        refine wpAnyIn_take (i := 7) (oi := { dst := some 10, op := Op.assign (Operand.tmp 43), type := 3, pos := "way.go:38", after := #[{ on := 5, ground := Ground.data }, { on := 0, ground := Ground.textOnly Departure.lateStores }, { on := 1, ground := Ground.textOnly Departure.lateStores }, { on := 2, ground := Ground.phase }, { on := 3, ground := Ground.phase }, { on := 4, ground := Ground.phase }, { on := 5, ground := Ground.phase }, { on := 6, ground := Ground.textOnly Departure.lateStores }], guard := none }) (v := .int .i64 fy) rfl rfl (by kernel_rfl) (by kernel_rfl) (by kernel_rfl) (fun c a w h => hQ c _ _ a w h) ⟨Or.inl ⟨by rfl, fun _ => rfl⟩, fun _ => rfl⟩ ?_
        try simp only [Act.put, List.setIfInBounds_toArray, List.set_cons_zero, List.set_cons_succ]
        refine wpAnyIn_take (i := 8) (oi := { dst := some 45, op := Op.indexAddr 25 (Operand.tmp 38) (Operand.tmp 39), type := 0, pos := "way.go:38", after := #[{ on := 0, ground := Ground.data }, { on := 1, ground := Ground.data }, { on := 0, ground := Ground.phase }, { on := 1, ground := Ground.phase }, { on := 2, ground := Ground.phase }, { on := 3, ground := Ground.phase }, { on := 4, ground := Ground.phase }, { on := 5, ground := Ground.phase }, { on := 6, ground := Ground.phase }, { on := 7, ground := Ground.phase }], guard := none }) (v := .pointer (some ⟨X7, x, none⟩)) rfl rfl (by kernel_rfl) (by kernel_rfl) (by kernel_rfl) (fun c a w h => hQ c _ _ a w h) ⟨Or.inl ⟨by rfl, fun w => by go_simp⟩, fun _ => rfl⟩ ?_
        try simp only [Act.put, List.setIfInBounds_toArray, List.set_cons_zero, List.set_cons_succ]
        refine wpAnyIn_ready (rs := [9]) (by kernel_rfl) (by simp) ?_
        refine (BigFrame.allReadyIn_want (o := { dst := none, op := Op.store 3 (Operand.tmp 45) (Operand.tmp 44), type := 0, pos := "way.go:38", after := #[{ on := 8, ground := Ground.data }, { on := 6, ground := Ground.data }, { on := 7, ground := Ground.chain }, { on := 0, ground := Ground.phase }, { on := 1, ground := Ground.phase }, { on := 2, ground := Ground.phase }, { on := 3, ground := Ground.phase }, { on := 4, ground := Ground.phase }, { on := 5, ground := Ground.phase }, { on := 6, ground := Ground.phase }, { on := 7, ground := Ground.phase }], guard := none }) rfl (by rfl) (fun K hK => ?_) AllReadyIn.nil)
        · first | gi_big_move | gi_big_op
          refine hK _ _ ?_
          simp only [List.setIfInBounds_toArray, List.set_cons_zero, List.set_cons_succ]
          exact wpAnyIn_done (by kernel_rfl) h _
    · first | gi_big_move | gi_big_op
      refine hK _ _ ?_
      simp only [List.setIfInBounds_toArray, List.set_cons_zero, List.set_cons_succ]
      refine wpAnyIn_take (i := 7) (oi := { dst := some 10, op := Op.assign (Operand.tmp 43), type := 3, pos := "way.go:38", after := #[{ on := 5, ground := Ground.data }, { on := 0, ground := Ground.textOnly Departure.lateStores }, { on := 1, ground := Ground.textOnly Departure.lateStores }, { on := 2, ground := Ground.phase }, { on := 3, ground := Ground.phase }, { on := 4, ground := Ground.phase }, { on := 5, ground := Ground.phase }, { on := 6, ground := Ground.textOnly Departure.lateStores }], guard := none }) (v := .int .i64 fy) rfl rfl (by kernel_rfl) (by kernel_rfl) (by kernel_rfl) (fun c a w h => hQ c _ _ a w h) ⟨Or.inl ⟨by rfl, fun _ => rfl⟩, fun _ => rfl⟩ ?_
      try simp only [Act.put, List.setIfInBounds_toArray, List.set_cons_zero, List.set_cons_succ]
      refine wpAnyIn_ready (rs := [0]) (by kernel_rfl) (by simp) ?_
      refine (BigFrame.allReadyIn_want (o := { dst := some 38, op := Op.load 25 (Operand.tmp 7), type := 25, pos := "way.go:38", after := #[{ on := 7, ground := Ground.gcOnly Departure.lateStores }], guard := none }) rfl (by rfl) (fun K hK => ?_) AllReadyIn.nil)
      · first | gi_big_move | gi_big_op
        refine hK _ _ ?_
        simp only [List.setIfInBounds_toArray, List.set_cons_zero]
        refine wpAnyIn_take (i := 8) (oi := { dst := some 45, op := Op.indexAddr 25 (Operand.tmp 38) (Operand.tmp 39), type := 0, pos := "way.go:38", after := #[{ on := 0, ground := Ground.data }, { on := 1, ground := Ground.data }, { on := 0, ground := Ground.phase }, { on := 1, ground := Ground.phase }, { on := 2, ground := Ground.phase }, { on := 3, ground := Ground.phase }, { on := 4, ground := Ground.phase }, { on := 5, ground := Ground.phase }, { on := 6, ground := Ground.phase }, { on := 7, ground := Ground.phase }], guard := none }) (v := .pointer (some ⟨X7, x, none⟩)) rfl rfl (by kernel_rfl) (by kernel_rfl) (by kernel_rfl) (fun c a w h => hQ c _ _ a w h) ⟨Or.inl ⟨by rfl, fun w => by go_simp⟩, fun _ => rfl⟩ ?_
        try simp only [Act.put, List.setIfInBounds_toArray, List.set_cons_zero, List.set_cons_succ]
        refine wpAnyIn_ready (rs := [9]) (by kernel_rfl) (by simp) ?_
        refine (BigFrame.allReadyIn_want (o := { dst := none, op := Op.store 3 (Operand.tmp 45) (Operand.tmp 44), type := 0, pos := "way.go:38", after := #[{ on := 8, ground := Ground.data }, { on := 6, ground := Ground.data }, { on := 7, ground := Ground.chain }, { on := 0, ground := Ground.phase }, { on := 1, ground := Ground.phase }, { on := 2, ground := Ground.phase }, { on := 3, ground := Ground.phase }, { on := 4, ground := Ground.phase }, { on := 5, ground := Ground.phase }, { on := 6, ground := Ground.phase }, { on := 7, ground := Ground.phase }], guard := none }) rfl (by rfl) (fun K hK => ?_) AllReadyIn.nil)
        · first | gi_big_move | gi_big_op
          refine hK _ _ ?_
          simp only [List.setIfInBounds_toArray, List.set_cons_zero, List.set_cons_succ]
          exact wpAnyIn_done (by kernel_rfl) h _
end Go.Proofs.Ytghkhceplpjegaa
