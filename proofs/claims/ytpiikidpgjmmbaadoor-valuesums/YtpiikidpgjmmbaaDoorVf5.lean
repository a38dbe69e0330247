/- Values: which operation; what Do answers. -/
import Derived.Test.YtpiikidpgjmmbaaDoorVf4
namespace Go.Proofs.YtpiikidpgjmmbaaDoor
open Go.RowKit

/-- A value of new memory, whether there is one, and an error. -/
def AnsD (w w' : World) (e : Ending) (r : Option Vt) (err : Int) : Prop := ∃ p c, e = .returned (.tuple #[.slice p (outL r).length c, .bool r.isSome, .int .i64 err]) ∧ OwnG KA w' w.heap.size (.slice p (outL r).length c) (outL r) ∧ Below w.heap.size w w'
theorem AnsD.no {w w' : World} (b : Below w.heap.size w w') (err : Int) : AnsD w w' (.returned (.tuple #[.slice none 0 0, .bool false, .int .i64 err])) none err := ⟨.none, 0, rfl, OwnG.nil _ _ _, b⟩
theorem doO_bad {kind : Int} {A : List (List Atm)} (h : doE kind A ≠ 0) : doO kind A = none := by unfold doO; rw [if_neg h]
theorem doO_ok {kind : Int} {ts : List Vt} (hr : ∀ t ∈ ts, RT t) (h : doE kind (ts.map flV) = 0) : doO kind (ts.map flV) = doT kind ts := by unfold doO; rw [if_pos h, treeA_map hr]
theorem eqFn (n : Nat) (w : World) : Sem.run Tryd.prog (binOp .eql 50 (.func (.func n) #[] #[]) .nilFunc) w = .ok (.bool false) w := by kernel_rfl
theorem eqFnNil (w : World) : Sem.run Tryd.prog (binOp .eql 50 .nilFunc .nilFunc) w = .ok (.bool true) w := by kernel_rfl
theorem operation_list (w : World) : Calls Tryd.prog 26 #[.int .i64 5] w fun e w' => e = .returned (.tuple #[.int .i64 (-1), .func (.func 39) #[] #[]]) ∧ w' = w := by
  go_enter Tryd.func26, Tryd.ntmps26
  go_wp2_with fail
  exact bodyPost_ret (v := .tuple #[.int .i64 (-1), .func (.func 39) #[] #[]]) (by simp [results, Tryd.results26, go_sem]) rfl ⟨rfl, rfl⟩
theorem operation_add (w : World) : Calls Tryd.prog 26 #[.int .i64 6] w fun e w' => e = .returned (.tuple #[.int .i64 (2), .func (.func 40) #[] #[]]) ∧ w' = w := by
  go_enter Tryd.func26, Tryd.ntmps26
  go_wp2_with fail
  exact bodyPost_ret (v := .tuple #[.int .i64 (2), .func (.func 40) #[] #[]]) (by simp [results, Tryd.results26, go_sem]) rfl ⟨rfl, rfl⟩
theorem operation_sub (w : World) : Calls Tryd.prog 26 #[.int .i64 7] w fun e w' => e = .returned (.tuple #[.int .i64 (2), .func (.func 41) #[] #[]]) ∧ w' = w := by
  go_enter Tryd.func26, Tryd.ntmps26
  go_wp2_with fail
  exact bodyPost_ret (v := .tuple #[.int .i64 (2), .func (.func 41) #[] #[]]) (by simp [results, Tryd.results26, go_sem]) rfl ⟨rfl, rfl⟩
theorem operation_mul (w : World) : Calls Tryd.prog 26 #[.int .i64 8] w fun e w' => e = .returned (.tuple #[.int .i64 (2), .func (.func 42) #[] #[]]) ∧ w' = w := by
  go_enter Tryd.func26, Tryd.ntmps26
  go_wp2_with fail
  exact bodyPost_ret (v := .tuple #[.int .i64 (2), .func (.func 42) #[] #[]]) (by simp [results, Tryd.results26, go_sem]) rfl ⟨rfl, rfl⟩
theorem operation_join (w : World) : Calls Tryd.prog 26 #[.int .i64 9] w fun e w' => e = .returned (.tuple #[.int .i64 (2), .func (.func 43) #[] #[]]) ∧ w' = w := by
  go_enter Tryd.func26, Tryd.ntmps26
  go_wp2_with fail
  exact bodyPost_ret (v := .tuple #[.int .i64 (2), .func (.func 43) #[] #[]]) (by simp [results, Tryd.results26, go_sem]) rfl ⟨rfl, rfl⟩
theorem operation_item (w : World) : Calls Tryd.prog 26 #[.int .i64 10] w fun e w' => e = .returned (.tuple #[.int .i64 (2), .func (.func 44) #[] #[]]) ∧ w' = w := by
  go_enter Tryd.func26, Tryd.ntmps26
  go_wp2_with fail
  exact bodyPost_ret (v := .tuple #[.int .i64 (2), .func (.func 44) #[] #[]]) (by simp [results, Tryd.results26, go_sem]) rfl ⟨rfl, rfl⟩
theorem operation_size (w : World) : Calls Tryd.prog 26 #[.int .i64 11] w fun e w' => e = .returned (.tuple #[.int .i64 (1), .func (.func 45) #[] #[]]) ∧ w' = w := by
  go_enter Tryd.func26, Tryd.ntmps26
  go_wp2_with fail
  exact bodyPost_ret (v := .tuple #[.int .i64 (1), .func (.func 45) #[] #[]]) (by simp [results, Tryd.results26, go_sem]) rfl ⟨rfl, rfl⟩
theorem operation_less (w : World) : Calls Tryd.prog 26 #[.int .i64 12] w fun e w' => e = .returned (.tuple #[.int .i64 (2), .func (.func 46) #[] #[]]) ∧ w' = w := by
  go_enter Tryd.func26, Tryd.ntmps26
  go_wp2_with fail
  exact bodyPost_ret (v := .tuple #[.int .i64 (2), .func (.func 46) #[] #[]]) (by simp [results, Tryd.results26, go_sem]) rfl ⟨rfl, rfl⟩
theorem operation_same (w : World) : Calls Tryd.prog 26 #[.int .i64 13] w fun e w' => e = .returned (.tuple #[.int .i64 (2), .func (.func 47) #[] #[]]) ∧ w' = w := by
  go_enter Tryd.func26, Tryd.ntmps26
  go_wp2_with fail
  exact bodyPost_ret (v := .tuple #[.int .i64 (2), .func (.func 47) #[] #[]]) (by simp [results, Tryd.results26, go_sem]) rfl ⟨rfl, rfl⟩
theorem operation_none (k : Int) (w : World) (h : k < 5 ∨ 13 < k) : Calls Tryd.prog 26 #[.int .i64 k] w fun e w' => e = .returned (.tuple #[.int .i64 0, .nilFunc]) ∧ w' = w := by
  have h5 : (k == 5) = false := by simp; omega
  have h6 : (k == 6) = false := by simp; omega
  have h7 : (k == 7) = false := by simp; omega
  have h8 : (k == 8) = false := by simp; omega
  have h9 : (k == 9) = false := by simp; omega
  have h10 : (k == 10) = false := by simp; omega
  have h11 : (k == 11) = false := by simp; omega
  have h12 : (k == 12) = false := by simp; omega
  have h13 : (k == 13) = false := by simp; omega
  go_enter Tryd.func26, Tryd.ntmps26
  go_wp2_with fail
  exact bodyPost_ret (v := .tuple #[.int .i64 0, .nilFunc]) (by simp [results, Tryd.results26, go_sem]) rfl ⟨rfl, rfl⟩
end Go.Proofs.YtpiikidpgjmmbaaDoor
