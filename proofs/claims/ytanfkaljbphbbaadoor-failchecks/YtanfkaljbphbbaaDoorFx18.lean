/- Failures: Deep, both sides, whatever the failure; the law FailChecks. -/
import Derived.Test.YtanfkaljbphbbaaDoorFx17
namespace Go.Proofs.YtanfkaljbphbbaaDoor
open Go.RowKit

def deepA (l : List Cr) : Int := if chk l = 0 then deepV l else 0
set_option maxRecDepth 100000 in
theorem deep_any (v : Value) (l : List Cr) (w : World) (h : CS w v l) (ht : ∀ c ∈ l, c.text.size ≤ maxLen) (hv : FV w) (hlm : l.length ≤ 1000000000000000) :
    Calls Tryd.prog 10 #[v] w fun e w' => e = .returned (.tuple #[.int .i64 (deepA l), .int .i64 (chk l)]) ∧ Below w.heap.size w w' := by
  by_cases hc : chk l = 0
  · unfold deepA; rw [if_pos hc, hc]; exact deep_ok v l w h ht hv hc
  · have CK := check_any v l w h ht hv hlm
    unfold deepA; rw [if_neg hc]
    generalize chk l = c at *
    have h1 : (c == 0) = false := by simpa using hc
    have h2 : (c != 0) = true := by simpa using hc
    clear h ht hv
    go_enter Tryd.func10, Tryd.ntmps10
    go_wp2_with (go_at_call 14; refine CK.mono ?_; rintro e w1 ⟨rfl, hb1⟩)
    go_ret2
    exact ⟨rfl, hb1⟩
set_option maxRecDepth 100000 in
theorem rdeep_any (v : Value) (l : List Cr) (w : World) (h : CS w v l) (ht : ∀ c ∈ l, c.text.size ≤ maxLen) (hlm : l.length ≤ 1000000000000000) :
    Calls Tryd.prog 11 #[v] w fun e w' => e = .returned (.tuple #[.int .i64 (deepA l), .int .i64 (chk l)]) ∧ Below w.heap.size w w' := by
  by_cases hc : chk l = 0
  · unfold deepA; rw [if_pos hc, hc]; exact rdeep_ok v l w h ht hc
  · have CK := rcheck_any v l w h ht hlm
    unfold deepA; rw [if_neg hc]
    generalize chk l = c at *
    have h1 : (c == 0) = false := by simpa using hc
    have h2 : (c != 0) = true := by simpa using hc
    clear h ht
    go_enter Tryd.func11, Tryd.ntmps11
    go_wp2_with (go_at_call 15; refine CK.mono ?_; rintro e w1 ⟨rfl, hb1⟩)
    go_ret2
    exact ⟨rfl, hb1⟩
end Go.Proofs.YtanfkaljbphbbaaDoor
