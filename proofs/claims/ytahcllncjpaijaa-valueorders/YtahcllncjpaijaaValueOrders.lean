/- For all two values and every list of values the law ValueOrders (promise 7.2: any two held against each other; any sorted) returns true and leaves its arguments as they were; no condition is asked. -/
import Derived.Test.YtahcllncjpaijaaRows
import Derived.Test.YtahcllncjpaijaaVm6
import Derived.Test.YtahcllncjpaijaaOv1
import Derived.ProofKit
import Derived.OpenShut
import Derived.JoinedOf
import Derived.Handed
import Derived.SizedLaws
namespace Go.Proofs.Ytahcllncjpaijaa
open Go.ChangeShapes Go.WideShapes Go.ChangeAt Go.RowKit

theorem own : ownKnob Try.prog.godebug = none := by kernel_rfl
theorem laidOut : laidOutB Try.prog = true := by kernel_rfl
set_option maxRecDepth 100000 in
theorem valueOrders_lifted (os : Os) (started : os.Started) (H : Type) (enc : TypeId × Value → H) :
    ReturnsInHanded {} Try.checked os 4 .any (Rows.valueOrdersSpec.pre6 enc Try.prog Try.f4 [] false)
      (Rows.valueOrdersSpec.post enc Try.prog Try.f4 false true false false) := by
  refine returnsInHanded_of_change_sized (C := Try.checked) own started (by kernel_rfl) Try.func4
    (ChangeSpec.witness6 (enc := enc) (C := Try.checked) false ⟨#[], #[.slice none 0 0, .slice none 0 0, .slice none 0 0], []⟩ 8 (by kernel_rfl) (by kernel_rfl) (by kernel_rfl) (by kernel_rfl)) ?_
  intro W base args ds gs before hval0 hW _ hwt _
  have hval : ∀ (j : Nat) t v, Try.f4.params[j]? = some t → args[j]? = some v → Value.okWide Try.prog W .any base t v := hval0
  have hW' := hW
  obtain ⟨p, q, hA0, hV, rfl, hfz, hnd⟩ := hW
  have hA : DataW.TrodAll enc Try.prog W 0 (fun _ => true) true Try.f4.params.toList args.toList ds p := hA0
  rw [Try.params4] at hA hval
  obtain ⟨v0, v1, v2, d0, d1, d2, p0, p1, p2, rfl, rfl, rfl, h0, h1, h2⟩ := trodAll_three hA
  obtain ⟨rfl, rfl⟩ := trodVars_none hV
  obtain ⟨l0, a0, t0, e0⟩ := open_val (hval 0 24 v0 rfl rfl) h0
  obtain ⟨l1, a1, t1, e1⟩ := open_val (hval 1 24 v1 rfl rfl) h1
  have e40 : Try.checked.prog.bytesOf 45 = 40 := bytesAt
  have n0 : l0.length * 40 ≤ 140737488355328 := by
    rcases e0 with rfl | ⟨es, spare, rfl, hes⟩
    · simp
    · have hp : (Try.f4.params.toList ++ DataSpec.varTypes Try.checked.prog Rows.valueOrdersSpec.plain)[0]? = some 24 := by rw [Try.params4]; rfl
      have := sized_slice (j := 0) hwt hp rfl Try.underlying24
      rw [e40, hes] at this
      unfold reachBytes at this
      omega
  have n1 : l1.length * 40 ≤ 140737488355328 := by
    rcases e1 with rfl | ⟨es, spare, rfl, hes⟩
    · simp
    · have hp : (Try.f4.params.toList ++ DataSpec.varTypes Try.checked.prog Rows.valueOrdersSpec.plain)[1]? = some 24 := by rw [Try.params4]; rfl
      have := sized_slice (j := 1) hwt hp rfl Try.underlying24
      rw [e40, hes] at this
      unfold reachBytes at this
      omega
  obtain ⟨L, hl, htx, hd⟩ := open_vals (hval 2 22 v2 rfl rfl) h2
  have hsz : L.length * 24 ≤ 140737488355328 ∧ ∀ x ∈ L, x.a.length * 40 ≤ 140737488355328 := by
    rcases hd with rfl | ⟨es, spare, rfl, hes, hin⟩
    · exact ⟨by simp, fun x hx => by cases hx⟩
    · have hp : (Try.f4.params.toList ++ DataSpec.varTypes Try.checked.prog Rows.valueOrdersSpec.plain)[2]? = some 22 := by rw [Try.params4]; rfl
      refine ⟨?_, fun x hx => ?_⟩
      · have := sized_slice (j := 2) hwt hp rfl Try.underlying22
        have e : Try.checked.prog.bytesOf 24 = 24 := bytesVl
        rw [e, hes] at this
        unfold reachBytes at this
        omega
      · rcases hin x hx with e | ⟨ee, hee, es', sp', rfl, hel⟩
        · rw [e]; simp
        · have := sized_in (j := 2) hwt hp rfl Try.underlying22 Try.underlying24 hee
          have e : Try.checked.prog.bytesOf 45 = 40 := bytesAt
          rw [e, hel] at this
          unfold reachBytes at this
          omega
  clear hA0 hval0
  simp only [List.append_nil] at hW'
  have hlt0 : ∀ x ∈ p0, x.block < W.heap.size := fun x hx => by simpa using hW'.lt x (by simp [hx])
  have hlt1 : ∀ x ∈ p1, x.block < W.heap.size := fun x hx => by simpa using hW'.lt x (by simp [hx])
  have hlt2 : ∀ x ∈ p2, x.block < W.heap.size := fun x hx => by simpa using hW'.lt x (by simp [hx])
  refine (valueOrders_any v0 v1 v2 l0 l1 L W a0 a1 t0 t1 n0 n1 hl ⟨hsz.1, hsz.2, htx⟩).mono fun e W' ⟨he, hb⟩ => ?_
  subst he
  refine ⟨_, rfl, ?_⟩
  exact ⟨_, _, _, [], _, [], hW', trodAll_mk1 (shut_bool Try.underlying4 _), trodAll_mk3 (Below.trod laidOut (by kernel_rfl) (of_decide_eq_true (by kernel_rfl)) h0 hb hlt0) (Below.trod laidOut (by kernel_rfl) (of_decide_eq_true (by kernel_rfl)) h1 hb hlt1) (Below.trod laidOut (by kernel_rfl) (of_decide_eq_true (by kernel_rfl)) h2 hb hlt2), rfl, hb.frame _, fun h => by cases h⟩

theorem valueOrders_holds : Rows.ValueOrdersSaid :=
  OpenClaim.holds_of_wide 4 Try.f4 rfl rfl rfl rfl rfl rfl rfl ⟨rfl, rfl, rfl, rfl, rfl⟩ rfl rfl rfl rfl rfl (by kernel_rfl) Try.func4 (by kernel_rfl)
    (of_decide_eq_true (by kernel_rfl)) (by unfold Func.isWrapper; first | (rw [if_pos (by decide +kernel)]; kernel_rfl) | (rw [if_neg (by decide +kernel)]; exact ⟨rfl, rfl⟩))
    (fun os started H enc _ => valueOrders_lifted os started H enc)
#print axioms valueOrders_holds
end Go.Proofs.Ytahcllncjpaijaa
