/- For every graph, every list of numbers and every number the law GraphThins (promise 15.8: a longest way leads along edges, weighs what is told, no less than each node and no more than all; a lean graph reaches the same, and none of its edges can be left out) returns true and leaves its arguments as they were; no condition is asked. -/
import Derived.Test.YthhjknpfaghfbaaRows
import Derived.Test.YthhjknpfaghfbaaYn8
import Derived.Test.YthhjknpfaghfbaaYo1
import Derived.ProofKit
import Derived.OpenShut
import Derived.JoinedOf
import Derived.Handed
import Derived.SizedLaws
namespace Go.Proofs.Ythhjknpfaghfbaa
open Go.ChangeShapes Go.WideShapes Go.ChangeAt Go.RowKit
open Go.ChangeMaps (open_string shut_string)

set_option maxRecDepth 100000 in
theorem graphThins_lifted (os : Os) (started : os.Started) (H : Type) (enc : TypeId × Value → H) :
    ReturnsInHanded {} Try.checked os 7 .any (Rows.graphThinsSpec.pre6 enc Try.prog Try.f7 [] false)
      (Rows.graphThinsSpec.post enc Try.prog Try.f7 false true false false) := by
  refine returnsInHanded_of_change_sized (C := Try.checked) own started (by kernel_rfl) Try.func7
    (ChangeSpec.witness6 (enc := enc) (C := Try.checked) false ⟨#[], #[.agg #[.int .i64 0, .slice none 0 0], .slice none 0 0, .int .i64 0], []⟩ 8 (by kernel_rfl) (by kernel_rfl) (by kernel_rfl) (by kernel_rfl)) ?_
  intro W base args ds gs before hval0 hW _ hwt _
  have hval : ∀ (j : Nat) t v, Try.f7.params[j]? = some t → args[j]? = some v → Value.okWide Try.prog W .any base t v := hval0
  have hW' := hW
  obtain ⟨p, q, hA0, hV, rfl, hfz, hnd⟩ := hW
  have hA : DataW.TrodAll enc Try.prog W 0 (fun _ => true) true Try.f7.params.toList args.toList ds p := hA0
  rw [Try.params7] at hA hval
  obtain ⟨v0, v1, v2, d0, d1, d2, p0, p1, p2, rfl, rfl, rfl, h0, h1, h2⟩ := trodAll_three hA
  obtain ⟨rfl, rfl⟩ := trodVars_none hV
  obtain ⟨n0, sv0, L0, rfl, hl0, _⟩ := open_graph (hval 0 24 v0 rfl rfl) h0
  obtain ⟨L1, hl1, hd1⟩ := open_ints (hval 1 25 v1 rfl rfl) h1
  obtain ⟨n2, rfl, rfl, rfl, hw2⟩ := open_int Try.underlying3 (hval 2 3 v2 rfl rfl) h2
  have hsz1 : L1.length * 8 ≤ 140737488355328 := by
    rcases hd1 with rfl | ⟨es, spare, rfl, hes⟩
    · simp
    · have hp : (Try.f7.params.toList ++ DataSpec.varTypes Try.checked.prog Rows.graphThinsSpec.plain)[1]? = some 25 := by rw [Try.params7]; rfl
      have := sized_slice (j := 1) hwt hp rfl Try.underlying25
      have e : Try.checked.prog.bytesOf 3 = 8 := by kernel_rfl
      rw [e, hes] at this
      unfold reachBytes at this
      omega
  clear hA0 hval0
  simp only [List.append_nil] at hW'
  have hlt0 : ∀ x ∈ p0, x.block < W.heap.size := fun x hx => by simpa using hW'.lt x (by simp [hx])
  have hlt1 : ∀ x ∈ p1, x.block < W.heap.size := fun x hx => by simpa using hW'.lt x (by simp [hx])
  refine (graphThins_any W n0 sv0 L0 hl0 v1 L1 hl1 n2).mono fun e W' ⟨he, hb⟩ => ?_
  subst he
  refine ⟨_, rfl, ?_⟩
  exact ⟨_, _, _, [], _, [], hW', trodAll_mk1 (shut_bool Try.underlying4 _), trodAll_mk3 (Below.trod laidOut (by kernel_rfl) (of_decide_eq_true (by kernel_rfl)) h0 hb hlt0) (Below.trod laidOut (by kernel_rfl) (of_decide_eq_true (by kernel_rfl)) h1 hb hlt1) (shut_int Try.underlying3 hw2), rfl, hb.frame _, fun h => by cases h⟩

theorem graphThins_holds : Rows.GraphThinsSaid :=
  OpenClaim.holds_of_wide 7 Try.f7 rfl rfl rfl rfl rfl rfl rfl ⟨rfl, rfl, rfl, rfl, rfl⟩ rfl rfl rfl rfl rfl (by kernel_rfl) Try.func7 (by kernel_rfl)
    (of_decide_eq_true (by kernel_rfl)) (by unfold Func.isWrapper; first | (rw [if_pos (by decide +kernel)]; kernel_rfl) | (rw [if_neg (by decide +kernel)]; exact ⟨rfl, rfl⟩))
    (fun os started H enc _ => graphThins_lifted os started H enc)
#print axioms graphThins_holds
end Go.Proofs.Ythhjknpfaghfbaa
