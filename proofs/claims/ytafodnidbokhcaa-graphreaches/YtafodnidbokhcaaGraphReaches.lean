/- For every graph, every number and every list of numbers the law GraphReaches (promises 15.1, 15.2: whether any graph is right, what its nodes lead to, what they have ways to, the graph turned about, as the document's own answer has it) returns true and leaves its arguments as they were; no condition is asked. -/
import Derived.Test.YtafodnidbokhcaaRows
import Derived.Test.YtafodnidbokhcaaYd5
import Derived.Test.YtafodnidbokhcaaYo1
import Derived.ProofKit
import Derived.OpenShut
import Derived.JoinedOf
import Derived.Handed
import Derived.SizedLaws
namespace Go.Proofs.Ytafodnidbokhcaa
open Go.ChangeShapes Go.WideShapes Go.ChangeAt Go.RowKit
open Go.ChangeMaps (open_string shut_string)

set_option maxRecDepth 100000 in
theorem graphReaches_lifted (os : Os) (started : os.Started) (H : Type) (enc : TypeId × Value → H) :
    ReturnsInHanded {} Try.checked os 3 .any (Rows.graphReachesSpec.pre6 enc Try.prog Try.f3 [] false)
      (Rows.graphReachesSpec.post enc Try.prog Try.f3 false true false false) := by
  refine returnsInHanded_of_change_sized (C := Try.checked) own started (by kernel_rfl) Try.func3
    (ChangeSpec.witness6 (enc := enc) (C := Try.checked) false ⟨#[], #[.agg #[.int .i64 0, .slice none 0 0], .int .i64 0, .slice none 0 0], []⟩ 8 (by kernel_rfl) (by kernel_rfl) (by kernel_rfl) (by kernel_rfl)) ?_
  intro W base args ds gs before hval0 hW _ hwt _
  have hval : ∀ (j : Nat) t v, Try.f3.params[j]? = some t → args[j]? = some v → Value.okWide Try.prog W .any base t v := hval0
  have hW' := hW
  obtain ⟨p, q, hA0, hV, rfl, hfz, hnd⟩ := hW
  have hA : DataW.TrodAll enc Try.prog W 0 (fun _ => true) true Try.f3.params.toList args.toList ds p := hA0
  rw [Try.params3] at hA hval
  obtain ⟨v0, v1, v2, d0, d1, d2, p0, p1, p2, rfl, rfl, rfl, h0, h1, h2⟩ := trodAll_three hA
  obtain ⟨rfl, rfl⟩ := trodVars_none hV
  obtain ⟨n0, sv0, L0, rfl, hl0, hd0⟩ := open_graph (hval 0 24 v0 rfl rfl) h0
  obtain ⟨n1, rfl, rfl, rfl, hw1⟩ := open_int Try.underlying3 (hval 1 3 v1 rfl rfl) h1
  obtain ⟨L2, hl2, hd2⟩ := open_ints (hval 2 25 v2 rfl rfl) h2
  have hsz0 : L0.length * 16 ≤ 140737488355328 := by
    rcases hd0 with rfl | ⟨e0, es, spare, rfl, hes⟩
    · simp
    · have hp : (Try.f3.params.toList ++ DataSpec.varTypes Try.checked.prog Rows.graphReachesSpec.plain)[0]? = some 24 := by rw [Try.params3]; rfl
      have := sized_field (j := 0) hwt hp rfl Try.underlying24 rfl Try.underlying22
      have e : Try.checked.prog.bytesOf 51 = 16 := by kernel_rfl
      rw [e, hes] at this
      unfold reachBytes at this
      omega
  have hsz2 : L2.length * 8 ≤ 140737488355328 := by
    rcases hd2 with rfl | ⟨es, spare, rfl, hes⟩
    · simp
    · have hp : (Try.f3.params.toList ++ DataSpec.varTypes Try.checked.prog Rows.graphReachesSpec.plain)[2]? = some 25 := by rw [Try.params3]; rfl
      have := sized_slice (j := 2) hwt hp rfl Try.underlying25
      have e : Try.checked.prog.bytesOf 3 = 8 := by kernel_rfl
      rw [e, hes] at this
      unfold reachBytes at this
      omega
  clear hA0 hval0
  simp only [List.append_nil] at hW'
  have hlt0 : ∀ x ∈ p0, x.block < W.heap.size := fun x hx => by simpa using hW'.lt x (by simp [hx])
  have hlt2 : ∀ x ∈ p2, x.block < W.heap.size := fun x hx => by simpa using hW'.lt x (by simp [hx])
  refine (graphReaches_any W n0 sv0 L0 hl0 n1 v2 L2 hl2 hsz0 hsz2).mono fun e W' ⟨he, hb⟩ => ?_
  subst he
  refine ⟨_, rfl, ?_⟩
  exact ⟨_, _, _, [], _, [], hW', trodAll_mk1 (shut_bool Try.underlying4 _), trodAll_mk3 (Below.trod laidOut (by kernel_rfl) (of_decide_eq_true (by kernel_rfl)) h0 hb hlt0) (shut_int Try.underlying3 hw1) (Below.trod laidOut (by kernel_rfl) (of_decide_eq_true (by kernel_rfl)) h2 hb hlt2), rfl, hb.frame _, fun h => by cases h⟩

theorem graphReaches_holds : Rows.GraphReachesSaid :=
  OpenClaim.holds_of_wide 3 Try.f3 rfl rfl rfl rfl rfl rfl rfl ⟨rfl, rfl, rfl, rfl, rfl⟩ rfl rfl rfl rfl rfl (by kernel_rfl) Try.func3 (by kernel_rfl)
    (of_decide_eq_true (by kernel_rfl)) (by unfold Func.isWrapper; first | (rw [if_pos (by decide +kernel)]; kernel_rfl) | (rw [if_neg (by decide +kernel)]; exact ⟨rfl, rfl⟩))
    (fun os started H enc _ => graphReaches_lifted os started H enc)
#print axioms graphReaches_holds
end Go.Proofs.Ytafodnidbokhcaa
