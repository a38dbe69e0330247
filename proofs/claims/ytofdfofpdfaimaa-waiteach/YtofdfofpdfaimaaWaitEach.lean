/- For every two lists of calls the law WaitEach (promise 13.3: a room is gone over as it was when that was asked for, whatever comes then) returns true and leaves its arguments as they were; no condition is asked. -/
import Derived.Test.YtofdfofpdfaimaaRows
import Derived.Test.YtofdfofpdfaimaaWu4
import Derived.Test.YtofdfofpdfaimaaWo1
import Derived.ProofKit
import Derived.OpenShut
import Derived.JoinedOf
import Derived.Handed
import Derived.SizedLaws
namespace Go.Proofs.Ytofdfofpdfaimaa
open Go.ChangeShapes Go.WideShapes Go.ChangeAt Go.RowKit
open Go.ChangeMaps (open_string shut_string)

set_option maxRecDepth 100000 in
theorem waitEach_lifted (os : Os) (started : os.Started) (H : Type) (enc : TypeId × Value → H) :
    ReturnsInHanded {} Try.checked os 4 .any (Rows.waitEachSpec.pre6 enc Try.prog Try.f4 [] false)
      (Rows.waitEachSpec.post enc Try.prog Try.f4 false true false false) := by
  refine returnsInHanded_of_change_sized (C := Try.checked) own started (by kernel_rfl) Try.func4
    (ChangeSpec.witness6 (enc := enc) (C := Try.checked) false ⟨#[], #[.slice none 0 0, .slice none 0 0], []⟩ 8 (by kernel_rfl) (by kernel_rfl) (by kernel_rfl) (by kernel_rfl)) ?_
  intro W base args ds gs before hval0 hW _ hwt _
  have hval : ∀ (j : Nat) t v, Try.f4.params[j]? = some t → args[j]? = some v → Value.okWide Try.prog W .any base t v := hval0
  have hW' := hW
  obtain ⟨p, q, hA0, hV, rfl, hfz, hnd⟩ := hW
  have hA : DataW.TrodAll enc Try.prog W 0 (fun _ => true) true Try.f4.params.toList args.toList ds p := hA0
  rw [Try.params4] at hA hval
  obtain ⟨v0, v1, d0, d1, p0, p1, rfl, rfl, rfl, h0, h1⟩ := trodAll_two hA
  obtain ⟨rfl, rfl⟩ := trodVars_none hV
  obtain ⟨L0, hl0, hpr0, hd0⟩ := open_acts (hval 0 22 v0 rfl rfl) h0
  obtain ⟨L1, hl1, hpr1, hd1⟩ := open_acts (hval 1 22 v1 rfl rfl) h1
  have hsz0 : L0.length * 64 ≤ 140737488355328 := by
    rcases hd0 with rfl | ⟨es, spare, rfl, hes⟩
    · simp
    · have hp : (Try.f4.params.toList ++ DataSpec.varTypes Try.checked.prog Rows.waitEachSpec.plain)[0]? = some 22 := by rw [Try.params4]; rfl
      have := sized_slice (j := 0) hwt hp rfl Try.underlying22
      have e : Try.checked.prog.bytesOf 32 = 64 := by kernel_rfl
      rw [e, hes] at this
      unfold reachBytes at this
      omega
  have hsz1 : L1.length * 64 ≤ 140737488355328 := by
    rcases hd1 with rfl | ⟨es, spare, rfl, hes⟩
    · simp
    · have hp : (Try.f4.params.toList ++ DataSpec.varTypes Try.checked.prog Rows.waitEachSpec.plain)[1]? = some 22 := by rw [Try.params4]; rfl
      have := sized_slice (j := 1) hwt hp rfl Try.underlying22
      have e : Try.checked.prog.bytesOf 32 = 64 := by kernel_rfl
      rw [e, hes] at this
      unfold reachBytes at this
      omega
  clear hA0 hval0
  simp only [List.append_nil] at hW'
  have hlt0 : ∀ x ∈ p0, x.block < W.heap.size := fun x hx => by simpa using hW'.lt x (by simp [hx])
  have hlt1 : ∀ x ∈ p1, x.block < W.heap.size := fun x hx => by simpa using hW'.lt x (by simp [hx])
  refine (waitEach_any v0 L0 v1 L1 W hl0 hpr0 (by omega) hl1 hpr1 (by omega)).mono fun e W' ⟨he, hb⟩ => ?_
  subst he
  refine ⟨_, rfl, ?_⟩
  exact ⟨_, _, _, [], _, [], hW', trodAll_mk1 (shut_bool Try.underlying4 _), trodAll_mk2 (Below.trod laidOut (by kernel_rfl) (of_decide_eq_true (by kernel_rfl)) h0 hb hlt0) (Below.trod laidOut (by kernel_rfl) (of_decide_eq_true (by kernel_rfl)) h1 hb hlt1), rfl, hb.frame _, fun h => by cases h⟩

theorem waitEach_holds : Rows.WaitEachSaid :=
  OpenClaim.holds_of_wide 4 Try.f4 rfl rfl rfl rfl rfl rfl rfl ⟨rfl, rfl, rfl, rfl, rfl⟩ rfl rfl rfl rfl rfl (by kernel_rfl) Try.func4 (by kernel_rfl)
    (of_decide_eq_true (by kernel_rfl)) (by unfold Func.isWrapper; first | (rw [if_pos (by decide +kernel)]; kernel_rfl) | (rw [if_neg (by decide +kernel)]; exact ⟨rfl, rfl⟩))
    (fun os started H enc _ => waitEach_lifted os started H enc)
#print axioms waitEach_holds
end Go.Proofs.Ytofdfofpdfaimaa
