/- For every kind and every list of values the law ValueDoes (promises 7.3, 7.4: any operation of any values; its word) returns true and leaves its arguments as they were; the variable 'words' is tied to the program's own text by the card, and no further condition is asked. -/
import Derived.Test.YtpiikidpgjmmbaaDoorVm2
import Derived.Test.YtpiikidpgjmmbaaDoorOw1
import Derived.Test.YtpiikidpgjmmbaaDoorOv1
import Derived.Test.YtpiikidpgjmmbaaDoorTie
import Derived.Test.YtpiikidpgjmmbaaDoorCards
import Derived.SizedLaws
namespace Go.Proofs.YtpiikidpgjmmbaaDoor
open Go.ChangeShapes Go.WideShapes Go.ChangeAt Go.WideMaps Go.WideElems Go.RowKit
open Go.ChangeMaps (open_string shut_string)

theorem valueDoes_laid {W : World} (h : laidMetH Tryd.prog Rows.valueDoesRow.laid W) : VWat W := by
  rw [MakeChecks.laidMetH_plain _ _ _ (by kernel_rfl)] at h
  obtain ⟨ps, ⟨g0, t0, cs0, f0, p0, q0, hg0, ht0, hv0, hd0, _, _⟩, _⟩ := h
  exact vwAt_of hg0 ht0 hv0 hd0
theorem valueDoes_door (os : Os) (args : Array Value) : laidMetH Tryd.prog Rows.valueDoesRow.laid ((World.doorLaid Tryd.prog 400 os).forCall (fun _ _ => 0) ⟨#[], args, []⟩).memory :=
  laidMetH_of_parts3 (fuel := 8) (laidMet_of_run' 8 (by kernel_rfl) (by kernel_rfl)) (by kernel_rfl) (by kernel_rfl)

set_option maxRecDepth 100000 in
theorem valueDoes_lifted (os : Os) (started : os.Started) (H : Type) (enc : TypeId × Value → H) :
    ReturnsInHanded {} Tryd.checked os 3 .any (fun w args => (Rows.valueDoesSpec.pre enc Tryd.prog Tryd.f3 [] false w args ∧ laidMetH Tryd.prog Rows.valueDoesRow.laid w) ∧ sizedMet enc Tryd.prog Tryd.f3 (OpenSpec.ofChange Rows.valueDoesSpec) false w args)
      (Rows.valueDoesSpec.post enc Tryd.prog Tryd.f3 false true false false) := by
  refine returnsInHanded_of_change_and (C := Tryd.checked) (X := fun w _ => laidMetH Tryd.prog Rows.valueDoesRow.laid w) (fun _ _ _ hh h => h.of_heap hh) own started (by kernel_rfl) Tryd.func3
    (ChangeSpec.witness_shaped (enc := enc) (C := Tryd.checked) (os := os) (X := fun w _ => laidMetH Tryd.prog Rows.valueDoesRow.laid w) false (World.doorLaid Tryd.prog 400 os) #[.int .i64 0, .slice none 0 0] 8 rfl (World.shaped_of_RefB (by kernel_rfl) (by kernel_rfl)) (by kernel_rfl) (by kernel_rfl) (by kernel_rfl) (valueDoes_door os _)) ?_
  intro W base args ds gs before hval0 hW _ hwt hL _
  have hval : ∀ (j : Nat) t v, Tryd.f3.params[j]? = some t → args[j]? = some v → Value.okWide Tryd.prog W .any base t v := hval0
  have hW' := hW
  obtain ⟨p, q, hA0, hV, rfl, hfz, hnd⟩ := hW
  have hA : DataW.TrodAll enc Tryd.prog W 0 (fun _ => true) true Tryd.f3.params.toList args.toList ds p := hA0
  rw [Tryd.params3] at hA hval
  obtain ⟨v0, v1, d0, d1, p0, p1, rfl, rfl, rfl, h0, h1⟩ := trodAll_two hA
  obtain ⟨rfl, rfl⟩ := trodVars_none hV
  obtain ⟨n0, rfl, rfl, rfl, hw0⟩ := open_int Tryd.underlying3 (hval 0 3 v0 rfl rfl) h0
  obtain ⟨L, hl, htx, hd⟩ := open_vals (hval 1 22 v1 rfl rfl) h1
  have hsz : L.length * 24 ≤ 140737488355328 ∧ ∀ x ∈ L, x.a.length * 40 ≤ 140737488355328 := by
    rcases hd with rfl | ⟨es, spare, rfl, hes, hin⟩
    · exact ⟨by simp, fun x hx => by cases hx⟩
    · have hp : (Tryd.f3.params.toList ++ DataSpec.varTypes Tryd.checked.prog Rows.valueDoesSpec.plain)[1]? = some 22 := by rw [Tryd.params3]; rfl
      refine ⟨?_, fun x hx => ?_⟩
      · have := sized_slice (j := 1) hwt hp rfl Tryd.underlying22
        have e : Tryd.checked.prog.bytesOf 25 = 24 := bytesVl
        rw [e, hes] at this
        unfold reachBytes at this
        omega
      · rcases hin x hx with e | ⟨ee, hee, es', sp', rfl, hel⟩
        · rw [e]; simp
        · have := sized_in (j := 1) hwt hp rfl Tryd.underlying22 Tryd.underlying25 hee
          have e : Tryd.checked.prog.bytesOf 56 = 40 := bytesAt
          rw [e, hel] at this
          unfold reachBytes at this
          omega
  have hk := valueDoes_laid hL
  clear hA0 hval0
  simp only [List.append_nil] at hW'
  have hlt : ∀ x ∈ p1, x.block < W.heap.size := fun x hx => by simpa using hW'.lt x (by simp [hx])
  refine (valueDoes_any n0 v1 L W hl ⟨hsz.1, hsz.2, htx⟩ hk).mono fun e W' ⟨he, hb⟩ => ?_
  subst he
  refine ⟨_, rfl, ?_⟩
  exact ⟨_, _, _, [], _, [], hW', trodAll_mk1 (shut_bool Tryd.underlying4 _), trodAll_mk2 (shut_int Tryd.underlying3 hw0) (Below.trod laidOut (by kernel_rfl) (of_decide_eq_true (by kernel_rfl)) h1 hb hlt), rfl, hb.frame _, fun h => by cases h⟩

theorem valueDoes_holds : Rows.ValueDoesSaid :=
  OpenClaim.holds_of_wide 3 Tryd.f3 rfl rfl rfl rfl rfl rfl rfl ⟨rfl, rfl, rfl, rfl, rfl⟩ rfl rfl rfl rfl rfl (by kernel_rfl) Tryd.func3 (by kernel_rfl)
    (of_decide_eq_true (by kernel_rfl)) (by unfold Func.isWrapper; first | (rw [if_pos (by decide +kernel)]; kernel_rfl) | (rw [if_neg (by decide +kernel)]; exact ⟨rfl, rfl⟩))
    (fun os started H enc _ => valueDoes_lifted os started H enc)

theorem valueDoes_card : Rows.ValueDoesCardSaid :=
  Claim7.holds_tied_plain_at .later [] [.data] true Rows.valueDoesCard.stood.harness false
    valueDoes_holds (fun _ h => by cases h) (by kernel_rfl) (fun _ h => by cases h) valueDoes_row_tie rfl ⟨rfl, rfl⟩ (by kernel_rfl) rfl
    (fun f fn hf hfn => by
      obtain rfl : f = 3 := Option.some.inj ((show Tryd.prog.funcNamed "onceweb/onceweblaw07.ValueDoes" = some 3 by kernel_rfl).symm.trans hf) |>.symm
      obtain rfl : fn = Tryd.f3 := (Option.some.inj (Tryd.func3.symm.trans hfn)).symm
      exact ⟨by kernel_rfl, fun j t ht => by
        rw [Tryd.params3] at ht
        have hm : t ∈ [3, 22] := by simpa using Array.mem_of_getElem? ht
        have hall : ([3, 22].all fun u => !Tryd.prog.wantsStandIn u) = true := by kernel_rfl
        exact (show Tryd.prog.wantsStandIn t = false by simpa using List.all_eq_true.1 hall t hm)⟩)
    (by kernel_rfl)
#print axioms valueDoes_card
end Go.Proofs.YtpiikidpgjmmbaaDoor
