/- For every two texts the law LexBlank (promise 1.6: the tokens of a text, with more blank between them, are the same; places rise, and between tokens is blank alone) returns true and leaves its arguments as they were; the variables 'marks' and 'keys' are tied to the program's own text by the card, and no further condition is asked. -/
import Derived.Test.YthckmpjokabkcaaDoorLaid2
import Derived.Test.YthckmpjokabkcaaDoorBlanks
import Derived.Test.YthckmpjokabkcaaDoorTie
import Derived.SizedLaws
import Derived.Test.YthckmpjokabkcaaDoorCards
namespace Go.Proofs.YthckmpjokabkcaaDoor
open Go.ChangeShapes Go.WideShapes Go.ChangeAt Go.WideMaps Go.WideElems Go.RowKit
open Go.ChangeMaps (open_string shut_string)

theorem lexBlank_door (os : Os) (args : Array Value) : laidMetH Tryd.prog Rows.lexBlankRow.laid ((World.doorLaid Tryd.prog 400 os).forCall (fun _ _ => 0) ⟨#[], args, []⟩).memory :=
  laidMetH_of_parts3 (fuel := 8) (laidMet_of_run' 8 (by kernel_rfl) (by kernel_rfl)) (by kernel_rfl) (by kernel_rfl)

theorem lexBlank_laid {W : World} (h : laidMetH Tryd.prog Rows.lexBlankRow.laid W) : KeysAt W ∧ MarksAt W := by
  rw [MakeChecks.laidMetH_plain _ _ _ (by kernel_rfl)] at h
  obtain ⟨ps, ⟨g0, t0, cs0, f0, p0, q0, hg0, ht0, hv0, hd0, ⟨g1, t1, cs1, f1, p1, q1, hg1, ht1, hv1, hd1, _, _⟩, _⟩, _⟩ := h
  exact ⟨keysAt_of hg1 ht1 hv1 hd1, marksAt_of hg0 ht0 hv0 hd0⟩

set_option maxRecDepth 100000 in
theorem lexBlank_lifted (os : Os) (started : os.Started) (H : Type) (enc : TypeId × Value → H) :
    ReturnsInHanded {} Tryd.checked os 7 .any (fun w args => (Rows.lexBlankSpec.pre enc Tryd.prog Tryd.f7 [] false w args ∧ laidMetH Tryd.prog Rows.lexBlankRow.laid w) ∧ sizedMet enc Tryd.prog Tryd.f7 (OpenSpec.ofChange Rows.lexBlankSpec) false w args)
      (Rows.lexBlankSpec.post enc Tryd.prog Tryd.f7 false true false false) := by
  refine returnsInHanded_of_change_and (C := Tryd.checked) (X := fun w _ => laidMetH Tryd.prog Rows.lexBlankRow.laid w) (fun _ _ _ hh h => h.of_heap hh) own started (by kernel_rfl) Tryd.func7
    (ChangeSpec.witness_shaped (enc := enc) (C := Tryd.checked) (os := os) (X := fun w _ => laidMetH Tryd.prog Rows.lexBlankRow.laid w) false (World.doorLaid Tryd.prog 400 os) #[.string ByteArray.empty, .string ByteArray.empty] 8 rfl (World.shaped_of_RefB (by kernel_rfl) (by kernel_rfl)) (by kernel_rfl) (by kernel_rfl) (by kernel_rfl) (lexBlank_door os _)) ?_
  intro W base args ds gs before hval0 hW _ hwt hL _
  have hval : ∀ (j : Nat) t v, Tryd.f7.params[j]? = some t → args[j]? = some v → Value.okWide Tryd.prog W .any base t v := hval0
  have hW' := hW
  obtain ⟨p, q, hA0, hV, rfl, hfz, hnd⟩ := hW
  have hA : DataW.TrodAll enc Tryd.prog W 0 (fun _ => true) true Tryd.f7.params.toList args.toList ds p := hA0
  rw [Tryd.params7] at hA hval
  obtain ⟨v0, v1, d0, d1, p0, p1, rfl, rfl, rfl, h0, h1⟩ := trodAll_two hA
  obtain ⟨rfl, rfl⟩ := trodVars_none hV
  obtain ⟨s, rfl, rfl, rfl, hs⟩ := open_string Tryd.underlying9 (hval 0 9 v0 rfl rfl) h0
  obtain ⟨x, rfl, rfl, rfl, wx⟩ := open_string Tryd.underlying9 (hval 1 9 v1 rfl rfl) h1
  have hxs : x.size ≤ 140737488355328 := by
    have hp : (Tryd.f7.params.toList ++ DataSpec.varTypes Tryd.checked.prog Rows.lexBlankSpec.plain)[1]? = some 9 := by rw [Tryd.params7]; rfl
    have := sized_string (j := 1) hwt hp rfl
    have e : x.data.toList.length = x.size := by simp
    unfold reachBytes at this
    omega
  have hk := lexBlank_laid hL
  clear hA0 hval0
  simp only [List.append_nil] at hW'
  refine (lexBlank_any s x W hs hxs hk.1 hk.2).mono fun e W' ⟨he, hb⟩ => ?_
  subst he
  refine ⟨_, rfl, ?_⟩
  exact ⟨_, _, _, [], [], [], hW', trodAll_mk1 (shut_bool Tryd.underlying4 _), trodAll_mk2 (shut_string Tryd.underlying9 hs) (shut_string Tryd.underlying9 wx), rfl, hb.frame _, fun h => by cases h⟩

theorem lexBlank_holds : Rows.LexBlankSaid :=
  OpenClaim.holds_of_wide 7 Tryd.f7 rfl rfl rfl rfl rfl rfl rfl ⟨rfl, rfl, rfl, rfl, rfl⟩ rfl rfl rfl rfl rfl (by kernel_rfl) Tryd.func7 (by kernel_rfl)
    (of_decide_eq_true (by kernel_rfl)) (by unfold Func.isWrapper; first | (rw [if_pos (by decide +kernel)]; kernel_rfl) | (rw [if_neg (by decide +kernel)]; exact ⟨rfl, rfl⟩))
    (fun os started H enc _ => lexBlank_lifted os started H enc)

theorem lexBlank_card : Rows.LexBlankCardSaid :=
  Claim7.holds_tied_plain_at .later [] [.data, .data] true Rows.lexBlankCard.stood.harness false
    lexBlank_holds (fun _ h => by cases h) (by kernel_rfl) (fun _ h => by cases h) lexBlank_row_tie rfl ⟨rfl, rfl⟩ (by kernel_rfl) rfl
    (fun f fn hf hfn => by
      obtain rfl : f = 7 := Option.some.inj ((show Tryd.prog.funcNamed "onceweb/onceweblaw01.LexBlank" = some 7 by kernel_rfl).symm.trans hf) |>.symm
      obtain rfl : fn = Tryd.f7 := (Option.some.inj (Tryd.func7.symm.trans hfn)).symm
      exact ⟨by kernel_rfl, fun j t ht => by
        rw [Tryd.params7] at ht
        have hm : t ∈ [9, 9] := by simpa using Array.mem_of_getElem? ht
        have hall : ([9, 9].all fun u => !Tryd.prog.wantsStandIn u) = true := by kernel_rfl
        exact (show Tryd.prog.wantsStandIn t = false by simpa using List.all_eq_true.1 hall t hm)⟩)
    (by kernel_rfl)
#print axioms lexBlank_card
end Go.Proofs.YthckmpjokabkcaaDoor
