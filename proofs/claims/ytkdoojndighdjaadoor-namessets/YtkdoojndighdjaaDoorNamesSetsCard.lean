/- For every list of providers the law NamesSets (promises 5.1, 5.3: what is wrong with any set; which names it lacks) returns true and leaves its argument as it was; the variables 'keys' and 'rows' are tied to the program's own text by the card, and no further condition is asked. -/
import Derived.Test.YtkdoojndighdjaaDoorQa9
import Derived.Test.YtkdoojndighdjaaDoorOy2
import Derived.Test.YtkdoojndighdjaaDoorTie
import Derived.Test.YtkdoojndighdjaaDoorCards
import Derived.SizedLaws
namespace Go.Proofs.YtkdoojndighdjaaDoor
open Go.ChangeShapes Go.WideShapes Go.ChangeAt Go.WideMaps Go.WideElems Go.RowKit
open Go.ChangeMaps (open_string shut_string)

theorem namesSets_laid {W : World} (h : laidMetH Tryd.prog Rows.namesSetsRow.laid W) : NV W := by
  rw [MakeChecks.laidMetH_plain _ _ _ (by kernel_rfl)] at h
  obtain ⟨ps, ⟨g0, t0, cs0, f0, p0, q0, hg0, ht0, hv0, hd0, ⟨g1, t1, cs1, f1, p1, q1, hg1, ht1, hv1, hd1, _, _⟩, _⟩, _⟩ := h
  exact ⟨keysAt_of hg0 ht0 hv0 hd0, orowsAt_of hg1 ht1 hv1 hd1⟩
theorem namesSets_door (os : Os) (args : Array Value) : laidMetH Tryd.prog Rows.namesSetsRow.laid ((World.doorLaid Tryd.prog 400 os).forCall (fun _ _ => 0) ⟨#[], args, []⟩).memory :=
  laidMetH_of_parts3 (fuel := 8) (laidMet_of_run' 8 (by kernel_rfl) (by kernel_rfl)) (by kernel_rfl) (by kernel_rfl)

set_option maxRecDepth 100000 in
theorem namesSets_lifted (os : Os) (started : os.Started) (H : Type) (enc : TypeId × Value → H) :
    ReturnsInHanded {} Tryd.checked os 4 .any (fun w args => (Rows.namesSetsSpec.pre enc Tryd.prog Tryd.f4 [] false w args ∧ laidMetH Tryd.prog Rows.namesSetsRow.laid w) ∧ sizedMet enc Tryd.prog Tryd.f4 (OpenSpec.ofChange Rows.namesSetsSpec) false w args)
      (Rows.namesSetsSpec.post enc Tryd.prog Tryd.f4 false true false false) := by
  refine returnsInHanded_of_change_and (C := Tryd.checked) (X := fun w _ => laidMetH Tryd.prog Rows.namesSetsRow.laid w) (fun _ _ _ hh h => h.of_heap hh) own started (by kernel_rfl) Tryd.func4
    (ChangeSpec.witness_shaped (enc := enc) (C := Tryd.checked) (os := os) (X := fun w _ => laidMetH Tryd.prog Rows.namesSetsRow.laid w) false (World.doorLaid Tryd.prog 400 os) #[.slice none 0 0] 8 rfl (World.shaped_of_RefB (by kernel_rfl) (by kernel_rfl)) (by kernel_rfl) (by kernel_rfl) (by kernel_rfl) (namesSets_door os _)) ?_
  intro W base args ds gs before hval0 hW _ hwt hL _
  have hval : ∀ (j : Nat) t v, Tryd.f4.params[j]? = some t → args[j]? = some v → Value.okWide Tryd.prog W .any base t v := hval0
  have hW' := hW
  obtain ⟨p, q, hA0, hV, rfl, hfz, hnd⟩ := hW
  have hA : DataW.TrodAll enc Tryd.prog W 0 (fun _ => true) true Tryd.f4.params.toList args.toList ds p := hA0
  rw [Tryd.params4] at hA hval
  obtain ⟨v0, d0, rfl, rfl, h0⟩ := trodAll_one hA
  obtain ⟨rfl, rfl⟩ := trodVars_none hV
  obtain ⟨L, hl, hel, hd⟩ := open_prvs (hval 0 38 v0 rfl rfl) h0
  have hsz : L.length * 104 ≤ 140737488355328 ∧ ∀ x ∈ L, x.p.ops.length * 40 ≤ 140737488355328 := by
    rcases hd with rfl | ⟨es, spare, rfl, hes, hin⟩
    · exact ⟨by simp, fun x hx => by cases hx⟩
    · have hp : (Tryd.f4.params.toList ++ DataSpec.varTypes Tryd.checked.prog Rows.namesSetsSpec.plain)[0]? = some 38 := by rw [Tryd.params4]; rfl
      refine ⟨?_, fun x hx => ?_⟩
      · have := sized_slice (j := 0) hwt hp rfl Tryd.underlying38
        have e : Tryd.checked.prog.bytesOf 29 = 104 := bytesPrv
        rw [e, hes] at this
        unfold reachBytes at this
        omega
      · rcases hin x hx with e | ⟨ee, hee, d0, es', sp', r', rfl, hln⟩
        · rw [e]; simp
        · have := sized_inF (j := 0) hwt hp rfl Tryd.underlying38 Tryd.underlying29 rfl Tryd.underlying23 hee
          have e : Tryd.checked.prog.bytesOf 56 = 40 := bytesOp
          rw [e, hln] at this
          unfold reachBytes at this
          omega
  have hk := namesSets_laid hL
  clear hA0 hval0
  simp only [List.append_nil] at hW'
  have hlt0 : ∀ x ∈ p, x.block < W.heap.size := fun x hx => by simpa using hW'.lt x (by simp [hx])
  refine (namesSets_any v0 L W ⟨hl, fun x hx => ⟨(hel x hx).1, (hel x hx).2.1, (hel x hx).2.2, hsz.2 x hx⟩⟩ hk hsz.1).mono fun e W' ⟨he, hb⟩ => ?_
  subst he
  refine ⟨_, rfl, ?_⟩
  exact ⟨_, _, _, [], _, [], hW', trodAll_mk1 (shut_bool Tryd.underlying4 _), trodAll_mk1 (Below.trod laidOut (by kernel_rfl) (of_decide_eq_true (by kernel_rfl)) h0 hb hlt0), rfl, hb.frame _, fun h => by cases h⟩

theorem namesSets_holds : Rows.NamesSetsSaid :=
  OpenClaim.holds_of_wide 4 Tryd.f4 rfl rfl rfl rfl rfl rfl rfl ⟨rfl, rfl, rfl, rfl, rfl⟩ rfl rfl rfl rfl rfl (by kernel_rfl) Tryd.func4 (by kernel_rfl)
    (of_decide_eq_true (by kernel_rfl)) (by unfold Func.isWrapper; first | (rw [if_pos (by decide +kernel)]; kernel_rfl) | (rw [if_neg (by decide +kernel)]; exact ⟨rfl, rfl⟩))
    (fun os started H enc _ => namesSets_lifted os started H enc)

theorem namesSets_card : Rows.NamesSetsCardSaid :=
  Claim7.holds_tied_plain_at .later [] [.data, .data] true Rows.namesSetsCard.stood.harness false
    namesSets_holds (fun _ h => by cases h) (by kernel_rfl) (fun _ h => by cases h) namesSets_row_tie rfl ⟨rfl, rfl⟩ (by kernel_rfl) rfl
    (fun f fn hf hfn => by
      obtain rfl : f = 4 := Option.some.inj ((show Tryd.prog.funcNamed "onceweb/onceweblaw05.NamesSets" = some 4 by kernel_rfl).symm.trans hf) |>.symm
      obtain rfl : fn = Tryd.f4 := (Option.some.inj (Tryd.func4.symm.trans hfn)).symm
      exact ⟨by kernel_rfl, fun j t ht => by
        rw [Tryd.params4] at ht
        have hm : t ∈ [38] := by simpa using Array.mem_of_getElem? ht
        have hall : ([38].all fun u => !Tryd.prog.wantsStandIn u) = true := by kernel_rfl
        exact (show Tryd.prog.wantsStandIn t = false by simpa using List.all_eq_true.1 hall t hm)⟩)
    (by kernel_rfl)
#print axioms namesSets_card
end Go.Proofs.YtkdoojndighdjaaDoor
