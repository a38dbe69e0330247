/- For every two texts and every list of failures the law FailWraps (promise 3.2: any failure wrapped, by a cell, by a token; any failures joined) returns true and leaves its arguments as they were; the variables 'keys', 'rows' and 'words' are tied to the program's own text by the card, and no further condition is asked. -/
import Derived.Test.YtanfkaljbphbbaaDoorGx9
import Derived.Test.YtanfkaljbphbbaaDoorGy1
import Derived.Test.YtanfkaljbphbbaaDoorFy1
import Derived.Test.YtanfkaljbphbbaaDoorFy2
import Derived.Test.YtanfkaljbphbbaaDoorTie
import Derived.Test.YtanfkaljbphbbaaDoorCards
import Derived.SizedLaws
namespace Go.Proofs.YtanfkaljbphbbaaDoor
open Go.ChangeShapes Go.WideShapes Go.ChangeAt Go.WideMaps Go.WideElems Go.RowKit
open Go.ChangeMaps (open_string shut_string)

theorem failWraps_laid {W : World} (h : laidMetH Tryd.prog Rows.failWrapsRow.laid W) : FV W := by
  rw [MakeChecks.laidMetH_plain _ _ _ (by kernel_rfl)] at h
  obtain ⟨ps, ⟨g0, t0, cs0, f0, p0, q0, hg0, ht0, hv0, hd0, ⟨g1, t1, cs1, f1, p1, q1, hg1, ht1, hv1, hd1, ⟨g2, t2, cs2, f2, p2, q2, hg2, ht2, hv2, hd2, _, _⟩, _⟩, _⟩, _⟩ := h
  exact ⟨keysAt_of hg0 ht0 hv0 hd0, wordsAt_of hg2 ht2 hv2 hd2, rowsAt_of hg1 ht1 hv1 hd1⟩
theorem failWraps_door (os : Os) (args : Array Value) : laidMetH Tryd.prog Rows.failWrapsRow.laid ((World.doorLaid Tryd.prog 400 os).forCall (fun _ _ => 0) ⟨#[], args, []⟩).memory :=
  laidMetH_of_parts3 (fuel := 8) (laidMet_of_run' 8 (by kernel_rfl) (by kernel_rfl)) (by kernel_rfl) (by kernel_rfl)

set_option maxRecDepth 100000 in
theorem failWraps_lifted (os : Os) (started : os.Started) (H : Type) (enc : TypeId × Value → H) :
    ReturnsInHanded {} Tryd.checked os 4 .any (fun w args => (Rows.failWrapsSpec.pre enc Tryd.prog Tryd.f4 [] false w args ∧ laidMetH Tryd.prog Rows.failWrapsRow.laid w) ∧ sizedMet enc Tryd.prog Tryd.f4 (OpenSpec.ofChange Rows.failWrapsSpec) false w args)
      (Rows.failWrapsSpec.post enc Tryd.prog Tryd.f4 false true false false) := by
  refine returnsInHanded_of_change_and (C := Tryd.checked) (X := fun w _ => laidMetH Tryd.prog Rows.failWrapsRow.laid w) (fun _ _ _ hh h => h.of_heap hh) own started (by kernel_rfl) Tryd.func4
    (ChangeSpec.witness_shaped (enc := enc) (C := Tryd.checked) (os := os) (X := fun w _ => laidMetH Tryd.prog Rows.failWrapsRow.laid w) false (World.doorLaid Tryd.prog 400 os) #[.string ByteArray.empty, .string ByteArray.empty, .slice none 0 0] 8 rfl (World.shaped_of_RefB (by kernel_rfl) (by kernel_rfl)) (by kernel_rfl) (by kernel_rfl) (by kernel_rfl) (failWraps_door os _)) ?_
  intro W base args ds gs before hval0 hW _ hwt hL _
  have hval : ∀ (j : Nat) t v, Tryd.f4.params[j]? = some t → args[j]? = some v → Value.okWide Tryd.prog W .any base t v := hval0
  have hW' := hW
  obtain ⟨p, q, hA0, hV, rfl, hfz, hnd⟩ := hW
  have hA : DataW.TrodAll enc Tryd.prog W 0 (fun _ => true) true Tryd.f4.params.toList args.toList ds p := hA0
  rw [Tryd.params4] at hA hval
  obtain ⟨v0, v1, v2, d0, d1, d2, p0, p1, p2, rfl, rfl, rfl, h0, h1, h2⟩ := trodAll_three hA
  obtain ⟨rfl, rfl⟩ := trodVars_none hV
  obtain ⟨n, rfl, rfl, rfl, hn⟩ := open_string Tryd.underlying9 (hval 0 9 v0 rfl rfl) h0
  obtain ⟨s, rfl, rfl, rfl, hs⟩ := open_string Tryd.underlying9 (hval 1 9 v1 rfl rfl) h1
  obtain ⟨ll, hl, htx, hd⟩ := open_fails (hval 2 33 v2 rfl rfl) h2
  have hsz : ll.length * 24 ≤ 140737488351232 ∧ ∀ x ∈ ll, x.length * 32 ≤ 140737488355328 := by
    rcases hd with rfl | ⟨es, spare, rfl, hes, hin⟩
    · exact ⟨by simp, fun x hx => by cases hx⟩
    · have hp : (Tryd.f4.params.toList ++ DataSpec.varTypes Tryd.checked.prog Rows.failWrapsSpec.plain)[2]? = some 33 := by rw [Tryd.params4]; rfl
      refine ⟨?_, fun x hx => ?_⟩
      · have := sized_slice (j := 2) hwt hp rfl Tryd.underlying33
        have e : Tryd.checked.prog.bytesOf 23 = 24 := bytesFl
        rw [e, hes] at this
        unfold reachBytes at this
        omega
      · rcases hin x hx with rfl | ⟨ee, hee, es', sp', rfl, hel⟩
        · simp
        · have := sized_in (j := 2) hwt hp rfl Tryd.underlying33 Tryd.underlying23 hee
          have e : Tryd.checked.prog.bytesOf 64 = 32 := bytesCr
          rw [e, hel] at this
          unfold reachBytes at this
          omega
  have hk := failWraps_laid hL
  clear hA0 hval0
  simp only [List.append_nil] at hW'
  have hlt : ∀ x ∈ p2, x.block < W.heap.size := fun x hx => by simpa using hW'.lt x (by simp [hx])
  refine (failWraps_any n s v2 ll W hl hn hs htx hsz.2 hsz.1 hk).mono fun e W' ⟨he, hb⟩ => ?_
  subst he
  refine ⟨_, rfl, ?_⟩
  exact ⟨_, _, _, [], _, [], hW', trodAll_mk1 (shut_bool Tryd.underlying4 _), trodAll_mk3 (shut_string Tryd.underlying9 hn) (shut_string Tryd.underlying9 hs) (Below.trod laidOut (by kernel_rfl) (of_decide_eq_true (by kernel_rfl)) h2 hb hlt), rfl, hb.frame _, fun h => by cases h⟩

theorem failWraps_holds : Rows.FailWrapsSaid :=
  OpenClaim.holds_of_wide 4 Tryd.f4 rfl rfl rfl rfl rfl rfl rfl ⟨rfl, rfl, rfl, rfl, rfl⟩ rfl rfl rfl rfl rfl (by kernel_rfl) Tryd.func4 (by kernel_rfl)
    (of_decide_eq_true (by kernel_rfl)) (by unfold Func.isWrapper; first | (rw [if_pos (by decide +kernel)]; kernel_rfl) | (rw [if_neg (by decide +kernel)]; exact ⟨rfl, rfl⟩))
    (fun os started H enc _ => failWraps_lifted os started H enc)

theorem failWraps_card : Rows.FailWrapsCardSaid :=
  Claim7.holds_tied_plain_at .later [] [.data, .data, .data] true Rows.failWrapsCard.stood.harness false
    failWraps_holds (fun _ h => by cases h) (by kernel_rfl) (fun _ h => by cases h) failWraps_row_tie rfl ⟨rfl, rfl⟩ (by kernel_rfl) rfl
    (fun f fn hf hfn => by
      obtain rfl : f = 4 := Option.some.inj ((show Tryd.prog.funcNamed "onceweb/onceweblaw03.FailWraps" = some 4 by kernel_rfl).symm.trans hf) |>.symm
      obtain rfl : fn = Tryd.f4 := (Option.some.inj (Tryd.func4.symm.trans hfn)).symm
      exact ⟨by kernel_rfl, fun j t ht => by
        rw [Tryd.params4] at ht
        have hm : t ∈ [9, 9, 33] := by simpa using Array.mem_of_getElem? ht
        have hall : ([9, 9, 33].all fun u => !Tryd.prog.wantsStandIn u) = true := by kernel_rfl
        exact (show Tryd.prog.wantsStandIn t = false by simpa using List.all_eq_true.1 hall t hm)⟩)
    (by kernel_rfl)
#print axioms failWraps_card
end Go.Proofs.YtanfkaljbphbbaaDoor
