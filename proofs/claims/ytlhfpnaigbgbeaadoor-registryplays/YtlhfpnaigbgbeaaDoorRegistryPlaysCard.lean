/- For every list of calls, every name and every number the law RegistryPlays (promises 17.1, 17.2: any calls of a registry, and of clones of it) returns true and leaves its arguments as they were; the variables 'keys' and 'rows' are tied to the program's own text by the card, and no further condition is asked. -/
import Derived.Test.YtlhfpnaigbgbeaaDoorRd9
import Derived.Test.YtlhfpnaigbgbeaaDoorOy2
import Derived.Test.YtlhfpnaigbgbeaaDoorTie
import Derived.Test.YtlhfpnaigbgbeaaDoorCards
import Derived.SizedLaws
namespace Go.Proofs.YtlhfpnaigbgbeaaDoor
open Go.ChangeShapes Go.WideShapes Go.ChangeAt Go.WideMaps Go.WideElems Go.RowKit
open Go.ChangeMaps (open_string shut_string)

theorem registryPlays_laid {W : World} (h : laidMetH Tryd.prog Rows.registryPlaysRow.laid W) : NV W := by
  rw [MakeChecks.laidMetH_plain _ _ _ (by kernel_rfl)] at h
  obtain ⟨ps, ⟨g0, t0, cs0, f0, p0, q0, hg0, ht0, hv0, hd0, ⟨g1, t1, cs1, f1, p1, q1, hg1, ht1, hv1, hd1, _, _⟩, _⟩, _⟩ := h
  exact ⟨keysAt_of hg0 ht0 hv0 hd0, orowsAt_of hg1 ht1 hv1 hd1⟩
theorem registryPlays_door (os : Os) (args : Array Value) : laidMetH Tryd.prog Rows.registryPlaysRow.laid ((World.doorLaid Tryd.prog 400 os).forCall (fun _ _ => 0) ⟨#[], args, []⟩).memory :=
  laidMetH_of_parts3 (fuel := 8) (laidMet_of_run' 8 (by kernel_rfl) (by kernel_rfl)) (by kernel_rfl) (by kernel_rfl)

set_option maxRecDepth 100000 in
theorem registryPlays_lifted (os : Os) (started : os.Started) (H : Type) (enc : TypeId × Value → H) :
    ReturnsInHanded {} Tryd.checked os 3 .any (fun w args => (Rows.registryPlaysSpec.pre enc Tryd.prog Tryd.f3 [] false w args ∧ laidMetH Tryd.prog Rows.registryPlaysRow.laid w) ∧ sizedMet enc Tryd.prog Tryd.f3 (OpenSpec.ofChange Rows.registryPlaysSpec) false w args)
      (Rows.registryPlaysSpec.post enc Tryd.prog Tryd.f3 false true false false) := by
  refine returnsInHanded_of_change_and (C := Tryd.checked) (X := fun w _ => laidMetH Tryd.prog Rows.registryPlaysRow.laid w) (fun _ _ _ hh h => h.of_heap hh) own started (by kernel_rfl) Tryd.func3
    (ChangeSpec.witness_shaped (enc := enc) (C := Tryd.checked) (os := os) (X := fun w _ => laidMetH Tryd.prog Rows.registryPlaysRow.laid w) false (World.doorLaid Tryd.prog 400 os) #[.slice none 0 0, .string ByteArray.empty, .int .i64 0] 8 rfl (World.shaped_of_RefB (by kernel_rfl) (by kernel_rfl)) (by kernel_rfl) (by kernel_rfl) (by kernel_rfl) (registryPlays_door os _)) ?_
  intro W base args ds gs before hval0 hW _ hwt hL _
  have hval : ∀ (j : Nat) t v, Tryd.f3.params[j]? = some t → args[j]? = some v → Value.okWide Tryd.prog W .any base t v := hval0
  have hW' := hW
  obtain ⟨p, q, hA0, hV, rfl, hfz, hnd⟩ := hW
  have hA : DataW.TrodAll enc Tryd.prog W 0 (fun _ => true) true Tryd.f3.params.toList args.toList ds p := hA0
  rw [Tryd.params3] at hA hval
  obtain ⟨v0, v1, v2, d0, d1, d2, p0, p1, p2, rfl, rfl, rfl, h0, h1, h2⟩ := trodAll_three hA
  obtain ⟨rfl, rfl⟩ := trodVars_none hV
  obtain ⟨L, hl, hel, hd⟩ := open_acts17 (hval 0 22 v0 rfl rfl) h0
  obtain ⟨s1, rfl, rfl, rfl, hw1⟩ := open_string Tryd.underlying9 (hval 1 9 v1 rfl rfl) h1
  obtain ⟨n2, rfl, rfl, rfl, hw2⟩ := open_int Tryd.underlying3 (hval 2 3 v2 rfl rfl) h2
  have hsz : L.length * 112 ≤ 140737488355328 ∧ ∀ x ∈ L, x.x.p.ops.length * 40 ≤ 140737488355328 := by
    rcases hd with rfl | ⟨es, spare, rfl, hes, hin⟩
    · exact ⟨by simp, fun x hx => by cases hx⟩
    · have hp : (Tryd.f3.params.toList ++ DataSpec.varTypes Tryd.checked.prog Rows.registryPlaysSpec.plain)[0]? = some 22 := by rw [Tryd.params3]; rfl
      refine ⟨?_, fun x hx => ?_⟩
      · have := sized_slice (j := 0) hwt hp rfl Tryd.underlying22
        have e : Tryd.checked.prog.bytesOf 59 = 112 := bytesAct17
        rw [e, hes] at this
        unfold reachBytes at this
        omega
      · rcases hin x hx with e | ⟨ee, hee, dk, d0, es', sp', r', r2, rfl, hln⟩
        · rw [e]; simp
        · have := sized_inFF (j := 0) hwt hp rfl Tryd.underlying22 Tryd.underlying59 rfl Tryd.underlying37 rfl Tryd.underlying31 hee
          have e : Tryd.checked.prog.bytesOf 71 = 40 := bytesOp
          rw [e, hln] at this
          unfold reachBytes at this
          omega
  have hk := registryPlays_laid hL
  clear hA0 hval0
  simp only [List.append_nil] at hW'
  have hlt0 : ∀ x ∈ p0, x.block < W.heap.size := fun x hx => by simpa using hW'.lt x (by simp [hx])
  refine (plays_any v0 L s1 n2 W ⟨hl, fun x hx => ⟨(hel x hx).1, (hel x hx).2.1, (hel x hx).2.2, hsz.2 x hx⟩⟩ hk hw1 (by have := hsz.1; omega)).mono fun e W' ⟨he, hb⟩ => ?_
  subst he
  refine ⟨_, rfl, ?_⟩
  exact ⟨_, _, _, [], _, [], hW', trodAll_mk1 (shut_bool Tryd.underlying4 _), trodAll_mk3 (Below.trod laidOut (by kernel_rfl) (of_decide_eq_true (by kernel_rfl)) h0 hb hlt0) (shut_string Tryd.underlying9 hw1) (shut_int Tryd.underlying3 hw2), rfl, hb.frame _, fun h => by cases h⟩

theorem registryPlays_holds : Rows.RegistryPlaysSaid :=
  OpenClaim.holds_of_wide 3 Tryd.f3 rfl rfl rfl rfl rfl rfl rfl ⟨rfl, rfl, rfl, rfl, rfl⟩ rfl rfl rfl rfl rfl (by kernel_rfl) Tryd.func3 (by kernel_rfl)
    (of_decide_eq_true (by kernel_rfl)) (by unfold Func.isWrapper; first | (rw [if_pos (by decide +kernel)]; kernel_rfl) | (rw [if_neg (by decide +kernel)]; exact ⟨rfl, rfl⟩))
    (fun os started H enc _ => registryPlays_lifted os started H enc)

theorem registryPlays_card : Rows.RegistryPlaysCardSaid :=
  Claim7.holds_tied_plain_at .later [] [.data, .data] true Rows.registryPlaysCard.stood.harness true
    registryPlays_holds (fun _ h => by cases h) (by kernel_rfl) (fun _ h => by cases h) registryPlays_row_tie rfl ⟨rfl, rfl⟩ (by kernel_rfl) rfl
    (fun f fn hf hfn => by
      obtain rfl : f = 3 := Option.some.inj ((show Tryd.prog.funcNamed "onceweb/onceweblaw17.RegistryPlays" = some 3 by kernel_rfl).symm.trans hf) |>.symm
      obtain rfl : fn = Tryd.f3 := (Option.some.inj (Tryd.func3.symm.trans hfn)).symm
      exact ⟨by kernel_rfl, fun j t ht => by
        rw [Tryd.params3] at ht
        have hm : t ∈ [22, 9, 3] := by simpa using Array.mem_of_getElem? ht
        have hall : ([22, 9, 3].all fun u => !Tryd.prog.wantsStandIn u) = true := by kernel_rfl
        exact (show Tryd.prog.wantsStandIn t = false by simpa using List.all_eq_true.1 hall t hm)⟩)
    (by kernel_rfl)
#print axioms registryPlays_card
end Go.Proofs.YtlhfpnaigbgbeaaDoor
