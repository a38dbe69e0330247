/- For every list of calls and every provider the law RegistryGoes (promise 17.2: a registry is gone over as it was when that was asked for, again and again, whatever is added then) returns true and leaves its arguments as they were; the variables 'keys' and 'rows' are tied to the program's own text by the card, and no further condition is asked. -/
import Derived.Test.YtffabehipcomfaaDoorRe4
import Derived.Test.YtffabehipcomfaaDoorOy2
import Derived.Test.YtffabehipcomfaaDoorTie
import Derived.Test.YtffabehipcomfaaDoorCards
import Derived.SizedLaws
namespace Go.Proofs.YtffabehipcomfaaDoor
open Go.ChangeShapes Go.WideShapes Go.ChangeAt Go.WideMaps Go.WideElems Go.RowKit
open Go.ChangeMaps (open_string shut_string)

theorem registryGoes_laid {W : World} (h : laidMetH Tryd.prog Rows.registryGoesRow.laid W) : NV W := by
  rw [MakeChecks.laidMetH_plain _ _ _ (by kernel_rfl)] at h
  obtain ⟨ps, ⟨g0, t0, cs0, f0, p0, q0, hg0, ht0, hv0, hd0, ⟨g1, t1, cs1, f1, p1, q1, hg1, ht1, hv1, hd1, _, _⟩, _⟩, _⟩ := h
  exact ⟨keysAt_of hg0 ht0 hv0 hd0, orowsAt_of hg1 ht1 hv1 hd1⟩
theorem registryGoes_door (os : Os) (args : Array Value) : laidMetH Tryd.prog Rows.registryGoesRow.laid ((World.doorLaid Tryd.prog 400 os).forCall (fun _ _ => 0) ⟨#[], args, []⟩).memory :=
  laidMetH_of_parts3 (fuel := 8) (laidMet_of_run' 8 (by kernel_rfl) (by kernel_rfl)) (by kernel_rfl) (by kernel_rfl)

set_option maxRecDepth 100000 in
theorem registryGoes_lifted (os : Os) (started : os.Started) (H : Type) (enc : TypeId × Value → H) :
    ReturnsInHanded {} Tryd.checked os 4 .any (fun w args => (Rows.registryGoesSpec.pre enc Tryd.prog Tryd.f4 [] false w args ∧ laidMetH Tryd.prog Rows.registryGoesRow.laid w) ∧ sizedMet enc Tryd.prog Tryd.f4 (OpenSpec.ofChange Rows.registryGoesSpec) false w args)
      (Rows.registryGoesSpec.post enc Tryd.prog Tryd.f4 false true false false) := by
  refine returnsInHanded_of_change_and (C := Tryd.checked) (X := fun w _ => laidMetH Tryd.prog Rows.registryGoesRow.laid w) (fun _ _ _ hh h => h.of_heap hh) own started (by kernel_rfl) Tryd.func4
    (ChangeSpec.witness_shaped (enc := enc) (C := Tryd.checked) (os := os) (X := fun w _ => laidMetH Tryd.prog Rows.registryGoesRow.laid w) false (World.doorLaid Tryd.prog 400 os) #[.slice none 0 0, .agg #[.string ByteArray.empty, .slice none 0 0, .bool false, .int .i64 0, .int .i64 0, .int .i64 0, .int .i64 0, .int .i64 0, .string ByteArray.empty]] 8 rfl (World.shaped_of_RefB (by kernel_rfl) (by kernel_rfl)) (by kernel_rfl) (by kernel_rfl) (by kernel_rfl) (registryGoes_door os _)) ?_
  intro W base args ds gs before hval0 hW _ hwt hL _
  have hval : ∀ (j : Nat) t v, Tryd.f4.params[j]? = some t → args[j]? = some v → Value.okWide Tryd.prog W .any base t v := hval0
  have hW' := hW
  obtain ⟨p, q, hA0, hV, rfl, hfz, hnd⟩ := hW
  have hA : DataW.TrodAll enc Tryd.prog W 0 (fun _ => true) true Tryd.f4.params.toList args.toList ds p := hA0
  rw [Tryd.params4] at hA hval
  obtain ⟨v0, v1, d0, d1, p0, p1, rfl, rfl, rfl, h0, h1⟩ := trodAll_two hA
  obtain ⟨rfl, rfl⟩ := trodVars_none hV
  obtain ⟨L, hl, hel, hd⟩ := open_acts17 (hval 0 22 v0 rfl rfl) h0
  obtain ⟨pr, ve, hv1, hpo, hpt, hpn, hpc, hpd⟩ := open_prvA (hval 1 37 v1 rfl rfl) h1
  have hsp : pr.ops.length * 40 ≤ 140737488355328 := by
    rcases hpd with e | ⟨d0, es, spare, r, rfl, hes⟩
    · rw [e]; simp
    · have hp : (Tryd.f4.params.toList ++ DataSpec.varTypes Tryd.checked.prog Rows.registryGoesSpec.plain)[1]? = some 37 := by rw [Tryd.params4]; rfl
      have := sized_field (j := 1) hwt hp rfl Tryd.underlying37 rfl Tryd.underlying31
      have e : Tryd.checked.prog.bytesOf 71 = 40 := bytesOp
      rw [e, hes] at this
      unfold reachBytes at this
      omega
  have hsz : L.length * 112 ≤ 140737488355328 ∧ ∀ x ∈ L, x.x.p.ops.length * 40 ≤ 140737488355328 := by
    rcases hd with rfl | ⟨es, spare, rfl, hes, hin⟩
    · exact ⟨by simp, fun x hx => by cases hx⟩
    · have hp : (Tryd.f4.params.toList ++ DataSpec.varTypes Tryd.checked.prog Rows.registryGoesSpec.plain)[0]? = some 22 := by rw [Tryd.params4]; rfl
      refine ⟨?_, fun x hx => ?_⟩
      · have := sized_slice (j := 0) hwt hp rfl Tryd.underlying22
        have e : Tryd.checked.prog.bytesOf 59 = 112 := bytesAct17
        rw [e, hes] at this
        unfold reachBytes at this
        omega
      · rcases hin x hx with e | ⟨ee, hee, dk, d0, es', sp', r', r2, rfl, hln⟩
        · rw [e]; simp
        · have := sized_inFF (j := 0) hwt hp rfl Tryd.underlying22 Tryd.underlying59 rfl Tryd.underlying37 rfl Tryd.underlying31 hee
          have e : Tryd.checked.prog.bytesOf 71 = 40 := bytesOp
          rw [e, hln] at this
          unfold reachBytes at this
          omega
  have hk := registryGoes_laid hL
  clear hA0 hval0
  simp only [List.append_nil] at hW'
  have hlt0 : ∀ x ∈ p0, x.block < W.heap.size := fun x hx => by simpa using hW'.lt x (by simp [hx])
  have hlt1 : ∀ x ∈ p1, x.block < W.heap.size := fun x hx => by simpa using hW'.lt x (by simp [hx])
  subst hv1
  refine (goes_any v0 L pr ve W ⟨hl, fun x hx => ⟨(hel x hx).1, (hel x hx).2.1, (hel x hx).2.2, hsz.2 x hx⟩⟩ hk ⟨hpo, hpt, hpn, hsp⟩ (by have := hsz.1; omega)).mono fun e W' ⟨he, hb⟩ => ?_
  subst he
  refine ⟨_, rfl, ?_⟩
  exact ⟨_, _, _, [], _, [], hW', trodAll_mk1 (shut_bool Tryd.underlying4 _), trodAll_mk2 (Below.trod laidOut (by kernel_rfl) (of_decide_eq_true (by kernel_rfl)) h0 hb hlt0) (Below.trod laidOut (by kernel_rfl) (of_decide_eq_true (by kernel_rfl)) h1 hb hlt1), rfl, hb.frame _, fun h => by cases h⟩

theorem registryGoes_holds : Rows.RegistryGoesSaid :=
  OpenClaim.holds_of_wide 4 Tryd.f4 rfl rfl rfl rfl rfl rfl rfl ⟨rfl, rfl, rfl, rfl, rfl⟩ rfl rfl rfl rfl rfl (by kernel_rfl) Tryd.func4 (by kernel_rfl)
    (of_decide_eq_true (by kernel_rfl)) (by unfold Func.isWrapper; first | (rw [if_pos (by decide +kernel)]; kernel_rfl) | (rw [if_neg (by decide +kernel)]; exact ⟨rfl, rfl⟩))
    (fun os started H enc _ => registryGoes_lifted os started H enc)

theorem registryGoes_card : Rows.RegistryGoesCardSaid :=
  Claim7.holds_tied_plain_at .later [] [.data, .data] true Rows.registryGoesCard.stood.harness true
    registryGoes_holds (fun _ h => by cases h) (by kernel_rfl) (fun _ h => by cases h) registryGoes_row_tie rfl ⟨rfl, rfl⟩ (by kernel_rfl) rfl
    (fun f fn hf hfn => by
      obtain rfl : f = 4 := Option.some.inj ((show Tryd.prog.funcNamed "onceweb/onceweblaw17.RegistryGoes" = some 4 by kernel_rfl).symm.trans hf) |>.symm
      obtain rfl : fn = Tryd.f4 := (Option.some.inj (Tryd.func4.symm.trans hfn)).symm
      exact ⟨by kernel_rfl, fun j t ht => by
        rw [Tryd.params4] at ht
        have hm : t ∈ [22, 37] := by simpa using Array.mem_of_getElem? ht
        have hall : ([22, 37].all fun u => !Tryd.prog.wantsStandIn u) = true := by kernel_rfl
        exact (show Tryd.prog.wantsStandIn t = false by simpa using List.all_eq_true.1 hall t hm)⟩)
    (by kernel_rfl)
#print axioms registryGoes_card
end Go.Proofs.YtffabehipcomfaaDoor
