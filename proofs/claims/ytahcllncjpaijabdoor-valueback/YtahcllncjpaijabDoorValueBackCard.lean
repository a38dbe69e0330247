/- For every value, text and list of values the law ValueBack (promise 7.8: there and back) returns true and leaves its arguments as they were; the listed variables are tied to the program's own text by the card, and no further condition is asked. -/
import Derived.Test.YtahcllncjpaijabDoorVm7
import Derived.Test.YtahcllncjpaijabDoorOw2
import Derived.Test.YtahcllncjpaijabDoorLaid2
import Derived.Test.YtahcllncjpaijabDoorOv1
import Derived.Test.YtahcllncjpaijabDoorTie
import Derived.Test.YtahcllncjpaijabDoorCards
import Derived.SizedLaws
namespace Go.Proofs.YtahcllncjpaijabDoor
open Go.ChangeShapes Go.WideShapes Go.ChangeAt Go.WideMaps Go.WideElems Go.RowKit
open Go.ChangeMaps (open_string shut_string)

theorem valueBack_laid {W : World} (h : laidMetH Tryd.prog Rows.valueBackRow.laid W) : L1.KeysAt W ∧ L1.MarksAt W ∧ Lib.TabIs Tryd.prog W "internal/strconv.uint64pow10" .u64 Lib.pow10Tab := by
  rw [MakeChecks.laidMetH_plain _ _ _ (by kernel_rfl)] at h
  obtain ⟨ps, ⟨g0, t0, cs0, f0, p0, q0, hg0, ht0, hv0, hd0, ⟨g1, t1, cs1, f1, p1, q1, hg1, ht1, hv1, hd1, ⟨g2, t2, cs2, f2, p2, q2, hg2, ht2, hv2, hd2, ⟨g3, t3, cs3, f3, p3, q3, hg3, ht3, hv3, hd3, ⟨g4, t4, cs4, f4, p4, q4, hg4, ht4, hv4, hd4, _, _⟩, _⟩, _⟩, _⟩, _⟩, _⟩ := h
  exact ⟨L1.keysAt_of hg4 ht4 hv4 hd4, L1.marksAt_of hg3 ht3 hv3 hd3, powIs_of hg2 ht2 hv2 hd2⟩
theorem valueBack_door (os : Os) (args : Array Value) : laidMetH Tryd.prog Rows.valueBackRow.laid ((World.doorLaid Tryd.prog 400 os).forCall (fun _ _ => 0) ⟨#[], args, []⟩).memory :=
  laidMetH_of_parts3 (fuel := 8) (laidMet_of_run' 8 (by kernel_rfl) (by kernel_rfl)) (by kernel_rfl) (by kernel_rfl)

set_option maxRecDepth 100000 in
theorem valueBack_lifted (os : Os) (started : os.Started) (H : Type) (enc : TypeId × Value → H) :
    ReturnsInHanded {} Tryd.checked os 3 .any (fun w args => (Rows.valueBackSpec.pre enc Tryd.prog Tryd.f3 [] false w args ∧ laidMetH Tryd.prog Rows.valueBackRow.laid w) ∧ sizedMet enc Tryd.prog Tryd.f3 (OpenSpec.ofChange Rows.valueBackSpec) false w args)
      (Rows.valueBackSpec.post enc Tryd.prog Tryd.f3 false true false false) := by
  refine returnsInHanded_of_change_and (C := Tryd.checked) (X := fun w _ => laidMetH Tryd.prog Rows.valueBackRow.laid w) (fun _ _ _ hh h => h.of_heap hh) own started (by kernel_rfl) Tryd.func3
    (ChangeSpec.witness_shaped (enc := enc) (C := Tryd.checked) (os := os) (X := fun w _ => laidMetH Tryd.prog Rows.valueBackRow.laid w) false (World.doorLaid Tryd.prog 400 os) #[.slice none 0 0, .string ByteArray.empty, .slice none 0 0] 8 rfl (World.shaped_of_RefB (by kernel_rfl) (by kernel_rfl)) (by kernel_rfl) (by kernel_rfl) (by kernel_rfl) (valueBack_door os _)) ?_
  intro W base args ds gs before hval0 hW _ hwt hL _
  have hval : ∀ (j : Nat) t v, Tryd.f3.params[j]? = some t → args[j]? = some v → Value.okWide Tryd.prog W .any base t v := hval0
  have hW' := hW
  obtain ⟨p, q, hA0, hV, rfl, hfz, hnd⟩ := hW
  have hA : DataW.TrodAll enc Tryd.prog W 0 (fun _ => true) true Tryd.f3.params.toList args.toList ds p := hA0
  rw [Tryd.params3] at hA hval
  obtain ⟨v0, v1, v2, d0, d1, d2, p0, p1, p2, rfl, rfl, rfl, h0, h1, h2⟩ := trodAll_three hA
  obtain ⟨rfl, rfl⟩ := trodVars_none hV
  obtain ⟨l, hl, htx, hd⟩ := open_val (hval 0 23 v0 rfl rfl) h0
  obtain ⟨s1, rfl, rfl, rfl, hw1⟩ := open_string Tryd.underlying9 (hval 1 9 v1 rfl rfl) h1
  have e40 : Tryd.checked.prog.bytesOf 43 = 40 := bytesAt
  have hsz : l.length * 40 ≤ 140737488355328 := by
    rcases hd with rfl | ⟨es, spare, rfl, hes⟩
    · simp
    · have hp : (Tryd.f3.params.toList ++ DataSpec.varTypes Tryd.checked.prog Rows.valueBackSpec.plain)[0]? = some 23 := by rw [Tryd.params3]; rfl
      have := sized_slice (j := 0) hwt hp rfl Tryd.underlying23
      rw [e40, hes] at this
      unfold reachBytes at this
      omega
  obtain ⟨LL, hl2, htx2, hd2⟩ := open_vals (hval 2 24 v2 rfl rfl) h2
  have hsz2 : LL.length * 24 ≤ 140737488355328 ∧ ∀ x ∈ LL, x.a.length * 40 ≤ 140737488355328 := by
    rcases hd2 with rfl | ⟨es, spare, rfl, hes, hin⟩
    · exact ⟨by simp, fun x hx => by cases hx⟩
    · have hp : (Tryd.f3.params.toList ++ DataSpec.varTypes Tryd.checked.prog Rows.valueBackSpec.plain)[2]? = some 24 := by rw [Tryd.params3]; rfl
      refine ⟨?_, fun x hx => ?_⟩
      · have := sized_slice (j := 2) hwt hp rfl Tryd.underlying24
        have e : Tryd.checked.prog.bytesOf 23 = 24 := bytesVl
        rw [e, hes] at this
        unfold reachBytes at this
        omega
      · rcases hin x hx with e | ⟨ee, hee, es', sp', rfl, hel⟩
        · rw [e]; simp
        · have := sized_in (j := 2) hwt hp rfl Tryd.underlying24 Tryd.underlying23 hee
          have e : Tryd.checked.prog.bytesOf 43 = 40 := bytesAt
          rw [e, hel] at this
          unfold reachBytes at this
          omega
  obtain ⟨hk1, hk2, hk3⟩ := valueBack_laid hL
  clear hA0 hval0
  simp only [List.append_nil] at hW'
  have hlt : ∀ x ∈ p0, x.block < W.heap.size := fun x hx => by simpa using hW'.lt x (by simp [hx])
  have hlt2 : ∀ x ∈ p2, x.block < W.heap.size := fun x hx => by simpa using hW'.lt x (by simp [hx])
  refine (valueBack_any v0 v2 s1 l LL W hl htx hsz hw1 hl2 ⟨hsz2.1, hsz2.2, htx2⟩ hk1 hk2 (Lib.tabBelow_of_tabIs hk3)).mono fun e W' ⟨he, hb⟩ => ?_
  subst he
  refine ⟨_, rfl, ?_⟩
  exact ⟨_, _, _, [], _, [], hW', trodAll_mk1 (shut_bool Tryd.underlying4 _), trodAll_mk3 (Below.trod laidOut (by kernel_rfl) (of_decide_eq_true (by kernel_rfl)) h0 hb hlt) (shut_string Tryd.underlying9 hw1) (Below.trod laidOut (by kernel_rfl) (of_decide_eq_true (by kernel_rfl)) h2 hb hlt2), rfl, hb.frame _, fun h => by cases h⟩

theorem valueBack_holds : Rows.ValueBackSaid :=
  OpenClaim.holds_of_wide 3 Tryd.f3 rfl rfl rfl rfl rfl rfl rfl ⟨rfl, rfl, rfl, rfl, rfl⟩ rfl rfl rfl rfl rfl (by kernel_rfl) Tryd.func3 (by kernel_rfl)
    (of_decide_eq_true (by kernel_rfl)) (by unfold Func.isWrapper; first | (rw [if_pos (by decide +kernel)]; kernel_rfl) | (rw [if_neg (by decide +kernel)]; exact ⟨rfl, rfl⟩))
    (fun os started H enc _ => valueBack_lifted os started H enc)

theorem valueBack_card : Rows.ValueBackCardSaid :=
  Claim7.holds_tied_plain_at .later [] [.data, .data, .data, .data, .data] true Rows.valueBackCard.stood.harness false
    valueBack_holds (fun _ h => by cases h) (by kernel_rfl) (fun _ h => by cases h) valueBack_row_tie rfl ⟨rfl, rfl⟩ (by kernel_rfl) rfl
    (fun f fn hf hfn => by
      obtain rfl : f = 3 := Option.some.inj ((show Tryd.prog.funcNamed "onceweb/onceweblaw07.ValueBack" = some 3 by kernel_rfl).symm.trans hf) |>.symm
      obtain rfl : fn = Tryd.f3 := (Option.some.inj (Tryd.func3.symm.trans hfn)).symm
      exact ⟨by kernel_rfl, fun j t ht => by
        rw [Tryd.params3] at ht
        have hm : t ∈ [23, 9, 24] := by simpa using Array.mem_of_getElem? ht
        have hall : ([23, 9, 24].all fun u => !Tryd.prog.wantsStandIn u) = true := by kernel_rfl
        exact (show Tryd.prog.wantsStandIn t = false by simpa using List.all_eq_true.1 hall t hm)⟩)
    (by kernel_rfl)
#print axioms valueBack_card
end Go.Proofs.YtahcllncjpaijabDoor
