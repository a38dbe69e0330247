/- For all three values the law ValueOrder (promise 7.6: one order) returns true and leaves its arguments as they were; the listed variables are tied to the program's own text by the card, and no further condition is asked. -/
import Derived.Test.YtpiikidpgjmmbaaDoorVm3
import Derived.Test.YtpiikidpgjmmbaaDoorOw2
import Derived.Test.YtpiikidpgjmmbaaDoorOv1
import Derived.Test.YtpiikidpgjmmbaaDoorTie
import Derived.Test.YtpiikidpgjmmbaaDoorCards
import Derived.SizedLaws
namespace Go.Proofs.YtpiikidpgjmmbaaDoor
open Go.ChangeShapes Go.WideShapes Go.ChangeAt Go.WideMaps Go.WideElems Go.RowKit

theorem valueOrder_laid {W : World} (h : laidMetH Tryd.prog Rows.valueOrderRow.laid W) : Lib.TabIs Tryd.prog W "internal/strconv.uint64pow10" .u64 Lib.pow10Tab := by
  rw [MakeChecks.laidMetH_plain _ _ _ (by kernel_rfl)] at h
  obtain ⟨ps, ⟨g0, t0, cs0, f0, p0, q0, hg0, ht0, hv0, hd0, ⟨g1, t1, cs1, f1, p1, q1, hg1, ht1, hv1, hd1, ⟨g2, t2, cs2, f2, p2, q2, hg2, ht2, hv2, hd2, _, _⟩, _⟩, _⟩, _⟩ := h
  exact powIs_of hg2 ht2 hv2 hd2
theorem valueOrder_door (os : Os) (args : Array Value) : laidMetH Tryd.prog Rows.valueOrderRow.laid ((World.doorLaid Tryd.prog 400 os).forCall (fun _ _ => 0) ⟨#[], args, []⟩).memory :=
  laidMetH_of_parts3 (fuel := 8) (laidMet_of_run' 8 (by kernel_rfl) (by kernel_rfl)) (by kernel_rfl) (by kernel_rfl)

set_option maxRecDepth 100000 in
theorem valueOrder_lifted (os : Os) (started : os.Started) (H : Type) (enc : TypeId × Value → H) :
    ReturnsInHanded {} Tryd.checked os 5 .any (fun w args => (Rows.valueOrderSpec.pre enc Tryd.prog Tryd.f5 [] false w args ∧ laidMetH Tryd.prog Rows.valueOrderRow.laid w) ∧ sizedMet enc Tryd.prog Tryd.f5 (OpenSpec.ofChange Rows.valueOrderSpec) false w args)
      (Rows.valueOrderSpec.post enc Tryd.prog Tryd.f5 false true false false) := by
  refine returnsInHanded_of_change_and (C := Tryd.checked) (X := fun w _ => laidMetH Tryd.prog Rows.valueOrderRow.laid w) (fun _ _ _ hh h => h.of_heap hh) own started (by kernel_rfl) Tryd.func5
    (ChangeSpec.witness_shaped (enc := enc) (C := Tryd.checked) (os := os) (X := fun w _ => laidMetH Tryd.prog Rows.valueOrderRow.laid w) false (World.doorLaid Tryd.prog 400 os) #[.slice none 0 0, .slice none 0 0, .slice none 0 0] 8 rfl (World.shaped_of_RefB (by kernel_rfl) (by kernel_rfl)) (by kernel_rfl) (by kernel_rfl) (by kernel_rfl) (valueOrder_door os _)) ?_
  intro W base args ds gs before hval0 hW _ hwt hL _
  have hval : ∀ (j : Nat) t v, Tryd.f5.params[j]? = some t → args[j]? = some v → Value.okWide Tryd.prog W .any base t v := hval0
  have hW' := hW
  obtain ⟨p, q, hA0, hV, rfl, hfz, hnd⟩ := hW
  have hA : DataW.TrodAll enc Tryd.prog W 0 (fun _ => true) true Tryd.f5.params.toList args.toList ds p := hA0
  rw [Tryd.params5] at hA hval
  obtain ⟨v0, v1, v2, d0, d1, d2, p0, p1, p2, rfl, rfl, rfl, h0, h1, h2⟩ := trodAll_three hA
  obtain ⟨rfl, rfl⟩ := trodVars_none hV
  obtain ⟨l0, a0, t0, e0⟩ := open_val (hval 0 25 v0 rfl rfl) h0
  obtain ⟨l1, a1, t1, e1⟩ := open_val (hval 1 25 v1 rfl rfl) h1
  obtain ⟨l2, a2, t2, e2⟩ := open_val (hval 2 25 v2 rfl rfl) h2
  have e40 : Tryd.checked.prog.bytesOf 56 = 40 := bytesAt
  have n0 : l0.length * 40 ≤ 140737488355328 := by
    rcases e0 with rfl | ⟨es, spare, rfl, hes⟩
    · simp
    · have hp : (Tryd.f5.params.toList ++ DataSpec.varTypes Tryd.checked.prog Rows.valueOrderSpec.plain)[0]? = some 25 := by rw [Tryd.params5]; rfl
      have := sized_slice (j := 0) hwt hp rfl Tryd.underlying25
      rw [e40, hes] at this
      unfold reachBytes at this
      omega
  have n1 : l1.length * 40 ≤ 140737488355328 := by
    rcases e1 with rfl | ⟨es, spare, rfl, hes⟩
    · simp
    · have hp : (Tryd.f5.params.toList ++ DataSpec.varTypes Tryd.checked.prog Rows.valueOrderSpec.plain)[1]? = some 25 := by rw [Tryd.params5]; rfl
      have := sized_slice (j := 1) hwt hp rfl Tryd.underlying25
      rw [e40, hes] at this
      unfold reachBytes at this
      omega
  have n2 : l2.length * 40 ≤ 140737488355328 := by
    rcases e2 with rfl | ⟨es, spare, rfl, hes⟩
    · simp
    · have hp : (Tryd.f5.params.toList ++ DataSpec.varTypes Tryd.checked.prog Rows.valueOrderSpec.plain)[2]? = some 25 := by rw [Tryd.params5]; rfl
      have := sized_slice (j := 2) hwt hp rfl Tryd.underlying25
      rw [e40, hes] at this
      unfold reachBytes at this
      omega
  have hk := valueOrder_laid hL
  clear hA0 hval0
  simp only [List.append_nil] at hW'
  have hlt0 : ∀ x ∈ p0, x.block < W.heap.size := fun x hx => by simpa using hW'.lt x (by simp [hx])
  have hlt1 : ∀ x ∈ p1, x.block < W.heap.size := fun x hx => by simpa using hW'.lt x (by simp [hx])
  have hlt2 : ∀ x ∈ p2, x.block < W.heap.size := fun x hx => by simpa using hW'.lt x (by simp [hx])
  refine (valueOrder_any v0 v1 v2 l0 l1 l2 W a0 a1 a2 t0 t1 t2 n0 n1 n2 (Lib.tabBelow_of_tabIs hk)).mono fun e W' ⟨he, hb⟩ => ?_
  subst he
  refine ⟨_, rfl, ?_⟩
  exact ⟨_, _, _, [], _, [], hW', trodAll_mk1 (shut_bool Tryd.underlying4 _), trodAll_mk3 (Below.trod laidOut (by kernel_rfl) (of_decide_eq_true (by kernel_rfl)) h0 hb hlt0) (Below.trod laidOut (by kernel_rfl) (of_decide_eq_true (by kernel_rfl)) h1 hb hlt1) (Below.trod laidOut (by kernel_rfl) (of_decide_eq_true (by kernel_rfl)) h2 hb hlt2), rfl, hb.frame _, fun h => by cases h⟩

theorem valueOrder_holds : Rows.ValueOrderSaid :=
  OpenClaim.holds_of_wide 5 Tryd.f5 rfl rfl rfl rfl rfl rfl rfl ⟨rfl, rfl, rfl, rfl, rfl⟩ rfl rfl rfl rfl rfl (by kernel_rfl) Tryd.func5 (by kernel_rfl)
    (of_decide_eq_true (by kernel_rfl)) (by unfold Func.isWrapper; first | (rw [if_pos (by decide +kernel)]; kernel_rfl) | (rw [if_neg (by decide +kernel)]; exact ⟨rfl, rfl⟩))
    (fun os started H enc _ => valueOrder_lifted os started H enc)

theorem valueOrder_card : Rows.ValueOrderCardSaid :=
  Claim7.holds_tied_plain_at .later [] [.data, .data, .data] true Rows.valueOrderCard.stood.harness false
    valueOrder_holds (fun _ h => by cases h) (by kernel_rfl) (fun _ h => by cases h) valueOrder_row_tie rfl ⟨rfl, rfl⟩ (by kernel_rfl) rfl
    (fun f fn hf hfn => by
      obtain rfl : f = 5 := Option.some.inj ((show Tryd.prog.funcNamed "onceweb/onceweblaw07.ValueOrder" = some 5 by kernel_rfl).symm.trans hf) |>.symm
      obtain rfl : fn = Tryd.f5 := (Option.some.inj (Tryd.func5.symm.trans hfn)).symm
      exact ⟨by kernel_rfl, fun j t ht => by
        rw [Tryd.params5] at ht
        have hm : t ∈ [25, 25, 25] := by simpa using Array.mem_of_getElem? ht
        have hall : ([25, 25, 25].all fun u => !Tryd.prog.wantsStandIn u) = true := by kernel_rfl
        exact (show Tryd.prog.wantsStandIn t = false by simpa using List.all_eq_true.1 hall t hm)⟩)
    (by kernel_rfl)
#print axioms valueOrder_card
end Go.Proofs.YtpiikidpgjmmbaaDoor
