/- What the law NamesChecks needs. -/
import Derived.Test.YtffabehipcomfaaDoorPv0
import Derived.Test.YtffabehipcomfaaDoorPu4
import Derived.BigRegion
import Derived.Deep.RegionLaw
import Derived.Deep.RegionWith
import Derived.Deep.CutRange
import Derived.Deep.DeepCutAuto
namespace Go.Proofs.YtffabehipcomfaaDoor
open Go.RowKit

structure Prv where
  name : ByteArray
  ops : List Opn
  again : Bool
  pol : Pol
  ck : Int
  ct : ByteArray
def prvV (p : Prv) (ve : Value) : Value := .agg #[.string p.name, ve, .bool p.again, .int .i64 p.pol.t, .int .i64 p.pol.b, .int .i64 p.pol.f, .int .i64 p.pol.c, .int .i64 p.ck, .string p.ct]
def prvC (p : Prv) (ve : Value) : Array Value := #[.string p.name, ve, .bool p.again, .int .i64 p.pol.t, .int .i64 p.pol.b, .int .i64 p.pol.f, .int .i64 p.pol.c, .int .i64 p.ck, .string p.ct]
/-- What is wrong with a provider. -/
def prvE (p : Prv) : Int := if nameB p.name = true then (if chkO p.ops = 0 then (if polB p.pol = true then cloE p.ck p.ct else 50) else chkO p.ops) else 2
/-- A box with a provider. -/
def PBx (w : World) (g : Nat) (p : Prv) (ve : Value) : Prop := w.heap[g]? = some (.cells (prvC p ve) 37)
theorem PBx.below {w w' : World} {g : Nat} {p : Prv} {ve : Value} (h : PBx w g p ve) (b : Below w.heap.size w w') : PBx w' g p ve := (b.block g (Array.getElem?_eq_some_iff.1 h).1).trans h
theorem PBx.cells {w : World} {g : Nat} {p : Prv} {ve : Value} (h : PBx w g p ve) : w.cell? ⟨g, 0, none⟩ = some (.string p.name) ∧ w.cell? ⟨g, 1, none⟩ = some ve ∧ w.cell? ⟨g, 2, none⟩ = some (.bool p.again) ∧ w.cell? ⟨g, 3, none⟩ = some (.int .i64 p.pol.t) ∧ w.cell? ⟨g, 4, none⟩ = some (.int .i64 p.pol.b) ∧ w.cell? ⟨g, 5, none⟩ = some (.int .i64 p.pol.f) ∧ w.cell? ⟨g, 6, none⟩ = some (.int .i64 p.pol.c) ∧ w.cell? ⟨g, 7, none⟩ = some (.int .i64 p.ck) ∧ w.cell? ⟨g, 8, none⟩ = some (.string p.ct) := by
  have q : ∀ j, w.cell? ⟨g, j, none⟩ = (prvC p ve)[j]? := fun j => cell_of_row _ _ _ _ _ _ h
  exact ⟨q 0, q 1, q 2, q 3, q 4, q 5, q 6, q 7, q 8⟩
/-- A provider, its expression read. -/
structure PS (w : World) (p : Prv) (ve : Value) : Prop where
  os : OS w ve p.ops
  tx : ∀ c ∈ p.ops, c.text.size ≤ maxLen
  nm : p.name.size ≤ maxLen
  ln : p.ops.length * 40 ≤ 140737488355328
theorem PS.below {w w' : World} {p : Prv} {ve : Value} (h : PS w p ve) (b : Below w.heap.size w w') : PS w' p ve := ⟨h.os.below b, h.tx, h.nm, h.ln⟩
set_option maxHeartbeats 4000000 in
theorem checkProv_any (p : Prv) (ve : Value) (w : World) (h : PS w p ve) (hv : NV w) : Calls Tryd.prog 40 #[prvV p ve] w fun e w' => e = .returned (.int .i64 (prvE p)) ∧ Below w.heap.size w w' := by
  have HE : Hid (prvE p = if nameB p.name = true then (if chkO p.ops = 0 then (if polB p.pol = true then cloE p.ck p.ct else 50) else chkO p.ops) else 2) := rfl
  have AL : Hid (∀ ob, Below w.heap.size w (w.alloc ob)) := fun ob => (Below.refl _ _).alloc (Nat.le_refl _) ob
  have IN : Hid (∀ w1, Below w.heap.size w w1 → Calls Tryd.prog 51 #[.string p.name] w1 fun e w2 => e = .returned (.bool (nameB p.name)) ∧ Below w1.heap.size w1 w2) := fun w1 b => Calls.mono (isName_any p.name w1 h.nm (hv.below b).keys) (by rintro e w2 ⟨rfl, hb⟩; exact ⟨rfl, hb ▸ Below.refl _ _⟩)
  have IC : Hid (∀ w1, Below w.heap.size w w1 → _) := fun w1 b => check_any ve p.ops w1 (h.os.below b) h.tx (hv.below b) (by have := h.ln; omega)
  have IP : Hid (∀ w1 : World, Calls Tryd.prog 53 #[.agg #[.int .i64 p.pol.t, .int .i64 p.pol.b, .int .i64 p.pol.f, .int .i64 p.pol.c]] w1 fun e w' => e = .returned (.bool (polB p.pol)) ∧ Below w1.heap.size w1 w') := fun w1 => isPolicy_any p.pol w1
  have IL : Hid (∀ w1 : World, _) := fun w1 => checkCloser_any p.ck p.ct w1
  have PX : Hid (PBx (w.alloc (.cells (prvC p ve) 37)) w.heap.size p ve) := heap_alloc_new _ _
  have PY : Hid (∀ w1, PBx w1 w.heap.size p ve → _) := fun w1 h => PBx.cells h
  obtain ⟨pe, ce, hve⟩ := h.os.form
  generalize prvE p = r at *
  generalize chkO p.ops = rc at *
  generalize polB p.pol = rp at *
  generalize cloE p.ck p.ct = rl at *
  generalize nameB p.name = rn at *
  subst hve
  obtain ⟨nm, ops, ag, ⟨pt, pb, pf, pc⟩, ck, ct⟩ := p
  simp only [prvV, prvC] at *
  clear h hv
  go_enter Tryd.func40, Tryd.ntmps40
  go_wp2_with fail
  refine Calls.mono (IN.out _ (AL.out _)) ?_
  rintro e w1 ⟨rfl, hb1⟩
  have B1 : Hid (Below w.heap.size w w1) := (AL.out _).trans (hb1.mono (AL.out _).size)
  have P1 : Hid _ := PBx.below PX.out hb1
  clear hb1
  cases rn with
  | false =>
    go_wp2_with fail
    go_ret
    exact ⟨ret_int (by rw [HE.out]; rfl), B1.out⟩
  | true =>
    obtain ⟨y0, y1, y2, y3, y4, y5, y6, y7, y8⟩ := PY.out _ P1.out
    go_wp2_with fail
    refine Calls.mono (IC.out _ B1.out) ?_
    rintro e w2 ⟨rfl, hb2⟩
    have B2 : Hid (Below w.heap.size w w2) := B1.out.trans (hb2.mono B1.out.size)
    have P2 : Hid _ := PBx.below P1.out hb2
    clear hb2 y0 y1 y2 y3 y4 y5 y6 y7 y8
    by_cases hc : rc = 0
    · subst hc
      obtain ⟨y0, y1, y2, y3, y4, y5, y6, y7, y8⟩ := PY.out _ P2.out
      go_wp2_with fail
      refine Calls.mono (IP.out _) ?_
      rintro e w3 ⟨rfl, hb3⟩
      have B3 : Hid (Below w.heap.size w w3) := B2.out.trans (hb3.mono B2.out.size)
      have P3 : Hid _ := PBx.below P2.out hb3
      clear hb3 y0 y1 y2 y3 y4 y5 y6 y7 y8
      cases rp with
      | false =>
        go_wp2_with fail
        go_ret
        exact ⟨ret_int (by rw [HE.out]; rfl), B3.out⟩
      | true =>
        obtain ⟨y0, y1, y2, y3, y4, y5, y6, y7, y8⟩ := PY.out _ P3.out
        go_wp2_with fail
        refine Calls.mono (IL.out _) ?_
        rintro e w4 ⟨rfl, hb4⟩
        go_wp2_with fail
        go_ret
        exact ⟨ret_int (by rw [HE.out]; rfl), B3.out.trans (hb4.mono B3.out.size)⟩
    · have hc2 : (rc != 0) = true := by simpa using hc
      have hc3 : (rc == 0) = false := by simpa using hc
      go_wp2_with fail
      go_ret
      exact ⟨ret_int (by rw [HE.out]; simp [hc]), B2.out⟩
set_option maxHeartbeats 4000000 in
theorem rcheckProv_any (p : Prv) (ve : Value) (w : World) (h : PS w p ve) : Calls Tryd.prog 32 #[prvV p ve] w fun e w' => e = .returned (.int .i64 (prvE p)) ∧ Below w.heap.size w w' := by
  have HE : Hid (prvE p = if nameB p.name = true then (if chkO p.ops = 0 then (if polB p.pol = true then cloE p.ck p.ct else 50) else chkO p.ops) else 2) := rfl
  have AL : Hid (∀ ob, Below w.heap.size w (w.alloc ob)) := fun ob => (Below.refl _ _).alloc (Nat.le_refl _) ob
  have IN : Hid (∀ w1, Below w.heap.size w w1 → Calls Tryd.prog 43 #[.string p.name] w1 fun e w2 => e = .returned (.bool (nameB p.name)) ∧ Below w1.heap.size w1 w2) := fun w1 b => Calls.mono (baseName_any p.name w1 h.nm) (by rintro e w2 ⟨rfl, hb⟩; exact ⟨rfl, hb⟩)
  have IC : Hid (∀ w1, Below w.heap.size w w1 → _) := fun w1 b => rcheck_any ve p.ops w1 (h.os.below b) h.tx (by have := h.ln; omega)
  have IP : Hid (∀ w1 : World, Calls Tryd.prog 45 #[.agg #[.int .i64 p.pol.t, .int .i64 p.pol.b, .int .i64 p.pol.f, .int .i64 p.pol.c]] w1 fun e w' => e = .returned (.bool (polB p.pol)) ∧ Below w1.heap.size w1 w') := fun w1 => goodPolicy_any p.pol w1
  have IL : Hid (∀ w1 : World, _) := fun w1 => closerError_any p.ck p.ct w1
  have PX : Hid (PBx (w.alloc (.cells (prvC p ve) 37)) w.heap.size p ve) := heap_alloc_new _ _
  have PY : Hid (∀ w1, PBx w1 w.heap.size p ve → _) := fun w1 h => PBx.cells h
  obtain ⟨pe, ce, hve⟩ := h.os.form
  generalize prvE p = r at *
  generalize chkO p.ops = rc at *
  generalize polB p.pol = rp at *
  generalize cloE p.ck p.ct = rl at *
  generalize nameB p.name = rn at *
  subst hve
  obtain ⟨nm, ops, ag, ⟨pt, pb, pf, pc⟩, ck, ct⟩ := p
  simp only [prvV, prvC] at *
  clear h
  go_enter Tryd.func32, Tryd.ntmps32
  go_wp2_with fail
  refine Calls.mono (IN.out _ (AL.out _)) ?_
  rintro e w1 ⟨rfl, hb1⟩
  have B1 : Hid (Below w.heap.size w w1) := (AL.out _).trans (hb1.mono (AL.out _).size)
  have P1 : Hid _ := PBx.below PX.out hb1
  clear hb1
  cases rn with
  | false =>
    go_wp2_with fail
    go_ret
    exact ⟨ret_int (by rw [HE.out]; rfl), B1.out⟩
  | true =>
    obtain ⟨y0, y1, y2, y3, y4, y5, y6, y7, y8⟩ := PY.out _ P1.out
    go_wp2_with fail
    refine Calls.mono (IC.out _ B1.out) ?_
    rintro e w2 ⟨rfl, hb2⟩
    have B2 : Hid (Below w.heap.size w w2) := B1.out.trans (hb2.mono B1.out.size)
    have P2 : Hid _ := PBx.below P1.out hb2
    clear hb2 y0 y1 y2 y3 y4 y5 y6 y7 y8
    by_cases hc : rc = 0
    · subst hc
      obtain ⟨y0, y1, y2, y3, y4, y5, y6, y7, y8⟩ := PY.out _ P2.out
      go_wp2_with fail
      refine Calls.mono (IP.out _) ?_
      rintro e w3 ⟨rfl, hb3⟩
      have B3 : Hid (Below w.heap.size w w3) := B2.out.trans (hb3.mono B2.out.size)
      have P3 : Hid _ := PBx.below P2.out hb3
      clear hb3 y0 y1 y2 y3 y4 y5 y6 y7 y8
      cases rp with
      | false =>
        go_wp2_with fail
        go_ret
        exact ⟨ret_int (by rw [HE.out]; rfl), B3.out⟩
      | true =>
        obtain ⟨y0, y1, y2, y3, y4, y5, y6, y7, y8⟩ := PY.out _ P3.out
        go_wp2_with fail
        refine Calls.mono (IL.out _) ?_
        rintro e w4 ⟨rfl, hb4⟩
        go_wp2_with fail
        go_ret
        exact ⟨ret_int (by rw [HE.out]; rfl), B3.out.trans (hb4.mono B3.out.size)⟩
    · have hc2 : (rc != 0) = true := by simpa using hc
      have hc3 : (rc == 0) = false := by simpa using hc
      go_wp2_with fail
      go_ret
      exact ⟨ret_int (by rw [HE.out]; simp [hc]), B2.out⟩
end Go.Proofs.YtffabehipcomfaaDoor
namespace Go.Proofs.YtffabehipcomfaaDoor
open Go.RowKit

set_option maxHeartbeats 4000000 in
theorem sameProv_same (p : Prv) (v1 v2 : Value) (w : World) (h1 : OS w v1 p.ops) (h2 : OS w v2 p.ops) (hl : p.ops.length ≤ 100000000000000000) :
    Calls Tryd.prog 10 #[prvV p v1, prvV p v2] w fun e w' => e = .returned (.bool true) ∧ Below w.heap.size w w' := by
  have AL : Hid (∀ o1 o2, Below w.heap.size w ((w.alloc o1).alloc o2)) := fun o1 o2 => ((Below.refl _ _).alloc (Nat.le_refl _) o1).alloc (by simp) o2
  have SE : Hid (∀ w1, Below w.heap.size w w1 → _) := fun w1 b => sameExpr_same w1 v1 v2 p.ops (h1.below b) (h2.below b) hl
  obtain ⟨p1, c1, hv1⟩ := h1.form
  obtain ⟨p2, c2, hv2⟩ := h2.form
  subst hv1 hv2
  obtain ⟨nm, ops, ag, ⟨pt, pb, pf, pc⟩, ck, ct⟩ := p
  simp only [prvV] at *
  clear h1 h2
  go_enter Tryd.func10, Tryd.ntmps10
  go_wp2_with (go_at_call 27; refine Calls.mono (SE.out _ (AL.out _ _)) ?_; rintro e w1 ⟨rfl, hb1⟩)
  go_ret
  exact ⟨rfl, (AL.out _ _).trans (hb1.mono (AL.out _ _).size)⟩
def zPrv : Array Value := #[.string ByteArray.empty, .slice none 0 0, .bool false, .int .i64 0, .int .i64 0, .int .i64 0, .int .i64 0, .int .i64 0, .string ByteArray.empty]
theorem zPrv_cells {w : World} {g : Nat} (h : w.heap[g]? = some (.cells zPrv 37)) : w.cell? ⟨g, 0, none⟩ = some (.string ByteArray.empty) ∧ w.cell? ⟨g, 1, none⟩ = some (.slice none 0 0) ∧ w.cell? ⟨g, 2, none⟩ = some (.bool false) ∧ w.cell? ⟨g, 3, none⟩ = some (.int .i64 0) ∧ w.cell? ⟨g, 4, none⟩ = some (.int .i64 0) ∧ w.cell? ⟨g, 5, none⟩ = some (.int .i64 0) ∧ w.cell? ⟨g, 6, none⟩ = some (.int .i64 0) ∧ w.cell? ⟨g, 7, none⟩ = some (.int .i64 0) ∧ w.cell? ⟨g, 8, none⟩ = some (.string ByteArray.empty) := by
  have q : ∀ j, w.cell? ⟨g, j, none⟩ = zPrv[j]? := fun j => cell_of_row _ _ _ _ _ _ h
  exact ⟨q 0, q 1, q 2, q 3, q 4, q 5, q 6, q 7, q 8⟩
set_option maxHeartbeats 4000000 in
theorem copyProv_any (p : Prv) (ve : Value) (w : World) (h : PS w p ve) :
    Calls Tryd.prog 13 #[prvV p ve] w fun e w' => ∃ q c, e = .returned (prvV p (.slice q p.ops.length c)) ∧ OwnG KO w' w.heap.size (.slice q p.ops.length c) p.ops ∧ Below w.heap.size w w' := by
  have AL : Hid (∀ o1 o2, Below w.heap.size w ((w.alloc o1).alloc o2)) := fun o1 o2 => ((Below.refl _ _).alloc (Nat.le_refl _) o1).alloc (by simp) o2
  have CE : Hid (∀ w1, Below w.heap.size w w1 → _) := fun w1 b => copyExpr_any ve p.ops w1 (h.os.below b) h.ln
  have PX : Hid (∀ ob, PBx ((w.alloc (.cells (prvC p ve) 37)).alloc ob) w.heap.size p ve) := fun ob => PBx.below (heap_alloc_new w (.cells (prvC p ve) 37)) ((Below.refl _ _).alloc (Nat.le_refl _) ob)
  have PY : Hid (∀ w1, PBx w1 w.heap.size p ve → _) := fun w1 h => PBx.cells h
  obtain ⟨pe, ce, hve⟩ := h.os.form
  subst hve
  obtain ⟨nm, ops, ag, ⟨pt, pb, pf, pc⟩, ck, ct⟩ := p
  simp only [prvV, prvC] at *
  clear h
  go_enter Tryd.func13, Tryd.ntmps13
  go_wp2_with fail
  refine Calls.mono (CE.out _ (AL.out _ _)) ?_
  rintro e w1 ⟨q, c, rfl, ho1, hb1⟩
  have B1 : Hid (Below w.heap.size w w1) := (AL.out _ _).trans (hb1.mono (AL.out _ _).size)
  have P1 : Hid _ := PBx.below (PX.out _) hb1
  obtain ⟨y0, y1, y2, y3, y4, y5, y6, y7, y8⟩ := PY.out _ P1.out
  have fz : ∀ o, w1.frozen? ⟨w.heap.size, o, none⟩ = false := fun o => box_frozen P1.out
  have Q1 : Hid (w1.heap[w.heap.size + 1]? = some (.cells zPrv 37)) := by
    have e := heap_alloc_new (w.alloc (.cells #[.string nm, .slice pe ops.length ce, .bool ag, .int .i64 pt, .int .i64 pb, .int .i64 pf, .int .i64 pc, .int .i64 ck, .string ct] 37)) (.cells zPrv 37)
    rw [show (w.alloc (.cells #[.string nm, .slice pe ops.length ce, .bool ag, .int .i64 pt, .int .i64 pb, .int .i64 pf, .int .i64 pc, .int .i64 ck, .string ct] 37)).heap.size = w.heap.size + 1 by simp] at e
    exact (hb1.block (w.heap.size + 1) (by simp)).trans e
  obtain ⟨z0, z1, z2, z3, z4, z5, z6, z7, z8⟩ := zPrv_cells Q1.out
  have fz2 : ∀ o, w1.frozen? ⟨w.heap.size + 1, o, none⟩ = false := fun o => box_frozen Q1.out
  have O1 : Hid (OwnG KO w1 (w.heap.size + 2) (.slice q ops.length c) ops) := ho1.low (by simp)
  clear hb1 ho1 AL CE PX PY
  go_wp2_with fail
  refine bodyPost_ret (v := .agg #[.string nm, .slice q ops.length c, .bool ag, .int .i64 pt, .int .i64 pb, .int .i64 pf, .int .i64 pc, .int .i64 ck, .string ct]) (by simp [results, Tryd.results13, go_sem, *]) rfl ?_
  refine ⟨q, c, rfl, (O1.out.low (by omega)).far (fun g hg => ?_), ?_⟩
  · have hgg := (O1.out.lt hg).1
    repeat rw [set_far (show g ≠ _ by omega)]
  · repeat' refine Below.setCell ?_ (by simp) _
    exact B1.out
end Go.Proofs.YtffabehipcomfaaDoor
namespace Go.Proofs.YtffabehipcomfaaDoor
open Go.RowKit

theorem below_alloc' {w w' : World} (h : Below w.heap.size w w') (o : Obj) : Below w.heap.size w (w'.alloc o) := h.alloc h.size o
/-- A block that was laid right ahead of a call is there behind it. -/
theorem kept_new {W wA : World} {ob : Obj} (hb : Below (W.alloc ob).heap.size (W.alloc ob) wA) : wA.heap[W.heap.size]? = some ob := (hb.block _ (by simp)).trans (heap_alloc_new W ob)
theorem kept_newD {W wA : World} {ob : Obj} (hb : Below (W.alloc ob).drew.heap.size (W.alloc ob).drew wA) : wA.heap[W.heap.size]? = some ob := (hb.block _ (by show _ < (W.alloc ob).heap.size; simp)).trans (heap_alloc_new W ob)
theorem kept_old {wA wB : World} {g : Nat} {ob : Obj} (h : wA.heap[g]? = some ob) (hb : Below wA.heap.size wA wB) : wB.heap[g]? = some ob := (hb.block _ (Array.getElem?_eq_some_iff.1 h).1).trans h
theorem PBx.cellsA {w : World} {g : Nat} {p : Prv} {ve : Value} (h : PBx w g p ve) : (∀ ob, (w.alloc ob).cell? ⟨g, 0, none⟩ = some (.string p.name)) ∧ (∀ ob, (w.alloc ob).cell? ⟨g, 1, none⟩ = some ve) ∧ (∀ ob, (w.alloc ob).cell? ⟨g, 2, none⟩ = some (.bool p.again)) ∧ (∀ ob, (w.alloc ob).cell? ⟨g, 3, none⟩ = some (.int .i64 p.pol.t)) ∧ (∀ ob, (w.alloc ob).cell? ⟨g, 4, none⟩ = some (.int .i64 p.pol.b)) ∧ (∀ ob, (w.alloc ob).cell? ⟨g, 5, none⟩ = some (.int .i64 p.pol.f)) ∧ (∀ ob, (w.alloc ob).cell? ⟨g, 6, none⟩ = some (.int .i64 p.pol.c)) ∧ (∀ ob, (w.alloc ob).cell? ⟨g, 7, none⟩ = some (.int .i64 p.ck)) ∧ (∀ ob, (w.alloc ob).cell? ⟨g, 8, none⟩ = some (.string p.ct)) := by
  have q := fun ob => PBx.cells (h.below ((Below.refl _ _).alloc (Nat.le_refl _) ob))
  exact ⟨fun ob => (q ob).1, fun ob => (q ob).2.1, fun ob => (q ob).2.2.1, fun ob => (q ob).2.2.2.1, fun ob => (q ob).2.2.2.2.1, fun ob => (q ob).2.2.2.2.2.1, fun ob => (q ob).2.2.2.2.2.2.1, fun ob => (q ob).2.2.2.2.2.2.2.1, fun ob => (q ob).2.2.2.2.2.2.2.2⟩
/-- What the law's first statement has come to: the copy of the expression, that of the provider, the box for it. -/
structure NC (w w0 wc : World) (b0 : Nat) (l : List Opn) (p : Prv) (ve : Value) : Prop where
  bl : Below w.heap.size w wc
  b2 : Below w0.heap.size w0 wc
  bx : PBx wc b0 p ve
theorem NC.next {w w0 wc wd : World} {b0 : Nat} {l : List Opn} {p : Prv} {ve : Value} (h : NC w w0 wc b0 l p ve) (b : Below wc.heap.size wc wd) : NC w w0 wd b0 l p ve :=
  ⟨h.bl.trans (b.mono h.bl.size), h.b2.trans (b.mono h.b2.size), h.bx.below b⟩
theorem NC.alloc {w w0 wc : World} {b0 : Nat} {l : List Opn} {p : Prv} {ve : Value} (h : NC w w0 wc b0 l p ve) (ob : Obj) : NC w w0 (wc.alloc ob) b0 l p ve := h.next ((Below.refl _ _).alloc (Nat.le_refl _) ob)
theorem NC.drew {w w0 wc : World} {b0 : Nat} {l : List Opn} {p : Prv} {ve : Value} (h : NC w w0 wc b0 l p ve) : NC w w0 wc.drew b0 l p ve := h.next (Below.refl _ _).drew
theorem NC.drewN {w w0 wc : World} {b0 : Nat} {l : List Opn} {p : Prv} {ve : Value} (h : NC w w0 wc b0 l p ve) (n : Nat) : NC w w0 (wc.drewN n) b0 l p ve := h.next ⟨rfl, rfl, rfl, Nat.le_refl _, fun _ _ => rfl⟩
/-- Behind the law's first statement. -/
structure NR (w w0 wc : World) (b0 : Nat) (l : List Opn) (p : Prv) (ve v1 : Value) (g : Nat) (v2 : Value) : Prop where
  nc : NC w w0 wc b0 l p ve
  ex : OS wc v1 l
  mb : PBx wc g p v2
  mo : OS wc v2 p.ops
theorem PBx_store {w : World} {g : Nat} {p : Prv} {v : Value} (h : w.heap[g]? = some (.cells zPrv 37)) : PBx (((((((((w.setCell ⟨g, 0, none⟩ (.string p.name)).setCell ⟨g, 1, none⟩ v).setCell ⟨g, 2, none⟩ (.bool p.again)).setCell ⟨g, 3, none⟩ (.int .i64 p.pol.t)).setCell ⟨g, 4, none⟩ (.int .i64 p.pol.b)).setCell ⟨g, 5, none⟩ (.int .i64 p.pol.f)).setCell ⟨g, 6, none⟩ (.int .i64 p.pol.c)).setCell ⟨g, 7, none⟩ (.int .i64 p.ck)).setCell ⟨g, 8, none⟩ (.string p.ct)) g p v := by
  have a0 : (w.setCell ⟨g, 0, none⟩ (.string p.name)).heap[g]? = some (.cells #[.string p.name, .slice none 0 0, .bool false, .int .i64 0, .int .i64 0, .int .i64 0, .int .i64 0, .int .i64 0, .string ByteArray.empty] 37) := by
    have e := heap_setCell_same w g 0 _ _ (.string p.name) h
    simpa [zPrv] using e
  have a1 : ((w.setCell ⟨g, 0, none⟩ (.string p.name)).setCell ⟨g, 1, none⟩ (v)).heap[g]? = some (.cells #[.string p.name, v, .bool false, .int .i64 0, .int .i64 0, .int .i64 0, .int .i64 0, .int .i64 0, .string ByteArray.empty] 37) := by
    have e := heap_setCell_same (w.setCell ⟨g, 0, none⟩ (.string p.name)) g 1 _ _ (v) a0
    simpa [zPrv] using e
  have a2 : (((w.setCell ⟨g, 0, none⟩ (.string p.name)).setCell ⟨g, 1, none⟩ (v)).setCell ⟨g, 2, none⟩ (.bool p.again)).heap[g]? = some (.cells #[.string p.name, v, .bool p.again, .int .i64 0, .int .i64 0, .int .i64 0, .int .i64 0, .int .i64 0, .string ByteArray.empty] 37) := by
    have e := heap_setCell_same ((w.setCell ⟨g, 0, none⟩ (.string p.name)).setCell ⟨g, 1, none⟩ (v)) g 2 _ _ (.bool p.again) a1
    simpa [zPrv] using e
  have a3 : ((((w.setCell ⟨g, 0, none⟩ (.string p.name)).setCell ⟨g, 1, none⟩ (v)).setCell ⟨g, 2, none⟩ (.bool p.again)).setCell ⟨g, 3, none⟩ (.int .i64 p.pol.t)).heap[g]? = some (.cells #[.string p.name, v, .bool p.again, .int .i64 p.pol.t, .int .i64 0, .int .i64 0, .int .i64 0, .int .i64 0, .string ByteArray.empty] 37) := by
    have e := heap_setCell_same (((w.setCell ⟨g, 0, none⟩ (.string p.name)).setCell ⟨g, 1, none⟩ (v)).setCell ⟨g, 2, none⟩ (.bool p.again)) g 3 _ _ (.int .i64 p.pol.t) a2
    simpa [zPrv] using e
  have a4 : (((((w.setCell ⟨g, 0, none⟩ (.string p.name)).setCell ⟨g, 1, none⟩ (v)).setCell ⟨g, 2, none⟩ (.bool p.again)).setCell ⟨g, 3, none⟩ (.int .i64 p.pol.t)).setCell ⟨g, 4, none⟩ (.int .i64 p.pol.b)).heap[g]? = some (.cells #[.string p.name, v, .bool p.again, .int .i64 p.pol.t, .int .i64 p.pol.b, .int .i64 0, .int .i64 0, .int .i64 0, .string ByteArray.empty] 37) := by
    have e := heap_setCell_same ((((w.setCell ⟨g, 0, none⟩ (.string p.name)).setCell ⟨g, 1, none⟩ (v)).setCell ⟨g, 2, none⟩ (.bool p.again)).setCell ⟨g, 3, none⟩ (.int .i64 p.pol.t)) g 4 _ _ (.int .i64 p.pol.b) a3
    simpa [zPrv] using e
  have a5 : ((((((w.setCell ⟨g, 0, none⟩ (.string p.name)).setCell ⟨g, 1, none⟩ (v)).setCell ⟨g, 2, none⟩ (.bool p.again)).setCell ⟨g, 3, none⟩ (.int .i64 p.pol.t)).setCell ⟨g, 4, none⟩ (.int .i64 p.pol.b)).setCell ⟨g, 5, none⟩ (.int .i64 p.pol.f)).heap[g]? = some (.cells #[.string p.name, v, .bool p.again, .int .i64 p.pol.t, .int .i64 p.pol.b, .int .i64 p.pol.f, .int .i64 0, .int .i64 0, .string ByteArray.empty] 37) := by
    have e := heap_setCell_same (((((w.setCell ⟨g, 0, none⟩ (.string p.name)).setCell ⟨g, 1, none⟩ (v)).setCell ⟨g, 2, none⟩ (.bool p.again)).setCell ⟨g, 3, none⟩ (.int .i64 p.pol.t)).setCell ⟨g, 4, none⟩ (.int .i64 p.pol.b)) g 5 _ _ (.int .i64 p.pol.f) a4
    simpa [zPrv] using e
  have a6 : (((((((w.setCell ⟨g, 0, none⟩ (.string p.name)).setCell ⟨g, 1, none⟩ (v)).setCell ⟨g, 2, none⟩ (.bool p.again)).setCell ⟨g, 3, none⟩ (.int .i64 p.pol.t)).setCell ⟨g, 4, none⟩ (.int .i64 p.pol.b)).setCell ⟨g, 5, none⟩ (.int .i64 p.pol.f)).setCell ⟨g, 6, none⟩ (.int .i64 p.pol.c)).heap[g]? = some (.cells #[.string p.name, v, .bool p.again, .int .i64 p.pol.t, .int .i64 p.pol.b, .int .i64 p.pol.f, .int .i64 p.pol.c, .int .i64 0, .string ByteArray.empty] 37) := by
    have e := heap_setCell_same ((((((w.setCell ⟨g, 0, none⟩ (.string p.name)).setCell ⟨g, 1, none⟩ (v)).setCell ⟨g, 2, none⟩ (.bool p.again)).setCell ⟨g, 3, none⟩ (.int .i64 p.pol.t)).setCell ⟨g, 4, none⟩ (.int .i64 p.pol.b)).setCell ⟨g, 5, none⟩ (.int .i64 p.pol.f)) g 6 _ _ (.int .i64 p.pol.c) a5
    simpa [zPrv] using e
  have a7 : ((((((((w.setCell ⟨g, 0, none⟩ (.string p.name)).setCell ⟨g, 1, none⟩ (v)).setCell ⟨g, 2, none⟩ (.bool p.again)).setCell ⟨g, 3, none⟩ (.int .i64 p.pol.t)).setCell ⟨g, 4, none⟩ (.int .i64 p.pol.b)).setCell ⟨g, 5, none⟩ (.int .i64 p.pol.f)).setCell ⟨g, 6, none⟩ (.int .i64 p.pol.c)).setCell ⟨g, 7, none⟩ (.int .i64 p.ck)).heap[g]? = some (.cells #[.string p.name, v, .bool p.again, .int .i64 p.pol.t, .int .i64 p.pol.b, .int .i64 p.pol.f, .int .i64 p.pol.c, .int .i64 p.ck, .string ByteArray.empty] 37) := by
    have e := heap_setCell_same (((((((w.setCell ⟨g, 0, none⟩ (.string p.name)).setCell ⟨g, 1, none⟩ (v)).setCell ⟨g, 2, none⟩ (.bool p.again)).setCell ⟨g, 3, none⟩ (.int .i64 p.pol.t)).setCell ⟨g, 4, none⟩ (.int .i64 p.pol.b)).setCell ⟨g, 5, none⟩ (.int .i64 p.pol.f)).setCell ⟨g, 6, none⟩ (.int .i64 p.pol.c)) g 7 _ _ (.int .i64 p.ck) a6
    simpa [zPrv] using e
  have a8 : (((((((((w.setCell ⟨g, 0, none⟩ (.string p.name)).setCell ⟨g, 1, none⟩ (v)).setCell ⟨g, 2, none⟩ (.bool p.again)).setCell ⟨g, 3, none⟩ (.int .i64 p.pol.t)).setCell ⟨g, 4, none⟩ (.int .i64 p.pol.b)).setCell ⟨g, 5, none⟩ (.int .i64 p.pol.f)).setCell ⟨g, 6, none⟩ (.int .i64 p.pol.c)).setCell ⟨g, 7, none⟩ (.int .i64 p.ck)).setCell ⟨g, 8, none⟩ (.string p.ct)).heap[g]? = some (.cells #[.string p.name, v, .bool p.again, .int .i64 p.pol.t, .int .i64 p.pol.b, .int .i64 p.pol.f, .int .i64 p.pol.c, .int .i64 p.ck, .string p.ct] 37) := by
    have e := heap_setCell_same ((((((((w.setCell ⟨g, 0, none⟩ (.string p.name)).setCell ⟨g, 1, none⟩ (v)).setCell ⟨g, 2, none⟩ (.bool p.again)).setCell ⟨g, 3, none⟩ (.int .i64 p.pol.t)).setCell ⟨g, 4, none⟩ (.int .i64 p.pol.b)).setCell ⟨g, 5, none⟩ (.int .i64 p.pol.f)).setCell ⟨g, 6, none⟩ (.int .i64 p.pol.c)).setCell ⟨g, 7, none⟩ (.int .i64 p.ck)) g 8 _ _ (.string p.ct) a7
    simpa [zPrv] using e
  exact a8
theorem below9 (w : World) (g : Nat) (u0 u1 u2 u3 u4 u5 u6 u7 u8 : Value) : Below g w (((((((((w.setCell ⟨g, 0, none⟩ u0).setCell ⟨g, 1, none⟩ u1).setCell ⟨g, 2, none⟩ u2).setCell ⟨g, 3, none⟩ u3).setCell ⟨g, 4, none⟩ u4).setCell ⟨g, 5, none⟩ u5).setCell ⟨g, 6, none⟩ u6).setCell ⟨g, 7, none⟩ u7).setCell ⟨g, 8, none⟩ u8) := by
  have s : ∀ (W : World) (o : Nat) (u : Value), Below g w W → Below g w (W.setCell ⟨g, o, none⟩ u) := fun W o u h => h.setCell (p := ⟨g, o, none⟩) (Nat.le_refl _) u
  exact (s _ _ _ (s _ _ _ (s _ _ _ (s _ _ _ (s _ _ _ (s _ _ _ (s _ _ _ (s _ _ _ (s _ _ _ (Below.refl _ _))))))))))
theorem NR.fin_alloc {w w0 wB : World} {b0 : Nat} {l : List Opn} {p : Prv} {ve vA vB : Value} (N : NC w w0 wB b0 l p ve) (EA : OS wB vA l) (EB : OS wB vB p.ops) : NR w w0 (wB.alloc (.cells (prvC p vB) 37)) b0 l p ve vA wB.heap.size vB :=
  ⟨N.alloc _, EA.below ((Below.refl _ _).alloc (Nat.le_refl _) _), heap_alloc_new _ _, EB.below ((Below.refl _ _).alloc (Nat.le_refl _) _)⟩
theorem NR.fin_set {w w0 wB wc : World} {b0 g : Nat} {l : List Opn} {p : Prv} {ve vA vB : Value} (N : NC w w0 wB b0 l p ve) (EA : OS wB vA l) (EB : OS wB vB p.ops) (hw : w.heap.size ≤ w0.heap.size) (hb0 : b0 < w0.heap.size) (hg : w0.heap.size ≤ g)
    (hA : ∀ x, vA.ownBlock = some x → x ≠ g) (hB : ∀ x, vB.ownBlock = some x → x ≠ g) (B : Below g wB wc) (far : ∀ x, x ≠ g → wc.heap[x]? = wB.heap[x]?) (mb : PBx wc g p vB) : NR w w0 wc b0 l p ve vA g vB :=
  ⟨⟨N.bl.trans (B.mono (by omega)), N.b2.trans (B.mono hg), (far b0 (by omega)).trans N.bx⟩, EA.blk B.size (fun x hx _ => far x (hA x hx)), mb, EB.blk B.size (fun x hx _ => far x (hB x hx))⟩
theorem NR.next {w w0 wc wd : World} {b0 g : Nat} {l : List Opn} {p : Prv} {ve v1 v2 : Value} (h : NR w w0 wc b0 l p ve v1 g v2) (b : Below wc.heap.size wc wd) : NR w w0 wd b0 l p ve v1 g v2 :=
  ⟨h.nc.next b, h.ex.below b, h.mb.below b, h.mo.below b⟩
theorem NR.drew {w w0 wc : World} {b0 g : Nat} {l : List Opn} {p : Prv} {ve v1 v2 : Value} (h : NR w w0 wc b0 l p ve v1 g v2) : NR w w0 wc.drew b0 l p ve v1 g v2 := h.next (Below.refl _ _).drew
end Go.Proofs.YtffabehipcomfaaDoor
