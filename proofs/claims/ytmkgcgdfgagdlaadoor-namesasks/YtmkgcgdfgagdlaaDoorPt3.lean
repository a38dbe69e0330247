/- Names: providers: CheckProvider, both sides; copies, comparisons. -/
import Derived.Test.YtmkgcgdfgagdlaaDoorPt2
import Derived.Test.YtmkgcgdfgagdlaaDoorPu4
namespace Go.Proofs.YtmkgcgdfgagdlaaDoor
open Go.RowKit

structure Prv where
  name : ByteArray
  ops : List Opn
  again : Bool
  pol : Pol
  ck : Int
  ct : ByteArray
def prvV (p : Prv) (ve : Value) : Value := .agg #[.string p.name, ve, .bool p.again, .int .i64 p.pol.t, .int .i64 p.pol.b, .int .i64 p.pol.f, .int .i64 p.pol.c, .int .i64 p.ck, .string p.ct]
def prvC (p : Prv) (ve : Value) : Array Value := #[.string p.name, ve, .bool p.again, .int .i64 p.pol.t, .int .i64 p.pol.b, .int .i64 p.pol.f, .int .i64 p.pol.c, .int .i64 p.ck, .string p.ct]
/-- What is wrong with a provider. -/
def prvE (p : Prv) : Int := if nameB p.name = true then (if chkO p.ops = 0 then (if polB p.pol = true then cloE p.ck p.ct else 50) else chkO p.ops) else 2
/-- A box with a provider. -/
def PBx (w : World) (g : Nat) (p : Prv) (ve : Value) : Prop := w.heap[g]? = some (.cells (prvC p ve) 29)
theorem PBx.below {w w' : World} {g : Nat} {p : Prv} {ve : Value} (h : PBx w g p ve) (b : Below w.heap.size w w') : PBx w' g p ve := (b.block g (Array.getElem?_eq_some_iff.1 h).1).trans h
theorem PBx.cells {w : World} {g : Nat} {p : Prv} {ve : Value} (h : PBx w g p ve) : w.cell? ⟨g, 0, none⟩ = some (.string p.name) ∧ w.cell? ⟨g, 1, none⟩ = some ve ∧ w.cell? ⟨g, 2, none⟩ = some (.bool p.again) ∧ w.cell? ⟨g, 3, none⟩ = some (.int .i64 p.pol.t) ∧ w.cell? ⟨g, 4, none⟩ = some (.int .i64 p.pol.b) ∧ w.cell? ⟨g, 5, none⟩ = some (.int .i64 p.pol.f) ∧ w.cell? ⟨g, 6, none⟩ = some (.int .i64 p.pol.c) ∧ w.cell? ⟨g, 7, none⟩ = some (.int .i64 p.ck) ∧ w.cell? ⟨g, 8, none⟩ = some (.string p.ct) := by
  have q : ∀ j, w.cell? ⟨g, j, none⟩ = (prvC p ve)[j]? := fun j => cell_of_row _ _ _ _ _ _ h
  exact ⟨q 0, q 1, q 2, q 3, q 4, q 5, q 6, q 7, q 8⟩
/-- A provider, its expression read. -/
structure PS (w : World) (p : Prv) (ve : Value) : Prop where
  os : OS w ve p.ops
  tx : ∀ c ∈ p.ops, c.text.size ≤ maxLen
  nm : p.name.size ≤ maxLen
  ln : p.ops.length * 40 ≤ 140737488355328
theorem PS.below {w w' : World} {p : Prv} {ve : Value} (h : PS w p ve) (b : Below w.heap.size w w') : PS w' p ve := ⟨h.os.below b, h.tx, h.nm, h.ln⟩
set_option maxHeartbeats 4000000 in
theorem checkProv_any (p : Prv) (ve : Value) (w : World) (h : PS w p ve) (hv : NV w) : Calls Tryd.prog 13 #[prvV p ve] w fun e w' => e = .returned (.int .i64 (prvE p)) ∧ Below w.heap.size w w' := by
  have HE : Hid (prvE p = if nameB p.name = true then (if chkO p.ops = 0 then (if polB p.pol = true then cloE p.ck p.ct else 50) else chkO p.ops) else 2) := rfl
  have AL : Hid (∀ ob, Below w.heap.size w (w.alloc ob)) := fun ob => (Below.refl _ _).alloc (Nat.le_refl _) ob
  have IN : Hid (∀ w1, Below w.heap.size w w1 → Calls Tryd.prog 50 #[.string p.name] w1 fun e w2 => e = .returned (.bool (nameB p.name)) ∧ Below w1.heap.size w1 w2) := fun w1 b => Calls.mono (isName_any p.name w1 h.nm (hv.below b).keys) (by rintro e w2 ⟨rfl, hb⟩; exact ⟨rfl, hb ▸ Below.refl _ _⟩)
  have IC : Hid (∀ w1, Below w.heap.size w w1 → _) := fun w1 b => check_any ve p.ops w1 (h.os.below b) h.tx (hv.below b) (by have := h.ln; omega)
  have IP : Hid (∀ w1 : World, Calls Tryd.prog 51 #[.agg #[.int .i64 p.pol.t, .int .i64 p.pol.b, .int .i64 p.pol.f, .int .i64 p.pol.c]] w1 fun e w' => e = .returned (.bool (polB p.pol)) ∧ Below w1.heap.size w1 w') := fun w1 => isPolicy_any p.pol w1
  have IL : Hid (∀ w1 : World, _) := fun w1 => checkCloser_any p.ck p.ct w1
  have PX : Hid (PBx (w.alloc (.cells (prvC p ve) 29)) w.heap.size p ve) := heap_alloc_new _ _
  have PY : Hid (∀ w1, PBx w1 w.heap.size p ve → _) := fun w1 h => PBx.cells h
  obtain ⟨pe, ce, hve⟩ := h.os.form
  generalize prvE p = r at *
  generalize chkO p.ops = rc at *
  generalize polB p.pol = rp at *
  generalize cloE p.ck p.ct = rl at *
  generalize nameB p.name = rn at *
  subst hve
  obtain ⟨nm, ops, ag, ⟨pt, pb, pf, pc⟩, ck, ct⟩ := p
  simp only [prvV, prvC] at *
  clear h hv
  go_enter Tryd.func13, Tryd.ntmps13
  go_wp2_with fail
  refine Calls.mono (IN.out _ (AL.out _)) ?_
  rintro e w1 ⟨rfl, hb1⟩
  have B1 : Hid (Below w.heap.size w w1) := (AL.out _).trans (hb1.mono (AL.out _).size)
  have P1 : Hid _ := PBx.below PX.out hb1
  clear hb1
  cases rn with
  | false =>
    go_wp2_with fail
    go_ret
    exact ⟨ret_int (by rw [HE.out]; rfl), B1.out⟩
  | true =>
    obtain ⟨y0, y1, y2, y3, y4, y5, y6, y7, y8⟩ := PY.out _ P1.out
    go_wp2_with fail
    refine Calls.mono (IC.out _ B1.out) ?_
    rintro e w2 ⟨rfl, hb2⟩
    have B2 : Hid (Below w.heap.size w w2) := B1.out.trans (hb2.mono B1.out.size)
    have P2 : Hid _ := PBx.below P1.out hb2
    clear hb2 y0 y1 y2 y3 y4 y5 y6 y7 y8
    by_cases hc : rc = 0
    · subst hc
      obtain ⟨y0, y1, y2, y3, y4, y5, y6, y7, y8⟩ := PY.out _ P2.out
      go_wp2_with fail
      refine Calls.mono (IP.out _) ?_
      rintro e w3 ⟨rfl, hb3⟩
      have B3 : Hid (Below w.heap.size w w3) := B2.out.trans (hb3.mono B2.out.size)
      have P3 : Hid _ := PBx.below P2.out hb3
      clear hb3 y0 y1 y2 y3 y4 y5 y6 y7 y8
      cases rp with
      | false =>
        go_wp2_with fail
        go_ret
        exact ⟨ret_int (by rw [HE.out]; rfl), B3.out⟩
      | true =>
        obtain ⟨y0, y1, y2, y3, y4, y5, y6, y7, y8⟩ := PY.out _ P3.out
        go_wp2_with fail
        refine Calls.mono (IL.out _) ?_
        rintro e w4 ⟨rfl, hb4⟩
        go_wp2_with fail
        go_ret
        exact ⟨ret_int (by rw [HE.out]; rfl), B3.out.trans (hb4.mono B3.out.size)⟩
    · have hc2 : (rc != 0) = true := by simpa using hc
      have hc3 : (rc == 0) = false := by simpa using hc
      go_wp2_with fail
      go_ret
      exact ⟨ret_int (by rw [HE.out]; simp [hc]), B2.out⟩
set_option maxHeartbeats 4000000 in
theorem rcheckProv_any (p : Prv) (ve : Value) (w : World) (h : PS w p ve) : Calls Tryd.prog 14 #[prvV p ve] w fun e w' => e = .returned (.int .i64 (prvE p)) ∧ Below w.heap.size w w' := by
  have HE : Hid (prvE p = if nameB p.name = true then (if chkO p.ops = 0 then (if polB p.pol = true then cloE p.ck p.ct else 50) else chkO p.ops) else 2) := rfl
  have AL : Hid (∀ ob, Below w.heap.size w (w.alloc ob)) := fun ob => (Below.refl _ _).alloc (Nat.le_refl _) ob
  have IN : Hid (∀ w1, Below w.heap.size w w1 → Calls Tryd.prog 53 #[.string p.name] w1 fun e w2 => e = .returned (.bool (nameB p.name)) ∧ Below w1.heap.size w1 w2) := fun w1 b => Calls.mono (baseName_any p.name w1 h.nm) (by rintro e w2 ⟨rfl, hb⟩; exact ⟨rfl, hb⟩)
  have IC : Hid (∀ w1, Below w.heap.size w w1 → _) := fun w1 b => rcheck_any ve p.ops w1 (h.os.below b) h.tx (by have := h.ln; omega)
  have IP : Hid (∀ w1 : World, Calls Tryd.prog 54 #[.agg #[.int .i64 p.pol.t, .int .i64 p.pol.b, .int .i64 p.pol.f, .int .i64 p.pol.c]] w1 fun e w' => e = .returned (.bool (polB p.pol)) ∧ Below w1.heap.size w1 w') := fun w1 => goodPolicy_any p.pol w1
  have IL : Hid (∀ w1 : World, _) := fun w1 => closerError_any p.ck p.ct w1
  have PX : Hid (PBx (w.alloc (.cells (prvC p ve) 29)) w.heap.size p ve) := heap_alloc_new _ _
  have PY : Hid (∀ w1, PBx w1 w.heap.size p ve → _) := fun w1 h => PBx.cells h
  obtain ⟨pe, ce, hve⟩ := h.os.form
  generalize prvE p = r at *
  generalize chkO p.ops = rc at *
  generalize polB p.pol = rp at *
  generalize cloE p.ck p.ct = rl at *
  generalize nameB p.name = rn at *
  subst hve
  obtain ⟨nm, ops, ag, ⟨pt, pb, pf, pc⟩, ck, ct⟩ := p
  simp only [prvV, prvC] at *
  clear h
  go_enter Tryd.func14, Tryd.ntmps14
  go_wp2_with fail
  refine Calls.mono (IN.out _ (AL.out _)) ?_
  rintro e w1 ⟨rfl, hb1⟩
  have B1 : Hid (Below w.heap.size w w1) := (AL.out _).trans (hb1.mono (AL.out _).size)
  have P1 : Hid _ := PBx.below PX.out hb1
  clear hb1
  cases rn with
  | false =>
    go_wp2_with fail
    go_ret
    exact ⟨ret_int (by rw [HE.out]; rfl), B1.out⟩
  | true =>
    obtain ⟨y0, y1, y2, y3, y4, y5, y6, y7, y8⟩ := PY.out _ P1.out
    go_wp2_with fail
    refine Calls.mono (IC.out _ B1.out) ?_
    rintro e w2 ⟨rfl, hb2⟩
    have B2 : Hid (Below w.heap.size w w2) := B1.out.trans (hb2.mono B1.out.size)
    have P2 : Hid _ := PBx.below P1.out hb2
    clear hb2 y0 y1 y2 y3 y4 y5 y6 y7 y8
    by_cases hc : rc = 0
    · subst hc
      obtain ⟨y0, y1, y2, y3, y4, y5, y6, y7, y8⟩ := PY.out _ P2.out
      go_wp2_with fail
      refine Calls.mono (IP.out _) ?_
      rintro e w3 ⟨rfl, hb3⟩
      have B3 : Hid (Below w.heap.size w w3) := B2.out.trans (hb3.mono B2.out.size)
      have P3 : Hid _ := PBx.below P2.out hb3
      clear hb3 y0 y1 y2 y3 y4 y5 y6 y7 y8
      cases rp with
      | false =>
        go_wp2_with fail
        go_ret
        exact ⟨ret_int (by rw [HE.out]; rfl), B3.out⟩
      | true =>
        obtain ⟨y0, y1, y2, y3, y4, y5, y6, y7, y8⟩ := PY.out _ P3.out
        go_wp2_with fail
        refine Calls.mono (IL.out _) ?_
        rintro e w4 ⟨rfl, hb4⟩
        go_wp2_with fail
        go_ret
        exact ⟨ret_int (by rw [HE.out]; rfl), B3.out.trans (hb4.mono B3.out.size)⟩
    · have hc2 : (rc != 0) = true := by simpa using hc
      have hc3 : (rc == 0) = false := by simpa using hc
      go_wp2_with fail
      go_ret
      exact ⟨ret_int (by rw [HE.out]; simp [hc]), B2.out⟩
end Go.Proofs.YtmkgcgdfgagdlaaDoor
