/- Names: providers: copies, comparisons. -/
import Derived.Test.YthmppnmmlblbhaaDoorPt2
import Derived.Test.YthmppnmmlblbhaaDoorPu4
namespace Go.Proofs.YthmppnmmlblbhaaDoor
open Go.RowKit

structure Prv where
  name : ByteArray
  ops : List Opn
  again : Bool
  pol : Pol
  ck : Int
  ct : ByteArray
def prvV (p : Prv) (ve : Value) : Value := .agg #[.string p.name, ve, .bool p.again, .int .i64 p.pol.t, .int .i64 p.pol.b, .int .i64 p.pol.f, .int .i64 p.pol.c, .int .i64 p.ck, .string p.ct]
def prvC (p : Prv) (ve : Value) : Array Value := #[.string p.name, ve, .bool p.again, .int .i64 p.pol.t, .int .i64 p.pol.b, .int .i64 p.pol.f, .int .i64 p.pol.c, .int .i64 p.ck, .string p.ct]
/-- What is wrong with a provider. -/
def prvE (p : Prv) : Int := if nameB p.name = true then (if chkO p.ops = 0 then (if polB p.pol = true then cloE p.ck p.ct else 50) else chkO p.ops) else 2
/-- A box with a provider. -/
def PBx (w : World) (g : Nat) (p : Prv) (ve : Value) : Prop := w.heap[g]? = some (.cells (prvC p ve) 60)
theorem PBx.below {w w' : World} {g : Nat} {p : Prv} {ve : Value} (h : PBx w g p ve) (b : Below w.heap.size w w') : PBx w' g p ve := (b.block g (Array.getElem?_eq_some_iff.1 h).1).trans h
theorem PBx.cells {w : World} {g : Nat} {p : Prv} {ve : Value} (h : PBx w g p ve) : w.cell? ⟨g, 0, none⟩ = some (.string p.name) ∧ w.cell? ⟨g, 1, none⟩ = some ve ∧ w.cell? ⟨g, 2, none⟩ = some (.bool p.again) ∧ w.cell? ⟨g, 3, none⟩ = some (.int .i64 p.pol.t) ∧ w.cell? ⟨g, 4, none⟩ = some (.int .i64 p.pol.b) ∧ w.cell? ⟨g, 5, none⟩ = some (.int .i64 p.pol.f) ∧ w.cell? ⟨g, 6, none⟩ = some (.int .i64 p.pol.c) ∧ w.cell? ⟨g, 7, none⟩ = some (.int .i64 p.ck) ∧ w.cell? ⟨g, 8, none⟩ = some (.string p.ct) := by
  have q : ∀ j, w.cell? ⟨g, j, none⟩ = (prvC p ve)[j]? := fun j => cell_of_row _ _ _ _ _ _ h
  exact ⟨q 0, q 1, q 2, q 3, q 4, q 5, q 6, q 7, q 8⟩
/-- A provider, its expression read. -/
structure PS (w : World) (p : Prv) (ve : Value) : Prop where
  os : OS w ve p.ops
  tx : ∀ c ∈ p.ops, c.text.size ≤ maxLen
  nm : p.name.size ≤ maxLen
  ln : p.ops.length * 40 ≤ 140737488355328
theorem PS.below {w w' : World} {p : Prv} {ve : Value} (h : PS w p ve) (b : Below w.heap.size w w') : PS w' p ve := ⟨h.os.below b, h.tx, h.nm, h.ln⟩
set_option maxHeartbeats 4000000 in
theorem checkProv_any (p : Prv) (ve : Value) (w : World) (h : PS w p ve) (hv : NV w) : Calls Tryd.prog 39 #[prvV p ve] w fun e w' => e = .returned (.int .i64 (prvE p)) ∧ Below w.heap.size w w' := by
  have HE : Hid (prvE p = if nameB p.name = true then (if chkO p.ops = 0 then (if polB p.pol = true then cloE p.ck p.ct else 50) else chkO p.ops) else 2) := rfl
  have AL : Hid (∀ ob, Below w.heap.size w (w.alloc ob)) := fun ob => (Below.refl _ _).alloc (Nat.le_refl _) ob
  have IN : Hid (∀ w1, Below w.heap.size w w1 → Calls Tryd.prog 56 #[.string p.name] w1 fun e w2 => e = .returned (.bool (nameB p.name)) ∧ Below w1.heap.size w1 w2) := fun w1 b => Calls.mono (isName_any p.name w1 h.nm (hv.below b).keys) (by rintro e w2 ⟨rfl, hb⟩; exact ⟨rfl, hb ▸ Below.refl _ _⟩)
  have IC : Hid (∀ w1, Below w.heap.size w w1 → _) := fun w1 b => check_any ve p.ops w1 (h.os.below b) h.tx (hv.below b) (by have := h.ln; omega)
  have IP : Hid (∀ w1 : World, Calls Tryd.prog 69 #[.agg #[.int .i64 p.pol.t, .int .i64 p.pol.b, .int .i64 p.pol.f, .int .i64 p.pol.c]] w1 fun e w' => e = .returned (.bool (polB p.pol)) ∧ Below w1.heap.size w1 w') := fun w1 => isPolicy_any p.pol w1
  have IL : Hid (∀ w1 : World, _) := fun w1 => checkCloser_any p.ck p.ct w1
  have PX : Hid (PBx (w.alloc (.cells (prvC p ve) 60)) w.heap.size p ve) := heap_alloc_new _ _
  have PY : Hid (∀ w1, PBx w1 w.heap.size p ve → _) := fun w1 h => PBx.cells h
  obtain ⟨pe, ce, hve⟩ := h.os.form
  generalize prvE p = r at *
  generalize chkO p.ops = rc at *
  generalize polB p.pol = rp at *
  generalize cloE p.ck p.ct = rl at *
  generalize nameB p.name = rn at *
  subst hve
  obtain ⟨nm, ops, ag, ⟨pt, pb, pf, pc⟩, ck, ct⟩ := p
  simp only [prvV, prvC] at *
  clear h hv
  go_enter Tryd.func39, Tryd.ntmps39
  go_wp2_with fail
  refine Calls.mono (IN.out _ (AL.out _)) ?_
  rintro e w1 ⟨rfl, hb1⟩
  have B1 : Hid (Below w.heap.size w w1) := (AL.out _).trans (hb1.mono (AL.out _).size)
  have P1 : Hid _ := PBx.below PX.out hb1
  clear hb1
  cases rn with
  | false =>
    go_wp2_with fail
    go_ret
    exact ⟨ret_int (by rw [HE.out]; rfl), B1.out⟩
  | true =>
    obtain ⟨y0, y1, y2, y3, y4, y5, y6, y7, y8⟩ := PY.out _ P1.out
    go_wp2_with fail
    refine Calls.mono (IC.out _ B1.out) ?_
    rintro e w2 ⟨rfl, hb2⟩
    have B2 : Hid (Below w.heap.size w w2) := B1.out.trans (hb2.mono B1.out.size)
    have P2 : Hid _ := PBx.below P1.out hb2
    clear hb2 y0 y1 y2 y3 y4 y5 y6 y7 y8
    by_cases hc : rc = 0
    · subst hc
      obtain ⟨y0, y1, y2, y3, y4, y5, y6, y7, y8⟩ := PY.out _ P2.out
      go_wp2_with fail
      refine Calls.mono (IP.out _) ?_
      rintro e w3 ⟨rfl, hb3⟩
      have B3 : Hid (Below w.heap.size w w3) := B2.out.trans (hb3.mono B2.out.size)
      have P3 : Hid _ := PBx.below P2.out hb3
      clear hb3 y0 y1 y2 y3 y4 y5 y6 y7 y8
      cases rp with
      | false =>
        go_wp2_with fail
        go_ret
        exact ⟨ret_int (by rw [HE.out]; rfl), B3.out⟩
      | true =>
        obtain ⟨y0, y1, y2, y3, y4, y5, y6, y7, y8⟩ := PY.out _ P3.out
        go_wp2_with fail
        refine Calls.mono (IL.out _) ?_
        rintro e w4 ⟨rfl, hb4⟩
        go_wp2_with fail
        go_ret
        exact ⟨ret_int (by rw [HE.out]; rfl), B3.out.trans (hb4.mono B3.out.size)⟩
    · have hc2 : (rc != 0) = true := by simpa using hc
      have hc3 : (rc == 0) = false := by simpa using hc
      go_wp2_with fail
      go_ret
      exact ⟨ret_int (by rw [HE.out]; simp [hc]), B2.out⟩
set_option maxHeartbeats 4000000 in
theorem rcheckProv_any (p : Prv) (ve : Value) (w : World) (h : PS w p ve) : Calls Tryd.prog 42 #[prvV p ve] w fun e w' => e = .returned (.int .i64 (prvE p)) ∧ Below w.heap.size w w' := by
  have HE : Hid (prvE p = if nameB p.name = true then (if chkO p.ops = 0 then (if polB p.pol = true then cloE p.ck p.ct else 50) else chkO p.ops) else 2) := rfl
  have AL : Hid (∀ ob, Below w.heap.size w (w.alloc ob)) := fun ob => (Below.refl _ _).alloc (Nat.le_refl _) ob
  have IN : Hid (∀ w1, Below w.heap.size w w1 → Calls Tryd.prog 58 #[.string p.name] w1 fun e w2 => e = .returned (.bool (nameB p.name)) ∧ Below w1.heap.size w1 w2) := fun w1 b => Calls.mono (baseName_any p.name w1 h.nm) (by rintro e w2 ⟨rfl, hb⟩; exact ⟨rfl, hb⟩)
  have IC : Hid (∀ w1, Below w.heap.size w w1 → _) := fun w1 b => rcheck_any ve p.ops w1 (h.os.below b) h.tx (by have := h.ln; omega)
  have IP : Hid (∀ w1 : World, Calls Tryd.prog 71 #[.agg #[.int .i64 p.pol.t, .int .i64 p.pol.b, .int .i64 p.pol.f, .int .i64 p.pol.c]] w1 fun e w' => e = .returned (.bool (polB p.pol)) ∧ Below w1.heap.size w1 w') := fun w1 => goodPolicy_any p.pol w1
  have IL : Hid (∀ w1 : World, _) := fun w1 => closerError_any p.ck p.ct w1
  have PX : Hid (PBx (w.alloc (.cells (prvC p ve) 60)) w.heap.size p ve) := heap_alloc_new _ _
  have PY : Hid (∀ w1, PBx w1 w.heap.size p ve → _) := fun w1 h => PBx.cells h
  obtain ⟨pe, ce, hve⟩ := h.os.form
  generalize prvE p = r at *
  generalize chkO p.ops = rc at *
  generalize polB p.pol = rp at *
  generalize cloE p.ck p.ct = rl at *
  generalize nameB p.name = rn at *
  subst hve
  obtain ⟨nm, ops, ag, ⟨pt, pb, pf, pc⟩, ck, ct⟩ := p
  simp only [prvV, prvC] at *
  clear h
  go_enter Tryd.func42, Tryd.ntmps42
  go_wp2_with fail
  refine Calls.mono (IN.out _ (AL.out _)) ?_
  rintro e w1 ⟨rfl, hb1⟩
  have B1 : Hid (Below w.heap.size w w1) := (AL.out _).trans (hb1.mono (AL.out _).size)
  have P1 : Hid _ := PBx.below PX.out hb1
  clear hb1
  cases rn with
  | false =>
    go_wp2_with fail
    go_ret
    exact ⟨ret_int (by rw [HE.out]; rfl), B1.out⟩
  | true =>
    obtain ⟨y0, y1, y2, y3, y4, y5, y6, y7, y8⟩ := PY.out _ P1.out
    go_wp2_with fail
    refine Calls.mono (IC.out _ B1.out) ?_
    rintro e w2 ⟨rfl, hb2⟩
    have B2 : Hid (Below w.heap.size w w2) := B1.out.trans (hb2.mono B1.out.size)
    have P2 : Hid _ := PBx.below P1.out hb2
    clear hb2 y0 y1 y2 y3 y4 y5 y6 y7 y8
    by_cases hc : rc = 0
    · subst hc
      obtain ⟨y0, y1, y2, y3, y4, y5, y6, y7, y8⟩ := PY.out _ P2.out
      go_wp2_with fail
      refine Calls.mono (IP.out _) ?_
      rintro e w3 ⟨rfl, hb3⟩
      have B3 : Hid (Below w.heap.size w w3) := B2.out.trans (hb3.mono B2.out.size)
      have P3 : Hid _ := PBx.below P2.out hb3
      clear hb3 y0 y1 y2 y3 y4 y5 y6 y7 y8
      cases rp with
      | false =>
        go_wp2_with fail
        go_ret
        exact ⟨ret_int (by rw [HE.out]; rfl), B3.out⟩
      | true =>
        obtain ⟨y0, y1, y2, y3, y4, y5, y6, y7, y8⟩ := PY.out _ P3.out
        go_wp2_with fail
        refine Calls.mono (IL.out _) ?_
        rintro e w4 ⟨rfl, hb4⟩
        go_wp2_with fail
        go_ret
        exact ⟨ret_int (by rw [HE.out]; rfl), B3.out.trans (hb4.mono B3.out.size)⟩
    · have hc2 : (rc != 0) = true := by simpa using hc
      have hc3 : (rc == 0) = false := by simpa using hc
      go_wp2_with fail
      go_ret
      exact ⟨ret_int (by rw [HE.out]; simp [hc]), B2.out⟩
end Go.Proofs.YthmppnmmlblbhaaDoor
namespace Go.Proofs.YthmppnmmlblbhaaDoor
open Go.RowKit

set_option maxHeartbeats 4000000 in
theorem sameProv_same (p : Prv) (v1 v2 : Value) (w : World) (h1 : OS w v1 p.ops) (h2 : OS w v2 p.ops) (hl : p.ops.length ≤ 100000000000000000) :
    Calls Tryd.prog 49 #[prvV p v1, prvV p v2] w fun e w' => e = .returned (.bool true) ∧ Below w.heap.size w w' := by
  have AL : Hid (∀ o1 o2, Below w.heap.size w ((w.alloc o1).alloc o2)) := fun o1 o2 => ((Below.refl _ _).alloc (Nat.le_refl _) o1).alloc (by simp) o2
  have SE : Hid (∀ w1, Below w.heap.size w w1 → _) := fun w1 b => sameExpr_same w1 v1 v2 p.ops (h1.below b) (h2.below b) hl
  obtain ⟨p1, c1, hv1⟩ := h1.form
  obtain ⟨p2, c2, hv2⟩ := h2.form
  subst hv1 hv2
  obtain ⟨nm, ops, ag, ⟨pt, pb, pf, pc⟩, ck, ct⟩ := p
  simp only [prvV] at *
  clear h1 h2
  go_enter Tryd.func49, Tryd.ntmps49
  go_wp2_with (go_at_call 22; refine Calls.mono (SE.out _ (AL.out _ _)) ?_; rintro e w1 ⟨rfl, hb1⟩)
  go_ret
  exact ⟨rfl, (AL.out _ _).trans (hb1.mono (AL.out _ _).size)⟩
def zPrv : Array Value := #[.string ByteArray.empty, .slice none 0 0, .bool false, .int .i64 0, .int .i64 0, .int .i64 0, .int .i64 0, .int .i64 0, .string ByteArray.empty]
theorem zPrv_cells {w : World} {g : Nat} (h : w.heap[g]? = some (.cells zPrv 60)) : w.cell? ⟨g, 0, none⟩ = some (.string ByteArray.empty) ∧ w.cell? ⟨g, 1, none⟩ = some (.slice none 0 0) ∧ w.cell? ⟨g, 2, none⟩ = some (.bool false) ∧ w.cell? ⟨g, 3, none⟩ = some (.int .i64 0) ∧ w.cell? ⟨g, 4, none⟩ = some (.int .i64 0) ∧ w.cell? ⟨g, 5, none⟩ = some (.int .i64 0) ∧ w.cell? ⟨g, 6, none⟩ = some (.int .i64 0) ∧ w.cell? ⟨g, 7, none⟩ = some (.int .i64 0) ∧ w.cell? ⟨g, 8, none⟩ = some (.string ByteArray.empty) := by
  have q : ∀ j, w.cell? ⟨g, j, none⟩ = zPrv[j]? := fun j => cell_of_row _ _ _ _ _ _ h
  exact ⟨q 0, q 1, q 2, q 3, q 4, q 5, q 6, q 7, q 8⟩
set_option maxHeartbeats 4000000 in
theorem copyProv_any (p : Prv) (ve : Value) (w : World) (h : PS w p ve) :
    Calls Tryd.prog 38 #[prvV p ve] w fun e w' => ∃ q c, e = .returned (prvV p (.slice q p.ops.length c)) ∧ OwnG KO w' w.heap.size (.slice q p.ops.length c) p.ops ∧ Below w.heap.size w w' := by
  have AL : Hid (∀ o1 o2, Below w.heap.size w ((w.alloc o1).alloc o2)) := fun o1 o2 => ((Below.refl _ _).alloc (Nat.le_refl _) o1).alloc (by simp) o2
  have CE : Hid (∀ w1, Below w.heap.size w w1 → _) := fun w1 b => copyExpr_any ve p.ops w1 (h.os.below b) h.ln
  have PX : Hid (∀ ob, PBx ((w.alloc (.cells (prvC p ve) 60)).alloc ob) w.heap.size p ve) := fun ob => PBx.below (heap_alloc_new w (.cells (prvC p ve) 60)) ((Below.refl _ _).alloc (Nat.le_refl _) ob)
  have PY : Hid (∀ w1, PBx w1 w.heap.size p ve → _) := fun w1 h => PBx.cells h
  obtain ⟨pe, ce, hve⟩ := h.os.form
  subst hve
  obtain ⟨nm, ops, ag, ⟨pt, pb, pf, pc⟩, ck, ct⟩ := p
  simp only [prvV, prvC] at *
  clear h
  go_enter Tryd.func38, Tryd.ntmps38
  go_wp2_with fail
  refine Calls.mono (CE.out _ (AL.out _ _)) ?_
  rintro e w1 ⟨q, c, rfl, ho1, hb1⟩
  have B1 : Hid (Below w.heap.size w w1) := (AL.out _ _).trans (hb1.mono (AL.out _ _).size)
  have P1 : Hid _ := PBx.below (PX.out _) hb1
  obtain ⟨y0, y1, y2, y3, y4, y5, y6, y7, y8⟩ := PY.out _ P1.out
  have fz : ∀ o, w1.frozen? ⟨w.heap.size, o, none⟩ = false := fun o => box_frozen P1.out
  have Q1 : Hid (w1.heap[w.heap.size + 1]? = some (.cells zPrv 60)) := by
    have e := heap_alloc_new (w.alloc (.cells #[.string nm, .slice pe ops.length ce, .bool ag, .int .i64 pt, .int .i64 pb, .int .i64 pf, .int .i64 pc, .int .i64 ck, .string ct] 60)) (.cells zPrv 60)
    rw [show (w.alloc (.cells #[.string nm, .slice pe ops.length ce, .bool ag, .int .i64 pt, .int .i64 pb, .int .i64 pf, .int .i64 pc, .int .i64 ck, .string ct] 60)).heap.size = w.heap.size + 1 by simp] at e
    exact (hb1.block (w.heap.size + 1) (by simp)).trans e
  obtain ⟨z0, z1, z2, z3, z4, z5, z6, z7, z8⟩ := zPrv_cells Q1.out
  have fz2 : ∀ o, w1.frozen? ⟨w.heap.size + 1, o, none⟩ = false := fun o => box_frozen Q1.out
  have O1 : Hid (OwnG KO w1 (w.heap.size + 2) (.slice q ops.length c) ops) := ho1.low (by simp)
  clear hb1 ho1 AL CE PX PY
  go_wp2_with fail
  refine bodyPost_ret (v := .agg #[.string nm, .slice q ops.length c, .bool ag, .int .i64 pt, .int .i64 pb, .int .i64 pf, .int .i64 pc, .int .i64 ck, .string ct]) (by simp [results, Tryd.results38, go_sem, *]) rfl ?_
  refine ⟨q, c, rfl, (O1.out.low (by omega)).far (fun g hg => ?_), ?_⟩
  · have hgg := (O1.out.lt hg).1
    repeat rw [set_far (show g ≠ _ by omega)]
  · repeat' refine Below.setCell ?_ (by simp) _
    exact B1.out
end Go.Proofs.YthmppnmmlblbhaaDoor
