/- Failures: any two held against each other; a failure's sub-failures as slices; slices.Equal, SameFail, slices.Clone. -/
import Derived.Test.YtaleagkhblokgaaDoorKx6
import Derived.Defers
import Derived.Recover
import Derived.Test.YtaleagkhblokgaaDoorJx1
namespace Go.Proofs.YtaleagkhblokgaaDoor
open Go.RowKit

theorem catch_panicking (p q : Addr) (x y : Value) (u : TypeId) (pv : Value) (older : List PanicEntry) (w : World) (hne : p ≠ q) (hc : w.cell? p = some x) (hz : w.frozen? p = false) (hd : w.cell? q = some y) (hy : w.frozen? q = false) :
    CallsD Tryd.prog 48 #[.pointer (some p), .pointer (some q)] (.panicking ({ v := .iface u pv, recovered := false } :: older)) w fun e u' w' =>
      e = .returned (.tuple #[]) ∧ u' = .panicking ({ v := .iface u pv, recovered := true } :: older) ∧ w' = (w.setCell p (.slice none 0 0)).setCell q (.int .i64 2) := by
  have hd2 : (w.setCell p (.slice none 0 0)).cell? q = some y := (World.cell?_setCell_other _ _ _ _ hne).trans hd
  have hy2 : (w.setCell p (.slice none 0 0)).frozen? q = false := by simpa using hy
  refine callsD_of_wpS Tryd.func48 rfl fun c₀ cs hu => ?_
  apply wpS_seq
  apply wpS_region
  simp [wpOpsS, go_sem, recoverD, hu, Tryd.ntmps48, Exit.thenS]
  refine wpS_cond (t := true) (by simp [Act.eval, Array.replicate]) ?_
  simp only [if_true]
  apply wpS_region
  simp [wpOpsS, go_sem, hc, hz, hd2, hy2, bodyPostS, results, Tryd.results48]
theorem catch_idle (p q : Addr) (w : World) :
    CallsD Tryd.prog 48 #[.pointer (some p), .pointer (some q)] .returning w fun e u' w' => e = .returned (.tuple #[]) ∧ u' = .returning ∧ w' = w := by
  refine callsD_of_wpS Tryd.func48 rfl fun c₀ cs hu => ?_
  apply wpS_seq
  apply wpS_region
  simp [wpOpsS, go_sem, recoverD, hu, Tryd.ntmps48, Exit.thenS]
  refine wpS_cond (t := false) (by simp [Act.eval, Array.replicate]) ?_
  simp only [Bool.false_eq_true, if_false]
  refine wpS_of_wp (wp_skip ?_)
  cases c₀
  simp_all [bodyPostS, results, Tryd.results48]
set_option maxHeartbeats 4000000 in
theorem parse_long (s : ByteArray) (w : World) (hs : 65536 < s.size) (hm : s.size ≤ maxLen) :
    Calls Tryd.prog 28 #[.string s] w fun e w' => e = .returned (.tuple #[.slice none 0 0, .int .i64 3]) ∧ Below w.heap.size w w' := by
  unfold maxLen at hm
  have hs2 : (s.size : Int) > 65536 := by omega
  go_enter_defers Tryd.func28, Tryd.ntmps28
  go_wp2
  have B : Below w.heap.size w ((w.alloc (.cells #[.slice none 0 0] 23)).alloc (.cells #[.int .i64 3] 26)) := ((Below.refl _ _).alloc (Nat.le_refl _) _).alloc (by simp) _
  simp [bodyPostD, Leaves, results, Tryd.results28, go_sem]
  exact B
/-- What Parse answers. -/
def OutR (w w' : World) (e : Ending) (s : List UInt8) : Prop := ∃ p cap, e = .returned (.tuple #[.slice p (psL s).length cap, .int .i64 (psE s)]) ∧ CS w' (.slice p (psL s).length cap) (psL s) ∧ Below w.heap.size w w'
theorem psV_none {s : List UInt8} (hs : s.length ≤ 65536) (h : psV s = none) : psL s = [] ∧ psE s = 2 := by
  unfold psL psE; rw [if_neg (by omega), if_neg (by omega), h]; exact ⟨rfl, rfl⟩
theorem psV_some {s : List UInt8} {t : Ft} (hs : s.length ≤ 65536) (h : psV s = some t) : psL s = flat t ∧ psE s = 0 := by
  unfold psL psE; rw [if_neg (by omega), if_neg (by omega), h]; exact ⟨rfl, rfl⟩
set_option maxHeartbeats 8000000 in
set_option maxRecDepth 100000 in
theorem parse_short (s : ByteArray) (w : World) (hv : FV w) (hs : s.size ≤ 65536) :
    Calls Tryd.prog 28 #[.string s] w fun e w' => OutR w w' e s.data.toList := by
  have hsl : s.data.toList.length = s.size := by simp
  obtain ⟨ws, hws⟩ : ∃ ws, ws = (w.alloc (.cells #[.slice none 0 0] 23)).alloc (.cells #[.int .i64 0] 26) := ⟨_, rfl⟩
  have BS : Below w.heap.size w ws := by rw [hws]; exact ((Below.refl _ _).alloc (Nat.le_refl _) _).alloc (by simp) _
  have hsz : ws.heap.size = w.heap.size + 1 + 1 := by rw [hws]; simp
  have cf : ws.cell? ⟨w.heap.size, 0, none⟩ = some (.slice none 0 0) := by rw [hws]; simp
  have ce : ws.cell? ⟨w.heap.size + 1, 0, none⟩ = some (.int .i64 0) := by rw [hws]; simp
  have ff : ws.frozen? ⟨w.heap.size, 0, none⟩ = false := by rw [hws]; simp
  have fe : ws.frozen? ⟨w.heap.size + 1, 0, none⟩ = false := by rw [hws]; simp
  have RD := read_all ws (hv.below BS) 1025
  have BA : Below ws.heap.size ws (ws.alloc (.cells #[.string s, .int .i64 0, .slice none 0 0] 77)) := (Below.refl _ _).alloc (Nat.le_refl _) _
  have H0 : RR ws.heap.size (ws.alloc (.cells #[.string s, .int .i64 0, .slice none 0 0] 77)) s 0 (.slice none 0 0) [] := ⟨heap_alloc_new _ _, World.ownsRow_nil _ _ _ _⟩
  have RC : Hid (Calls Tryd.prog 49 #[.pointer (some ⟨ws.heap.size, 0, none⟩)] (ws.alloc (.cells #[.string s, .int .i64 0, .slice none 0 0] 77)) fun e w' => OutT ws.heap.size (ws.alloc (.cells #[.string s, .int .i64 0, .slice none 0 0] 77)) w' e [] (rdT 1025 s.data.toList 0)) := RD _ s 0 _ [] BA H0 (by omega) (Nat.le_refl _) (by omega) (by omega)
  have BK : Hid (∀ w', KR ws.heap.size (ws.alloc (.cells #[.string s, .int .i64 0, .slice none 0 0] 77)) w' → Below ws.heap.size ws w') := fun w' kr => BA.trans (kr.below H0.lt)
  have PV : Hid (∀ t R' b', rdT 1025 s.data.toList 0 = some (t, R', b') → psV s.data.toList = if R' = [] then some t else none) := fun t R' b' h => by
    unfold psV; rw [h]
    cases R' with
    | nil => rfl
    | cons c r => rfl
  have PN : Hid (rdT 1025 s.data.toList 0 = none → psV s.data.toList = none) := fun h => by unfold psV; rw [h]
  have HN : Hid (psV s.data.toList = none → psL s.data.toList = [] ∧ psE s.data.toList = 2) := fun h => psV_none (by omega) h
  have HY : Hid (∀ t, psV s.data.toList = some t → psL s.data.toList = flat t ∧ psE s.data.toList = 0) := fun t h => psV_some (by omega) h
  have CE : Hid (∀ w4, KR ws.heap.size (ws.alloc (.cells #[.string s, .int .i64 0, .slice none 0 0] 77)) w4 → w4.cell? ⟨w.heap.size, 0, none⟩ = some (.slice none 0 0) ∧ w4.cell? ⟨w.heap.size + 1, 0, none⟩ = some (.int .i64 0) ∧ w4.frozen? ⟨w.heap.size, 0, none⟩ = false ∧ w4.frozen? ⟨w.heap.size + 1, 0, none⟩ = false ∧ Below w.heap.size w w4) := fun w4 kr => by
    have B := BK.out _ kr
    exact ⟨(B.cell (p := ⟨w.heap.size, 0, none⟩) (by show w.heap.size < _; omega)).trans cf, (B.cell (p := ⟨w.heap.size + 1, 0, none⟩) (by show w.heap.size + 1 < _; omega)).trans ce, (B.frozen (p := ⟨w.heap.size, 0, none⟩) (by show w.heap.size < _; omega)).trans ff, (B.frozen (p := ⟨w.heap.size + 1, 0, none⟩) (by show w.heap.size + 1 < _; omega)).trans fe, BS.trans (B.mono BS.size)⟩
  have GV : Hid (psV s.data.toList = none → ∀ w4, KR ws.heap.size (ws.alloc (.cells #[.string s, .int .i64 0, .slice none 0 0] 77)) w4 → w4.cell? ⟨w.heap.size, 0, none⟩ = some (.slice none 0 0) ∧ w4.cell? ⟨w.heap.size + 1, 0, none⟩ = some (.int .i64 0) ∧ w4.frozen? ⟨w.heap.size, 0, none⟩ = false ∧ w4.frozen? ⟨w.heap.size + 1, 0, none⟩ = false ∧ OutR w ((w4.setCell ⟨w.heap.size, 0, none⟩ (.slice none 0 0)).setCell ⟨w.heap.size + 1, 0, none⟩ (.int .i64 2)) (.returned (.tuple #[.slice none 0 0, .int .i64 2])) s.data.toList) := fun hn w4 kr => by
    have B := BK.out _ kr
    obtain ⟨e1, e2⟩ := HN.out hn
    refine ⟨(B.cell (p := ⟨w.heap.size, 0, none⟩) (by show w.heap.size < _; omega)).trans cf, (B.cell (p := ⟨w.heap.size + 1, 0, none⟩) (by show w.heap.size + 1 < _; omega)).trans ce, (B.frozen (p := ⟨w.heap.size, 0, none⟩) (by show w.heap.size < _; omega)).trans ff, (B.frozen (p := ⟨w.heap.size + 1, 0, none⟩) (by show w.heap.size + 1 < _; omega)).trans fe, ?_⟩
    refine ⟨none, 0, by rw [e1, e2]; rfl, by rw [e1]; exact Or.inl ⟨Or.inl rfl, rfl⟩, ?_⟩
    exact ((BS.trans (B.mono BS.size)).setCell (by show w.heap.size ≤ w.heap.size; omega) _).setCell (by show w.heap.size ≤ w.heap.size + 1; omega) _
  have hmf : ∀ (fn : Fn) (first cap : Array Value) (w : World), (Instr.makeFunc fn first cap).run Tryd.prog w = .ok (.func fn first cap) w := fun _ _ _ _ => rfl
  have HWS : Hid (ws = (w.alloc (.cells #[.slice none 0 0] 23)).alloc (.cells #[.int .i64 0] 26)) := hws
  have HSZ : Hid (ws.heap.size = w.heap.size + 1 + 1) := hsz
  clear RD hv hws BS BA H0 cf ce ff fe hsl hsz
  go_enter_defers Tryd.func28, Tryd.ntmps28
  go_wp2_with fail
  rw [← HWS.out, ← HSZ.out]
  refine Calls.mono RC.out ?_
  rintro e w4 (⟨t, R4, b4, cv4, hq4, rfl, h4, k4⟩ | ⟨hq4, rfl, k4⟩)
  rotate_left
  · obtain ⟨g1, g2, g3, g4, g5⟩ := GV.out (PN.out hq4) w4 k4
    refine leaves_cons (f := 48) (args := #[.pointer (some ⟨w.heap.size, 0, none⟩), .pointer (some ⟨w.heap.size + 1, 0, none⟩)]) (by simp) (by simp [go_sem]) ?_
    refine (catch_panicking ⟨w.heap.size, 0, none⟩ ⟨w.heap.size + 1, 0, none⟩ _ _ 26 (.int .i64 2) [] _ (by intro e; injection e with e _ _; omega) g1 g3 g2 g4).mono ?_
    rintro e u' w'' ⟨rfl, rfl, rfl⟩
    have d1 : ((w4.setCell ⟨w.heap.size, 0, none⟩ (.slice none 0 0)).setCell ⟨w.heap.size + 1, 0, none⟩ (.int .i64 2)).cell? ⟨w.heap.size, 0, none⟩ = some (.slice none 0 0) := (World.cell?_setCell_other _ _ _ _ (by intro e; injection e with e _ _; omega)).trans (World.cell?_setCell_same _ _ _ g1)
    have d2 : ((w4.setCell ⟨w.heap.size, 0, none⟩ (.slice none 0 0)).setCell ⟨w.heap.size + 1, 0, none⟩ (.int .i64 2)).cell? ⟨w.heap.size + 1, 0, none⟩ = some (.int .i64 2) := World.cell?_setCell_same _ _ _ ((World.cell?_setCell_other _ _ _ _ (by intro e; injection e with e _ _; omega)).trans g2)
    simp [Leaves, settle, results, Tryd.results28, go_sem, d1, d2]
    exact g5
  have PV4 := PV.out _ _ _ hq4
  have c0 := h4.c0
  have c2 := h4.c2
  obtain ⟨pv, cpv, hcv⟩ := h4.ow.form
  subst hcv
  have B4 := BK.out _ k4
  by_cases hz : R4.size = 0
  · have hR4 := bytes_nil hz
    subst hR4
    rw [if_pos (by rfl)] at PV4
    obtain ⟨e1, e2⟩ := HY.out _ PV4
    rw [List.nil_append] at h4 c2
    obtain ⟨g1, g2, g3, g4, g5⟩ := CE.out w4 k4
    have hrb := HSZ.out
    have OWx : Hid (∀ n, n = (flat t).length → CS ((w4.setCell ⟨w.heap.size, 0, none⟩ (.slice pv n cpv)).setCell ⟨w.heap.size + 1, 0, none⟩ (.int .i64 0)) (.slice pv (flat t).length cpv) (flat t)) := fun n hn => (h4.ow.far' (fun g hg => (Below.heap_setCell _ _ _ _ (by have := (World.ownsRow.lt h4.ow g hg).1; show g ≠ w.heap.size + 1; omega)).trans (Below.heap_setCell _ _ _ _ (by have := (World.ownsRow.lt h4.ow g hg).1; show g ≠ w.heap.size; omega)))).cs
    obtain ⟨nL, hnL⟩ : ∃ nL, nL = (flat t).length := ⟨_, rfl⟩
    rw [← hnL] at c2
    have g6 : ∀ v, (w4.setCell ⟨w.heap.size, 0, none⟩ v).cell? ⟨w.heap.size + 1, 0, none⟩ = some (.int .i64 0) := fun v => (World.cell?_setCell_other _ _ _ _ (by intro e; injection e with e _ _; omega)).trans g2
    have g7 : ∀ v, (w4.setCell ⟨w.heap.size, 0, none⟩ v).frozen? ⟨w.heap.size + 1, 0, none⟩ = false := fun v => by simpa using g4
    have OW2 : Hid (CS ((w4.setCell ⟨w.heap.size, 0, none⟩ (.slice pv nL cpv)).setCell ⟨w.heap.size + 1, 0, none⟩ (.int .i64 0)) (.slice pv (flat t).length cpv) (flat t)) := OWx.out nL hnL
    have BF : Hid (Below w.heap.size w ((w4.setCell ⟨w.heap.size, 0, none⟩ (.slice pv nL cpv)).setCell ⟨w.heap.size + 1, 0, none⟩ (.int .i64 0))) := (g5.setCell (by show w.heap.size ≤ w.heap.size; omega) _).setCell (by show w.heap.size ≤ w.heap.size + 1; omega) _
    have d1 : ((w4.setCell ⟨w.heap.size, 0, none⟩ (.slice pv nL cpv)).setCell ⟨w.heap.size + 1, 0, none⟩ (.int .i64 0)).cell? ⟨w.heap.size, 0, none⟩ = some (.slice pv nL cpv) := (World.cell?_setCell_other _ _ _ _ (by intro e; injection e with e _ _; omega)).trans (World.cell?_setCell_same _ _ _ g1)
    have d2 : ((w4.setCell ⟨w.heap.size, 0, none⟩ (.slice pv nL cpv)).setCell ⟨w.heap.size + 1, 0, none⟩ (.int .i64 0)).cell? ⟨w.heap.size + 1, 0, none⟩ = some (.int .i64 0) := World.cell?_setCell_same _ _ _ (g6 _)
    have HNL : Hid (nL = (flat t).length) := hnL
    have E12 : Hid (psL s.data.toList = flat t ∧ psE s.data.toList = 0) := ⟨e1, e2⟩
    clear PV4 B4 h4 k4 hq4 e1 e2 hnL OWx hrb
    go_wp2_with fail
    refine leaves_cons (f := 48) (args := #[.pointer (some ⟨w.heap.size, 0, none⟩), .pointer (some ⟨w.heap.size + 1, 0, none⟩)]) (by simp) (by simp [go_sem]) ?_
    refine (catch_idle ⟨w.heap.size, 0, none⟩ ⟨w.heap.size + 1, 0, none⟩ _).mono ?_
    rintro e u' w'' ⟨rfl, rfl, rfl⟩
    simp [Leaves, settle, results, Tryd.results28, go_sem, d1, d2]
    exact ⟨pv, cpv, by rw [E12.out.1, E12.out.2, HNL.out], by rw [E12.out.1]; exact OW2.out, BF.out⟩
  · rw [if_neg (fun e => hz (by have := congrArg List.length e; simpa using this))] at PV4
    obtain ⟨z1, z2⟩ := bytes_ne (s := R4) (by omega)
    have K4 : Hid _ := k4
    have GV4 : Hid _ := GV.out PV4 w4 k4
    have GU := fun w' => giveUp_any ws.heap.size w'
    clear PV4 B4 h4 k4 hq4
    go_wp2_with fail
    refine (GU _).mono ?_
    rintro e w5 ⟨rfl, rfl⟩
    obtain ⟨g1, g2, g3, g4, g5⟩ := GV4.out
    refine leaves_cons (f := 48) (args := #[.pointer (some ⟨w.heap.size, 0, none⟩), .pointer (some ⟨w.heap.size + 1, 0, none⟩)]) (by simp) (by simp [go_sem]) ?_
    refine (catch_panicking ⟨w.heap.size, 0, none⟩ ⟨w.heap.size + 1, 0, none⟩ _ _ 26 (.int .i64 2) [] _ (by intro e; injection e with e _ _; omega) g1 g3 g2 g4).mono ?_
    rintro e u' w'' ⟨rfl, rfl, rfl⟩
    have d1 : ((w5.setCell ⟨w.heap.size, 0, none⟩ (.slice none 0 0)).setCell ⟨w.heap.size + 1, 0, none⟩ (.int .i64 2)).cell? ⟨w.heap.size, 0, none⟩ = some (.slice none 0 0) := (World.cell?_setCell_other _ _ _ _ (by intro e; injection e with e _ _; omega)).trans (World.cell?_setCell_same _ _ _ g1)
    have d2 : ((w5.setCell ⟨w.heap.size, 0, none⟩ (.slice none 0 0)).setCell ⟨w.heap.size + 1, 0, none⟩ (.int .i64 2)).cell? ⟨w.heap.size + 1, 0, none⟩ = some (.int .i64 2) := World.cell?_setCell_same _ _ _ ((World.cell?_setCell_other _ _ _ _ (by intro e; injection e with e _ _; omega)).trans g2)
    simp [Leaves, settle, results, Tryd.results28, go_sem, d1, d2]
    exact g5
theorem parse_any (s : ByteArray) (w : World) (hv : FV w) (hm : s.size ≤ maxLen) :
    Calls Tryd.prog 28 #[.string s] w fun e w' => OutR w w' e s.data.toList := by
  by_cases hs : s.size ≤ 65536
  · exact parse_short s w hv hs
  · have hl : 65536 < s.data.toList.length := by simp; omega
    have e1 : psL s.data.toList = [] := by unfold psL; rw [if_pos hl]
    have e2 : psE s.data.toList = 3 := by unfold psE; rw [if_pos hl]
    refine Calls.mono (parse_long s w (by omega) hm) fun e w' ⟨h1, h2⟩ => ?_
    exact ⟨none, 0, by rw [h1, e1, e2]; rfl, by rw [e1]; exact Or.inl ⟨Or.inl rfl, rfl⟩, h2⟩
end Go.Proofs.YtaleagkhblokgaaDoor
namespace Go.Proofs.YtaleagkhblokgaaDoor
open Go.RowKit

def crE (c d : Cr) : Bool := c.kind == d.kind && (c.n == d.n && (c.text.toList == d.text.toList))
/-- The same cracks? -/
def eqC : List Cr → List Cr → Bool
  | [], [] => true
  | c :: r, d :: s => crE c d && eqC r s
  | [], _ :: _ => false
  | _ :: _, [] => false
theorem eqC_len : ∀ (l m : List Cr), eqC l m = true → l.length = m.length
  | [], [], _ => rfl
  | c :: r, d :: s, h => by rw [eqC, Bool.and_eq_true] at h; simp [eqC_len r s h.2]
  | [], _ :: _, h => by simp [eqC] at h
  | _ :: _, [], h => by simp [eqC] at h
theorem crE_iff (c d : Cr) : crE c d = true ↔ c = d := by
  obtain ⟨k, n, t⟩ := c
  obtain ⟨k', n', t'⟩ := d
  unfold crE
  simp only [Bool.and_eq_true, beq_iff_eq, Cr.mk.injEq, ByteArray.toList_eq]
  constructor
  · rintro ⟨h1, h2, h3⟩
    refine ⟨h1, h2, ?_⟩
    obtain ⟨⟨a⟩⟩ := t
    obtain ⟨⟨b⟩⟩ := t'
    simp at h3
    rw [h3]
  · rintro ⟨h1, h2, h3⟩; rw [h3]; exact ⟨h1, h2, rfl⟩
theorem eqC_iff : ∀ (l m : List Cr), eqC l m = true ↔ l = m
  | [], [] => by simp [eqC]
  | c :: r, d :: s => by rw [eqC, Bool.and_eq_true, crE_iff, eqC_iff r s]; simp
  | [], _ :: _ => by simp [eqC]
  | _ :: _, [] => by simp [eqC]
theorem crE_cases {f g : Cr} (h : crE f g = false) : (f.kind == g.kind) = false ∨ ((f.kind == g.kind) = true ∧ (f.n == g.n) = false) ∨ ((f.kind == g.kind) = true ∧ (f.n == g.n) = true ∧ (f.text.toList == g.text.toList) = false) := by
  unfold crE at h
  cases h1 : (f.kind == g.kind) <;> cases h2 : (f.n == g.n) <;> cases h3 : (f.text.toList == g.text.toList) <;> simp_all
theorem crE_all {f g : Cr} (h : crE f g = true) : (f.kind == g.kind) = true ∧ (f.n == g.n) = true ∧ (f.text.toList == g.text.toList) = true := by
  unfold crE at h
  simpa using h
theorem eqC_step {l m : List Cr} {k : Nat} (h1 : k < l.length) (h2 : k < m.length) : eqC (l.drop k) (m.drop k) = (crE l[k] m[k] && eqC (l.drop (k + 1)) (m.drop (k + 1))) := by
  rw [List.drop_eq_getElem_cons h1, List.drop_eq_getElem_cons h2, eqC]
set_option maxHeartbeats 4000000 in
theorem sameFail_any (w : World) (v1 v2 : Value) (l m : List Cr) (h1 : CS w v1 l) (h2 : CS w v2 m) (hl : l.length ≤ 100000000000000000) :
    Calls Tryd.prog 15 #[v1, v2] w fun e w' => e = .returned (.bool (eqC l m)) ∧ ∃ n, w' = w.drewN n := by
  obtain ⟨p1, c1, rfl⟩ := h1.form
  obtain ⟨p2, c2, rfl⟩ := h2.form
  have A1 : Hid (CS w (.slice p1 l.length c1) l) := h1
  have A2 : Hid (CS w (.slice p2 m.length c2) m) := h2
  clear h1 h2
  by_cases hlm : l.length = m.length
  · have hml : m.length = l.length := hlm.symm
    have E0 : Hid (eqC l m = eqC (l.drop 0) (m.drop 0)) := by show _ = _; simp
    have EE : Hid (∀ k, l.length ≤ k → eqC (l.drop k) (m.drop k) = true) := fun k hk => by rw [List.drop_of_length_le hk, List.drop_of_length_le (by omega)]; rfl
    generalize eqC l m = r at *
    have HM : Hid (m.length = l.length) := hml
    rw [hml] at A2 ⊢
    clear hml hlm
    go_enter Tryd.func15, Tryd.ntmps15
    go_wp2
    go_loopw [5] (fun v5 wr => ∃ (k n : Nat), v5 = .int .i64 k ∧ k ≤ l.length ∧ wr = w.drewN n ∧ Hid (r = eqC (l.drop k) (m.drop k))) (fun v5 _ => l.length - (intOf v5).toNat)
    case atStart => exact ⟨0, 0, rfl, Nat.zero_le _, rfl, E0⟩
    case round =>
      obtain ⟨k, n, rfl, hk, rfl, HR⟩ := hrel
      clear E0
      by_cases hlt : k < l.length
      · obtain ⟨X1, o1, e1, x1, x2, x3⟩ := A1.out.at hlt
        obtain rfl : p1 = some ⟨X1, o1, none⟩ := e1
        obtain ⟨X2, o2, e2, y1, y2, y3⟩ := A2.out.at (k := k) (by rw [HM.out]; exact hlt)
        obtain rfl : p2 = some ⟨X2, o2, none⟩ := e2
        have HS := HR.out
        rw [eqC_step hlt (by rw [HM.out]; exact hlt)] at HS
        obtain ⟨f, hf⟩ : ∃ f, f = l[k] := ⟨_, rfl⟩
        rw [← hf] at x1 x2 x3 HS
        obtain ⟨g, hg⟩ : ∃ g, g = m[k]'(by rw [HM.out]; exact hlt) := ⟨_, rfl⟩
        rw [← hg] at y1 y2 y3 HS
        have HN : Hid (r = (crE f g && eqC (l.drop (k + 1)) (m.drop (k + 1)))) := HS
        clear hf hg HR HS
        cases hc : crE f g with
        | true =>
          obtain ⟨z1, z2, z3⟩ := crE_all hc
          rw [hc] at HN
          clear hc
          go_wp2
          go_quiet (fail)
          go_wp2
          all_goals
            go_roundw
            case rel => exact ⟨k + 1, _, by go_num, by omega, rfl, HN.out.trans (by simp)⟩
            case measure => simp [intOf]; omega
        | false =>
          rw [hc] at HN
          have hr : r = false := HN.out
          subst hr
          rcases crE_cases hc with z1 | ⟨z1, z2⟩ | ⟨z1, z2, z3⟩
          all_goals
            clear hc
            go_wp2
            go_quiet (fail)
            go_wp2
            go_ret
            exact ⟨rfl, n + nq, by simp⟩
      · have hr : r = true := HR.out.trans (EE.out k (by omega))
        subst hr
        clear HR
        go_wp2
        go_ret
        exact ⟨rfl, n, rfl⟩
  · have hr : eqC l m = false := by
      cases h : eqC l m with
      | false => rfl
      | true => exact absurd (eqC_len l m h) hlm
    rw [hr]
    have z1 : ((l.length : Int) == (m.length : Int)) = false := by simp; omega
    have z2 : ((l.length : Int) != (m.length : Int)) = true := by simp; omega
    go_enter Tryd.func15, Tryd.ntmps15
    go_wp2
    go_ret
    exact ⟨rfl, 0, rfl⟩
set_option maxHeartbeats 4000000 in
theorem equal_any (w : World) (v1 v2 : Value) (l m : List Cr) (h1 : CS w v1 l) (h2 : CS w v2 m) (hl : l.length ≤ 100000000000000000) :
    Calls Tryd.prog 39 #[v1, v2] w fun e w' => e = .returned (.bool (eqC l m)) ∧ ∃ n, w' = w.drewN n := by
  obtain ⟨p1, c1, rfl⟩ := h1.form
  obtain ⟨p2, c2, rfl⟩ := h2.form
  have A1 : Hid (CS w (.slice p1 l.length c1) l) := h1
  have A2 : Hid (CS w (.slice p2 m.length c2) m) := h2
  clear h1 h2
  by_cases hlm : l.length = m.length
  · have hml : m.length = l.length := hlm.symm
    have E0 : Hid (eqC l m = eqC (l.drop 0) (m.drop 0)) := by show _ = _; simp
    have EE : Hid (∀ k, l.length ≤ k → eqC (l.drop k) (m.drop k) = true) := fun k hk => by rw [List.drop_of_length_le hk, List.drop_of_length_le (by omega)]; rfl
    generalize eqC l m = r at *
    have HM : Hid (m.length = l.length) := hml
    rw [hml] at A2 ⊢
    clear hml hlm
    go_enter Tryd.func39, Tryd.ntmps39
    go_wp2
    go_loopw [13] (fun v5 wr => ∃ (k n : Nat), v5 = .int .i64 k ∧ k ≤ l.length ∧ wr = w.drewN n ∧ Hid (r = eqC (l.drop k) (m.drop k))) (fun v5 _ => l.length - (intOf v5).toNat)
    case atStart => exact ⟨0, 0, rfl, Nat.zero_le _, rfl, E0⟩
    case round =>
      obtain ⟨k, n, rfl, hk, rfl, HR⟩ := hrel
      clear E0
      by_cases hlt : k < l.length
      · obtain ⟨X1, o1, e1, x1, x2, x3⟩ := A1.out.at hlt
        obtain rfl : p1 = some ⟨X1, o1, none⟩ := e1
        obtain ⟨X2, o2, e2, y1, y2, y3⟩ := A2.out.at (k := k) (by rw [HM.out]; exact hlt)
        obtain rfl : p2 = some ⟨X2, o2, none⟩ := e2
        have HS := HR.out
        rw [eqC_step hlt (by rw [HM.out]; exact hlt)] at HS
        obtain ⟨f, hf⟩ : ∃ f, f = l[k] := ⟨_, rfl⟩
        rw [← hf] at x1 x2 x3 HS
        obtain ⟨g, hg⟩ : ∃ g, g = m[k]'(by rw [HM.out]; exact hlt) := ⟨_, rfl⟩
        rw [← hg] at y1 y2 y3 HS
        have HN : Hid (r = (crE f g && eqC (l.drop (k + 1)) (m.drop (k + 1)))) := HS
        clear hf hg HR HS
        cases hc : crE f g with
        | true =>
          obtain ⟨z1, z2, z3⟩ := crE_all hc
          rw [hc] at HN
          clear hc
          go_wp2
          go_quiet (fail)
          go_wp2
          all_goals
            go_roundw
            case rel => exact ⟨k + 1, _, by go_num, by omega, rfl, HN.out.trans (by simp)⟩
            case measure => simp [intOf]; omega
        | false =>
          rw [hc] at HN
          have hr : r = false := HN.out
          subst hr
          rcases crE_cases hc with z1 | ⟨z1, z2⟩ | ⟨z1, z2, z3⟩
          all_goals
            clear hc
            go_wp2
            go_quiet (fail)
            go_wp2
            go_ret
            exact ⟨rfl, n + nq, by simp⟩
      · have hr : r = true := HR.out.trans (EE.out k (by omega))
        subst hr
        clear HR
        go_wp2
        go_ret
        exact ⟨rfl, n, rfl⟩
  · have hr : eqC l m = false := by
      cases h : eqC l m with
      | false => rfl
      | true => exact absurd (eqC_len l m h) hlm
    rw [hr]
    have z1 : ((l.length : Int) == (m.length : Int)) = false := by simp; omega
    have z2 : ((l.length : Int) != (m.length : Int)) = true := by simp; omega
    go_enter Tryd.func39, Tryd.ntmps39
    go_wp2
    go_ret
    exact ⟨rfl, 0, rfl⟩
/-- Cracks from one place up to another, as a slice of the whole. -/
theorem CS.cut {w : World} {X o n cap : Nat} {l : List Cr} (h : CS w (.slice (some ⟨X, o, none⟩) n cap) l) {a b : Nat} (hab : a < b) (hb : b ≤ l.length) : CS w (.slice (some ⟨X, o + a * 3, none⟩) (b - a) (cap - a)) ((l.drop a).take (b - a)) ∧ l.length ≤ cap ∧ n = l.length := by
  rcases h with ⟨_, rfl⟩ | ⟨X', o', cap', e, hX, hcp, hc⟩
  · simp at hb; omega
  · injection e with e1 e2 e3
    injection e1 with e1
    injection e1 with e4 e5 _
    subst e2 e3 e4 e5
    have hl : ((l.drop a).take (b - a)).length = b - a := by simp; omega
    refine ⟨Or.inr ⟨X, o + a * 3, cap - a, by rw [hl], hX, by omega, fun k hk => ?_⟩, hcp, rfl⟩
    rw [hl] at hk
    obtain ⟨c1, c2, c3⟩ := hc (a + k) (by omega)
    have e : ((l.drop a).take (b - a))[k]'(by rw [hl]; exact hk) = l[a + k]'(by omega) := by simp
    rw [e, show o + a * 3 + k * 3 = o + (a + k) * 3 by omega]
    exact ⟨c1, c2, c3⟩
set_option maxHeartbeats 4000000 in
set_option maxRecDepth 100000 in
theorem cloneF_any (w : World) (v : Value) (l : List Cr) (h : CS w v l) (hl : l.length ≤ 10000) :
    Calls Tryd.prog 44 #[v] w fun e w' => ∃ p cap, e = .returned (.slice p l.length cap) ∧ OwnC w' w.heap.size (.slice p l.length cap) l ∧ Below w.heap.size w w' := by
  have h0 := h
  have EQ : ∀ a l c w, Sem.run Tryd.prog (binOp .eql 23 (.slice a l c) (.slice none 0 0)) w = .ok (.bool a.isNone) w := fun a l c w => by
    simp only [binOp]
    simp [run_equal_slice_nil w 23 _ a l c Tryd.underlying23]
  obtain ⟨p, cap, rfl⟩ := h.form
  cases p with
  | none =>
    have : l = [] := by
      rcases h with ⟨_, e⟩ | ⟨X, o, c, e, _⟩
      · exact e
      · cases e
    subst this
    clear h0 h
    go_enter Tryd.func44, Tryd.ntmps44
    go_wp2
    go_ret
    exact ⟨none, 0, rfl, World.ownsRow_nil _ _ _ _, Below.refl _ _⟩
  | some a =>
    have H0 : Hid (CS (w.alloc (.cells #[] 55)) (.slice (some a) l.length cap) l) := h0.below ((Below.refl _ _).alloc (Nat.le_refl _) _)
    have E0 : Hid (OwnC (w.alloc (.cells #[] 55)) w.heap.size (.slice (some ⟨w.heap.size, 0, none⟩) 0 0) []) := ownC_empty w
    have HL : Hid ((([] : List Cr).length + l.length) * 32 ≤ 140737488355328) := by show (([] : List Cr).length + l.length) * 32 ≤ 140737488355328; simp; omega
    clear h0 h
    go_enter Tryd.func44, Tryd.ntmps44
    go_wp2_with (at_builtin; refine append_crs rfl (.tmp 5) (.tmp 6) 23 rfl w.heap.size Tryd.underlying23 info_cr _ _ (.slice (some a) l.length cap) [] l rfl rfl E0.out H0.out HL.out (by simp) ?_; intro v8 w8 ho8 hb8)
    go_ret
    rw [List.nil_append] at ho8
    obtain ⟨p, cap2, rfl⟩ := ho8.form
    exact ⟨p, cap2, rfl, ho8, ((Below.refl _ _).alloc (Nat.le_refl _) _).trans hb8⟩
end Go.Proofs.YtaleagkhblokgaaDoor
