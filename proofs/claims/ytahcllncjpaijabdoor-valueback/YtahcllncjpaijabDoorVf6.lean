/- Values: Do, kind by kind. -/
import Derived.Test.YtahcllncjpaijabDoorVf5
namespace Go.Proofs.YtahcllncjpaijabDoor
open Go.RowKit

/-- A row of two right values. -/
theorem pair_pa {w : World} {p : Option Addr} {cap : Nat} {L : List Vx} (h : VR w (.slice p L.length cap) L) (ht : VT L) (hl : L.length = 2) (hz : firstE (aL L) = 0) : ∃ X o q1 c1 q2 c2 a b, p = some ⟨X, o, none⟩ ∧ aL L = [flV a, flV b] ∧ RT a ∧ RT b ∧ AT (flV a) ∧ AT (flV b) ∧ ∀ w1, Below w.heap.size w w1 → PA w1 X o q1 c1 q2 c2 a b := by
  match L, hl with
  | [x, y], _ =>
    have hc := firstE_zero hz
    obtain ⟨a, ea, ra⟩ := RT.of (hc x.a (by simp [aL]))
    obtain ⟨b, eb, rb⟩ := RT.of (hc y.a (by simp [aL]))
    obtain ⟨X, o, e, x0⟩ := h.gs.atV (k := 0) (by simp)
    obtain ⟨X', o', e', x1⟩ := h.gs.atV (k := 1) (by simp)
    rw [e] at e'
    injection e' with e'
    injection e' with e1 e2 _
    subst e1 e2
    refine ⟨X, o, x.q, x.c, y.q, y.c, a, b, e, by simp [aL, ea, eb], ra, rb, by rw [← ea]; exact ht.t x (by simp), by rw [← eb]; exact ht.t y (by simp), fun w1 k => ?_⟩
    have l1 : x.a.length = szV a := by rw [ea]; rfl
    have l2 : y.a.length = szV b := by rw [eb]; rfl
    have s1 := (h.below k).av x (by simp)
    have s2 := (h.below k).av y (by simp)
    unfold Vx.v at s1 s2
    simp only [List.getElem_cons_zero, Nat.add_zero] at x0
    simp only [List.getElem_cons_succ, List.getElem_cons_zero] at x1
    rw [l1] at s1 x0
    rw [l2] at s2 x1
    rw [ea] at s1
    rw [eb] at s2
    exact ⟨(k.cell (p := ⟨X, o, none⟩) (block_lt_of_cell x0)).trans x0, (k.cell (p := ⟨X, o + 1, none⟩) (block_lt_of_cell x1)).trans x1, s1, s2⟩
/-- A row of one right value. -/
theorem one_pa {w : World} {p : Option Addr} {cap : Nat} {L : List Vx} (h : VR w (.slice p L.length cap) L) (ht : VT L) (hl : L.length = 1) (hz : firstE (aL L) = 0) : ∃ X o q1 c1 a, p = some ⟨X, o, none⟩ ∧ aL L = [flV a] ∧ RT a ∧ AT (flV a) ∧ ∀ w1, Below w.heap.size w w1 → w1.cell? ⟨X, o, none⟩ = some (.slice q1 (szV a) c1) ∧ AS w1 (.slice q1 (szV a) c1) (flV a) := by
  match L, hl with
  | [x], _ =>
    have hc := firstE_zero hz
    obtain ⟨a, ea, ra⟩ := RT.of (hc x.a (by simp [aL]))
    obtain ⟨X, o, e, x0⟩ := h.gs.atV (k := 0) (by simp)
    refine ⟨X, o, x.q, x.c, a, e, by simp [aL, ea], ra, by rw [← ea]; exact ht.t x (by simp), fun w1 k => ?_⟩
    have l1 : x.a.length = szV a := by rw [ea]; rfl
    have s1 := (h.below k).av x (by simp)
    unfold Vx.v at s1
    simp only [List.getElem_cons_zero, Nat.add_zero] at x0
    rw [l1] at s1 x0
    rw [ea] at s1
    exact ⟨(k.cell (p := ⟨X, o, none⟩) (block_lt_of_cell x0)).trans x0, s1⟩
set_option maxHeartbeats 8000000 in
set_option maxRecDepth 100000 in
theorem vdo_list (v : Value) (L : List Vx) (w : World) (h : VR w v L) (ht : VT L) :
    Calls Tryd.prog 12 #[.int .i64 5, v] w fun e w' => AnsD w w' e (doO 5 (aL L)) (doE 5 (aL L)) := by
  obtain ⟨p, cap, rfl⟩ := h.gs.form
  have hlm : L.length ≤ 140737488355328 := by have := ht.n; omega
  have OP : Hid (∀ w1, _) := fun w1 => operation_list w1
  have CA : Hid _ := checkAll_any _ L w h ht
  have DE : Hid (doE 5 (aL L) = if 4096 < L.length then 3 else firstE (aL L)) := by show _ = _; unfold doE; rw [aL_len]; simp
  have HA : Hid (allE (aL L) = if 4096 < L.length then 3 else firstE (aL L)) := by show _ = _; unfold allE; rw [aL_len]
  have BAD : Hid (∀ w' err, Below w.heap.size w w' → doE 5 (aL L) = err → err ≠ 0 → AnsD w w' (.returned (.tuple #[.slice none 0 0, .bool false, .int .i64 err])) (doO 5 (aL L)) (doE 5 (aL L))) := fun w' err b e1 e2 => by rw [doO_bad (by rw [e1]; exact e2), e1]; exact AnsD.no b err
  have HE : L.length ≤ 4096 → doE 5 (aL L) = firstE (aL L) := fun hl => by rw [DE.out]; rw [if_neg (by omega)]
  have RUN : Hid (L.length ≤ 4096 → firstE (aL L) = 0 → ∀ w1, Below w.heap.size w w1 → Calls Tryd.prog 42 #[.slice p L.length cap] w1 fun e w' => AnsT w1 w' e (doO 5 (aL L))) := fun hl hz => fun w1 bw => by
    obtain ⟨ts, e2, hr⟩ := trees_of (firstE_zero hz)
    rw [e2, doO_ok hr (by rw [← e2, HE hl]; exact hz)]
    exact opList_any _ L ts w1 (h.below bw) ht e2 hr (by omega)
  have HEH : Hid _ := HE
  have EF := eqFn 42
  clear h ht HE
  generalize doO 5 (aL L) = r at *
  generalize doE 5 (aL L) = de at *
  generalize allE (aL L) = ra at *
  generalize firstE (aL L) = rf at *
  generalize L.length = n at *
  by_cases h1 : 4096 < n
  · have h1I : (n : Int) > 4096 := by omega
    rw [if_pos h1] at DE
    clear RUN CA HA HEH
    go_enter Tryd.func12, Tryd.ntmps12
    go_wp2_with fail
    refine Calls.mono (OP.out _) ?_
    rintro e w1 ⟨rfl, rfl⟩
    go_wp2_with fail
    exact bodyPost_ret (v := .tuple #[.slice none 0 0, .bool false, .int .i64 3]) (by simp [results, Tryd.results12, go_sem]) rfl (BAD.out _ 3 (Below.refl _ _) DE.out (by decide))
  · have h1I : ¬ (n : Int) > 4096 := by omega
    rw [if_neg h1] at DE HA
    have HEX := HEH.out (by omega)
    by_cases hz : rf = 0
    · subst hz
      have RN : Hid (∀ w1, Below w.heap.size w w1 → _) := RUN.out (by omega) (by simp)
      clear RUN HEH DE
      rw [HA.out] at CA
      go_enter Tryd.func12, Tryd.ntmps12
      go_wp2_with fail
      refine Calls.mono (OP.out _) ?_
      rintro e w1 ⟨rfl, rfl⟩
      go_wp2_with fail
      refine Calls.mono CA.out ?_
      rintro e w2 ⟨rfl, hb2⟩
      have B2 : Hid (Below w1.heap.size w1 w2) := hb2
      have R2 : Hid _ := RN.out w2 hb2
      clear hb2 CA RN
      go_wp2_with fail
      refine Calls.mono R2.out ?_
      rintro e w3 hans
      obtain ⟨p3, c3, rfl, ho3, hb3⟩ := hans.low B2.out
      have H3 : Hid (OwnG KA w3 w1.heap.size (.slice p3 (outL r).length c3) (outL r) ∧ Below w1.heap.size w1 w3) := ⟨ho3, hb3⟩
      clear ho3 hb3 hans R2
      go_wp2_with fail
      exact bodyPost_ret (v := .tuple #[.slice p3 (outL r).length c3, .bool r.isSome, .int .i64 0]) (by simp [results, Tryd.results12, go_sem]) rfl ⟨p3, c3, by rw [HEX], H3.out⟩
    · have hzb : (rf != 0) = true := by simp [hz]
      clear RUN HEH DE
      rw [HA.out] at CA
      go_enter Tryd.func12, Tryd.ntmps12
      go_wp2_with fail
      refine Calls.mono (OP.out _) ?_
      rintro e w1 ⟨rfl, rfl⟩
      go_wp2_with fail
      refine Calls.mono CA.out ?_
      rintro e w2 ⟨rfl, hb2⟩
      have B2 : Hid (Below w1.heap.size w1 w2) := hb2
      clear hb2 CA
      go_wp2_with fail
      exact bodyPost_ret (v := .tuple #[.slice none 0 0, .bool false, .int .i64 rf]) (by simp [results, Tryd.results12, go_sem]) rfl (BAD.out _ rf B2.out HEX hz)
set_option maxHeartbeats 8000000 in
set_option maxRecDepth 100000 in
theorem vdo_add (v : Value) (L : List Vx) (w : World) (h : VR w v L) (ht : VT L) :
    Calls Tryd.prog 12 #[.int .i64 6, v] w fun e w' => AnsD w w' e (doO 6 (aL L)) (doE 6 (aL L)) := by
  obtain ⟨p, cap, rfl⟩ := h.gs.form
  have hlm : L.length ≤ 140737488355328 := by have := ht.n; omega
  have OP : Hid (∀ w1, _) := fun w1 => operation_add w1
  have CA : Hid _ := checkAll_any _ L w h ht
  have DE : Hid (doE 6 (aL L) = if 4096 < L.length then 3 else if L.length ≠ 2 then 5 else firstE (aL L)) := by show _ = _; unfold doE; rw [aL_len]; simp
  have HA : Hid (allE (aL L) = if 4096 < L.length then 3 else firstE (aL L)) := by show _ = _; unfold allE; rw [aL_len]
  have BAD : Hid (∀ w' err, Below w.heap.size w w' → doE 6 (aL L) = err → err ≠ 0 → AnsD w w' (.returned (.tuple #[.slice none 0 0, .bool false, .int .i64 err])) (doO 6 (aL L)) (doE 6 (aL L))) := fun w' err b e1 e2 => by rw [doO_bad (by rw [e1]; exact e2), e1]; exact AnsD.no b err
  have HE : L.length = 2 → doE 6 (aL L) = firstE (aL L) := fun hl => by rw [DE.out]; rw [if_neg (by omega), if_neg (by omega)]
  have RUN : Hid (L.length = 2 → firstE (aL L) = 0 → ∀ w1, Below w.heap.size w w1 → Calls Tryd.prog 43 #[.slice p L.length cap] w1 fun e w' => AnsT w1 w' e (doO 6 (aL L))) := fun hl hz => fun w1 bw => by
    obtain ⟨X, o, q1, c1, q2, c2, a, b, e1, e2, ra, rb, ta, tb, pa⟩ := pair_pa h ht hl hz
    subst e1
    rw [e2, show [flV a, flV b] = [a, b].map flV from rfl, doO_ok (fun t ht => by simp at ht; rcases ht with rfl | rfl; exact ra; exact rb) (by rw [show [a, b].map flV = [flV a, flV b] from rfl, ← e2, HE hl]; exact hz), hl]
    exact add_any X o cap q1 q2 c1 c2 a b w1 (pa w1 bw) ra rb
  have HEH : Hid _ := HE
  have EF := eqFn 43
  clear h ht HE
  generalize doO 6 (aL L) = r at *
  generalize doE 6 (aL L) = de at *
  generalize allE (aL L) = ra at *
  generalize firstE (aL L) = rf at *
  generalize L.length = n at *
  by_cases h1 : 4096 < n
  · have h1I : (n : Int) > 4096 := by omega
    rw [if_pos h1] at DE
    clear RUN CA HA HEH
    go_enter Tryd.func12, Tryd.ntmps12
    go_wp2_with fail
    refine Calls.mono (OP.out _) ?_
    rintro e w1 ⟨rfl, rfl⟩
    go_wp2_with fail
    exact bodyPost_ret (v := .tuple #[.slice none 0 0, .bool false, .int .i64 3]) (by simp [results, Tryd.results12, go_sem]) rfl (BAD.out _ 3 (Below.refl _ _) DE.out (by decide))
  · have h1I : ¬ (n : Int) > 4096 := by omega
    rw [if_neg h1] at DE HA
    by_cases h2 : n = 2
    · rw [if_neg (fun e => e h2)] at DE
      subst h2
      have HEX := HEH.out (by simp)
      by_cases hz : rf = 0
      · subst hz
        have RN : Hid (∀ w1, Below w.heap.size w w1 → _) := RUN.out (by simp) (by simp)
        clear RUN HEH DE
        rw [HA.out] at CA
        go_enter Tryd.func12, Tryd.ntmps12
        go_wp2_with fail
        refine Calls.mono (OP.out _) ?_
        rintro e w1 ⟨rfl, rfl⟩
        go_wp2_with fail
        refine Calls.mono CA.out ?_
        rintro e w2 ⟨rfl, hb2⟩
        have B2 : Hid (Below w1.heap.size w1 w2) := hb2
        have R2 : Hid _ := RN.out w2 hb2
        clear hb2 CA RN
        go_wp2_with fail
        refine Calls.mono R2.out ?_
        rintro e w3 hans
        obtain ⟨p3, c3, rfl, ho3, hb3⟩ := hans.low B2.out
        have H3 : Hid (OwnG KA w3 w1.heap.size (.slice p3 (outL r).length c3) (outL r) ∧ Below w1.heap.size w1 w3) := ⟨ho3, hb3⟩
        clear ho3 hb3 hans R2
        go_wp2_with fail
        exact bodyPost_ret (v := .tuple #[.slice p3 (outL r).length c3, .bool r.isSome, .int .i64 0]) (by simp [results, Tryd.results12, go_sem]) rfl ⟨p3, c3, by rw [HEX], H3.out⟩
      · have hzb : (rf != 0) = true := by simp [hz]
        clear RUN HEH DE
        rw [HA.out] at CA
        go_enter Tryd.func12, Tryd.ntmps12
        go_wp2_with fail
        refine Calls.mono (OP.out _) ?_
        rintro e w1 ⟨rfl, rfl⟩
        go_wp2_with fail
        refine Calls.mono CA.out ?_
        rintro e w2 ⟨rfl, hb2⟩
        have B2 : Hid (Below w1.heap.size w1 w2) := hb2
        clear hb2 CA
        go_wp2_with fail
        exact bodyPost_ret (v := .tuple #[.slice none 0 0, .bool false, .int .i64 rf]) (by simp [results, Tryd.results12, go_sem]) rfl (BAD.out _ rf B2.out HEX hz)
    · rw [if_pos h2] at DE
      have h2I : ¬ (n : Int) = 2 := by omega
      have h2b : ((n : Int) != 2) = true := by simp; omega
      clear RUN CA HA HEH
      go_enter Tryd.func12, Tryd.ntmps12
      go_wp2_with fail
      refine Calls.mono (OP.out _) ?_
      rintro e w1 ⟨rfl, rfl⟩
      go_wp2_with fail
      exact bodyPost_ret (v := .tuple #[.slice none 0 0, .bool false, .int .i64 5]) (by simp [results, Tryd.results12, go_sem]) rfl (BAD.out _ 5 (Below.refl _ _) DE.out (by decide))
set_option maxHeartbeats 8000000 in
set_option maxRecDepth 100000 in
theorem vdo_sub (v : Value) (L : List Vx) (w : World) (h : VR w v L) (ht : VT L) :
    Calls Tryd.prog 12 #[.int .i64 7, v] w fun e w' => AnsD w w' e (doO 7 (aL L)) (doE 7 (aL L)) := by
  obtain ⟨p, cap, rfl⟩ := h.gs.form
  have hlm : L.length ≤ 140737488355328 := by have := ht.n; omega
  have OP : Hid (∀ w1, _) := fun w1 => operation_sub w1
  have CA : Hid _ := checkAll_any _ L w h ht
  have DE : Hid (doE 7 (aL L) = if 4096 < L.length then 3 else if L.length ≠ 2 then 5 else firstE (aL L)) := by show _ = _; unfold doE; rw [aL_len]; simp
  have HA : Hid (allE (aL L) = if 4096 < L.length then 3 else firstE (aL L)) := by show _ = _; unfold allE; rw [aL_len]
  have BAD : Hid (∀ w' err, Below w.heap.size w w' → doE 7 (aL L) = err → err ≠ 0 → AnsD w w' (.returned (.tuple #[.slice none 0 0, .bool false, .int .i64 err])) (doO 7 (aL L)) (doE 7 (aL L))) := fun w' err b e1 e2 => by rw [doO_bad (by rw [e1]; exact e2), e1]; exact AnsD.no b err
  have HE : L.length = 2 → doE 7 (aL L) = firstE (aL L) := fun hl => by rw [DE.out]; rw [if_neg (by omega), if_neg (by omega)]
  have RUN : Hid (L.length = 2 → firstE (aL L) = 0 → ∀ w1, Below w.heap.size w w1 → Calls Tryd.prog 44 #[.slice p L.length cap] w1 fun e w' => AnsT w1 w' e (doO 7 (aL L))) := fun hl hz => fun w1 bw => by
    obtain ⟨X, o, q1, c1, q2, c2, a, b, e1, e2, ra, rb, ta, tb, pa⟩ := pair_pa h ht hl hz
    subst e1
    rw [e2, show [flV a, flV b] = [a, b].map flV from rfl, doO_ok (fun t ht => by simp at ht; rcases ht with rfl | rfl; exact ra; exact rb) (by rw [show [a, b].map flV = [flV a, flV b] from rfl, ← e2, HE hl]; exact hz), hl]
    exact sub_any X o cap q1 q2 c1 c2 a b w1 (pa w1 bw) ra rb
  have HEH : Hid _ := HE
  have EF := eqFn 44
  clear h ht HE
  generalize doO 7 (aL L) = r at *
  generalize doE 7 (aL L) = de at *
  generalize allE (aL L) = ra at *
  generalize firstE (aL L) = rf at *
  generalize L.length = n at *
  by_cases h1 : 4096 < n
  · have h1I : (n : Int) > 4096 := by omega
    rw [if_pos h1] at DE
    clear RUN CA HA HEH
    go_enter Tryd.func12, Tryd.ntmps12
    go_wp2_with fail
    refine Calls.mono (OP.out _) ?_
    rintro e w1 ⟨rfl, rfl⟩
    go_wp2_with fail
    exact bodyPost_ret (v := .tuple #[.slice none 0 0, .bool false, .int .i64 3]) (by simp [results, Tryd.results12, go_sem]) rfl (BAD.out _ 3 (Below.refl _ _) DE.out (by decide))
  · have h1I : ¬ (n : Int) > 4096 := by omega
    rw [if_neg h1] at DE HA
    by_cases h2 : n = 2
    · rw [if_neg (fun e => e h2)] at DE
      subst h2
      have HEX := HEH.out (by simp)
      by_cases hz : rf = 0
      · subst hz
        have RN : Hid (∀ w1, Below w.heap.size w w1 → _) := RUN.out (by simp) (by simp)
        clear RUN HEH DE
        rw [HA.out] at CA
        go_enter Tryd.func12, Tryd.ntmps12
        go_wp2_with fail
        refine Calls.mono (OP.out _) ?_
        rintro e w1 ⟨rfl, rfl⟩
        go_wp2_with fail
        refine Calls.mono CA.out ?_
        rintro e w2 ⟨rfl, hb2⟩
        have B2 : Hid (Below w1.heap.size w1 w2) := hb2
        have R2 : Hid _ := RN.out w2 hb2
        clear hb2 CA RN
        go_wp2_with fail
        refine Calls.mono R2.out ?_
        rintro e w3 hans
        obtain ⟨p3, c3, rfl, ho3, hb3⟩ := hans.low B2.out
        have H3 : Hid (OwnG KA w3 w1.heap.size (.slice p3 (outL r).length c3) (outL r) ∧ Below w1.heap.size w1 w3) := ⟨ho3, hb3⟩
        clear ho3 hb3 hans R2
        go_wp2_with fail
        exact bodyPost_ret (v := .tuple #[.slice p3 (outL r).length c3, .bool r.isSome, .int .i64 0]) (by simp [results, Tryd.results12, go_sem]) rfl ⟨p3, c3, by rw [HEX], H3.out⟩
      · have hzb : (rf != 0) = true := by simp [hz]
        clear RUN HEH DE
        rw [HA.out] at CA
        go_enter Tryd.func12, Tryd.ntmps12
        go_wp2_with fail
        refine Calls.mono (OP.out _) ?_
        rintro e w1 ⟨rfl, rfl⟩
        go_wp2_with fail
        refine Calls.mono CA.out ?_
        rintro e w2 ⟨rfl, hb2⟩
        have B2 : Hid (Below w1.heap.size w1 w2) := hb2
        clear hb2 CA
        go_wp2_with fail
        exact bodyPost_ret (v := .tuple #[.slice none 0 0, .bool false, .int .i64 rf]) (by simp [results, Tryd.results12, go_sem]) rfl (BAD.out _ rf B2.out HEX hz)
    · rw [if_pos h2] at DE
      have h2I : ¬ (n : Int) = 2 := by omega
      have h2b : ((n : Int) != 2) = true := by simp; omega
      clear RUN CA HA HEH
      go_enter Tryd.func12, Tryd.ntmps12
      go_wp2_with fail
      refine Calls.mono (OP.out _) ?_
      rintro e w1 ⟨rfl, rfl⟩
      go_wp2_with fail
      exact bodyPost_ret (v := .tuple #[.slice none 0 0, .bool false, .int .i64 5]) (by simp [results, Tryd.results12, go_sem]) rfl (BAD.out _ 5 (Below.refl _ _) DE.out (by decide))
set_option maxHeartbeats 8000000 in
set_option maxRecDepth 100000 in
theorem vdo_mul (v : Value) (L : List Vx) (w : World) (h : VR w v L) (ht : VT L) :
    Calls Tryd.prog 12 #[.int .i64 8, v] w fun e w' => AnsD w w' e (doO 8 (aL L)) (doE 8 (aL L)) := by
  obtain ⟨p, cap, rfl⟩ := h.gs.form
  have hlm : L.length ≤ 140737488355328 := by have := ht.n; omega
  have OP : Hid (∀ w1, _) := fun w1 => operation_mul w1
  have CA : Hid _ := checkAll_any _ L w h ht
  have DE : Hid (doE 8 (aL L) = if 4096 < L.length then 3 else if L.length ≠ 2 then 5 else firstE (aL L)) := by show _ = _; unfold doE; rw [aL_len]; simp
  have HA : Hid (allE (aL L) = if 4096 < L.length then 3 else firstE (aL L)) := by show _ = _; unfold allE; rw [aL_len]
  have BAD : Hid (∀ w' err, Below w.heap.size w w' → doE 8 (aL L) = err → err ≠ 0 → AnsD w w' (.returned (.tuple #[.slice none 0 0, .bool false, .int .i64 err])) (doO 8 (aL L)) (doE 8 (aL L))) := fun w' err b e1 e2 => by rw [doO_bad (by rw [e1]; exact e2), e1]; exact AnsD.no b err
  have HE : L.length = 2 → doE 8 (aL L) = firstE (aL L) := fun hl => by rw [DE.out]; rw [if_neg (by omega), if_neg (by omega)]
  have RUN : Hid (L.length = 2 → firstE (aL L) = 0 → ∀ w1, Below w.heap.size w w1 → Calls Tryd.prog 45 #[.slice p L.length cap] w1 fun e w' => AnsT w1 w' e (doO 8 (aL L))) := fun hl hz => fun w1 bw => by
    obtain ⟨X, o, q1, c1, q2, c2, a, b, e1, e2, ra, rb, ta, tb, pa⟩ := pair_pa h ht hl hz
    subst e1
    rw [e2, show [flV a, flV b] = [a, b].map flV from rfl, doO_ok (fun t ht => by simp at ht; rcases ht with rfl | rfl; exact ra; exact rb) (by rw [show [a, b].map flV = [flV a, flV b] from rfl, ← e2, HE hl]; exact hz), hl]
    exact mul_any X o cap q1 q2 c1 c2 a b w1 (pa w1 bw) ra rb
  have HEH : Hid _ := HE
  have EF := eqFn 45
  clear h ht HE
  generalize doO 8 (aL L) = r at *
  generalize doE 8 (aL L) = de at *
  generalize allE (aL L) = ra at *
  generalize firstE (aL L) = rf at *
  generalize L.length = n at *
  by_cases h1 : 4096 < n
  · have h1I : (n : Int) > 4096 := by omega
    rw [if_pos h1] at DE
    clear RUN CA HA HEH
    go_enter Tryd.func12, Tryd.ntmps12
    go_wp2_with fail
    refine Calls.mono (OP.out _) ?_
    rintro e w1 ⟨rfl, rfl⟩
    go_wp2_with fail
    exact bodyPost_ret (v := .tuple #[.slice none 0 0, .bool false, .int .i64 3]) (by simp [results, Tryd.results12, go_sem]) rfl (BAD.out _ 3 (Below.refl _ _) DE.out (by decide))
  · have h1I : ¬ (n : Int) > 4096 := by omega
    rw [if_neg h1] at DE HA
    by_cases h2 : n = 2
    · rw [if_neg (fun e => e h2)] at DE
      subst h2
      have HEX := HEH.out (by simp)
      by_cases hz : rf = 0
      · subst hz
        have RN : Hid (∀ w1, Below w.heap.size w w1 → _) := RUN.out (by simp) (by simp)
        clear RUN HEH DE
        rw [HA.out] at CA
        go_enter Tryd.func12, Tryd.ntmps12
        go_wp2_with fail
        refine Calls.mono (OP.out _) ?_
        rintro e w1 ⟨rfl, rfl⟩
        go_wp2_with fail
        refine Calls.mono CA.out ?_
        rintro e w2 ⟨rfl, hb2⟩
        have B2 : Hid (Below w1.heap.size w1 w2) := hb2
        have R2 : Hid _ := RN.out w2 hb2
        clear hb2 CA RN
        go_wp2_with fail
        refine Calls.mono R2.out ?_
        rintro e w3 hans
        obtain ⟨p3, c3, rfl, ho3, hb3⟩ := hans.low B2.out
        have H3 : Hid (OwnG KA w3 w1.heap.size (.slice p3 (outL r).length c3) (outL r) ∧ Below w1.heap.size w1 w3) := ⟨ho3, hb3⟩
        clear ho3 hb3 hans R2
        go_wp2_with fail
        exact bodyPost_ret (v := .tuple #[.slice p3 (outL r).length c3, .bool r.isSome, .int .i64 0]) (by simp [results, Tryd.results12, go_sem]) rfl ⟨p3, c3, by rw [HEX], H3.out⟩
      · have hzb : (rf != 0) = true := by simp [hz]
        clear RUN HEH DE
        rw [HA.out] at CA
        go_enter Tryd.func12, Tryd.ntmps12
        go_wp2_with fail
        refine Calls.mono (OP.out _) ?_
        rintro e w1 ⟨rfl, rfl⟩
        go_wp2_with fail
        refine Calls.mono CA.out ?_
        rintro e w2 ⟨rfl, hb2⟩
        have B2 : Hid (Below w1.heap.size w1 w2) := hb2
        clear hb2 CA
        go_wp2_with fail
        exact bodyPost_ret (v := .tuple #[.slice none 0 0, .bool false, .int .i64 rf]) (by simp [results, Tryd.results12, go_sem]) rfl (BAD.out _ rf B2.out HEX hz)
    · rw [if_pos h2] at DE
      have h2I : ¬ (n : Int) = 2 := by omega
      have h2b : ((n : Int) != 2) = true := by simp; omega
      clear RUN CA HA HEH
      go_enter Tryd.func12, Tryd.ntmps12
      go_wp2_with fail
      refine Calls.mono (OP.out _) ?_
      rintro e w1 ⟨rfl, rfl⟩
      go_wp2_with fail
      exact bodyPost_ret (v := .tuple #[.slice none 0 0, .bool false, .int .i64 5]) (by simp [results, Tryd.results12, go_sem]) rfl (BAD.out _ 5 (Below.refl _ _) DE.out (by decide))
set_option maxHeartbeats 8000000 in
set_option maxRecDepth 100000 in
theorem vdo_join (v : Value) (L : List Vx) (w : World) (h : VR w v L) (ht : VT L) :
    Calls Tryd.prog 12 #[.int .i64 9, v] w fun e w' => AnsD w w' e (doO 9 (aL L)) (doE 9 (aL L)) := by
  obtain ⟨p, cap, rfl⟩ := h.gs.form
  have hlm : L.length ≤ 140737488355328 := by have := ht.n; omega
  have OP : Hid (∀ w1, _) := fun w1 => operation_join w1
  have CA : Hid _ := checkAll_any _ L w h ht
  have DE : Hid (doE 9 (aL L) = if 4096 < L.length then 3 else if L.length ≠ 2 then 5 else firstE (aL L)) := by show _ = _; unfold doE; rw [aL_len]; simp
  have HA : Hid (allE (aL L) = if 4096 < L.length then 3 else firstE (aL L)) := by show _ = _; unfold allE; rw [aL_len]
  have BAD : Hid (∀ w' err, Below w.heap.size w w' → doE 9 (aL L) = err → err ≠ 0 → AnsD w w' (.returned (.tuple #[.slice none 0 0, .bool false, .int .i64 err])) (doO 9 (aL L)) (doE 9 (aL L))) := fun w' err b e1 e2 => by rw [doO_bad (by rw [e1]; exact e2), e1]; exact AnsD.no b err
  have HE : L.length = 2 → doE 9 (aL L) = firstE (aL L) := fun hl => by rw [DE.out]; rw [if_neg (by omega), if_neg (by omega)]
  have RUN : Hid (L.length = 2 → firstE (aL L) = 0 → ∀ w1, Below w.heap.size w w1 → Calls Tryd.prog 46 #[.slice p L.length cap] w1 fun e w' => AnsT w1 w' e (doO 9 (aL L))) := fun hl hz => fun w1 bw => by
    obtain ⟨X, o, q1, c1, q2, c2, a, b, e1, e2, ra, rb, ta, tb, pa⟩ := pair_pa h ht hl hz
    subst e1
    rw [e2, show [flV a, flV b] = [a, b].map flV from rfl, doO_ok (fun t ht => by simp at ht; rcases ht with rfl | rfl; exact ra; exact rb) (by rw [show [a, b].map flV = [flV a, flV b] from rfl, ← e2, HE hl]; exact hz), hl]
    exact join_any X o cap q1 q2 c1 c2 a b w1 (pa w1 bw) ra rb ta tb
  have HEH : Hid _ := HE
  have EF := eqFn 46
  clear h ht HE
  generalize doO 9 (aL L) = r at *
  generalize doE 9 (aL L) = de at *
  generalize allE (aL L) = ra at *
  generalize firstE (aL L) = rf at *
  generalize L.length = n at *
  by_cases h1 : 4096 < n
  · have h1I : (n : Int) > 4096 := by omega
    rw [if_pos h1] at DE
    clear RUN CA HA HEH
    go_enter Tryd.func12, Tryd.ntmps12
    go_wp2_with fail
    refine Calls.mono (OP.out _) ?_
    rintro e w1 ⟨rfl, rfl⟩
    go_wp2_with fail
    exact bodyPost_ret (v := .tuple #[.slice none 0 0, .bool false, .int .i64 3]) (by simp [results, Tryd.results12, go_sem]) rfl (BAD.out _ 3 (Below.refl _ _) DE.out (by decide))
  · have h1I : ¬ (n : Int) > 4096 := by omega
    rw [if_neg h1] at DE HA
    by_cases h2 : n = 2
    · rw [if_neg (fun e => e h2)] at DE
      subst h2
      have HEX := HEH.out (by simp)
      by_cases hz : rf = 0
      · subst hz
        have RN : Hid (∀ w1, Below w.heap.size w w1 → _) := RUN.out (by simp) (by simp)
        clear RUN HEH DE
        rw [HA.out] at CA
        go_enter Tryd.func12, Tryd.ntmps12
        go_wp2_with fail
        refine Calls.mono (OP.out _) ?_
        rintro e w1 ⟨rfl, rfl⟩
        go_wp2_with fail
        refine Calls.mono CA.out ?_
        rintro e w2 ⟨rfl, hb2⟩
        have B2 : Hid (Below w1.heap.size w1 w2) := hb2
        have R2 : Hid _ := RN.out w2 hb2
        clear hb2 CA RN
        go_wp2_with fail
        refine Calls.mono R2.out ?_
        rintro e w3 hans
        obtain ⟨p3, c3, rfl, ho3, hb3⟩ := hans.low B2.out
        have H3 : Hid (OwnG KA w3 w1.heap.size (.slice p3 (outL r).length c3) (outL r) ∧ Below w1.heap.size w1 w3) := ⟨ho3, hb3⟩
        clear ho3 hb3 hans R2
        go_wp2_with fail
        exact bodyPost_ret (v := .tuple #[.slice p3 (outL r).length c3, .bool r.isSome, .int .i64 0]) (by simp [results, Tryd.results12, go_sem]) rfl ⟨p3, c3, by rw [HEX], H3.out⟩
      · have hzb : (rf != 0) = true := by simp [hz]
        clear RUN HEH DE
        rw [HA.out] at CA
        go_enter Tryd.func12, Tryd.ntmps12
        go_wp2_with fail
        refine Calls.mono (OP.out _) ?_
        rintro e w1 ⟨rfl, rfl⟩
        go_wp2_with fail
        refine Calls.mono CA.out ?_
        rintro e w2 ⟨rfl, hb2⟩
        have B2 : Hid (Below w1.heap.size w1 w2) := hb2
        clear hb2 CA
        go_wp2_with fail
        exact bodyPost_ret (v := .tuple #[.slice none 0 0, .bool false, .int .i64 rf]) (by simp [results, Tryd.results12, go_sem]) rfl (BAD.out _ rf B2.out HEX hz)
    · rw [if_pos h2] at DE
      have h2I : ¬ (n : Int) = 2 := by omega
      have h2b : ((n : Int) != 2) = true := by simp; omega
      clear RUN CA HA HEH
      go_enter Tryd.func12, Tryd.ntmps12
      go_wp2_with fail
      refine Calls.mono (OP.out _) ?_
      rintro e w1 ⟨rfl, rfl⟩
      go_wp2_with fail
      exact bodyPost_ret (v := .tuple #[.slice none 0 0, .bool false, .int .i64 5]) (by simp [results, Tryd.results12, go_sem]) rfl (BAD.out _ 5 (Below.refl _ _) DE.out (by decide))
set_option maxHeartbeats 8000000 in
set_option maxRecDepth 100000 in
theorem vdo_item (v : Value) (L : List Vx) (w : World) (h : VR w v L) (ht : VT L) :
    Calls Tryd.prog 12 #[.int .i64 10, v] w fun e w' => AnsD w w' e (doO 10 (aL L)) (doE 10 (aL L)) := by
  obtain ⟨p, cap, rfl⟩ := h.gs.form
  have hlm : L.length ≤ 140737488355328 := by have := ht.n; omega
  have OP : Hid (∀ w1, _) := fun w1 => operation_item w1
  have CA : Hid _ := checkAll_any _ L w h ht
  have DE : Hid (doE 10 (aL L) = if 4096 < L.length then 3 else if L.length ≠ 2 then 5 else firstE (aL L)) := by show _ = _; unfold doE; rw [aL_len]; simp
  have HA : Hid (allE (aL L) = if 4096 < L.length then 3 else firstE (aL L)) := by show _ = _; unfold allE; rw [aL_len]
  have BAD : Hid (∀ w' err, Below w.heap.size w w' → doE 10 (aL L) = err → err ≠ 0 → AnsD w w' (.returned (.tuple #[.slice none 0 0, .bool false, .int .i64 err])) (doO 10 (aL L)) (doE 10 (aL L))) := fun w' err b e1 e2 => by rw [doO_bad (by rw [e1]; exact e2), e1]; exact AnsD.no b err
  have HE : L.length = 2 → doE 10 (aL L) = firstE (aL L) := fun hl => by rw [DE.out]; rw [if_neg (by omega), if_neg (by omega)]
  have RUN : Hid (L.length = 2 → firstE (aL L) = 0 → ∀ w1, Below w.heap.size w w1 → Calls Tryd.prog 47 #[.slice p L.length cap] w1 fun e w' => AnsT w1 w' e (doO 10 (aL L))) := fun hl hz => fun w1 bw => by
    obtain ⟨X, o, q1, c1, q2, c2, a, b, e1, e2, ra, rb, ta, tb, pa⟩ := pair_pa h ht hl hz
    subst e1
    rw [e2, show [flV a, flV b] = [a, b].map flV from rfl, doO_ok (fun t ht => by simp at ht; rcases ht with rfl | rfl; exact ra; exact rb) (by rw [show [a, b].map flV = [flV a, flV b] from rfl, ← e2, HE hl]; exact hz), hl]
    exact item_any X o cap q1 q2 c1 c2 a b w1 (pa w1 bw) ra rb
  have HEH : Hid _ := HE
  have EF := eqFn 47
  clear h ht HE
  generalize doO 10 (aL L) = r at *
  generalize doE 10 (aL L) = de at *
  generalize allE (aL L) = ra at *
  generalize firstE (aL L) = rf at *
  generalize L.length = n at *
  by_cases h1 : 4096 < n
  · have h1I : (n : Int) > 4096 := by omega
    rw [if_pos h1] at DE
    clear RUN CA HA HEH
    go_enter Tryd.func12, Tryd.ntmps12
    go_wp2_with fail
    refine Calls.mono (OP.out _) ?_
    rintro e w1 ⟨rfl, rfl⟩
    go_wp2_with fail
    exact bodyPost_ret (v := .tuple #[.slice none 0 0, .bool false, .int .i64 3]) (by simp [results, Tryd.results12, go_sem]) rfl (BAD.out _ 3 (Below.refl _ _) DE.out (by decide))
  · have h1I : ¬ (n : Int) > 4096 := by omega
    rw [if_neg h1] at DE HA
    by_cases h2 : n = 2
    · rw [if_neg (fun e => e h2)] at DE
      subst h2
      have HEX := HEH.out (by simp)
      by_cases hz : rf = 0
      · subst hz
        have RN : Hid (∀ w1, Below w.heap.size w w1 → _) := RUN.out (by simp) (by simp)
        clear RUN HEH DE
        rw [HA.out] at CA
        go_enter Tryd.func12, Tryd.ntmps12
        go_wp2_with fail
        refine Calls.mono (OP.out _) ?_
        rintro e w1 ⟨rfl, rfl⟩
        go_wp2_with fail
        refine Calls.mono CA.out ?_
        rintro e w2 ⟨rfl, hb2⟩
        have B2 : Hid (Below w1.heap.size w1 w2) := hb2
        have R2 : Hid _ := RN.out w2 hb2
        clear hb2 CA RN
        go_wp2_with fail
        refine Calls.mono R2.out ?_
        rintro e w3 hans
        obtain ⟨p3, c3, rfl, ho3, hb3⟩ := hans.low B2.out
        have H3 : Hid (OwnG KA w3 w1.heap.size (.slice p3 (outL r).length c3) (outL r) ∧ Below w1.heap.size w1 w3) := ⟨ho3, hb3⟩
        clear ho3 hb3 hans R2
        go_wp2_with fail
        exact bodyPost_ret (v := .tuple #[.slice p3 (outL r).length c3, .bool r.isSome, .int .i64 0]) (by simp [results, Tryd.results12, go_sem]) rfl ⟨p3, c3, by rw [HEX], H3.out⟩
      · have hzb : (rf != 0) = true := by simp [hz]
        clear RUN HEH DE
        rw [HA.out] at CA
        go_enter Tryd.func12, Tryd.ntmps12
        go_wp2_with fail
        refine Calls.mono (OP.out _) ?_
        rintro e w1 ⟨rfl, rfl⟩
        go_wp2_with fail
        refine Calls.mono CA.out ?_
        rintro e w2 ⟨rfl, hb2⟩
        have B2 : Hid (Below w1.heap.size w1 w2) := hb2
        clear hb2 CA
        go_wp2_with fail
        exact bodyPost_ret (v := .tuple #[.slice none 0 0, .bool false, .int .i64 rf]) (by simp [results, Tryd.results12, go_sem]) rfl (BAD.out _ rf B2.out HEX hz)
    · rw [if_pos h2] at DE
      have h2I : ¬ (n : Int) = 2 := by omega
      have h2b : ((n : Int) != 2) = true := by simp; omega
      clear RUN CA HA HEH
      go_enter Tryd.func12, Tryd.ntmps12
      go_wp2_with fail
      refine Calls.mono (OP.out _) ?_
      rintro e w1 ⟨rfl, rfl⟩
      go_wp2_with fail
      exact bodyPost_ret (v := .tuple #[.slice none 0 0, .bool false, .int .i64 5]) (by simp [results, Tryd.results12, go_sem]) rfl (BAD.out _ 5 (Below.refl _ _) DE.out (by decide))
set_option maxHeartbeats 8000000 in
set_option maxRecDepth 100000 in
theorem vdo_size (v : Value) (L : List Vx) (w : World) (h : VR w v L) (ht : VT L) :
    Calls Tryd.prog 12 #[.int .i64 11, v] w fun e w' => AnsD w w' e (doO 11 (aL L)) (doE 11 (aL L)) := by
  obtain ⟨p, cap, rfl⟩ := h.gs.form
  have hlm : L.length ≤ 140737488355328 := by have := ht.n; omega
  have OP : Hid (∀ w1, _) := fun w1 => operation_size w1
  have CA : Hid _ := checkAll_any _ L w h ht
  have DE : Hid (doE 11 (aL L) = if 4096 < L.length then 3 else if L.length ≠ 1 then 5 else firstE (aL L)) := by show _ = _; unfold doE; rw [aL_len]; simp
  have HA : Hid (allE (aL L) = if 4096 < L.length then 3 else firstE (aL L)) := by show _ = _; unfold allE; rw [aL_len]
  have BAD : Hid (∀ w' err, Below w.heap.size w w' → doE 11 (aL L) = err → err ≠ 0 → AnsD w w' (.returned (.tuple #[.slice none 0 0, .bool false, .int .i64 err])) (doO 11 (aL L)) (doE 11 (aL L))) := fun w' err b e1 e2 => by rw [doO_bad (by rw [e1]; exact e2), e1]; exact AnsD.no b err
  have HE : L.length = 1 → doE 11 (aL L) = firstE (aL L) := fun hl => by rw [DE.out]; rw [if_neg (by omega), if_neg (by omega)]
  have RUN : Hid (L.length = 1 → firstE (aL L) = 0 → ∀ w1, Below w.heap.size w w1 → Calls Tryd.prog 48 #[.slice p L.length cap] w1 fun e w' => AnsT w1 w' e (doO 11 (aL L))) := fun hl hz => fun w1 bw => by
    obtain ⟨X, o, q1, c1, a, e1, e2, ra, ta, pa⟩ := one_pa h ht hl hz
    subst e1
    rw [e2, show [flV a] = [a].map flV from rfl, doO_ok (fun t ht => by simp at ht; rw [ht]; exact ra) (by rw [show [a].map flV = [flV a] from rfl, ← e2, HE hl]; exact hz), hl]
    exact size_any X o cap q1 c1 a w1 (pa w1 bw).1 (pa w1 bw).2 ra (by have := ra.text; omega)
  have HEH : Hid _ := HE
  have EF := eqFn 48
  clear h ht HE
  generalize doO 11 (aL L) = r at *
  generalize doE 11 (aL L) = de at *
  generalize allE (aL L) = ra at *
  generalize firstE (aL L) = rf at *
  generalize L.length = n at *
  by_cases h1 : 4096 < n
  · have h1I : (n : Int) > 4096 := by omega
    rw [if_pos h1] at DE
    clear RUN CA HA HEH
    go_enter Tryd.func12, Tryd.ntmps12
    go_wp2_with fail
    refine Calls.mono (OP.out _) ?_
    rintro e w1 ⟨rfl, rfl⟩
    go_wp2_with fail
    exact bodyPost_ret (v := .tuple #[.slice none 0 0, .bool false, .int .i64 3]) (by simp [results, Tryd.results12, go_sem]) rfl (BAD.out _ 3 (Below.refl _ _) DE.out (by decide))
  · have h1I : ¬ (n : Int) > 4096 := by omega
    rw [if_neg h1] at DE HA
    by_cases h2 : n = 1
    · rw [if_neg (fun e => e h2)] at DE
      subst h2
      have HEX := HEH.out (by simp)
      by_cases hz : rf = 0
      · subst hz
        have RN : Hid (∀ w1, Below w.heap.size w w1 → _) := RUN.out (by simp) (by simp)
        clear RUN HEH DE
        rw [HA.out] at CA
        go_enter Tryd.func12, Tryd.ntmps12
        go_wp2_with fail
        refine Calls.mono (OP.out _) ?_
        rintro e w1 ⟨rfl, rfl⟩
        go_wp2_with fail
        refine Calls.mono CA.out ?_
        rintro e w2 ⟨rfl, hb2⟩
        have B2 : Hid (Below w1.heap.size w1 w2) := hb2
        have R2 : Hid _ := RN.out w2 hb2
        clear hb2 CA RN
        go_wp2_with fail
        refine Calls.mono R2.out ?_
        rintro e w3 hans
        obtain ⟨p3, c3, rfl, ho3, hb3⟩ := hans.low B2.out
        have H3 : Hid (OwnG KA w3 w1.heap.size (.slice p3 (outL r).length c3) (outL r) ∧ Below w1.heap.size w1 w3) := ⟨ho3, hb3⟩
        clear ho3 hb3 hans R2
        go_wp2_with fail
        exact bodyPost_ret (v := .tuple #[.slice p3 (outL r).length c3, .bool r.isSome, .int .i64 0]) (by simp [results, Tryd.results12, go_sem]) rfl ⟨p3, c3, by rw [HEX], H3.out⟩
      · have hzb : (rf != 0) = true := by simp [hz]
        clear RUN HEH DE
        rw [HA.out] at CA
        go_enter Tryd.func12, Tryd.ntmps12
        go_wp2_with fail
        refine Calls.mono (OP.out _) ?_
        rintro e w1 ⟨rfl, rfl⟩
        go_wp2_with fail
        refine Calls.mono CA.out ?_
        rintro e w2 ⟨rfl, hb2⟩
        have B2 : Hid (Below w1.heap.size w1 w2) := hb2
        clear hb2 CA
        go_wp2_with fail
        exact bodyPost_ret (v := .tuple #[.slice none 0 0, .bool false, .int .i64 rf]) (by simp [results, Tryd.results12, go_sem]) rfl (BAD.out _ rf B2.out HEX hz)
    · rw [if_pos h2] at DE
      have h2I : ¬ (n : Int) = 1 := by omega
      have h2b : ((n : Int) != 1) = true := by simp; omega
      clear RUN CA HA HEH
      go_enter Tryd.func12, Tryd.ntmps12
      go_wp2_with fail
      refine Calls.mono (OP.out _) ?_
      rintro e w1 ⟨rfl, rfl⟩
      go_wp2_with fail
      exact bodyPost_ret (v := .tuple #[.slice none 0 0, .bool false, .int .i64 5]) (by simp [results, Tryd.results12, go_sem]) rfl (BAD.out _ 5 (Below.refl _ _) DE.out (by decide))
set_option maxHeartbeats 8000000 in
set_option maxRecDepth 100000 in
theorem vdo_less (v : Value) (L : List Vx) (w : World) (h : VR w v L) (ht : VT L) :
    Calls Tryd.prog 12 #[.int .i64 12, v] w fun e w' => AnsD w w' e (doO 12 (aL L)) (doE 12 (aL L)) := by
  obtain ⟨p, cap, rfl⟩ := h.gs.form
  have hlm : L.length ≤ 140737488355328 := by have := ht.n; omega
  have OP : Hid (∀ w1, _) := fun w1 => operation_less w1
  have CA : Hid _ := checkAll_any _ L w h ht
  have DE : Hid (doE 12 (aL L) = if 4096 < L.length then 3 else if L.length ≠ 2 then 5 else firstE (aL L)) := by show _ = _; unfold doE; rw [aL_len]; simp
  have HA : Hid (allE (aL L) = if 4096 < L.length then 3 else firstE (aL L)) := by show _ = _; unfold allE; rw [aL_len]
  have BAD : Hid (∀ w' err, Below w.heap.size w w' → doE 12 (aL L) = err → err ≠ 0 → AnsD w w' (.returned (.tuple #[.slice none 0 0, .bool false, .int .i64 err])) (doO 12 (aL L)) (doE 12 (aL L))) := fun w' err b e1 e2 => by rw [doO_bad (by rw [e1]; exact e2), e1]; exact AnsD.no b err
  have HE : L.length = 2 → doE 12 (aL L) = firstE (aL L) := fun hl => by rw [DE.out]; rw [if_neg (by omega), if_neg (by omega)]
  have RUN : Hid (L.length = 2 → firstE (aL L) = 0 → ∀ w1, Below w.heap.size w w1 → Calls Tryd.prog 49 #[.slice p L.length cap] w1 fun e w' => AnsT w1 w' e (doO 12 (aL L))) := fun hl hz => fun w1 bw => by
    obtain ⟨X, o, q1, c1, q2, c2, a, b, e1, e2, ra, rb, ta, tb, pa⟩ := pair_pa h ht hl hz
    subst e1
    rw [e2, show [flV a, flV b] = [a, b].map flV from rfl, doO_ok (fun t ht => by simp at ht; rcases ht with rfl | rfl; exact ra; exact rb) (by rw [show [a, b].map flV = [flV a, flV b] from rfl, ← e2, HE hl]; exact hz), hl]
    exact less_any X o cap q1 q2 c1 c2 a b w1 (pa w1 bw) ra rb
  have HEH : Hid _ := HE
  have EF := eqFn 49
  clear h ht HE
  generalize doO 12 (aL L) = r at *
  generalize doE 12 (aL L) = de at *
  generalize allE (aL L) = ra at *
  generalize firstE (aL L) = rf at *
  generalize L.length = n at *
  by_cases h1 : 4096 < n
  · have h1I : (n : Int) > 4096 := by omega
    rw [if_pos h1] at DE
    clear RUN CA HA HEH
    go_enter Tryd.func12, Tryd.ntmps12
    go_wp2_with fail
    refine Calls.mono (OP.out _) ?_
    rintro e w1 ⟨rfl, rfl⟩
    go_wp2_with fail
    exact bodyPost_ret (v := .tuple #[.slice none 0 0, .bool false, .int .i64 3]) (by simp [results, Tryd.results12, go_sem]) rfl (BAD.out _ 3 (Below.refl _ _) DE.out (by decide))
  · have h1I : ¬ (n : Int) > 4096 := by omega
    rw [if_neg h1] at DE HA
    by_cases h2 : n = 2
    · rw [if_neg (fun e => e h2)] at DE
      subst h2
      have HEX := HEH.out (by simp)
      by_cases hz : rf = 0
      · subst hz
        have RN : Hid (∀ w1, Below w.heap.size w w1 → _) := RUN.out (by simp) (by simp)
        clear RUN HEH DE
        rw [HA.out] at CA
        go_enter Tryd.func12, Tryd.ntmps12
        go_wp2_with fail
        refine Calls.mono (OP.out _) ?_
        rintro e w1 ⟨rfl, rfl⟩
        go_wp2_with fail
        refine Calls.mono CA.out ?_
        rintro e w2 ⟨rfl, hb2⟩
        have B2 : Hid (Below w1.heap.size w1 w2) := hb2
        have R2 : Hid _ := RN.out w2 hb2
        clear hb2 CA RN
        go_wp2_with fail
        refine Calls.mono R2.out ?_
        rintro e w3 hans
        obtain ⟨p3, c3, rfl, ho3, hb3⟩ := hans.low B2.out
        have H3 : Hid (OwnG KA w3 w1.heap.size (.slice p3 (outL r).length c3) (outL r) ∧ Below w1.heap.size w1 w3) := ⟨ho3, hb3⟩
        clear ho3 hb3 hans R2
        go_wp2_with fail
        exact bodyPost_ret (v := .tuple #[.slice p3 (outL r).length c3, .bool r.isSome, .int .i64 0]) (by simp [results, Tryd.results12, go_sem]) rfl ⟨p3, c3, by rw [HEX], H3.out⟩
      · have hzb : (rf != 0) = true := by simp [hz]
        clear RUN HEH DE
        rw [HA.out] at CA
        go_enter Tryd.func12, Tryd.ntmps12
        go_wp2_with fail
        refine Calls.mono (OP.out _) ?_
        rintro e w1 ⟨rfl, rfl⟩
        go_wp2_with fail
        refine Calls.mono CA.out ?_
        rintro e w2 ⟨rfl, hb2⟩
        have B2 : Hid (Below w1.heap.size w1 w2) := hb2
        clear hb2 CA
        go_wp2_with fail
        exact bodyPost_ret (v := .tuple #[.slice none 0 0, .bool false, .int .i64 rf]) (by simp [results, Tryd.results12, go_sem]) rfl (BAD.out _ rf B2.out HEX hz)
    · rw [if_pos h2] at DE
      have h2I : ¬ (n : Int) = 2 := by omega
      have h2b : ((n : Int) != 2) = true := by simp; omega
      clear RUN CA HA HEH
      go_enter Tryd.func12, Tryd.ntmps12
      go_wp2_with fail
      refine Calls.mono (OP.out _) ?_
      rintro e w1 ⟨rfl, rfl⟩
      go_wp2_with fail
      exact bodyPost_ret (v := .tuple #[.slice none 0 0, .bool false, .int .i64 5]) (by simp [results, Tryd.results12, go_sem]) rfl (BAD.out _ 5 (Below.refl _ _) DE.out (by decide))
set_option maxHeartbeats 8000000 in
set_option maxRecDepth 100000 in
theorem vdo_same (v : Value) (L : List Vx) (w : World) (h : VR w v L) (ht : VT L) :
    Calls Tryd.prog 12 #[.int .i64 13, v] w fun e w' => AnsD w w' e (doO 13 (aL L)) (doE 13 (aL L)) := by
  obtain ⟨p, cap, rfl⟩ := h.gs.form
  have hlm : L.length ≤ 140737488355328 := by have := ht.n; omega
  have OP : Hid (∀ w1, _) := fun w1 => operation_same w1
  have CA : Hid _ := checkAll_any _ L w h ht
  have DE : Hid (doE 13 (aL L) = if 4096 < L.length then 3 else if L.length ≠ 2 then 5 else firstE (aL L)) := by show _ = _; unfold doE; rw [aL_len]; simp
  have HA : Hid (allE (aL L) = if 4096 < L.length then 3 else firstE (aL L)) := by show _ = _; unfold allE; rw [aL_len]
  have BAD : Hid (∀ w' err, Below w.heap.size w w' → doE 13 (aL L) = err → err ≠ 0 → AnsD w w' (.returned (.tuple #[.slice none 0 0, .bool false, .int .i64 err])) (doO 13 (aL L)) (doE 13 (aL L))) := fun w' err b e1 e2 => by rw [doO_bad (by rw [e1]; exact e2), e1]; exact AnsD.no b err
  have HE : L.length = 2 → doE 13 (aL L) = firstE (aL L) := fun hl => by rw [DE.out]; rw [if_neg (by omega), if_neg (by omega)]
  have RUN : Hid (L.length = 2 → firstE (aL L) = 0 → ∀ w1, Below w.heap.size w w1 → Calls Tryd.prog 50 #[.slice p L.length cap] w1 fun e w' => AnsT w1 w' e (doO 13 (aL L))) := fun hl hz => fun w1 bw => by
    obtain ⟨X, o, q1, c1, q2, c2, a, b, e1, e2, ra, rb, ta, tb, pa⟩ := pair_pa h ht hl hz
    subst e1
    rw [e2, show [flV a, flV b] = [a, b].map flV from rfl, doO_ok (fun t ht => by simp at ht; rcases ht with rfl | rfl; exact ra; exact rb) (by rw [show [a, b].map flV = [flV a, flV b] from rfl, ← e2, HE hl]; exact hz), hl]
    exact same_any X o cap q1 q2 c1 c2 a b w1 (pa w1 bw) ra rb
  have HEH : Hid _ := HE
  have EF := eqFn 50
  clear h ht HE
  generalize doO 13 (aL L) = r at *
  generalize doE 13 (aL L) = de at *
  generalize allE (aL L) = ra at *
  generalize firstE (aL L) = rf at *
  generalize L.length = n at *
  by_cases h1 : 4096 < n
  · have h1I : (n : Int) > 4096 := by omega
    rw [if_pos h1] at DE
    clear RUN CA HA HEH
    go_enter Tryd.func12, Tryd.ntmps12
    go_wp2_with fail
    refine Calls.mono (OP.out _) ?_
    rintro e w1 ⟨rfl, rfl⟩
    go_wp2_with fail
    exact bodyPost_ret (v := .tuple #[.slice none 0 0, .bool false, .int .i64 3]) (by simp [results, Tryd.results12, go_sem]) rfl (BAD.out _ 3 (Below.refl _ _) DE.out (by decide))
  · have h1I : ¬ (n : Int) > 4096 := by omega
    rw [if_neg h1] at DE HA
    by_cases h2 : n = 2
    · rw [if_neg (fun e => e h2)] at DE
      subst h2
      have HEX := HEH.out (by simp)
      by_cases hz : rf = 0
      · subst hz
        have RN : Hid (∀ w1, Below w.heap.size w w1 → _) := RUN.out (by simp) (by simp)
        clear RUN HEH DE
        rw [HA.out] at CA
        go_enter Tryd.func12, Tryd.ntmps12
        go_wp2_with fail
        refine Calls.mono (OP.out _) ?_
        rintro e w1 ⟨rfl, rfl⟩
        go_wp2_with fail
        refine Calls.mono CA.out ?_
        rintro e w2 ⟨rfl, hb2⟩
        have B2 : Hid (Below w1.heap.size w1 w2) := hb2
        have R2 : Hid _ := RN.out w2 hb2
        clear hb2 CA RN
        go_wp2_with fail
        refine Calls.mono R2.out ?_
        rintro e w3 hans
        obtain ⟨p3, c3, rfl, ho3, hb3⟩ := hans.low B2.out
        have H3 : Hid (OwnG KA w3 w1.heap.size (.slice p3 (outL r).length c3) (outL r) ∧ Below w1.heap.size w1 w3) := ⟨ho3, hb3⟩
        clear ho3 hb3 hans R2
        go_wp2_with fail
        exact bodyPost_ret (v := .tuple #[.slice p3 (outL r).length c3, .bool r.isSome, .int .i64 0]) (by simp [results, Tryd.results12, go_sem]) rfl ⟨p3, c3, by rw [HEX], H3.out⟩
      · have hzb : (rf != 0) = true := by simp [hz]
        clear RUN HEH DE
        rw [HA.out] at CA
        go_enter Tryd.func12, Tryd.ntmps12
        go_wp2_with fail
        refine Calls.mono (OP.out _) ?_
        rintro e w1 ⟨rfl, rfl⟩
        go_wp2_with fail
        refine Calls.mono CA.out ?_
        rintro e w2 ⟨rfl, hb2⟩
        have B2 : Hid (Below w1.heap.size w1 w2) := hb2
        clear hb2 CA
        go_wp2_with fail
        exact bodyPost_ret (v := .tuple #[.slice none 0 0, .bool false, .int .i64 rf]) (by simp [results, Tryd.results12, go_sem]) rfl (BAD.out _ rf B2.out HEX hz)
    · rw [if_pos h2] at DE
      have h2I : ¬ (n : Int) = 2 := by omega
      have h2b : ((n : Int) != 2) = true := by simp; omega
      clear RUN CA HA HEH
      go_enter Tryd.func12, Tryd.ntmps12
      go_wp2_with fail
      refine Calls.mono (OP.out _) ?_
      rintro e w1 ⟨rfl, rfl⟩
      go_wp2_with fail
      exact bodyPost_ret (v := .tuple #[.slice none 0 0, .bool false, .int .i64 5]) (by simp [results, Tryd.results12, go_sem]) rfl (BAD.out _ 5 (Below.refl _ _) DE.out (by decide))
set_option maxHeartbeats 8000000 in
set_option maxRecDepth 100000 in
theorem vdo_none (k : Int) (v : Value) (L : List Vx) (w : World) (h : VR w v L) (hk : k < 5 ∨ 13 < k) :
    Calls Tryd.prog 12 #[.int .i64 k, v] w fun e w' => AnsD w w' e (doO k (aL L)) (doE k (aL L)) := by
  obtain ⟨p, cap, rfl⟩ := h.gs.form
  have OP : Hid (∀ w1, _) := fun w1 => operation_none k w1 hk
  have DE : doE k (aL L) = 1 := by unfold doE; rw [if_pos (by omega)]
  rw [doO_bad (by rw [DE]; decide), DE]
  clear DE h
  have EF := eqFnNil
  go_enter Tryd.func12, Tryd.ntmps12
  go_wp2_with fail
  refine Calls.mono (OP.out _) ?_
  rintro e w1 ⟨rfl, rfl⟩
  go_wp2_with fail
  exact bodyPost_ret (v := .tuple #[.slice none 0 0, .bool false, .int .i64 1]) (by simp [results, Tryd.results12, go_sem]) rfl (AnsD.no (Below.refl _ _) 1)
theorem vdo_any (k : Int) (v : Value) (L : List Vx) (w : World) (h : VR w v L) (ht : VT L) :
    Calls Tryd.prog 12 #[.int .i64 k, v] w fun e w' => AnsD w w' e (doO k (aL L)) (doE k (aL L)) := by
  by_cases hk : k < 5 ∨ 13 < k
  · exact vdo_none k v L w h hk
  by_cases e5 : k = 5
  · subst e5; exact vdo_list v L w h ht
  by_cases e6 : k = 6
  · subst e6; exact vdo_add v L w h ht
  by_cases e7 : k = 7
  · subst e7; exact vdo_sub v L w h ht
  by_cases e8 : k = 8
  · subst e8; exact vdo_mul v L w h ht
  by_cases e9 : k = 9
  · subst e9; exact vdo_join v L w h ht
  by_cases e10 : k = 10
  · subst e10; exact vdo_item v L w h ht
  by_cases e11 : k = 11
  · subst e11; exact vdo_size v L w h ht
  by_cases e12 : k = 12
  · subst e12; exact vdo_less v L w h ht
  by_cases e13 : k = 13
  · subst e13; exact vdo_same v L w h ht
  omega
end Go.Proofs.YtahcllncjpaijabDoor
