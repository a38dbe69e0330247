/- Values, the reference: Do. -/
import Derived.Test.YtpiikidpgjmmbaaDoorVg2
import Derived.Test.YtpiikidpgjmmbaaDoorVf6
namespace Go.Proofs.YtpiikidpgjmmbaaDoor
open Go.RowKit

set_option maxHeartbeats 8000000 in
set_option maxRecDepth 100000 in
theorem rdo_list (v : Value) (L : List Vx) (w : World) (h : VR w v L) (ht : VT L) :
    Calls Tryd.prog 9 #[.int .i64 5, v] w fun e w' => AnsD w w' e (doO 5 (aL L)) (doE 5 (aL L)) := by
  obtain ⟨p, cap, rfl⟩ := h.gs.form
  have hlm : L.length ≤ 140737488355328 := by have := ht.n; omega
  have CA : Hid _ := rfirst_any _ L w h ht
  have DE : Hid (doE 5 (aL L) = if 4096 < L.length then 3 else firstE (aL L)) := by show _ = _; unfold doE; rw [aL_len]; simp
  have BAD : Hid (∀ w' err, Below w.heap.size w w' → doE 5 (aL L) = err → err ≠ 0 → AnsD w w' (.returned (.tuple #[.slice none 0 0, .bool false, .int .i64 err])) (doO 5 (aL L)) (doE 5 (aL L))) := fun w' err b e1 e2 => by rw [doO_bad (by rw [e1]; exact e2), e1]; exact AnsD.no b err
  have HE : L.length ≤ 4096 → doE 5 (aL L) = firstE (aL L) := fun hl => by rw [DE.out]; rw [if_neg (by omega)]
  have RUN : Hid (L.length ≤ 4096 → firstE (aL L) = 0 → ∀ w1, Below w.heap.size w w1 → Calls Tryd.prog 29 #[.int .i64 5, .slice p L.length cap] w1 fun e w' => AnsR w1 w' e (doO 5 (aL L))) := fun hl hz => fun w1 bw => by
    obtain ⟨ts, e2, hr⟩ := trees_of (firstE_zero hz)
    rw [e2, doO_ok hr (by rw [← e2, HE hl]; exact hz)]
    exact rdoList_any _ L ts w1 (h.below bw) ht e2 hr (by omega)
  have HEH : Hid _ := HE
  clear h ht HE
  generalize doO 5 (aL L) = r at *
  generalize doE 5 (aL L) = de at *
  generalize firstE (aL L) = rf at *
  generalize L.length = n at *
  by_cases h1 : 4096 < n
  · have h1I : (n : Int) > 4096 := by omega
    rw [if_pos h1] at DE
    clear RUN CA HEH
    go_enter Tryd.func9, Tryd.ntmps9
    go_wp2_with fail
    exact bodyPost_ret (v := .tuple #[.slice none 0 0, .bool false, .int .i64 3]) (by simp [results, Tryd.results9, go_sem]) rfl (BAD.out _ 3 (Below.refl _ _) DE.out (by decide))
  · have h1I : ¬ (n : Int) > 4096 := by omega
    rw [if_neg h1] at DE
    have HEX := HEH.out (by omega)
    by_cases hz : rf = 0
    · subst hz
      have RN : Hid (∀ w1, Below w.heap.size w w1 → _) := RUN.out (by omega) (by simp)
      clear RUN HEH DE
      cases r with
      | some t =>
        have YES : Hid (∀ w' p n c, n = szV t → OwnG KA w' w.heap.size (.slice p n c) (flV t) → Below w.heap.size w w' → AnsD w w' (.returned (.tuple #[.slice p n c, .bool true, .int .i64 0])) (some t) de) := fun w' p n c hn ho hb => by subst hn; exact ⟨p, c, by rw [HEX]; rfl, ho, hb⟩
        clear HEX BAD
        go_enter Tryd.func9, Tryd.ntmps9
        go_wp2_with fail
        refine Calls.mono CA.out ?_
        rintro e w2 ⟨rfl, hb2⟩
        have B2 : Hid (Below w.heap.size w w2) := hb2
        have R2 : Hid _ := RN.out w2 hb2
        clear hb2 CA RN
        go_wp2_with fail
        refine Calls.mono R2.out ?_
        rintro e w3 hans
        obtain ⟨p3, n3, c3, rfl, ho3, hb3⟩ := hans.low B2.out
        have H3 : Hid (AnsD w w3 (.returned (.tuple #[.slice p3 n3 c3, .bool true, .int .i64 0])) (some t) de) := YES.out _ _ _ _ (ho3 t rfl).1 (ho3 t rfl).2 hb3
        clear ho3 hb3 hans R2 YES
        go_wp2_with fail
        exact bodyPost_ret (v := .tuple #[.slice p3 n3 c3, .bool true, .int .i64 0]) (by simp [results, Tryd.results9, go_sem]) rfl H3.out
      | none =>
        have NON : Hid (∀ w', Below w.heap.size w w' → AnsD w w' (.returned (.tuple #[.slice none 0 0, .bool false, .int .i64 0])) none de) := fun w' hb => by rw [HEX]; exact AnsD.no hb 0
        clear HEX BAD
        go_enter Tryd.func9, Tryd.ntmps9
        go_wp2_with fail
        refine Calls.mono CA.out ?_
        rintro e w2 ⟨rfl, hb2⟩
        have B2 : Hid (Below w.heap.size w w2) := hb2
        have R2 : Hid _ := RN.out w2 hb2
        clear hb2 CA RN
        go_wp2_with fail
        refine Calls.mono R2.out ?_
        rintro e w3 hans
        obtain ⟨p3, n3, c3, rfl, ho3, hb3⟩ := hans.low B2.out
        have H3 : Hid (Below w.heap.size w w3) := hb3
        clear ho3 hb3 hans R2
        go_wp2_with fail
        exact bodyPost_ret (v := .tuple #[.slice none 0 0, .bool false, .int .i64 0]) (by simp [results, Tryd.results9, go_sem]) rfl (NON.out _ H3.out)
    · have hzb : (rf != 0) = true := by simp [hz]
      clear RUN HEH DE
      go_enter Tryd.func9, Tryd.ntmps9
      go_wp2_with fail
      refine Calls.mono CA.out ?_
      rintro e w2 ⟨rfl, hb2⟩
      have B2 : Hid (Below w.heap.size w w2) := hb2
      clear hb2 CA
      go_wp2_with fail
      exact bodyPost_ret (v := .tuple #[.slice none 0 0, .bool false, .int .i64 rf]) (by simp [results, Tryd.results9, go_sem]) rfl (BAD.out _ rf B2.out HEX hz)
set_option maxHeartbeats 8000000 in
set_option maxRecDepth 100000 in
theorem rdo_add (v : Value) (L : List Vx) (w : World) (h : VR w v L) (ht : VT L) :
    Calls Tryd.prog 9 #[.int .i64 6, v] w fun e w' => AnsD w w' e (doO 6 (aL L)) (doE 6 (aL L)) := by
  obtain ⟨p, cap, rfl⟩ := h.gs.form
  have hlm : L.length ≤ 140737488355328 := by have := ht.n; omega
  have CA : Hid _ := rfirst_any _ L w h ht
  have DE : Hid (doE 6 (aL L) = if 4096 < L.length then 3 else if L.length ≠ 2 then 5 else firstE (aL L)) := by show _ = _; unfold doE; rw [aL_len]; simp
  have BAD : Hid (∀ w' err, Below w.heap.size w w' → doE 6 (aL L) = err → err ≠ 0 → AnsD w w' (.returned (.tuple #[.slice none 0 0, .bool false, .int .i64 err])) (doO 6 (aL L)) (doE 6 (aL L))) := fun w' err b e1 e2 => by rw [doO_bad (by rw [e1]; exact e2), e1]; exact AnsD.no b err
  have HE : L.length = 2 → doE 6 (aL L) = firstE (aL L) := fun hl => by rw [DE.out]; rw [if_neg (by omega), if_neg (by omega)]
  have RUN : Hid (L.length = 2 → firstE (aL L) = 0 → ∀ w1, Below w.heap.size w w1 → Calls Tryd.prog 29 #[.int .i64 6, .slice p L.length cap] w1 fun e w' => AnsR w1 w' e (doO 6 (aL L))) := fun hl hz => fun w1 bw => by
    obtain ⟨X, o, q1, c1, q2, c2, a, b, e1, e2, ra, rb, ta, tb, pa⟩ := pair_pa h ht hl hz
    subst e1
    rw [e2, show [flV a, flV b] = [a, b].map flV from rfl, doO_ok (fun t ht => by simp at ht; rcases ht with rfl | rfl; exact ra; exact rb) (by rw [show [a, b].map flV = [flV a, flV b] from rfl, ← e2, HE hl]; exact hz), hl]
    exact rdo2_any 6 X o cap q1 q2 c1 c2 a b w1 (pa w1 bw) ra rb ta tb (Or.inl rfl)
  have HEH : Hid _ := HE
  clear h ht HE
  generalize doO 6 (aL L) = r at *
  generalize doE 6 (aL L) = de at *
  generalize firstE (aL L) = rf at *
  generalize L.length = n at *
  by_cases h1 : 4096 < n
  · have h1I : (n : Int) > 4096 := by omega
    rw [if_pos h1] at DE
    clear RUN CA HEH
    go_enter Tryd.func9, Tryd.ntmps9
    go_wp2_with fail
    exact bodyPost_ret (v := .tuple #[.slice none 0 0, .bool false, .int .i64 3]) (by simp [results, Tryd.results9, go_sem]) rfl (BAD.out _ 3 (Below.refl _ _) DE.out (by decide))
  · have h1I : ¬ (n : Int) > 4096 := by omega
    rw [if_neg h1] at DE
    by_cases h2 : n = 2
    · rw [if_neg (fun e => e h2)] at DE
      subst h2
      have HEX := HEH.out (by simp)
      by_cases hz : rf = 0
      · subst hz
        have RN : Hid (∀ w1, Below w.heap.size w w1 → _) := RUN.out (by simp) (by simp)
        clear RUN HEH DE
        cases r with
        | some t =>
          have YES : Hid (∀ w' p n c, n = szV t → OwnG KA w' w.heap.size (.slice p n c) (flV t) → Below w.heap.size w w' → AnsD w w' (.returned (.tuple #[.slice p n c, .bool true, .int .i64 0])) (some t) de) := fun w' p n c hn ho hb => by subst hn; exact ⟨p, c, by rw [HEX]; rfl, ho, hb⟩
          clear HEX BAD
          go_enter Tryd.func9, Tryd.ntmps9
          go_wp2_with fail
          refine Calls.mono CA.out ?_
          rintro e w2 ⟨rfl, hb2⟩
          have B2 : Hid (Below w.heap.size w w2) := hb2
          have R2 : Hid _ := RN.out w2 hb2
          clear hb2 CA RN
          go_wp2_with fail
          refine Calls.mono R2.out ?_
          rintro e w3 hans
          obtain ⟨p3, n3, c3, rfl, ho3, hb3⟩ := hans.low B2.out
          have H3 : Hid (AnsD w w3 (.returned (.tuple #[.slice p3 n3 c3, .bool true, .int .i64 0])) (some t) de) := YES.out _ _ _ _ (ho3 t rfl).1 (ho3 t rfl).2 hb3
          clear ho3 hb3 hans R2 YES
          go_wp2_with fail
          exact bodyPost_ret (v := .tuple #[.slice p3 n3 c3, .bool true, .int .i64 0]) (by simp [results, Tryd.results9, go_sem]) rfl H3.out
        | none =>
          have NON : Hid (∀ w', Below w.heap.size w w' → AnsD w w' (.returned (.tuple #[.slice none 0 0, .bool false, .int .i64 0])) none de) := fun w' hb => by rw [HEX]; exact AnsD.no hb 0
          clear HEX BAD
          go_enter Tryd.func9, Tryd.ntmps9
          go_wp2_with fail
          refine Calls.mono CA.out ?_
          rintro e w2 ⟨rfl, hb2⟩
          have B2 : Hid (Below w.heap.size w w2) := hb2
          have R2 : Hid _ := RN.out w2 hb2
          clear hb2 CA RN
          go_wp2_with fail
          refine Calls.mono R2.out ?_
          rintro e w3 hans
          obtain ⟨p3, n3, c3, rfl, ho3, hb3⟩ := hans.low B2.out
          have H3 : Hid (Below w.heap.size w w3) := hb3
          clear ho3 hb3 hans R2
          go_wp2_with fail
          exact bodyPost_ret (v := .tuple #[.slice none 0 0, .bool false, .int .i64 0]) (by simp [results, Tryd.results9, go_sem]) rfl (NON.out _ H3.out)
      · have hzb : (rf != 0) = true := by simp [hz]
        clear RUN HEH DE
        go_enter Tryd.func9, Tryd.ntmps9
        go_wp2_with fail
        refine Calls.mono CA.out ?_
        rintro e w2 ⟨rfl, hb2⟩
        have B2 : Hid (Below w.heap.size w w2) := hb2
        clear hb2 CA
        go_wp2_with fail
        exact bodyPost_ret (v := .tuple #[.slice none 0 0, .bool false, .int .i64 rf]) (by simp [results, Tryd.results9, go_sem]) rfl (BAD.out _ rf B2.out HEX hz)
    · rw [if_pos h2] at DE
      have h2I : ¬ (n : Int) = 2 := by omega
      have h2b : ((n : Int) != 2) = true := by simp; omega
      clear RUN CA HEH
      go_enter Tryd.func9, Tryd.ntmps9
      go_wp2_with fail
      exact bodyPost_ret (v := .tuple #[.slice none 0 0, .bool false, .int .i64 5]) (by simp [results, Tryd.results9, go_sem]) rfl (BAD.out _ 5 (Below.refl _ _) DE.out (by decide))
set_option maxHeartbeats 8000000 in
set_option maxRecDepth 100000 in
theorem rdo_sub (v : Value) (L : List Vx) (w : World) (h : VR w v L) (ht : VT L) :
    Calls Tryd.prog 9 #[.int .i64 7, v] w fun e w' => AnsD w w' e (doO 7 (aL L)) (doE 7 (aL L)) := by
  obtain ⟨p, cap, rfl⟩ := h.gs.form
  have hlm : L.length ≤ 140737488355328 := by have := ht.n; omega
  have CA : Hid _ := rfirst_any _ L w h ht
  have DE : Hid (doE 7 (aL L) = if 4096 < L.length then 3 else if L.length ≠ 2 then 5 else firstE (aL L)) := by show _ = _; unfold doE; rw [aL_len]; simp
  have BAD : Hid (∀ w' err, Below w.heap.size w w' → doE 7 (aL L) = err → err ≠ 0 → AnsD w w' (.returned (.tuple #[.slice none 0 0, .bool false, .int .i64 err])) (doO 7 (aL L)) (doE 7 (aL L))) := fun w' err b e1 e2 => by rw [doO_bad (by rw [e1]; exact e2), e1]; exact AnsD.no b err
  have HE : L.length = 2 → doE 7 (aL L) = firstE (aL L) := fun hl => by rw [DE.out]; rw [if_neg (by omega), if_neg (by omega)]
  have RUN : Hid (L.length = 2 → firstE (aL L) = 0 → ∀ w1, Below w.heap.size w w1 → Calls Tryd.prog 29 #[.int .i64 7, .slice p L.length cap] w1 fun e w' => AnsR w1 w' e (doO 7 (aL L))) := fun hl hz => fun w1 bw => by
    obtain ⟨X, o, q1, c1, q2, c2, a, b, e1, e2, ra, rb, ta, tb, pa⟩ := pair_pa h ht hl hz
    subst e1
    rw [e2, show [flV a, flV b] = [a, b].map flV from rfl, doO_ok (fun t ht => by simp at ht; rcases ht with rfl | rfl; exact ra; exact rb) (by rw [show [a, b].map flV = [flV a, flV b] from rfl, ← e2, HE hl]; exact hz), hl]
    exact rdo2_any 7 X o cap q1 q2 c1 c2 a b w1 (pa w1 bw) ra rb ta tb (Or.inr (Or.inl rfl))
  have HEH : Hid _ := HE
  clear h ht HE
  generalize doO 7 (aL L) = r at *
  generalize doE 7 (aL L) = de at *
  generalize firstE (aL L) = rf at *
  generalize L.length = n at *
  by_cases h1 : 4096 < n
  · have h1I : (n : Int) > 4096 := by omega
    rw [if_pos h1] at DE
    clear RUN CA HEH
    go_enter Tryd.func9, Tryd.ntmps9
    go_wp2_with fail
    exact bodyPost_ret (v := .tuple #[.slice none 0 0, .bool false, .int .i64 3]) (by simp [results, Tryd.results9, go_sem]) rfl (BAD.out _ 3 (Below.refl _ _) DE.out (by decide))
  · have h1I : ¬ (n : Int) > 4096 := by omega
    rw [if_neg h1] at DE
    by_cases h2 : n = 2
    · rw [if_neg (fun e => e h2)] at DE
      subst h2
      have HEX := HEH.out (by simp)
      by_cases hz : rf = 0
      · subst hz
        have RN : Hid (∀ w1, Below w.heap.size w w1 → _) := RUN.out (by simp) (by simp)
        clear RUN HEH DE
        cases r with
        | some t =>
          have YES : Hid (∀ w' p n c, n = szV t → OwnG KA w' w.heap.size (.slice p n c) (flV t) → Below w.heap.size w w' → AnsD w w' (.returned (.tuple #[.slice p n c, .bool true, .int .i64 0])) (some t) de) := fun w' p n c hn ho hb => by subst hn; exact ⟨p, c, by rw [HEX]; rfl, ho, hb⟩
          clear HEX BAD
          go_enter Tryd.func9, Tryd.ntmps9
          go_wp2_with fail
          refine Calls.mono CA.out ?_
          rintro e w2 ⟨rfl, hb2⟩
          have B2 : Hid (Below w.heap.size w w2) := hb2
          have R2 : Hid _ := RN.out w2 hb2
          clear hb2 CA RN
          go_wp2_with fail
          refine Calls.mono R2.out ?_
          rintro e w3 hans
          obtain ⟨p3, n3, c3, rfl, ho3, hb3⟩ := hans.low B2.out
          have H3 : Hid (AnsD w w3 (.returned (.tuple #[.slice p3 n3 c3, .bool true, .int .i64 0])) (some t) de) := YES.out _ _ _ _ (ho3 t rfl).1 (ho3 t rfl).2 hb3
          clear ho3 hb3 hans R2 YES
          go_wp2_with fail
          exact bodyPost_ret (v := .tuple #[.slice p3 n3 c3, .bool true, .int .i64 0]) (by simp [results, Tryd.results9, go_sem]) rfl H3.out
        | none =>
          have NON : Hid (∀ w', Below w.heap.size w w' → AnsD w w' (.returned (.tuple #[.slice none 0 0, .bool false, .int .i64 0])) none de) := fun w' hb => by rw [HEX]; exact AnsD.no hb 0
          clear HEX BAD
          go_enter Tryd.func9, Tryd.ntmps9
          go_wp2_with fail
          refine Calls.mono CA.out ?_
          rintro e w2 ⟨rfl, hb2⟩
          have B2 : Hid (Below w.heap.size w w2) := hb2
          have R2 : Hid _ := RN.out w2 hb2
          clear hb2 CA RN
          go_wp2_with fail
          refine Calls.mono R2.out ?_
          rintro e w3 hans
          obtain ⟨p3, n3, c3, rfl, ho3, hb3⟩ := hans.low B2.out
          have H3 : Hid (Below w.heap.size w w3) := hb3
          clear ho3 hb3 hans R2
          go_wp2_with fail
          exact bodyPost_ret (v := .tuple #[.slice none 0 0, .bool false, .int .i64 0]) (by simp [results, Tryd.results9, go_sem]) rfl (NON.out _ H3.out)
      · have hzb : (rf != 0) = true := by simp [hz]
        clear RUN HEH DE
        go_enter Tryd.func9, Tryd.ntmps9
        go_wp2_with fail
        refine Calls.mono CA.out ?_
        rintro e w2 ⟨rfl, hb2⟩
        have B2 : Hid (Below w.heap.size w w2) := hb2
        clear hb2 CA
        go_wp2_with fail
        exact bodyPost_ret (v := .tuple #[.slice none 0 0, .bool false, .int .i64 rf]) (by simp [results, Tryd.results9, go_sem]) rfl (BAD.out _ rf B2.out HEX hz)
    · rw [if_pos h2] at DE
      have h2I : ¬ (n : Int) = 2 := by omega
      have h2b : ((n : Int) != 2) = true := by simp; omega
      clear RUN CA HEH
      go_enter Tryd.func9, Tryd.ntmps9
      go_wp2_with fail
      exact bodyPost_ret (v := .tuple #[.slice none 0 0, .bool false, .int .i64 5]) (by simp [results, Tryd.results9, go_sem]) rfl (BAD.out _ 5 (Below.refl _ _) DE.out (by decide))
set_option maxHeartbeats 8000000 in
set_option maxRecDepth 100000 in
theorem rdo_mul (v : Value) (L : List Vx) (w : World) (h : VR w v L) (ht : VT L) :
    Calls Tryd.prog 9 #[.int .i64 8, v] w fun e w' => AnsD w w' e (doO 8 (aL L)) (doE 8 (aL L)) := by
  obtain ⟨p, cap, rfl⟩ := h.gs.form
  have hlm : L.length ≤ 140737488355328 := by have := ht.n; omega
  have CA : Hid _ := rfirst_any _ L w h ht
  have DE : Hid (doE 8 (aL L) = if 4096 < L.length then 3 else if L.length ≠ 2 then 5 else firstE (aL L)) := by show _ = _; unfold doE; rw [aL_len]; simp
  have BAD : Hid (∀ w' err, Below w.heap.size w w' → doE 8 (aL L) = err → err ≠ 0 → AnsD w w' (.returned (.tuple #[.slice none 0 0, .bool false, .int .i64 err])) (doO 8 (aL L)) (doE 8 (aL L))) := fun w' err b e1 e2 => by rw [doO_bad (by rw [e1]; exact e2), e1]; exact AnsD.no b err
  have HE : L.length = 2 → doE 8 (aL L) = firstE (aL L) := fun hl => by rw [DE.out]; rw [if_neg (by omega), if_neg (by omega)]
  have RUN : Hid (L.length = 2 → firstE (aL L) = 0 → ∀ w1, Below w.heap.size w w1 → Calls Tryd.prog 29 #[.int .i64 8, .slice p L.length cap] w1 fun e w' => AnsR w1 w' e (doO 8 (aL L))) := fun hl hz => fun w1 bw => by
    obtain ⟨X, o, q1, c1, q2, c2, a, b, e1, e2, ra, rb, ta, tb, pa⟩ := pair_pa h ht hl hz
    subst e1
    rw [e2, show [flV a, flV b] = [a, b].map flV from rfl, doO_ok (fun t ht => by simp at ht; rcases ht with rfl | rfl; exact ra; exact rb) (by rw [show [a, b].map flV = [flV a, flV b] from rfl, ← e2, HE hl]; exact hz), hl]
    exact rdo2_any 8 X o cap q1 q2 c1 c2 a b w1 (pa w1 bw) ra rb ta tb (Or.inr (Or.inr (Or.inl rfl)))
  have HEH : Hid _ := HE
  clear h ht HE
  generalize doO 8 (aL L) = r at *
  generalize doE 8 (aL L) = de at *
  generalize firstE (aL L) = rf at *
  generalize L.length = n at *
  by_cases h1 : 4096 < n
  · have h1I : (n : Int) > 4096 := by omega
    rw [if_pos h1] at DE
    clear RUN CA HEH
    go_enter Tryd.func9, Tryd.ntmps9
    go_wp2_with fail
    exact bodyPost_ret (v := .tuple #[.slice none 0 0, .bool false, .int .i64 3]) (by simp [results, Tryd.results9, go_sem]) rfl (BAD.out _ 3 (Below.refl _ _) DE.out (by decide))
  · have h1I : ¬ (n : Int) > 4096 := by omega
    rw [if_neg h1] at DE
    by_cases h2 : n = 2
    · rw [if_neg (fun e => e h2)] at DE
      subst h2
      have HEX := HEH.out (by simp)
      by_cases hz : rf = 0
      · subst hz
        have RN : Hid (∀ w1, Below w.heap.size w w1 → _) := RUN.out (by simp) (by simp)
        clear RUN HEH DE
        cases r with
        | some t =>
          have YES : Hid (∀ w' p n c, n = szV t → OwnG KA w' w.heap.size (.slice p n c) (flV t) → Below w.heap.size w w' → AnsD w w' (.returned (.tuple #[.slice p n c, .bool true, .int .i64 0])) (some t) de) := fun w' p n c hn ho hb => by subst hn; exact ⟨p, c, by rw [HEX]; rfl, ho, hb⟩
          clear HEX BAD
          go_enter Tryd.func9, Tryd.ntmps9
          go_wp2_with fail
          refine Calls.mono CA.out ?_
          rintro e w2 ⟨rfl, hb2⟩
          have B2 : Hid (Below w.heap.size w w2) := hb2
          have R2 : Hid _ := RN.out w2 hb2
          clear hb2 CA RN
          go_wp2_with fail
          refine Calls.mono R2.out ?_
          rintro e w3 hans
          obtain ⟨p3, n3, c3, rfl, ho3, hb3⟩ := hans.low B2.out
          have H3 : Hid (AnsD w w3 (.returned (.tuple #[.slice p3 n3 c3, .bool true, .int .i64 0])) (some t) de) := YES.out _ _ _ _ (ho3 t rfl).1 (ho3 t rfl).2 hb3
          clear ho3 hb3 hans R2 YES
          go_wp2_with fail
          exact bodyPost_ret (v := .tuple #[.slice p3 n3 c3, .bool true, .int .i64 0]) (by simp [results, Tryd.results9, go_sem]) rfl H3.out
        | none =>
          have NON : Hid (∀ w', Below w.heap.size w w' → AnsD w w' (.returned (.tuple #[.slice none 0 0, .bool false, .int .i64 0])) none de) := fun w' hb => by rw [HEX]; exact AnsD.no hb 0
          clear HEX BAD
          go_enter Tryd.func9, Tryd.ntmps9
          go_wp2_with fail
          refine Calls.mono CA.out ?_
          rintro e w2 ⟨rfl, hb2⟩
          have B2 : Hid (Below w.heap.size w w2) := hb2
          have R2 : Hid _ := RN.out w2 hb2
          clear hb2 CA RN
          go_wp2_with fail
          refine Calls.mono R2.out ?_
          rintro e w3 hans
          obtain ⟨p3, n3, c3, rfl, ho3, hb3⟩ := hans.low B2.out
          have H3 : Hid (Below w.heap.size w w3) := hb3
          clear ho3 hb3 hans R2
          go_wp2_with fail
          exact bodyPost_ret (v := .tuple #[.slice none 0 0, .bool false, .int .i64 0]) (by simp [results, Tryd.results9, go_sem]) rfl (NON.out _ H3.out)
      · have hzb : (rf != 0) = true := by simp [hz]
        clear RUN HEH DE
        go_enter Tryd.func9, Tryd.ntmps9
        go_wp2_with fail
        refine Calls.mono CA.out ?_
        rintro e w2 ⟨rfl, hb2⟩
        have B2 : Hid (Below w.heap.size w w2) := hb2
        clear hb2 CA
        go_wp2_with fail
        exact bodyPost_ret (v := .tuple #[.slice none 0 0, .bool false, .int .i64 rf]) (by simp [results, Tryd.results9, go_sem]) rfl (BAD.out _ rf B2.out HEX hz)
    · rw [if_pos h2] at DE
      have h2I : ¬ (n : Int) = 2 := by omega
      have h2b : ((n : Int) != 2) = true := by simp; omega
      clear RUN CA HEH
      go_enter Tryd.func9, Tryd.ntmps9
      go_wp2_with fail
      exact bodyPost_ret (v := .tuple #[.slice none 0 0, .bool false, .int .i64 5]) (by simp [results, Tryd.results9, go_sem]) rfl (BAD.out _ 5 (Below.refl _ _) DE.out (by decide))
set_option maxHeartbeats 8000000 in
set_option maxRecDepth 100000 in
theorem rdo_join (v : Value) (L : List Vx) (w : World) (h : VR w v L) (ht : VT L) :
    Calls Tryd.prog 9 #[.int .i64 9, v] w fun e w' => AnsD w w' e (doO 9 (aL L)) (doE 9 (aL L)) := by
  obtain ⟨p, cap, rfl⟩ := h.gs.form
  have hlm : L.length ≤ 140737488355328 := by have := ht.n; omega
  have CA : Hid _ := rfirst_any _ L w h ht
  have DE : Hid (doE 9 (aL L) = if 4096 < L.length then 3 else if L.length ≠ 2 then 5 else firstE (aL L)) := by show _ = _; unfold doE; rw [aL_len]; simp
  have BAD : Hid (∀ w' err, Below w.heap.size w w' → doE 9 (aL L) = err → err ≠ 0 → AnsD w w' (.returned (.tuple #[.slice none 0 0, .bool false, .int .i64 err])) (doO 9 (aL L)) (doE 9 (aL L))) := fun w' err b e1 e2 => by rw [doO_bad (by rw [e1]; exact e2), e1]; exact AnsD.no b err
  have HE : L.length = 2 → doE 9 (aL L) = firstE (aL L) := fun hl => by rw [DE.out]; rw [if_neg (by omega), if_neg (by omega)]
  have RUN : Hid (L.length = 2 → firstE (aL L) = 0 → ∀ w1, Below w.heap.size w w1 → Calls Tryd.prog 29 #[.int .i64 9, .slice p L.length cap] w1 fun e w' => AnsR w1 w' e (doO 9 (aL L))) := fun hl hz => fun w1 bw => by
    obtain ⟨X, o, q1, c1, q2, c2, a, b, e1, e2, ra, rb, ta, tb, pa⟩ := pair_pa h ht hl hz
    subst e1
    rw [e2, show [flV a, flV b] = [a, b].map flV from rfl, doO_ok (fun t ht => by simp at ht; rcases ht with rfl | rfl; exact ra; exact rb) (by rw [show [a, b].map flV = [flV a, flV b] from rfl, ← e2, HE hl]; exact hz), hl]
    exact rdo2_any 9 X o cap q1 q2 c1 c2 a b w1 (pa w1 bw) ra rb ta tb (Or.inr (Or.inr (Or.inr (Or.inl rfl))))
  have HEH : Hid _ := HE
  clear h ht HE
  generalize doO 9 (aL L) = r at *
  generalize doE 9 (aL L) = de at *
  generalize firstE (aL L) = rf at *
  generalize L.length = n at *
  by_cases h1 : 4096 < n
  · have h1I : (n : Int) > 4096 := by omega
    rw [if_pos h1] at DE
    clear RUN CA HEH
    go_enter Tryd.func9, Tryd.ntmps9
    go_wp2_with fail
    exact bodyPost_ret (v := .tuple #[.slice none 0 0, .bool false, .int .i64 3]) (by simp [results, Tryd.results9, go_sem]) rfl (BAD.out _ 3 (Below.refl _ _) DE.out (by decide))
  · have h1I : ¬ (n : Int) > 4096 := by omega
    rw [if_neg h1] at DE
    by_cases h2 : n = 2
    · rw [if_neg (fun e => e h2)] at DE
      subst h2
      have HEX := HEH.out (by simp)
      by_cases hz : rf = 0
      · subst hz
        have RN : Hid (∀ w1, Below w.heap.size w w1 → _) := RUN.out (by simp) (by simp)
        clear RUN HEH DE
        cases r with
        | some t =>
          have YES : Hid (∀ w' p n c, n = szV t → OwnG KA w' w.heap.size (.slice p n c) (flV t) → Below w.heap.size w w' → AnsD w w' (.returned (.tuple #[.slice p n c, .bool true, .int .i64 0])) (some t) de) := fun w' p n c hn ho hb => by subst hn; exact ⟨p, c, by rw [HEX]; rfl, ho, hb⟩
          clear HEX BAD
          go_enter Tryd.func9, Tryd.ntmps9
          go_wp2_with fail
          refine Calls.mono CA.out ?_
          rintro e w2 ⟨rfl, hb2⟩
          have B2 : Hid (Below w.heap.size w w2) := hb2
          have R2 : Hid _ := RN.out w2 hb2
          clear hb2 CA RN
          go_wp2_with fail
          refine Calls.mono R2.out ?_
          rintro e w3 hans
          obtain ⟨p3, n3, c3, rfl, ho3, hb3⟩ := hans.low B2.out
          have H3 : Hid (AnsD w w3 (.returned (.tuple #[.slice p3 n3 c3, .bool true, .int .i64 0])) (some t) de) := YES.out _ _ _ _ (ho3 t rfl).1 (ho3 t rfl).2 hb3
          clear ho3 hb3 hans R2 YES
          go_wp2_with fail
          exact bodyPost_ret (v := .tuple #[.slice p3 n3 c3, .bool true, .int .i64 0]) (by simp [results, Tryd.results9, go_sem]) rfl H3.out
        | none =>
          have NON : Hid (∀ w', Below w.heap.size w w' → AnsD w w' (.returned (.tuple #[.slice none 0 0, .bool false, .int .i64 0])) none de) := fun w' hb => by rw [HEX]; exact AnsD.no hb 0
          clear HEX BAD
          go_enter Tryd.func9, Tryd.ntmps9
          go_wp2_with fail
          refine Calls.mono CA.out ?_
          rintro e w2 ⟨rfl, hb2⟩
          have B2 : Hid (Below w.heap.size w w2) := hb2
          have R2 : Hid _ := RN.out w2 hb2
          clear hb2 CA RN
          go_wp2_with fail
          refine Calls.mono R2.out ?_
          rintro e w3 hans
          obtain ⟨p3, n3, c3, rfl, ho3, hb3⟩ := hans.low B2.out
          have H3 : Hid (Below w.heap.size w w3) := hb3
          clear ho3 hb3 hans R2
          go_wp2_with fail
          exact bodyPost_ret (v := .tuple #[.slice none 0 0, .bool false, .int .i64 0]) (by simp [results, Tryd.results9, go_sem]) rfl (NON.out _ H3.out)
      · have hzb : (rf != 0) = true := by simp [hz]
        clear RUN HEH DE
        go_enter Tryd.func9, Tryd.ntmps9
        go_wp2_with fail
        refine Calls.mono CA.out ?_
        rintro e w2 ⟨rfl, hb2⟩
        have B2 : Hid (Below w.heap.size w w2) := hb2
        clear hb2 CA
        go_wp2_with fail
        exact bodyPost_ret (v := .tuple #[.slice none 0 0, .bool false, .int .i64 rf]) (by simp [results, Tryd.results9, go_sem]) rfl (BAD.out _ rf B2.out HEX hz)
    · rw [if_pos h2] at DE
      have h2I : ¬ (n : Int) = 2 := by omega
      have h2b : ((n : Int) != 2) = true := by simp; omega
      clear RUN CA HEH
      go_enter Tryd.func9, Tryd.ntmps9
      go_wp2_with fail
      exact bodyPost_ret (v := .tuple #[.slice none 0 0, .bool false, .int .i64 5]) (by simp [results, Tryd.results9, go_sem]) rfl (BAD.out _ 5 (Below.refl _ _) DE.out (by decide))
set_option maxHeartbeats 8000000 in
set_option maxRecDepth 100000 in
theorem rdo_item (v : Value) (L : List Vx) (w : World) (h : VR w v L) (ht : VT L) :
    Calls Tryd.prog 9 #[.int .i64 10, v] w fun e w' => AnsD w w' e (doO 10 (aL L)) (doE 10 (aL L)) := by
  obtain ⟨p, cap, rfl⟩ := h.gs.form
  have hlm : L.length ≤ 140737488355328 := by have := ht.n; omega
  have CA : Hid _ := rfirst_any _ L w h ht
  have DE : Hid (doE 10 (aL L) = if 4096 < L.length then 3 else if L.length ≠ 2 then 5 else firstE (aL L)) := by show _ = _; unfold doE; rw [aL_len]; simp
  have BAD : Hid (∀ w' err, Below w.heap.size w w' → doE 10 (aL L) = err → err ≠ 0 → AnsD w w' (.returned (.tuple #[.slice none 0 0, .bool false, .int .i64 err])) (doO 10 (aL L)) (doE 10 (aL L))) := fun w' err b e1 e2 => by rw [doO_bad (by rw [e1]; exact e2), e1]; exact AnsD.no b err
  have HE : L.length = 2 → doE 10 (aL L) = firstE (aL L) := fun hl => by rw [DE.out]; rw [if_neg (by omega), if_neg (by omega)]
  have RUN : Hid (L.length = 2 → firstE (aL L) = 0 → ∀ w1, Below w.heap.size w w1 → Calls Tryd.prog 29 #[.int .i64 10, .slice p L.length cap] w1 fun e w' => AnsR w1 w' e (doO 10 (aL L))) := fun hl hz => fun w1 bw => by
    obtain ⟨X, o, q1, c1, q2, c2, a, b, e1, e2, ra, rb, ta, tb, pa⟩ := pair_pa h ht hl hz
    subst e1
    rw [e2, show [flV a, flV b] = [a, b].map flV from rfl, doO_ok (fun t ht => by simp at ht; rcases ht with rfl | rfl; exact ra; exact rb) (by rw [show [a, b].map flV = [flV a, flV b] from rfl, ← e2, HE hl]; exact hz), hl]
    exact rdo2_any 10 X o cap q1 q2 c1 c2 a b w1 (pa w1 bw) ra rb ta tb (Or.inr (Or.inr (Or.inr (Or.inr (Or.inl rfl)))))
  have HEH : Hid _ := HE
  clear h ht HE
  generalize doO 10 (aL L) = r at *
  generalize doE 10 (aL L) = de at *
  generalize firstE (aL L) = rf at *
  generalize L.length = n at *
  by_cases h1 : 4096 < n
  · have h1I : (n : Int) > 4096 := by omega
    rw [if_pos h1] at DE
    clear RUN CA HEH
    go_enter Tryd.func9, Tryd.ntmps9
    go_wp2_with fail
    exact bodyPost_ret (v := .tuple #[.slice none 0 0, .bool false, .int .i64 3]) (by simp [results, Tryd.results9, go_sem]) rfl (BAD.out _ 3 (Below.refl _ _) DE.out (by decide))
  · have h1I : ¬ (n : Int) > 4096 := by omega
    rw [if_neg h1] at DE
    by_cases h2 : n = 2
    · rw [if_neg (fun e => e h2)] at DE
      subst h2
      have HEX := HEH.out (by simp)
      by_cases hz : rf = 0
      · subst hz
        have RN : Hid (∀ w1, Below w.heap.size w w1 → _) := RUN.out (by simp) (by simp)
        clear RUN HEH DE
        cases r with
        | some t =>
          have YES : Hid (∀ w' p n c, n = szV t → OwnG KA w' w.heap.size (.slice p n c) (flV t) → Below w.heap.size w w' → AnsD w w' (.returned (.tuple #[.slice p n c, .bool true, .int .i64 0])) (some t) de) := fun w' p n c hn ho hb => by subst hn; exact ⟨p, c, by rw [HEX]; rfl, ho, hb⟩
          clear HEX BAD
          go_enter Tryd.func9, Tryd.ntmps9
          go_wp2_with fail
          refine Calls.mono CA.out ?_
          rintro e w2 ⟨rfl, hb2⟩
          have B2 : Hid (Below w.heap.size w w2) := hb2
          have R2 : Hid _ := RN.out w2 hb2
          clear hb2 CA RN
          go_wp2_with fail
          refine Calls.mono R2.out ?_
          rintro e w3 hans
          obtain ⟨p3, n3, c3, rfl, ho3, hb3⟩ := hans.low B2.out
          have H3 : Hid (AnsD w w3 (.returned (.tuple #[.slice p3 n3 c3, .bool true, .int .i64 0])) (some t) de) := YES.out _ _ _ _ (ho3 t rfl).1 (ho3 t rfl).2 hb3
          clear ho3 hb3 hans R2 YES
          go_wp2_with fail
          exact bodyPost_ret (v := .tuple #[.slice p3 n3 c3, .bool true, .int .i64 0]) (by simp [results, Tryd.results9, go_sem]) rfl H3.out
        | none =>
          have NON : Hid (∀ w', Below w.heap.size w w' → AnsD w w' (.returned (.tuple #[.slice none 0 0, .bool false, .int .i64 0])) none de) := fun w' hb => by rw [HEX]; exact AnsD.no hb 0
          clear HEX BAD
          go_enter Tryd.func9, Tryd.ntmps9
          go_wp2_with fail
          refine Calls.mono CA.out ?_
          rintro e w2 ⟨rfl, hb2⟩
          have B2 : Hid (Below w.heap.size w w2) := hb2
          have R2 : Hid _ := RN.out w2 hb2
          clear hb2 CA RN
          go_wp2_with fail
          refine Calls.mono R2.out ?_
          rintro e w3 hans
          obtain ⟨p3, n3, c3, rfl, ho3, hb3⟩ := hans.low B2.out
          have H3 : Hid (Below w.heap.size w w3) := hb3
          clear ho3 hb3 hans R2
          go_wp2_with fail
          exact bodyPost_ret (v := .tuple #[.slice none 0 0, .bool false, .int .i64 0]) (by simp [results, Tryd.results9, go_sem]) rfl (NON.out _ H3.out)
      · have hzb : (rf != 0) = true := by simp [hz]
        clear RUN HEH DE
        go_enter Tryd.func9, Tryd.ntmps9
        go_wp2_with fail
        refine Calls.mono CA.out ?_
        rintro e w2 ⟨rfl, hb2⟩
        have B2 : Hid (Below w.heap.size w w2) := hb2
        clear hb2 CA
        go_wp2_with fail
        exact bodyPost_ret (v := .tuple #[.slice none 0 0, .bool false, .int .i64 rf]) (by simp [results, Tryd.results9, go_sem]) rfl (BAD.out _ rf B2.out HEX hz)
    · rw [if_pos h2] at DE
      have h2I : ¬ (n : Int) = 2 := by omega
      have h2b : ((n : Int) != 2) = true := by simp; omega
      clear RUN CA HEH
      go_enter Tryd.func9, Tryd.ntmps9
      go_wp2_with fail
      exact bodyPost_ret (v := .tuple #[.slice none 0 0, .bool false, .int .i64 5]) (by simp [results, Tryd.results9, go_sem]) rfl (BAD.out _ 5 (Below.refl _ _) DE.out (by decide))
set_option maxHeartbeats 8000000 in
set_option maxRecDepth 100000 in
theorem rdo_size (v : Value) (L : List Vx) (w : World) (h : VR w v L) (ht : VT L) :
    Calls Tryd.prog 9 #[.int .i64 11, v] w fun e w' => AnsD w w' e (doO 11 (aL L)) (doE 11 (aL L)) := by
  obtain ⟨p, cap, rfl⟩ := h.gs.form
  have hlm : L.length ≤ 140737488355328 := by have := ht.n; omega
  have CA : Hid _ := rfirst_any _ L w h ht
  have DE : Hid (doE 11 (aL L) = if 4096 < L.length then 3 else if L.length ≠ 1 then 5 else firstE (aL L)) := by show _ = _; unfold doE; rw [aL_len]; simp
  have BAD : Hid (∀ w' err, Below w.heap.size w w' → doE 11 (aL L) = err → err ≠ 0 → AnsD w w' (.returned (.tuple #[.slice none 0 0, .bool false, .int .i64 err])) (doO 11 (aL L)) (doE 11 (aL L))) := fun w' err b e1 e2 => by rw [doO_bad (by rw [e1]; exact e2), e1]; exact AnsD.no b err
  have HE : L.length = 1 → doE 11 (aL L) = firstE (aL L) := fun hl => by rw [DE.out]; rw [if_neg (by omega), if_neg (by omega)]
  have RUN : Hid (L.length = 1 → firstE (aL L) = 0 → ∀ w1, Below w.heap.size w w1 → Calls Tryd.prog 29 #[.int .i64 11, .slice p L.length cap] w1 fun e w' => AnsR w1 w' e (doO 11 (aL L))) := fun hl hz => fun w1 bw => by
    obtain ⟨X, o, q1, c1, a, e1, e2, ra, ta, pa⟩ := one_pa h ht hl hz
    subst e1
    rw [e2, show [flV a] = [a].map flV from rfl, doO_ok (fun t ht => by simp at ht; rw [ht]; exact ra) (by rw [show [a].map flV = [flV a] from rfl, ← e2, HE hl]; exact hz), hl]
    exact rdoSize_any X o cap q1 c1 a w1 (pa w1 bw).1 (pa w1 bw).2 ra
  have HEH : Hid _ := HE
  clear h ht HE
  generalize doO 11 (aL L) = r at *
  generalize doE 11 (aL L) = de at *
  generalize firstE (aL L) = rf at *
  generalize L.length = n at *
  by_cases h1 : 4096 < n
  · have h1I : (n : Int) > 4096 := by omega
    rw [if_pos h1] at DE
    clear RUN CA HEH
    go_enter Tryd.func9, Tryd.ntmps9
    go_wp2_with fail
    exact bodyPost_ret (v := .tuple #[.slice none 0 0, .bool false, .int .i64 3]) (by simp [results, Tryd.results9, go_sem]) rfl (BAD.out _ 3 (Below.refl _ _) DE.out (by decide))
  · have h1I : ¬ (n : Int) > 4096 := by omega
    rw [if_neg h1] at DE
    by_cases h2 : n = 1
    · rw [if_neg (fun e => e h2)] at DE
      subst h2
      have HEX := HEH.out (by simp)
      by_cases hz : rf = 0
      · subst hz
        have RN : Hid (∀ w1, Below w.heap.size w w1 → _) := RUN.out (by simp) (by simp)
        clear RUN HEH DE
        cases r with
        | some t =>
          have YES : Hid (∀ w' p n c, n = szV t → OwnG KA w' w.heap.size (.slice p n c) (flV t) → Below w.heap.size w w' → AnsD w w' (.returned (.tuple #[.slice p n c, .bool true, .int .i64 0])) (some t) de) := fun w' p n c hn ho hb => by subst hn; exact ⟨p, c, by rw [HEX]; rfl, ho, hb⟩
          clear HEX BAD
          go_enter Tryd.func9, Tryd.ntmps9
          go_wp2_with fail
          refine Calls.mono CA.out ?_
          rintro e w2 ⟨rfl, hb2⟩
          have B2 : Hid (Below w.heap.size w w2) := hb2
          have R2 : Hid _ := RN.out w2 hb2
          clear hb2 CA RN
          go_wp2_with fail
          refine Calls.mono R2.out ?_
          rintro e w3 hans
          obtain ⟨p3, n3, c3, rfl, ho3, hb3⟩ := hans.low B2.out
          have H3 : Hid (AnsD w w3 (.returned (.tuple #[.slice p3 n3 c3, .bool true, .int .i64 0])) (some t) de) := YES.out _ _ _ _ (ho3 t rfl).1 (ho3 t rfl).2 hb3
          clear ho3 hb3 hans R2 YES
          go_wp2_with fail
          exact bodyPost_ret (v := .tuple #[.slice p3 n3 c3, .bool true, .int .i64 0]) (by simp [results, Tryd.results9, go_sem]) rfl H3.out
        | none =>
          have NON : Hid (∀ w', Below w.heap.size w w' → AnsD w w' (.returned (.tuple #[.slice none 0 0, .bool false, .int .i64 0])) none de) := fun w' hb => by rw [HEX]; exact AnsD.no hb 0
          clear HEX BAD
          go_enter Tryd.func9, Tryd.ntmps9
          go_wp2_with fail
          refine Calls.mono CA.out ?_
          rintro e w2 ⟨rfl, hb2⟩
          have B2 : Hid (Below w.heap.size w w2) := hb2
          have R2 : Hid _ := RN.out w2 hb2
          clear hb2 CA RN
          go_wp2_with fail
          refine Calls.mono R2.out ?_
          rintro e w3 hans
          obtain ⟨p3, n3, c3, rfl, ho3, hb3⟩ := hans.low B2.out
          have H3 : Hid (Below w.heap.size w w3) := hb3
          clear ho3 hb3 hans R2
          go_wp2_with fail
          exact bodyPost_ret (v := .tuple #[.slice none 0 0, .bool false, .int .i64 0]) (by simp [results, Tryd.results9, go_sem]) rfl (NON.out _ H3.out)
      · have hzb : (rf != 0) = true := by simp [hz]
        clear RUN HEH DE
        go_enter Tryd.func9, Tryd.ntmps9
        go_wp2_with fail
        refine Calls.mono CA.out ?_
        rintro e w2 ⟨rfl, hb2⟩
        have B2 : Hid (Below w.heap.size w w2) := hb2
        clear hb2 CA
        go_wp2_with fail
        exact bodyPost_ret (v := .tuple #[.slice none 0 0, .bool false, .int .i64 rf]) (by simp [results, Tryd.results9, go_sem]) rfl (BAD.out _ rf B2.out HEX hz)
    · rw [if_pos h2] at DE
      have h2I : ¬ (n : Int) = 1 := by omega
      have h2b : ((n : Int) != 1) = true := by simp; omega
      clear RUN CA HEH
      go_enter Tryd.func9, Tryd.ntmps9
      go_wp2_with fail
      exact bodyPost_ret (v := .tuple #[.slice none 0 0, .bool false, .int .i64 5]) (by simp [results, Tryd.results9, go_sem]) rfl (BAD.out _ 5 (Below.refl _ _) DE.out (by decide))
set_option maxHeartbeats 8000000 in
set_option maxRecDepth 100000 in
theorem rdo_less (v : Value) (L : List Vx) (w : World) (h : VR w v L) (ht : VT L) :
    Calls Tryd.prog 9 #[.int .i64 12, v] w fun e w' => AnsD w w' e (doO 12 (aL L)) (doE 12 (aL L)) := by
  obtain ⟨p, cap, rfl⟩ := h.gs.form
  have hlm : L.length ≤ 140737488355328 := by have := ht.n; omega
  have CA : Hid _ := rfirst_any _ L w h ht
  have DE : Hid (doE 12 (aL L) = if 4096 < L.length then 3 else if L.length ≠ 2 then 5 else firstE (aL L)) := by show _ = _; unfold doE; rw [aL_len]; simp
  have BAD : Hid (∀ w' err, Below w.heap.size w w' → doE 12 (aL L) = err → err ≠ 0 → AnsD w w' (.returned (.tuple #[.slice none 0 0, .bool false, .int .i64 err])) (doO 12 (aL L)) (doE 12 (aL L))) := fun w' err b e1 e2 => by rw [doO_bad (by rw [e1]; exact e2), e1]; exact AnsD.no b err
  have HE : L.length = 2 → doE 12 (aL L) = firstE (aL L) := fun hl => by rw [DE.out]; rw [if_neg (by omega), if_neg (by omega)]
  have RUN : Hid (L.length = 2 → firstE (aL L) = 0 → ∀ w1, Below w.heap.size w w1 → Calls Tryd.prog 29 #[.int .i64 12, .slice p L.length cap] w1 fun e w' => AnsR w1 w' e (doO 12 (aL L))) := fun hl hz => fun w1 bw => by
    obtain ⟨X, o, q1, c1, q2, c2, a, b, e1, e2, ra, rb, ta, tb, pa⟩ := pair_pa h ht hl hz
    subst e1
    rw [e2, show [flV a, flV b] = [a, b].map flV from rfl, doO_ok (fun t ht => by simp at ht; rcases ht with rfl | rfl; exact ra; exact rb) (by rw [show [a, b].map flV = [flV a, flV b] from rfl, ← e2, HE hl]; exact hz), hl]
    exact rdo2_any 12 X o cap q1 q2 c1 c2 a b w1 (pa w1 bw) ra rb ta tb (Or.inr (Or.inr (Or.inr (Or.inr (Or.inr (Or.inl rfl))))))
  have HEH : Hid _ := HE
  clear h ht HE
  generalize doO 12 (aL L) = r at *
  generalize doE 12 (aL L) = de at *
  generalize firstE (aL L) = rf at *
  generalize L.length = n at *
  by_cases h1 : 4096 < n
  · have h1I : (n : Int) > 4096 := by omega
    rw [if_pos h1] at DE
    clear RUN CA HEH
    go_enter Tryd.func9, Tryd.ntmps9
    go_wp2_with fail
    exact bodyPost_ret (v := .tuple #[.slice none 0 0, .bool false, .int .i64 3]) (by simp [results, Tryd.results9, go_sem]) rfl (BAD.out _ 3 (Below.refl _ _) DE.out (by decide))
  · have h1I : ¬ (n : Int) > 4096 := by omega
    rw [if_neg h1] at DE
    by_cases h2 : n = 2
    · rw [if_neg (fun e => e h2)] at DE
      subst h2
      have HEX := HEH.out (by simp)
      by_cases hz : rf = 0
      · subst hz
        have RN : Hid (∀ w1, Below w.heap.size w w1 → _) := RUN.out (by simp) (by simp)
        clear RUN HEH DE
        cases r with
        | some t =>
          have YES : Hid (∀ w' p n c, n = szV t → OwnG KA w' w.heap.size (.slice p n c) (flV t) → Below w.heap.size w w' → AnsD w w' (.returned (.tuple #[.slice p n c, .bool true, .int .i64 0])) (some t) de) := fun w' p n c hn ho hb => by subst hn; exact ⟨p, c, by rw [HEX]; rfl, ho, hb⟩
          clear HEX BAD
          go_enter Tryd.func9, Tryd.ntmps9
          go_wp2_with fail
          refine Calls.mono CA.out ?_
          rintro e w2 ⟨rfl, hb2⟩
          have B2 : Hid (Below w.heap.size w w2) := hb2
          have R2 : Hid _ := RN.out w2 hb2
          clear hb2 CA RN
          go_wp2_with fail
          refine Calls.mono R2.out ?_
          rintro e w3 hans
          obtain ⟨p3, n3, c3, rfl, ho3, hb3⟩ := hans.low B2.out
          have H3 : Hid (AnsD w w3 (.returned (.tuple #[.slice p3 n3 c3, .bool true, .int .i64 0])) (some t) de) := YES.out _ _ _ _ (ho3 t rfl).1 (ho3 t rfl).2 hb3
          clear ho3 hb3 hans R2 YES
          go_wp2_with fail
          exact bodyPost_ret (v := .tuple #[.slice p3 n3 c3, .bool true, .int .i64 0]) (by simp [results, Tryd.results9, go_sem]) rfl H3.out
        | none =>
          have NON : Hid (∀ w', Below w.heap.size w w' → AnsD w w' (.returned (.tuple #[.slice none 0 0, .bool false, .int .i64 0])) none de) := fun w' hb => by rw [HEX]; exact AnsD.no hb 0
          clear HEX BAD
          go_enter Tryd.func9, Tryd.ntmps9
          go_wp2_with fail
          refine Calls.mono CA.out ?_
          rintro e w2 ⟨rfl, hb2⟩
          have B2 : Hid (Below w.heap.size w w2) := hb2
          have R2 : Hid _ := RN.out w2 hb2
          clear hb2 CA RN
          go_wp2_with fail
          refine Calls.mono R2.out ?_
          rintro e w3 hans
          obtain ⟨p3, n3, c3, rfl, ho3, hb3⟩ := hans.low B2.out
          have H3 : Hid (Below w.heap.size w w3) := hb3
          clear ho3 hb3 hans R2
          go_wp2_with fail
          exact bodyPost_ret (v := .tuple #[.slice none 0 0, .bool false, .int .i64 0]) (by simp [results, Tryd.results9, go_sem]) rfl (NON.out _ H3.out)
      · have hzb : (rf != 0) = true := by simp [hz]
        clear RUN HEH DE
        go_enter Tryd.func9, Tryd.ntmps9
        go_wp2_with fail
        refine Calls.mono CA.out ?_
        rintro e w2 ⟨rfl, hb2⟩
        have B2 : Hid (Below w.heap.size w w2) := hb2
        clear hb2 CA
        go_wp2_with fail
        exact bodyPost_ret (v := .tuple #[.slice none 0 0, .bool false, .int .i64 rf]) (by simp [results, Tryd.results9, go_sem]) rfl (BAD.out _ rf B2.out HEX hz)
    · rw [if_pos h2] at DE
      have h2I : ¬ (n : Int) = 2 := by omega
      have h2b : ((n : Int) != 2) = true := by simp; omega
      clear RUN CA HEH
      go_enter Tryd.func9, Tryd.ntmps9
      go_wp2_with fail
      exact bodyPost_ret (v := .tuple #[.slice none 0 0, .bool false, .int .i64 5]) (by simp [results, Tryd.results9, go_sem]) rfl (BAD.out _ 5 (Below.refl _ _) DE.out (by decide))
set_option maxHeartbeats 8000000 in
set_option maxRecDepth 100000 in
theorem rdo_same (v : Value) (L : List Vx) (w : World) (h : VR w v L) (ht : VT L) :
    Calls Tryd.prog 9 #[.int .i64 13, v] w fun e w' => AnsD w w' e (doO 13 (aL L)) (doE 13 (aL L)) := by
  obtain ⟨p, cap, rfl⟩ := h.gs.form
  have hlm : L.length ≤ 140737488355328 := by have := ht.n; omega
  have CA : Hid _ := rfirst_any _ L w h ht
  have DE : Hid (doE 13 (aL L) = if 4096 < L.length then 3 else if L.length ≠ 2 then 5 else firstE (aL L)) := by show _ = _; unfold doE; rw [aL_len]; simp
  have BAD : Hid (∀ w' err, Below w.heap.size w w' → doE 13 (aL L) = err → err ≠ 0 → AnsD w w' (.returned (.tuple #[.slice none 0 0, .bool false, .int .i64 err])) (doO 13 (aL L)) (doE 13 (aL L))) := fun w' err b e1 e2 => by rw [doO_bad (by rw [e1]; exact e2), e1]; exact AnsD.no b err
  have HE : L.length = 2 → doE 13 (aL L) = firstE (aL L) := fun hl => by rw [DE.out]; rw [if_neg (by omega), if_neg (by omega)]
  have RUN : Hid (L.length = 2 → firstE (aL L) = 0 → ∀ w1, Below w.heap.size w w1 → Calls Tryd.prog 29 #[.int .i64 13, .slice p L.length cap] w1 fun e w' => AnsR w1 w' e (doO 13 (aL L))) := fun hl hz => fun w1 bw => by
    obtain ⟨X, o, q1, c1, q2, c2, a, b, e1, e2, ra, rb, ta, tb, pa⟩ := pair_pa h ht hl hz
    subst e1
    rw [e2, show [flV a, flV b] = [a, b].map flV from rfl, doO_ok (fun t ht => by simp at ht; rcases ht with rfl | rfl; exact ra; exact rb) (by rw [show [a, b].map flV = [flV a, flV b] from rfl, ← e2, HE hl]; exact hz), hl]
    exact rdo2_any 13 X o cap q1 q2 c1 c2 a b w1 (pa w1 bw) ra rb ta tb (Or.inr (Or.inr (Or.inr (Or.inr (Or.inr (Or.inr rfl))))))
  have HEH : Hid _ := HE
  clear h ht HE
  generalize doO 13 (aL L) = r at *
  generalize doE 13 (aL L) = de at *
  generalize firstE (aL L) = rf at *
  generalize L.length = n at *
  by_cases h1 : 4096 < n
  · have h1I : (n : Int) > 4096 := by omega
    rw [if_pos h1] at DE
    clear RUN CA HEH
    go_enter Tryd.func9, Tryd.ntmps9
    go_wp2_with fail
    exact bodyPost_ret (v := .tuple #[.slice none 0 0, .bool false, .int .i64 3]) (by simp [results, Tryd.results9, go_sem]) rfl (BAD.out _ 3 (Below.refl _ _) DE.out (by decide))
  · have h1I : ¬ (n : Int) > 4096 := by omega
    rw [if_neg h1] at DE
    by_cases h2 : n = 2
    · rw [if_neg (fun e => e h2)] at DE
      subst h2
      have HEX := HEH.out (by simp)
      by_cases hz : rf = 0
      · subst hz
        have RN : Hid (∀ w1, Below w.heap.size w w1 → _) := RUN.out (by simp) (by simp)
        clear RUN HEH DE
        cases r with
        | some t =>
          have YES : Hid (∀ w' p n c, n = szV t → OwnG KA w' w.heap.size (.slice p n c) (flV t) → Below w.heap.size w w' → AnsD w w' (.returned (.tuple #[.slice p n c, .bool true, .int .i64 0])) (some t) de) := fun w' p n c hn ho hb => by subst hn; exact ⟨p, c, by rw [HEX]; rfl, ho, hb⟩
          clear HEX BAD
          go_enter Tryd.func9, Tryd.ntmps9
          go_wp2_with fail
          refine Calls.mono CA.out ?_
          rintro e w2 ⟨rfl, hb2⟩
          have B2 : Hid (Below w.heap.size w w2) := hb2
          have R2 : Hid _ := RN.out w2 hb2
          clear hb2 CA RN
          go_wp2_with fail
          refine Calls.mono R2.out ?_
          rintro e w3 hans
          obtain ⟨p3, n3, c3, rfl, ho3, hb3⟩ := hans.low B2.out
          have H3 : Hid (AnsD w w3 (.returned (.tuple #[.slice p3 n3 c3, .bool true, .int .i64 0])) (some t) de) := YES.out _ _ _ _ (ho3 t rfl).1 (ho3 t rfl).2 hb3
          clear ho3 hb3 hans R2 YES
          go_wp2_with fail
          exact bodyPost_ret (v := .tuple #[.slice p3 n3 c3, .bool true, .int .i64 0]) (by simp [results, Tryd.results9, go_sem]) rfl H3.out
        | none =>
          have NON : Hid (∀ w', Below w.heap.size w w' → AnsD w w' (.returned (.tuple #[.slice none 0 0, .bool false, .int .i64 0])) none de) := fun w' hb => by rw [HEX]; exact AnsD.no hb 0
          clear HEX BAD
          go_enter Tryd.func9, Tryd.ntmps9
          go_wp2_with fail
          refine Calls.mono CA.out ?_
          rintro e w2 ⟨rfl, hb2⟩
          have B2 : Hid (Below w.heap.size w w2) := hb2
          have R2 : Hid _ := RN.out w2 hb2
          clear hb2 CA RN
          go_wp2_with fail
          refine Calls.mono R2.out ?_
          rintro e w3 hans
          obtain ⟨p3, n3, c3, rfl, ho3, hb3⟩ := hans.low B2.out
          have H3 : Hid (Below w.heap.size w w3) := hb3
          clear ho3 hb3 hans R2
          go_wp2_with fail
          exact bodyPost_ret (v := .tuple #[.slice none 0 0, .bool false, .int .i64 0]) (by simp [results, Tryd.results9, go_sem]) rfl (NON.out _ H3.out)
      · have hzb : (rf != 0) = true := by simp [hz]
        clear RUN HEH DE
        go_enter Tryd.func9, Tryd.ntmps9
        go_wp2_with fail
        refine Calls.mono CA.out ?_
        rintro e w2 ⟨rfl, hb2⟩
        have B2 : Hid (Below w.heap.size w w2) := hb2
        clear hb2 CA
        go_wp2_with fail
        exact bodyPost_ret (v := .tuple #[.slice none 0 0, .bool false, .int .i64 rf]) (by simp [results, Tryd.results9, go_sem]) rfl (BAD.out _ rf B2.out HEX hz)
    · rw [if_pos h2] at DE
      have h2I : ¬ (n : Int) = 2 := by omega
      have h2b : ((n : Int) != 2) = true := by simp; omega
      clear RUN CA HEH
      go_enter Tryd.func9, Tryd.ntmps9
      go_wp2_with fail
      exact bodyPost_ret (v := .tuple #[.slice none 0 0, .bool false, .int .i64 5]) (by simp [results, Tryd.results9, go_sem]) rfl (BAD.out _ 5 (Below.refl _ _) DE.out (by decide))
set_option maxHeartbeats 8000000 in
set_option maxRecDepth 100000 in
theorem rdo_none (k : Int) (v : Value) (L : List Vx) (w : World) (h : VR w v L) (hk : k < 5 ∨ 13 < k) :
    Calls Tryd.prog 9 #[.int .i64 k, v] w fun e w' => AnsD w w' e (doO k (aL L)) (doE k (aL L)) := by
  obtain ⟨p, cap, rfl⟩ := h.gs.form
  have DE : doE k (aL L) = 1 := by unfold doE; rw [if_pos (by omega)]
  rw [doO_bad (by rw [DE]; decide), DE]
  have BR : Hid (Below w.heap.size w w) := Below.refl _ _
  have k5 : (k != 5) = true := by simp; omega
  clear DE h
  by_cases k6 : k < 6
  · go_enter Tryd.func9, Tryd.ntmps9
    go_wp2_with fail
    exact bodyPost_ret (v := .tuple #[.slice none 0 0, .bool false, .int .i64 1]) (by simp [results, Tryd.results9, go_sem]) rfl (AnsD.no BR.out 1)
  · have k13 : k > 13 := by omega
    go_enter Tryd.func9, Tryd.ntmps9
    go_wp2_with fail
    exact bodyPost_ret (v := .tuple #[.slice none 0 0, .bool false, .int .i64 1]) (by simp [results, Tryd.results9, go_sem]) rfl (AnsD.no BR.out 1)
theorem rdo_any (k : Int) (v : Value) (L : List Vx) (w : World) (h : VR w v L) (ht : VT L) :
    Calls Tryd.prog 9 #[.int .i64 k, v] w fun e w' => AnsD w w' e (doO k (aL L)) (doE k (aL L)) := by
  by_cases hk : k < 5 ∨ 13 < k
  · exact rdo_none k v L w h hk
  by_cases e5 : k = 5
  · subst e5; exact rdo_list v L w h ht
  by_cases e6 : k = 6
  · subst e6; exact rdo_add v L w h ht
  by_cases e7 : k = 7
  · subst e7; exact rdo_sub v L w h ht
  by_cases e8 : k = 8
  · subst e8; exact rdo_mul v L w h ht
  by_cases e9 : k = 9
  · subst e9; exact rdo_join v L w h ht
  by_cases e10 : k = 10
  · subst e10; exact rdo_item v L w h ht
  by_cases e11 : k = 11
  · subst e11; exact rdo_size v L w h ht
  by_cases e12 : k = 12
  · subst e12; exact rdo_less v L w h ht
  by_cases e13 : k = 13
  · subst e13; exact rdo_same v L w h ht
  omega
end Go.Proofs.YtpiikidpgjmmbaaDoor
