/- Values: Compare, both. -/
import Derived.Test.YtahcllncjpaijaaVe4
namespace Go.Proofs.Ytahcllncjpaijaa
open Go.RowKit

def cmpE (l1 l2 : List Atm) : Int := firstE [l1, l2]
def cmpN (l1 l2 : List Atm) : Int := if cmpE l1 l2 = 0 then cmpV (treeA l1) (treeA l2) else 0
theorem cmpE_zero {l1 l2 : List Atm} (h : cmpE l1 l2 = 0) : chkV l1 = 0 ∧ chkV l2 = 0 := ⟨firstE_zero h l1 (by simp), firstE_zero h l2 (by simp)⟩
/-- Two values in a row of the call's own. -/
theorem pair_vr {w : World} {q1 q2 : Option Addr} {c1 c2 : Nat} {l1 l2 : List Atm} (h1 : AS w (.slice q1 l1.length c1) l1) (h2 : AS w (.slice q2 l2.length c2) l2) : VR (w.alloc (.cells #[.slice q1 l1.length c1, .slice q2 l2.length c2] 24)) (.slice (some ⟨w.heap.size, 0, none⟩) 2 2) [⟨l1, q1, c1⟩, ⟨l2, q2, c2⟩] := by
  have b : Below w.heap.size w (w.alloc (.cells #[.slice q1 l1.length c1, .slice q2 l2.length c2] 24)) := (Below.refl _ _).alloc (Nat.le_refl _) _
  refine ⟨(OwnG.lit KV w [⟨l1, q1, c1⟩, ⟨l2, q2, c2⟩] _ rfl rfl (by show 2 ≤ maxLen; unfold maxLen; omega)).gs KV_ok.len, fun x hx => ?_⟩
  simp at hx
  rcases hx with rfl | rfl
  · exact h1.below b
  · exact h2.below b
theorem pair_vt {q1 q2 : Option Addr} {c1 c2 : Nat} {l1 l2 : List Atm} (n1 : l1.length * 40 ≤ 140737488355328) (n2 : l2.length * 40 ≤ 140737488355328) (t1 : AT l1) (t2 : AT l2) : VT [(⟨l1, q1, c1⟩ : Vx), ⟨l2, q2, c2⟩] := by
  refine ⟨by simp, fun x hx => ?_, fun x hx => ?_⟩
  · simp at hx
    rcases hx with rfl | rfl
    · exact n1
    · exact n2
  · simp at hx
    rcases hx with rfl | rfl
    · exact t1
    · exact t2
set_option maxHeartbeats 4000000 in
theorem compare_any (v1 v2 : Value) (l1 l2 : List Atm) (w : World) (h1 : AS w v1 l1) (h2 : AS w v2 l2) (t1 : AT l1) (t2 : AT l2) (n1 : l1.length * 40 ≤ 140737488355328) (n2 : l2.length * 40 ≤ 140737488355328) :
    Calls Try.prog 19 #[v1, v2] w fun e w' => e = .returned (.tuple #[.int .i64 (cmpN l1 l2), .int .i64 (cmpE l1 l2)]) ∧ Below w.heap.size w w' := by
  obtain ⟨q1, c1, rfl⟩ := h1.form
  obtain ⟨q2, c2, rfl⟩ := h2.form
  have CA : Hid (Calls Try.prog 25 #[.slice (some ⟨w.heap.size, 0, none⟩) 2 2] (w.alloc (.cells #[.slice q1 l1.length c1, .slice q2 l2.length c2] 24)) fun e w' => e = .returned (.int .i64 (cmpE l1 l2)) ∧ Below (w.alloc (.cells #[.slice q1 l1.length c1, .slice q2 l2.length c2] 24)).heap.size (w.alloc (.cells #[.slice q1 l1.length c1, .slice q2 l2.length c2] 24)) w') := by
    have := checkAll_any _ _ _ (pair_vr h1 h2) (pair_vt n1 n2 t1 t2)
    exact this
  have HN : Hid (cmpN l1 l2 = if cmpE l1 l2 = 0 then cmpV (treeA l1) (treeA l2) else 0) := rfl
  have OD : Hid (cmpE l1 l2 = 0 → ∀ w1, Below w.heap.size w w1 → Calls Try.prog 36 #[.slice q1 l1.length c1, .slice q2 l2.length c2] w1 fun e w' => e = .returned (.int .i64 (cmpV (treeA l1) (treeA l2))) ∧ Below w1.heap.size w1 w') := fun e w1 b => by
    obtain ⟨z1, z2⟩ := cmpE_zero e
    obtain ⟨s, rfl, hs⟩ := RT.of z1
    obtain ⟨t, rfl, ht⟩ := RT.of z2
    rw [treeA_flat hs.wf, treeA_flat ht.wf]
    exact order_any _ _ s t w1 (h1.below b) (h2.below b) hs ht
  have B0 : Hid (∀ ob w1, Below (w.alloc ob).heap.size (w.alloc ob) w1 → Below w.heap.size w w1) := fun ob w1 b => ((Below.refl _ _).alloc (Nat.le_refl _) ob).trans (b.mono (by simp))
  generalize cmpN l1 l2 = rn at *
  generalize cmpV (treeA l1) (treeA l2) = cv at *
  generalize cmpE l1 l2 = r at *
  clear h1 h2 t1 t2 n1 n2
  by_cases hz : r = 0
  · subst hz
    rw [if_pos rfl] at HN
    go_enter Try.func19, Try.ntmps19
    go_wp2_with fail
    refine Calls.mono CA.out ?_
    rintro e w1 ⟨rfl, hb1⟩
    have B1 : Hid (Below w.heap.size w w1) := B0.out _ _ hb1
    have O1 : Hid _ := OD.out (by simp) w1 B1.out
    clear hb1 CA OD B0
    go_wp2_with fail
    refine Calls.mono O1.out ?_
    rintro e w2 ⟨rfl, hb2⟩
    have B2 : Hid (Below w.heap.size w w2) := B1.out.trans (hb2.mono B1.out.size)
    clear hb2 O1 B1
    go_wp2_with fail
    exact bodyPost_ret (v := .tuple #[.int .i64 cv, .int .i64 0]) (by simp [results, Try.results19, go_sem]) rfl ⟨by rw [HN.out], B2.out⟩
  · rw [if_neg hz] at HN
    have hzb : (r != 0) = true := by simp [hz]
    clear OD
    go_enter Try.func19, Try.ntmps19
    go_wp2_with fail
    refine Calls.mono CA.out ?_
    rintro e w1 ⟨rfl, hb1⟩
    have B1 : Hid (Below w.heap.size w w1) := B0.out _ _ hb1
    clear hb1 CA B0
    go_wp2_with fail
    exact bodyPost_ret (v := .tuple #[.int .i64 0, .int .i64 r]) (by simp [results, Try.results19, go_sem]) rfl ⟨by rw [HN.out], B1.out⟩
set_option maxHeartbeats 4000000 in
theorem rcompareE_any (v1 v2 : Value) (l1 l2 : List Atm) (w : World) (h1 : AS w v1 l1) (h2 : AS w v2 l2) (t1 : AT l1) (t2 : AT l2) (n1 : l1.length * 40 ≤ 140737488355328) (n2 : l2.length * 40 ≤ 140737488355328) :
    Calls Try.prog 21 #[v1, v2] w fun e w' => e = .returned (.tuple #[.int .i64 (cmpN l1 l2), .int .i64 (cmpE l1 l2)]) ∧ Below w.heap.size w w' := by
  obtain ⟨q1, c1, rfl⟩ := h1.form
  obtain ⟨q2, c2, rfl⟩ := h2.form
  have C1 : Hid _ := rvcheck_any _ l1 w h1 t1 (by omega)
  have C2 : Hid (∀ w1, Below w.heap.size w w1 → _) := fun w1 b => rvcheck_any _ l2 w1 (h2.below b) t2 (by omega)
  have HN : Hid (cmpN l1 l2 = if cmpE l1 l2 = 0 then cmpV (treeA l1) (treeA l2) else 0) := rfl
  have HE : Hid (cmpE l1 l2 = if chkV l1 = 0 then chkV l2 else chkV l1) := by
    show _ = _
    unfold cmpE
    rw [firstE, firstE, firstE]
    by_cases e : chkV l1 = 0
    · rw [if_pos e, if_pos e]
      split
      · rename_i h; exact h.symm
      · rfl
    · rw [if_neg e, if_neg e]
  have OD : Hid (chkV l1 = 0 → chkV l2 = 0 → ∀ w1, Below w.heap.size w w1 → Calls Try.prog 37 #[.slice q1 l1.length c1, .slice q2 l2.length c2] w1 fun e w' => e = .returned (.int .i64 (cmpV (treeA l1) (treeA l2))) ∧ Below w1.heap.size w1 w') := fun z1 z2 w1 b => by
    obtain ⟨s, rfl, hs⟩ := RT.of z1
    obtain ⟨t, rfl, ht⟩ := RT.of z2
    rw [treeA_flat hs.wf, treeA_flat ht.wf]
    exact rcompare_any (szV s) s t _ _ w1 (Nat.le_refl _) (h1.below b) (h2.below b) hs ht t1 t2
  generalize cmpN l1 l2 = rn at *
  generalize cmpV (treeA l1) (treeA l2) = cv at *
  generalize cmpE l1 l2 = r at *
  generalize chkV l1 = r1 at *
  generalize chkV l2 = r2 at *
  clear h1 h2 t1 t2 n1 n2
  by_cases hz : r1 = 0
  · subst hz
    rw [if_pos rfl] at HE
    by_cases hz2 : r2 = 0
    · subst hz2
      rw [HE.out, if_pos rfl] at HN
      go_enter Try.func21, Try.ntmps21
      go_wp2_with fail
      refine Calls.mono C1.out ?_
      rintro e w1 ⟨rfl, hb1⟩
      have B1 : Hid (Below w.heap.size w w1) := hb1
      have Q1 : Hid _ := C2.out w1 hb1
      clear hb1 C1 C2
      go_wp2_with fail
      refine Calls.mono Q1.out ?_
      rintro e w2 ⟨rfl, hb2⟩
      have B2 : Hid (Below w.heap.size w w2) := B1.out.trans (hb2.mono B1.out.size)
      have Q2 : Hid _ := OD.out (by simp) (by simp) w2 B2.out
      clear hb2 Q1 OD B1
      go_wp2_with fail
      refine Calls.mono Q2.out ?_
      rintro e w3 ⟨rfl, hb3⟩
      have B3 : Hid (Below w.heap.size w w3) := B2.out.trans (hb3.mono B2.out.size)
      clear hb3 Q2 B2
      go_wp2_with fail
      exact bodyPost_ret (v := .tuple #[.int .i64 cv, .int .i64 0]) (by simp [results, Try.results21, go_sem]) rfl ⟨by rw [HN.out, HE.out], B3.out⟩
    · rw [HE.out, if_neg hz2] at HN
      have hzb : (r2 != 0) = true := by simp [hz2]
      clear OD
      go_enter Try.func21, Try.ntmps21
      go_wp2_with fail
      refine Calls.mono C1.out ?_
      rintro e w1 ⟨rfl, hb1⟩
      have B1 : Hid (Below w.heap.size w w1) := hb1
      have Q1 : Hid _ := C2.out w1 hb1
      clear hb1 C1 C2
      go_wp2_with fail
      refine Calls.mono Q1.out ?_
      rintro e w2 ⟨rfl, hb2⟩
      have B2 : Hid (Below w.heap.size w w2) := B1.out.trans (hb2.mono B1.out.size)
      clear hb2 Q1 B1
      go_wp2_with fail
      exact bodyPost_ret (v := .tuple #[.int .i64 0, .int .i64 r2]) (by simp [results, Try.results21, go_sem]) rfl ⟨by rw [HN.out, HE.out], B2.out⟩
  · rw [if_neg hz] at HE
    rw [HE.out, if_neg hz] at HN
    have hzb : (r1 != 0) = true := by simp [hz]
    have hzc : (r1 == 0) = false := by simp [hz]
    clear OD C2
    go_enter Try.func21, Try.ntmps21
    go_wp2_with fail
    refine Calls.mono C1.out ?_
    rintro e w1 ⟨rfl, hb1⟩
    have B1 : Hid (Below w.heap.size w w1) := hb1
    clear hb1 C1
    go_wp2_with fail
    exact bodyPost_ret (v := .tuple #[.int .i64 0, .int .i64 r1]) (by simp [results, Try.results21, go_sem]) rfl ⟨by rw [HN.out, HE.out], B1.out⟩
end Go.Proofs.Ytahcllncjpaijaa
