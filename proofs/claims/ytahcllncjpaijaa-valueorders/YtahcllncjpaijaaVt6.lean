/- Values: both Sorts, of any values. -/
import Derived.Test.YtahcllncjpaijaaVt3
import Derived.Test.YtahcllncjpaijaaVt5
namespace Go.Proofs.Ytahcllncjpaijaa
open Go.RowKit

set_option maxHeartbeats 4000000 in
set_option maxRecDepth 100000 in
theorem vsort_bad (v : Value) (L : List Vx) (w : World) (h : VR w v L) (ht : VT L) (hz : allE (aL L) ≠ 0) :
    Calls Try.prog 22 #[v] w fun e w' => AnsS w w' e [] (allE (aL L)) := by
  obtain ⟨p, cap, rfl⟩ := h.gs.form
  have CA : Hid (Calls Try.prog 25 #[.slice p L.length cap] w fun e w' => e = .returned (.int .i64 (allE (aL L))) ∧ Below w.heap.size w w') := checkAll_any (.slice p L.length cap) L w h ht
  generalize allE (aL L) = er at *
  have hb : (er != 0) = true := by simpa using hz
  clear h ht
  go_enter Try.func22, Try.ntmps22
  go_wp2_with (go_at_call 25; refine CA.out.mono ?_; rintro e w1 ⟨rfl, b⟩; have B1 : Hid (Below w.heap.size w w1) := b; clear b)
  exact bodyPost_ret (v := .tuple #[.slice none 0 0, .int .i64 er]) (by simp [results, Try.results22, go_sem]) rfl (AnsS.none B1.out er)
set_option maxHeartbeats 4000000 in
set_option maxRecDepth 100000 in
theorem rsort_bad (v : Value) (L : List Vx) (w : World) (h : VR w v L) (ht : VT L) (hz : allE (aL L) ≠ 0) :
    Calls Try.prog 23 #[v] w fun e w' => AnsS w w' e [] (allE (aL L)) := by
  obtain ⟨p, cap, rfl⟩ := h.gs.form
  have hm : L.length ≤ 140737488355328 := by have := ht.n; omega
  by_cases hl : 4096 < L.length
  · have e : allE (aL L) = 3 := by unfold allE; rw [aL_len, if_pos hl]
    rw [e]
    clear h ht hz e
    go_enter Try.func23, Try.ntmps23
    go_wp2_with fail
    exact bodyPost_ret (v := .tuple #[.slice none 0 0, .int .i64 3]) (by simp [results, Try.results23, go_sem]) rfl (AnsS.none (Below.refl _ _) 3)
  · have e : allE (aL L) = firstE (aL L) := by unfold allE; rw [aL_len, if_neg hl]
    rw [e] at hz ⊢
    have CA : Hid (Calls Try.prog 27 #[.slice p L.length cap] w fun e w' => e = .returned (.int .i64 (firstE (aL L))) ∧ Below w.heap.size w w') := rfirst_any (.slice p L.length cap) L w h ht
    generalize firstE (aL L) = er at *
    have hb : (er != 0) = true := by simpa using hz
    clear h ht e
    go_enter Try.func23, Try.ntmps23
    go_wp2_with (go_at_call 27; refine CA.out.mono ?_; rintro e w1 ⟨rfl, b⟩; have B1 : Hid (Below w.heap.size w w1) := b; clear b)
    exact bodyPost_ret (v := .tuple #[.slice none 0 0, .int .i64 er]) (by simp [results, Try.results23, go_sem]) rfl (AnsS.none B1.out er)
/-- What Sort answers: the errors alike; else a row in order. -/
theorem firstE_all : ∀ {A : List (List Atm)}, firstE A = 0 → ∀ a ∈ A, chkV a = 0
  | a :: r, h, b, hb => by
    rw [firstE] at h
    split at h
    · rename_i hc
      rcases List.mem_cons.1 hb with rfl | hb
      · exact hc
      · exact firstE_all h b hb
    · rename_i hc; exact absurd h hc
def SoS (A S : List (List Atm)) : Prop := (allE A ≠ 0 ∧ S = []) ∨ (allE A = 0 ∧ ∃ T U : List Vt, A = T.map flV ∧ (∀ t ∈ T, RT t) ∧ S = U.map flV ∧ U.Perm T ∧ Srt U)
theorem flV_map_inj : ∀ {T U : List Vt}, (∀ t ∈ T, wfV t) → (∀ t ∈ U, wfV t) → T.map flV = U.map flV → T = U
  | [], [], _, _, _ => rfl
  | [], _ :: _, _, _, h => by cases h
  | _ :: _, [], _, _, h => by cases h
  | t :: T, u :: U, h1, h2, h => by
    injection h with a b
    rw [flV_inj (h1 t (List.mem_cons_self ..)) (h2 u (List.mem_cons_self ..)) a, flV_map_inj (fun x hx => h1 x (List.mem_cons_of_mem _ hx)) (fun x hx => h2 x (List.mem_cons_of_mem _ hx)) b]
theorem SoS.one {A S R : List (List Atm)} (h : SoS A S) (k : SoS A R) : S = R := by
  rcases h with ⟨h1, h2⟩ | ⟨h1, T, U, h2, h3, h4, h5, h6⟩
  · rcases k with ⟨k1, k2⟩ | ⟨k1, _⟩
    · rw [h2, k2]
    · exact absurd k1 h1
  · rcases k with ⟨k1, _⟩ | ⟨k1, T', U', k2, k3, k4, k5, k6⟩
    · exact absurd h1 k1
    · have e : T = T' := flV_map_inj (fun t ht => (h3 t ht).wf) (fun t ht => (k3 t ht).wf) (h2.symm.trans k2)
      subst e
      rw [h4, k4, srt_one U U' (h5.trans k5.symm) h6 k6 (fun t ht => (h3 t (h5.subset ht)).wf)]
theorem vsort_any (v : Value) (L : List Vx) (w : World) (h : VR w v L) (ht : VT L) :
    Calls Try.prog 22 #[v] w fun e w' => ∃ S, SoS (aL L) S ∧ AnsS w w' e S (allE (aL L)) := by
  by_cases hz : allE (aL L) = 0
  · obtain ⟨T, e1, e2⟩ := trees_of (firstE_all (allE_zero hz).2)
    refine (vsort_ok v L w T h ht hz e1 e2).mono ?_
    rintro e w' ⟨S, s1, s2, s3⟩
    exact ⟨S.map flV, Or.inr ⟨hz, T, S, e1, e2, rfl, s1, s2⟩, by rw [hz]; exact s3⟩
  · refine (vsort_bad v L w h ht hz).mono ?_
    intro e w' s
    exact ⟨[], Or.inl ⟨hz, rfl⟩, s⟩
theorem rsort_any (v : Value) (L : List Vx) (w : World) (h : VR w v L) (ht : VT L) :
    Calls Try.prog 23 #[v] w fun e w' => ∃ S, SoS (aL L) S ∧ AnsS w w' e S (allE (aL L)) := by
  by_cases hz : allE (aL L) = 0
  · obtain ⟨T, e1, e2⟩ := trees_of (firstE_all (allE_zero hz).2)
    refine (rsort_ok v L w T h ht hz e1 e2).mono ?_
    rintro e w' ⟨S, s1, s2, s3⟩
    exact ⟨S.map flV, Or.inr ⟨hz, T, S, e1, e2, rfl, s1, s2⟩, by rw [hz]; exact s3⟩
  · refine (rsort_bad v L w h ht hz).mono ?_
    intro e w' s
    exact ⟨[], Or.inl ⟨hz, rfl⟩, s⟩
end Go.Proofs.Ytahcllncjpaijaa
