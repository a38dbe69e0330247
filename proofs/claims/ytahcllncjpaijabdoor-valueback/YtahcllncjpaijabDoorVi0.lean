/- Values: any two held against each other (SameValue). -/
import Derived.Test.YtahcllncjpaijabDoorVt3
import Derived.Test.YtahcllncjpaijabDoorVt5
import Derived.Test.YtahcllncjpaijabDoorVc1
namespace Go.Proofs.YtahcllncjpaijabDoor
open Go.RowKit

set_option maxHeartbeats 4000000 in
set_option maxRecDepth 100000 in
theorem vsort_bad (v : Value) (L : List Vx) (w : World) (h : VR w v L) (ht : VT L) (hz : allE (aL L) ≠ 0) :
    Calls Tryd.prog 10 #[v] w fun e w' => AnsS w w' e [] (allE (aL L)) := by
  obtain ⟨p, cap, rfl⟩ := h.gs.form
  have CA : Hid (Calls Tryd.prog 21 #[.slice p L.length cap] w fun e w' => e = .returned (.int .i64 (allE (aL L))) ∧ Below w.heap.size w w') := checkAll_any (.slice p L.length cap) L w h ht
  generalize allE (aL L) = er at *
  have hb : (er != 0) = true := by simpa using hz
  clear h ht
  go_enter Tryd.func10, Tryd.ntmps10
  go_wp2_with (go_at_call 21; refine CA.out.mono ?_; rintro e w1 ⟨rfl, b⟩; have B1 : Hid (Below w.heap.size w w1) := b; clear b)
  exact bodyPost_ret (v := .tuple #[.slice none 0 0, .int .i64 er]) (by simp [results, Tryd.results10, go_sem]) rfl (AnsS.none B1.out er)
/-- What Sort answers: the errors alike; else a row in order. -/
theorem firstE_all : ∀ {A : List (List Atm)}, firstE A = 0 → ∀ a ∈ A, chkV a = 0
  | a :: r, h, b, hb => by
    rw [firstE] at h
    split at h
    · rename_i hc
      rcases List.mem_cons.1 hb with rfl | hb
      · exact hc
      · exact firstE_all h b hb
    · rename_i hc; exact absurd h hc
def SoS (A S : List (List Atm)) : Prop := (allE A ≠ 0 ∧ S = []) ∨ (allE A = 0 ∧ ∃ T U : List Vt, A = T.map flV ∧ (∀ t ∈ T, RT t) ∧ S = U.map flV ∧ U.Perm T ∧ Srt U)
theorem flV_map_inj : ∀ {T U : List Vt}, (∀ t ∈ T, wfV t) → (∀ t ∈ U, wfV t) → T.map flV = U.map flV → T = U
  | [], [], _, _, _ => rfl
  | [], _ :: _, _, _, h => by cases h
  | _ :: _, [], _, _, h => by cases h
  | t :: T, u :: U, h1, h2, h => by
    injection h with a b
    rw [flV_inj (h1 t (List.mem_cons_self ..)) (h2 u (List.mem_cons_self ..)) a, flV_map_inj (fun x hx => h1 x (List.mem_cons_of_mem _ hx)) (fun x hx => h2 x (List.mem_cons_of_mem _ hx)) b]
theorem SoS.one {A S R : List (List Atm)} (h : SoS A S) (k : SoS A R) : S = R := by
  rcases h with ⟨h1, h2⟩ | ⟨h1, T, U, h2, h3, h4, h5, h6⟩
  · rcases k with ⟨k1, k2⟩ | ⟨k1, _⟩
    · rw [h2, k2]
    · exact absurd k1 h1
  · rcases k with ⟨k1, _⟩ | ⟨k1, T', U', k2, k3, k4, k5, k6⟩
    · exact absurd h1 k1
    · have e : T = T' := flV_map_inj (fun t ht => (h3 t ht).wf) (fun t ht => (k3 t ht).wf) (h2.symm.trans k2)
      subst e
      rw [h4, k4, srt_one U U' (h5.trans k5.symm) h6 k6 (fun t ht => (h3 t (h5.subset ht)).wf)]
theorem vsort_any (v : Value) (L : List Vx) (w : World) (h : VR w v L) (ht : VT L) :
    Calls Tryd.prog 10 #[v] w fun e w' => ∃ S, SoS (aL L) S ∧ AnsS w w' e S (allE (aL L)) := by
  by_cases hz : allE (aL L) = 0
  · obtain ⟨T, e1, e2⟩ := trees_of (firstE_all (allE_zero hz).2)
    refine (vsort_ok v L w T h ht hz e1 e2).mono ?_
    rintro e w' ⟨S, s1, s2, s3⟩
    exact ⟨S.map flV, Or.inr ⟨hz, T, S, e1, e2, rfl, s1, s2⟩, by rw [hz]; exact s3⟩
  · refine (vsort_bad v L w h ht hz).mono ?_
    intro e w' s
    exact ⟨[], Or.inl ⟨hz, rfl⟩, s⟩
end Go.Proofs.YtahcllncjpaijabDoor
namespace Go.Proofs.YtahcllncjpaijabDoor
open Go.RowKit

def atE (c d : Atm) : Bool := c.kind == d.kind && (c.n == d.n && (c.int == d.int && (c.text.toList == d.text.toList)))
/-- The same atoms? -/
def eqA : List Atm → List Atm → Bool
  | [], [] => true
  | c :: r, d :: s => atE c d && eqA r s
  | [], _ :: _ => false
  | _ :: _, [] => false
theorem eqA_len : ∀ (l m : List Atm), eqA l m = true → l.length = m.length
  | [], [], _ => rfl
  | c :: r, d :: s, h => by rw [eqA, Bool.and_eq_true] at h; simp [eqA_len r s h.2]
  | [], _ :: _, h => by simp [eqA] at h
  | _ :: _, [], h => by simp [eqA] at h
theorem atE_iff (c d : Atm) : atE c d = true ↔ c = d := by
  obtain ⟨k, n, i, t⟩ := c
  obtain ⟨k', n', i', t'⟩ := d
  unfold atE
  simp only [Bool.and_eq_true, beq_iff_eq, Atm.mk.injEq, ByteArray.toList_eq]
  constructor
  · rintro ⟨h1, h2, h4, h3⟩
    refine ⟨h1, h2, h4, ?_⟩
    obtain ⟨⟨a⟩⟩ := t
    obtain ⟨⟨b⟩⟩ := t'
    simp at h3
    rw [h3]
  · rintro ⟨h1, h2, h4, h3⟩; rw [h3]; exact ⟨h1, h2, h4, rfl⟩
theorem eqA_iff : ∀ (l m : List Atm), eqA l m = true ↔ l = m
  | [], [] => by simp [eqA]
  | c :: r, d :: s => by rw [eqA, Bool.and_eq_true, atE_iff, eqA_iff r s]; simp
  | [], _ :: _ => by simp [eqA]
  | _ :: _, [] => by simp [eqA]
theorem atE_cases {f g : Atm} (h : atE f g = false) : (f.kind == g.kind) = false ∨ ((f.kind == g.kind) = true ∧ (f.n == g.n) = false) ∨ ((f.kind == g.kind) = true ∧ (f.n == g.n) = true ∧ (f.int == g.int) = false) ∨ ((f.kind == g.kind) = true ∧ (f.n == g.n) = true ∧ (f.int == g.int) = true ∧ (f.text.toList == g.text.toList) = false) := by
  unfold atE at h
  cases h1 : (f.kind == g.kind) <;> cases h2 : (f.n == g.n) <;> cases h4 : (f.int == g.int) <;> cases h3 : (f.text.toList == g.text.toList) <;> simp_all
theorem atE_all {f g : Atm} (h : atE f g = true) : (f.kind == g.kind) = true ∧ (f.n == g.n) = true ∧ (f.int == g.int) = true ∧ (f.text.toList == g.text.toList) = true := by
  unfold atE at h
  simpa using h
theorem eqA_step {l m : List Atm} {k : Nat} (h1 : k < l.length) (h2 : k < m.length) : eqA (l.drop k) (m.drop k) = (atE l[k] m[k] && eqA (l.drop (k + 1)) (m.drop (k + 1))) := by
  rw [List.drop_eq_getElem_cons h1, List.drop_eq_getElem_cons h2, eqA]
set_option maxHeartbeats 4000000 in
theorem sameV_any (w : World) (v1 v2 : Value) (l m : List Atm) (h1 : AS w v1 l) (h2 : AS w v2 m) (hl : l.length ≤ 100000000000000000) :
    Calls Tryd.prog 7 #[v1, v2] w fun e w' => e = .returned (.bool (eqA l m)) ∧ ∃ n, w' = w.drewN n := by
  obtain ⟨p1, c1, rfl⟩ := h1.form
  obtain ⟨p2, c2, rfl⟩ := h2.form
  have A1 : Hid (AS w (.slice p1 l.length c1) l) := h1
  have A2 : Hid (AS w (.slice p2 m.length c2) m) := h2
  clear h1 h2
  by_cases hlm : l.length = m.length
  · have hml : m.length = l.length := hlm.symm
    have E0 : Hid (eqA l m = eqA (l.drop 0) (m.drop 0)) := by show _ = _; simp
    have EE : Hid (∀ k, l.length ≤ k → eqA (l.drop k) (m.drop k) = true) := fun k hk => by rw [List.drop_of_length_le hk, List.drop_of_length_le (by omega)]; rfl
    generalize eqA l m = r at *
    have HM : Hid (m.length = l.length) := hml
    rw [hml] at A2 ⊢
    clear hml hlm
    go_enter Tryd.func7, Tryd.ntmps7
    go_wp2
    go_loopw [5] (fun v5 wr => ∃ (k n : Nat), v5 = .int .i64 k ∧ k ≤ l.length ∧ wr = w.drewN n ∧ Hid (r = eqA (l.drop k) (m.drop k))) (fun v5 _ => l.length - (intOf v5).toNat)
    case atStart => exact ⟨0, 0, rfl, Nat.zero_le _, rfl, E0⟩
    case round =>
      obtain ⟨k, n, rfl, hk, rfl, HR⟩ := hrel
      clear E0
      by_cases hlt : k < l.length
      · obtain ⟨X1, o1, e1, x1, x2, x4, x3⟩ := A1.out.atA hlt
        obtain rfl : p1 = some ⟨X1, o1, none⟩ := e1
        obtain ⟨X2, o2, e2, y1, y2, y4, y3⟩ := A2.out.atA (k := k) (by rw [HM.out]; exact hlt)
        obtain rfl : p2 = some ⟨X2, o2, none⟩ := e2
        have HS := HR.out
        rw [eqA_step hlt (by rw [HM.out]; exact hlt)] at HS
        obtain ⟨f, hf⟩ : ∃ f, f = l[k] := ⟨_, rfl⟩
        rw [← hf] at x1 x2 x3 x4 HS
        obtain ⟨g, hg⟩ : ∃ g, g = m[k]'(by rw [HM.out]; exact hlt) := ⟨_, rfl⟩
        rw [← hg] at y1 y2 y3 y4 HS
        have HN : Hid (r = (atE f g && eqA (l.drop (k + 1)) (m.drop (k + 1)))) := HS
        clear hf hg HR HS
        cases hc : atE f g with
        | true =>
          obtain ⟨z1, z2, z4, z3⟩ := atE_all hc
          rw [hc] at HN
          clear hc
          go_wp2
          go_quiet (fail)
          go_wp2
          all_goals
            go_roundw
            case rel => exact ⟨k + 1, _, by go_num, by omega, rfl, HN.out.trans (by simp)⟩
            case measure => simp [intOf]; omega
        | false =>
          rw [hc] at HN
          have hr : r = false := HN.out
          subst hr
          rcases atE_cases hc with z1 | ⟨z1, z2⟩ | ⟨z1, z2, z4⟩ | ⟨z1, z2, z4, z3⟩
          all_goals
            clear hc
            go_wp2
            go_quiet (fail)
            go_wp2
            go_ret
            exact ⟨rfl, n + nq, by simp⟩
      · have hr : r = true := HR.out.trans (EE.out k (by omega))
        subst hr
        clear HR
        go_wp2
        go_ret
        exact ⟨rfl, n, rfl⟩
  · have hr : eqA l m = false := by
      cases h : eqA l m with
      | false => rfl
      | true => exact absurd (eqA_len l m h) hlm
    rw [hr]
    have z1 : ((l.length : Int) == (m.length : Int)) = false := by simp; omega
    have z2 : ((l.length : Int) != (m.length : Int)) = true := by simp; omega
    go_enter Tryd.func7, Tryd.ntmps7
    go_wp2
    go_ret
    exact ⟨rfl, 0, rfl⟩
end Go.Proofs.YtahcllncjpaijabDoor
