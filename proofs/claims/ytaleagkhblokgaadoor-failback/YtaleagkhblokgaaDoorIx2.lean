/- Failures: any two held against each other; a failure's sub-failures as slices; slices.Equal, SameFail, slices.Clone. -/
import Derived.Test.YtaleagkhblokgaaDoorPlain3
namespace Go.Proofs.YtaleagkhblokgaaDoor
open Go.RowKit

def crE (c d : Cr) : Bool := c.kind == d.kind && (c.n == d.n && (c.text.toList == d.text.toList))
/-- The same cracks? -/
def eqC : List Cr → List Cr → Bool
  | [], [] => true
  | c :: r, d :: s => crE c d && eqC r s
  | [], _ :: _ => false
  | _ :: _, [] => false
theorem eqC_len : ∀ (l m : List Cr), eqC l m = true → l.length = m.length
  | [], [], _ => rfl
  | c :: r, d :: s, h => by rw [eqC, Bool.and_eq_true] at h; simp [eqC_len r s h.2]
  | [], _ :: _, h => by simp [eqC] at h
  | _ :: _, [], h => by simp [eqC] at h
theorem crE_iff (c d : Cr) : crE c d = true ↔ c = d := by
  obtain ⟨k, n, t⟩ := c
  obtain ⟨k', n', t'⟩ := d
  unfold crE
  simp only [Bool.and_eq_true, beq_iff_eq, Cr.mk.injEq, ByteArray.toList_eq]
  constructor
  · rintro ⟨h1, h2, h3⟩
    refine ⟨h1, h2, ?_⟩
    obtain ⟨⟨a⟩⟩ := t
    obtain ⟨⟨b⟩⟩ := t'
    simp at h3
    rw [h3]
  · rintro ⟨h1, h2, h3⟩; rw [h3]; exact ⟨h1, h2, rfl⟩
theorem eqC_iff : ∀ (l m : List Cr), eqC l m = true ↔ l = m
  | [], [] => by simp [eqC]
  | c :: r, d :: s => by rw [eqC, Bool.and_eq_true, crE_iff, eqC_iff r s]; simp
  | [], _ :: _ => by simp [eqC]
  | _ :: _, [] => by simp [eqC]
theorem crE_cases {f g : Cr} (h : crE f g = false) : (f.kind == g.kind) = false ∨ ((f.kind == g.kind) = true ∧ (f.n == g.n) = false) ∨ ((f.kind == g.kind) = true ∧ (f.n == g.n) = true ∧ (f.text.toList == g.text.toList) = false) := by
  unfold crE at h
  cases h1 : (f.kind == g.kind) <;> cases h2 : (f.n == g.n) <;> cases h3 : (f.text.toList == g.text.toList) <;> simp_all
theorem crE_all {f g : Cr} (h : crE f g = true) : (f.kind == g.kind) = true ∧ (f.n == g.n) = true ∧ (f.text.toList == g.text.toList) = true := by
  unfold crE at h
  simpa using h
theorem eqC_step {l m : List Cr} {k : Nat} (h1 : k < l.length) (h2 : k < m.length) : eqC (l.drop k) (m.drop k) = (crE l[k] m[k] && eqC (l.drop (k + 1)) (m.drop (k + 1))) := by
  rw [List.drop_eq_getElem_cons h1, List.drop_eq_getElem_cons h2, eqC]
set_option maxHeartbeats 4000000 in
theorem sameFail_any (w : World) (v1 v2 : Value) (l m : List Cr) (h1 : CS w v1 l) (h2 : CS w v2 m) (hl : l.length ≤ 100000000000000000) :
    Calls Tryd.prog 15 #[v1, v2] w fun e w' => e = .returned (.bool (eqC l m)) ∧ ∃ n, w' = w.drewN n := by
  obtain ⟨p1, c1, rfl⟩ := h1.form
  obtain ⟨p2, c2, rfl⟩ := h2.form
  have A1 : Hid (CS w (.slice p1 l.length c1) l) := h1
  have A2 : Hid (CS w (.slice p2 m.length c2) m) := h2
  clear h1 h2
  by_cases hlm : l.length = m.length
  · have hml : m.length = l.length := hlm.symm
    have E0 : Hid (eqC l m = eqC (l.drop 0) (m.drop 0)) := by show _ = _; simp
    have EE : Hid (∀ k, l.length ≤ k → eqC (l.drop k) (m.drop k) = true) := fun k hk => by rw [List.drop_of_length_le hk, List.drop_of_length_le (by omega)]; rfl
    generalize eqC l m = r at *
    have HM : Hid (m.length = l.length) := hml
    rw [hml] at A2 ⊢
    clear hml hlm
    go_enter Tryd.func15, Tryd.ntmps15
    go_wp2
    go_loopw [5] (fun v5 wr => ∃ (k n : Nat), v5 = .int .i64 k ∧ k ≤ l.length ∧ wr = w.drewN n ∧ Hid (r = eqC (l.drop k) (m.drop k))) (fun v5 _ => l.length - (intOf v5).toNat)
    case atStart => exact ⟨0, 0, rfl, Nat.zero_le _, rfl, E0⟩
    case round =>
      obtain ⟨k, n, rfl, hk, rfl, HR⟩ := hrel
      clear E0
      by_cases hlt : k < l.length
      · obtain ⟨X1, o1, e1, x1, x2, x3⟩ := A1.out.at hlt
        obtain rfl : p1 = some ⟨X1, o1, none⟩ := e1
        obtain ⟨X2, o2, e2, y1, y2, y3⟩ := A2.out.at (k := k) (by rw [HM.out]; exact hlt)
        obtain rfl : p2 = some ⟨X2, o2, none⟩ := e2
        have HS := HR.out
        rw [eqC_step hlt (by rw [HM.out]; exact hlt)] at HS
        obtain ⟨f, hf⟩ : ∃ f, f = l[k] := ⟨_, rfl⟩
        rw [← hf] at x1 x2 x3 HS
        obtain ⟨g, hg⟩ : ∃ g, g = m[k]'(by rw [HM.out]; exact hlt) := ⟨_, rfl⟩
        rw [← hg] at y1 y2 y3 HS
        have HN : Hid (r = (crE f g && eqC (l.drop (k + 1)) (m.drop (k + 1)))) := HS
        clear hf hg HR HS
        cases hc : crE f g with
        | true =>
          obtain ⟨z1, z2, z3⟩ := crE_all hc
          rw [hc] at HN
          clear hc
          go_wp2
          go_quiet (fail)
          go_wp2
          all_goals
            go_roundw
            case rel => exact ⟨k + 1, _, by go_num, by omega, rfl, HN.out.trans (by simp)⟩
            case measure => simp [intOf]; omega
        | false =>
          rw [hc] at HN
          have hr : r = false := HN.out
          subst hr
          rcases crE_cases hc with z1 | ⟨z1, z2⟩ | ⟨z1, z2, z3⟩
          all_goals
            clear hc
            go_wp2
            go_quiet (fail)
            go_wp2
            go_ret
            exact ⟨rfl, n + nq, by simp⟩
      · have hr : r = true := HR.out.trans (EE.out k (by omega))
        subst hr
        clear HR
        go_wp2
        go_ret
        exact ⟨rfl, n, rfl⟩
  · have hr : eqC l m = false := by
      cases h : eqC l m with
      | false => rfl
      | true => exact absurd (eqC_len l m h) hlm
    rw [hr]
    have z1 : ((l.length : Int) == (m.length : Int)) = false := by simp; omega
    have z2 : ((l.length : Int) != (m.length : Int)) = true := by simp; omega
    go_enter Tryd.func15, Tryd.ntmps15
    go_wp2
    go_ret
    exact ⟨rfl, 0, rfl⟩
set_option maxHeartbeats 4000000 in
theorem equal_any (w : World) (v1 v2 : Value) (l m : List Cr) (h1 : CS w v1 l) (h2 : CS w v2 m) (hl : l.length ≤ 100000000000000000) :
    Calls Tryd.prog 39 #[v1, v2] w fun e w' => e = .returned (.bool (eqC l m)) ∧ ∃ n, w' = w.drewN n := by
  obtain ⟨p1, c1, rfl⟩ := h1.form
  obtain ⟨p2, c2, rfl⟩ := h2.form
  have A1 : Hid (CS w (.slice p1 l.length c1) l) := h1
  have A2 : Hid (CS w (.slice p2 m.length c2) m) := h2
  clear h1 h2
  by_cases hlm : l.length = m.length
  · have hml : m.length = l.length := hlm.symm
    have E0 : Hid (eqC l m = eqC (l.drop 0) (m.drop 0)) := by show _ = _; simp
    have EE : Hid (∀ k, l.length ≤ k → eqC (l.drop k) (m.drop k) = true) := fun k hk => by rw [List.drop_of_length_le hk, List.drop_of_length_le (by omega)]; rfl
    generalize eqC l m = r at *
    have HM : Hid (m.length = l.length) := hml
    rw [hml] at A2 ⊢
    clear hml hlm
    go_enter Tryd.func39, Tryd.ntmps39
    go_wp2
    go_loopw [13] (fun v5 wr => ∃ (k n : Nat), v5 = .int .i64 k ∧ k ≤ l.length ∧ wr = w.drewN n ∧ Hid (r = eqC (l.drop k) (m.drop k))) (fun v5 _ => l.length - (intOf v5).toNat)
    case atStart => exact ⟨0, 0, rfl, Nat.zero_le _, rfl, E0⟩
    case round =>
      obtain ⟨k, n, rfl, hk, rfl, HR⟩ := hrel
      clear E0
      by_cases hlt : k < l.length
      · obtain ⟨X1, o1, e1, x1, x2, x3⟩ := A1.out.at hlt
        obtain rfl : p1 = some ⟨X1, o1, none⟩ := e1
        obtain ⟨X2, o2, e2, y1, y2, y3⟩ := A2.out.at (k := k) (by rw [HM.out]; exact hlt)
        obtain rfl : p2 = some ⟨X2, o2, none⟩ := e2
        have HS := HR.out
        rw [eqC_step hlt (by rw [HM.out]; exact hlt)] at HS
        obtain ⟨f, hf⟩ : ∃ f, f = l[k] := ⟨_, rfl⟩
        rw [← hf] at x1 x2 x3 HS
        obtain ⟨g, hg⟩ : ∃ g, g = m[k]'(by rw [HM.out]; exact hlt) := ⟨_, rfl⟩
        rw [← hg] at y1 y2 y3 HS
        have HN : Hid (r = (crE f g && eqC (l.drop (k + 1)) (m.drop (k + 1)))) := HS
        clear hf hg HR HS
        cases hc : crE f g with
        | true =>
          obtain ⟨z1, z2, z3⟩ := crE_all hc
          rw [hc] at HN
          clear hc
          go_wp2
          go_quiet (fail)
          go_wp2
          all_goals
            go_roundw
            case rel => exact ⟨k + 1, _, by go_num, by omega, rfl, HN.out.trans (by simp)⟩
            case measure => simp [intOf]; omega
        | false =>
          rw [hc] at HN
          have hr : r = false := HN.out
          subst hr
          rcases crE_cases hc with z1 | ⟨z1, z2⟩ | ⟨z1, z2, z3⟩
          all_goals
            clear hc
            go_wp2
            go_quiet (fail)
            go_wp2
            go_ret
            exact ⟨rfl, n + nq, by simp⟩
      · have hr : r = true := HR.out.trans (EE.out k (by omega))
        subst hr
        clear HR
        go_wp2
        go_ret
        exact ⟨rfl, n, rfl⟩
  · have hr : eqC l m = false := by
      cases h : eqC l m with
      | false => rfl
      | true => exact absurd (eqC_len l m h) hlm
    rw [hr]
    have z1 : ((l.length : Int) == (m.length : Int)) = false := by simp; omega
    have z2 : ((l.length : Int) != (m.length : Int)) = true := by simp; omega
    go_enter Tryd.func39, Tryd.ntmps39
    go_wp2
    go_ret
    exact ⟨rfl, 0, rfl⟩
/-- Cracks from one place up to another, as a slice of the whole. -/
theorem CS.cut {w : World} {X o n cap : Nat} {l : List Cr} (h : CS w (.slice (some ⟨X, o, none⟩) n cap) l) {a b : Nat} (hab : a < b) (hb : b ≤ l.length) : CS w (.slice (some ⟨X, o + a * 3, none⟩) (b - a) (cap - a)) ((l.drop a).take (b - a)) ∧ l.length ≤ cap ∧ n = l.length := by
  rcases h with ⟨_, rfl⟩ | ⟨X', o', cap', e, hX, hcp, hc⟩
  · simp at hb; omega
  · injection e with e1 e2 e3
    injection e1 with e1
    injection e1 with e4 e5 _
    subst e2 e3 e4 e5
    have hl : ((l.drop a).take (b - a)).length = b - a := by simp; omega
    refine ⟨Or.inr ⟨X, o + a * 3, cap - a, by rw [hl], hX, by omega, fun k hk => ?_⟩, hcp, rfl⟩
    rw [hl] at hk
    obtain ⟨c1, c2, c3⟩ := hc (a + k) (by omega)
    have e : ((l.drop a).take (b - a))[k]'(by rw [hl]; exact hk) = l[a + k]'(by omega) := by simp
    rw [e, show o + a * 3 + k * 3 = o + (a + k) * 3 by omega]
    exact ⟨c1, c2, c3⟩
set_option maxHeartbeats 4000000 in
set_option maxRecDepth 100000 in
theorem cloneF_any (w : World) (v : Value) (l : List Cr) (h : CS w v l) (hl : l.length ≤ 10000) :
    Calls Tryd.prog 44 #[v] w fun e w' => ∃ p cap, e = .returned (.slice p l.length cap) ∧ OwnC w' w.heap.size (.slice p l.length cap) l ∧ Below w.heap.size w w' := by
  have h0 := h
  have EQ : ∀ a l c w, Sem.run Tryd.prog (binOp .eql 23 (.slice a l c) (.slice none 0 0)) w = .ok (.bool a.isNone) w := fun a l c w => by
    simp only [binOp]
    simp [run_equal_slice_nil w 23 _ a l c Tryd.underlying23]
  obtain ⟨p, cap, rfl⟩ := h.form
  cases p with
  | none =>
    have : l = [] := by
      rcases h with ⟨_, e⟩ | ⟨X, o, c, e, _⟩
      · exact e
      · cases e
    subst this
    clear h0 h
    go_enter Tryd.func44, Tryd.ntmps44
    go_wp2
    go_ret
    exact ⟨none, 0, rfl, World.ownsRow_nil _ _ _ _, Below.refl _ _⟩
  | some a =>
    have H0 : Hid (CS (w.alloc (.cells #[] 55)) (.slice (some a) l.length cap) l) := h0.below ((Below.refl _ _).alloc (Nat.le_refl _) _)
    have E0 : Hid (OwnC (w.alloc (.cells #[] 55)) w.heap.size (.slice (some ⟨w.heap.size, 0, none⟩) 0 0) []) := ownC_empty w
    have HL : Hid ((([] : List Cr).length + l.length) * 32 ≤ 140737488355328) := by show (([] : List Cr).length + l.length) * 32 ≤ 140737488355328; simp; omega
    clear h0 h
    go_enter Tryd.func44, Tryd.ntmps44
    go_wp2_with (at_builtin; refine append_crs rfl (.tmp 5) (.tmp 6) 23 rfl w.heap.size Tryd.underlying23 info_cr _ _ (.slice (some a) l.length cap) [] l rfl rfl E0.out H0.out HL.out (by simp) ?_; intro v8 w8 ho8 hb8)
    go_ret
    rw [List.nil_append] at ho8
    obtain ⟨p, cap2, rfl⟩ := ho8.form
    exact ⟨p, cap2, rfl, ho8, ((Below.refl _ _).alloc (Nat.le_refl _) _).trans hb8⟩
end Go.Proofs.YtaleagkhblokgaaDoor
