/- Graph, plain: levels; the greatest sums along ways. -/
import Derived.Test.YtkmokoiilmdfbaaYg2
namespace Go.Proofs.Ytkmokoiilmdfbaa
open Go.RowKit

/-- What n leads to is raised. -/
def lvU (l : List Nat) (n : Nat) (F : Nat → Int) : Nat → Int := fun x => if x ∈ l then max (F x) (F n + 1) else F x
def lvF (A : Nat → List Nat) (D : List Nat) : Nat → Int := D.foldl (fun F n => lvU (A n) n F) (fun _ => 0)
theorem lvF_snoc (A : Nat → List Nat) (D : List Nat) (n : Nat) : lvF A (D ++ [n]) = lvU (A n) n (lvF A D) := by unfold lvF; rw [List.foldl_append]; rfl
theorem lvU_nil (n : Nat) (F : Nat → Int) : lvU [] n F = F := by funext x; simp [lvU]
theorem lvU_same {l m : List Nat} (h : ∀ x, x ∈ l ↔ x ∈ m) (n : Nat) (F : Nat → Int) : lvU l n F = lvU m n F := by
  funext x
  simp only [lvU, h x]
theorem lvU_own {l : List Nat} {n : Nat} (h : n ∉ l) (F : Nat → Int) : lvU l n F n = F n := by simp [lvU, h]
theorem lvU_snoc (l : List Nat) (y n : Nat) (F : Nat → Int) (x : Nat) : lvU (l ++ [y]) n F x = if x = y then max (lvU l n F x) (F n + 1) else lvU l n F x := by
  unfold lvU
  simp only [List.mem_append, List.mem_singleton]
  by_cases e : x = y
  · rw [if_pos (Or.inr e), if_pos e]
    split <;> omega
  · simp [e]
/-- What holds of the levels behind D. -/
structure LV (E : List (Nat × Nat)) (D : List Nat) (F : Nat → Int) : Prop where
  lo : ∀ x, 0 ≤ F x
  hi : ∀ x, F x ≤ D.length
  up : ∀ m x, m ∈ D → (m, x) ∈ E → F m + 1 ≤ F x
  of : ∀ x, F x = 0 ∨ ∃ m, m ∈ D ∧ (m, x) ∈ E ∧ F x = F m + 1
theorem LV.all {N : Nat} {E : List (Nat × Nat)} (hg : GOK N E) {D : List Nat} (h : KO N E D) : LV E D (lvF (nx N E) D) := by
  induction h with
  | nil => exact ⟨fun x => by simp [lvF], fun x => by simp [lvF], fun m x hm => by simp at hm, fun x => Or.inl rfl⟩
  | @snoc D n h1 h2 h3 h4 ih =>
    rw [lvF_snoc]
    generalize lvF (nx N E) D = F at *
    have kp : ∀ m, m ∈ D ∨ m = n → lvU (nx N E n) n F m = F m := fun m hm => by
      unfold lvU
      rw [if_neg fun q => ?_]
      obtain ⟨s1, s2, _⟩ := succ_new hg h1 h3 q
      rcases hm with e | e
      · exact s1 e
      · exact s2 e
    have ge : ∀ x, F x ≤ lvU (nx N E n) n F x := fun x => by unfold lvU; split <;> omega
    refine ⟨fun x => by have := ih.lo x; have := ge x; omega, fun x => ?_, fun m x hm hx => ?_, fun x => ?_⟩
    · have h5 := ih.hi x
      have h6 := ih.hi n
      have h7 : (D ++ [n]).length = D.length + 1 := by simp
      rw [h7]
      unfold lvU
      split <;> omega
    · rw [List.mem_append, List.mem_singleton] at hm
      rw [kp m hm]
      rcases hm with e | e
      · have := ih.up m x e hx; have := ge x; omega
      · subst e
        unfold lvU
        rw [if_pos ((nx_mem hg).2 hx)]
        omega
    · by_cases e : x ∈ nx N E n ∧ F x < F n + 1
      · refine Or.inr ⟨n, by simp, (nx_mem hg).1 e.1, ?_⟩
        rw [kp n (Or.inr rfl)]
        unfold lvU
        rw [if_pos e.1]
        omega
      · have e2 : lvU (nx N E n) n F x = F x := by
          unfold lvU
          split
          · rename_i q
            have : ¬ F x < F n + 1 := fun r => e ⟨q, r⟩
            omega
          · rfl
        rw [e2]
        rcases ih.of x with q | ⟨m, q1, q2, q3⟩
        · exact Or.inl q
        · exact Or.inr ⟨m, List.mem_append.2 (Or.inl q1), q2, by rw [kp m (Or.inl q1)]; exact q3⟩
/-! Sums. -/
/-- The greatest above 0, and who has it, the least of these. -/
def HV (F : Nat → Int) (l : List Nat) (p : Int × Int) : Prop := (p = (0, -1) ∧ ∀ y ∈ l, F y ≤ 0) ∨ ∃ w : Nat, p = (F w, (w : Int)) ∧ w ∈ l ∧ 0 < F w ∧ ∀ y ∈ l, F y < F w ∨ (F y = F w ∧ w ≤ y)
theorem HV.nil (F : Nat → Int) : HV F [] (0, -1) := Or.inl ⟨rfl, by simp⟩
theorem HV.one {F G : Nat → Int} {l m : List Nat} {p q : Int × Int} (h : HV F l p) (k : HV G m q) (hm : ∀ y, y ∈ l ↔ y ∈ m) (hF : ∀ y ∈ l, F y = G y) : p = q := by
  rcases h with ⟨rfl, h⟩ | ⟨w, rfl, h1, h2, h3⟩
  · rcases k with ⟨rfl, _⟩ | ⟨v, _, k1, k2, _⟩
    · rfl
    · have hv := (hm v).2 k1
      have := h v hv
      rw [hF v hv] at this
      omega
  · rcases k with ⟨rfl, k⟩ | ⟨v, rfl, k1, k2, k3⟩
    · have := k w ((hm w).1 h1)
      rw [← hF w h1] at this
      omega
    · have hv := (hm v).2 k1
      have a := h3 v hv
      have b := k3 w ((hm w).1 h1)
      rw [← hF w h1, ← hF v hv] at b
      have e : w = v := by omega
      rw [e, hF v hv]
theorem HV.lo {F : Nat → Int} {l : List Nat} {p : Int × Int} (h : HV F l p) : 0 ≤ p.1 := by
  rcases h with ⟨rfl, _⟩ | ⟨w, rfl, _, h, _⟩
  · exact Int.le_refl _
  · exact Int.le_of_lt h
theorem HV.ge {F : Nat → Int} {l : List Nat} {p : Int × Int} (h : HV F l p) {y : Nat} (hy : y ∈ l) : F y ≤ p.1 := by
  rcases h with ⟨rfl, h⟩ | ⟨w, rfl, _, _, h⟩
  · exact h y hy
  · have := h y hy; show F y ≤ F w; omega
/-- One more; a rising list's next one is behind. -/
theorem HV.more {F : Nat → Int} {l : List Nat} {p : Int × Int} (h : HV F l p) {y : Nat} (hy : p.1 < F y) : HV F (l ++ [y]) (F y, (y : Int)) := by
  have := h.lo
  refine Or.inr ⟨y, rfl, by simp, by omega, fun z hz => ?_⟩
  rcases List.mem_append.1 hz with q | q
  · have := h.ge q; omega
  · rw [List.mem_singleton] at q; rw [q]; omega
theorem HV.swap {F : Nat → Int} {l : List Nat} {p : Int × Int} (h : HV F l p) {y : Nat} (hy : F y = p.1) (h0 : 0 ≤ p.2) (h2 : (y : Int) < p.2) : HV F (l ++ [y]) (F y, (y : Int)) := by
  rcases h with ⟨rfl, h⟩ | ⟨w, rfl, k1, k2, k3⟩
  · exact absurd h0 (by decide)
  · have hy : F y = F w := hy
    have h2 : (y : Int) < w := h2
    refine Or.inr ⟨y, rfl, by simp, by omega, fun z hz => ?_⟩
    rcases List.mem_append.1 hz with q | q
    · have := k3 z q; omega
    · rw [List.mem_singleton] at q; rw [q]; omega
theorem HV.stay {F : Nat → Int} {l : List Nat} {p : Int × Int} (h : HV F l p) {y : Nat} (hy : F y ≤ p.1) (h2 : F y = p.1 → 0 ≤ p.2 → p.2 ≤ (y : Int)) : HV F (l ++ [y]) p := by
  rcases h with ⟨rfl, h⟩ | ⟨w, rfl, k1, k2, k3⟩
  · refine Or.inl ⟨rfl, fun z hz => ?_⟩
    rcases List.mem_append.1 hz with q | q
    · exact h z q
    · rw [List.mem_singleton] at q; rw [q]; exact hy
  · have hy : F y ≤ F w := hy
    have h2 : F y = F w → 0 ≤ (w : Int) → (w : Int) ≤ y := h2
    refine Or.inr ⟨w, rfl, List.mem_append.2 (Or.inl k1), k2, fun z hz => ?_⟩
    rcases List.mem_append.1 hz with q | q
    · exact k3 z q
    · rw [List.mem_singleton] at q
      rw [q]
      by_cases e : F y = F w
      · have := h2 e (by omega); omega
      · omega
/-- The sums of the nodes of R, and who comes next. -/
inductive LG (A : Nat → List Nat) (W : Nat → Int) (F G : Nat → Int) : List Nat → Prop
  | nil : LG A W F G []
  | cons {x : Nat} {R : List Nat} {b : Int} : LG A W F G R → (∀ y ∈ A x, y ∈ R) → HV F (A x) (b, G x) → F x = W x + b → LG A W F G (x :: R)
theorem LG.one {A B : Nat → List Nat} {W : Nat → Int} {F G F' G' : Nat → Int} (hAB : ∀ x y, y ∈ A x ↔ y ∈ B x) {R : List Nat} (h : LG A W F G R) : LG B W F' G' R → ∀ x ∈ R, F x = F' x ∧ G x = G' x := by
  induction h with
  | nil => intro _ x hx; cases hx
  | @cons x R b h1 h2 h3 h4 ih =>
    intro k
    cases k with
    | @cons _ _ b' k1 k2 k3 k4 =>
      have ih := ih k1
      have e := h3.one k3 (hAB x) fun y hy => (ih y (h2 y hy)).1
      injection e with e1 e2
      intro y hy
      rcases List.mem_cons.1 hy with q | q
      · rw [q]; exact ⟨by rw [h4, k4, e1], e2⟩
      · exact ih y q
theorem LG.congr {A : Nat → List Nat} {W : Nat → Int} {F G F' G' : Nat → Int} {R : List Nat} (h : LG A W F G R) : (∀ x ∈ R, F' x = F x ∧ G' x = G x) → LG A W F' G' R := by
  induction h with
  | nil => intro _; exact .nil
  | @cons x R b h1 h2 h3 h4 ih =>
    intro k
    have hx := k x (.head _)
    refine .cons (b := b) (ih fun y hy => k y (.tail _ hy)) h2 ?_ (by rw [hx.1]; exact h4)
    rw [hx.2]
    have kF : ∀ y ∈ A x, F' y = F y := fun y hy => (k y (.tail _ (h2 y hy))).1
    rcases h3 with ⟨e, h3⟩ | ⟨w, e, q1, q2, q3⟩
    · exact Or.inl ⟨e, fun y hy => by rw [kF y hy]; exact h3 y hy⟩
    · refine Or.inr ⟨w, by rw [kF w q1]; exact e, q1, by rw [kF w q1]; exact q2, fun y hy => ?_⟩
      rw [kF y hy, kF w q1]
      exact q3 y hy
theorem LG.bd {A : Nat → List Nat} {W : Nat → Int} {F G : Nat → Int} {R : List Nat} {M : Int} (hM : 0 ≤ M) (hW : ∀ x ∈ R, 0 ≤ W x ∧ W x ≤ M) (h : LG A W F G R) : ∀ x ∈ R, 0 ≤ F x ∧ F x ≤ R.length * M ∧ W x ≤ F x ∧ (G x = -1 ∨ ∃ y : Nat, G x = y ∧ y ∈ R) := by
  induction h with
  | nil => intro x hx; cases hx
  | @cons x R b h1 h2 h3 h4 ih =>
    have ih := ih fun y hy => hW y (.tail _ hy)
    have hl : ((x :: R).length : Int) * M = R.length * M + M := by rw [List.length_cons]; push_cast; rw [Int.add_mul]; omega
    intro y hy
    rw [hl]
    rcases List.mem_cons.1 hy with q | q
    · subst q
      have w := hW y (.head _)
      have hb : 0 ≤ b ∧ b ≤ R.length * M ∧ (G y = -1 ∨ ∃ z : Nat, G y = z ∧ z ∈ R) := by
        rcases h3 with ⟨e, h3⟩ | ⟨v, e, q1, q2, q3⟩
        · injection e with e1 e2
          exact ⟨by omega, by rw [e1]; exact Int.mul_nonneg (by omega) hM, Or.inl e2⟩
        · injection e with e1 e2
          have := ih v (h2 v q1)
          exact ⟨by omega, by omega, Or.inr ⟨v, e2, h2 v q1⟩⟩
      refine ⟨by omega, by omega, by omega, ?_⟩
      rcases hb.2.2 with e | ⟨z, e1, e2⟩
      · exact Or.inl e
      · exact Or.inr ⟨z, e1, .tail _ e2⟩
    · have := ih y q
      refine ⟨this.1, by omega, this.2.2.1, ?_⟩
      rcases this.2.2.2 with e | ⟨z, e1, e2⟩
      · exact Or.inl e
      · exact Or.inr ⟨z, e1, .tail _ e2⟩
/-- The first of the greatest among the first k. -/
def mxF (F : Nat → Int) : Nat → Int
  | 0 => -1
  | k + 1 => if mxF F k < 0 ∨ F (mxF F k).toNat < F k then k else mxF F k
theorem mxF_is (F : Nat → Int) (k : Nat) : (k = 0 ∧ mxF F k = -1) ∨ ∃ m : Nat, mxF F k = m ∧ m < k ∧ ∀ y, y < k → F y ≤ F m := by
  induction k with
  | zero => exact Or.inl ⟨rfl, rfl⟩
  | succ k ih =>
    right
    unfold mxF
    rcases ih with ⟨rfl, e⟩ | ⟨m, e, h1, h2⟩
    · rw [e, if_pos (Or.inl (by decide))]
      exact ⟨0, rfl, by omega, fun y hy => by have : y = 0 := by omega
                                              rw [this]; exact Int.le_refl _⟩
    · rw [e]
      have et : ((m : Int)).toNat = m := by simp
      rw [et]
      by_cases c : (m : Int) < 0 ∨ F m < F k
      · rw [if_pos c]
        refine ⟨k, rfl, by omega, fun y hy => ?_⟩
        by_cases z : y = k
        · rw [z]; exact Int.le_refl _
        · have := h2 y (by omega); omega
      · rw [if_neg c]
        refine ⟨m, rfl, by omega, fun y hy => ?_⟩
        by_cases z : y = k
        · rw [z]; omega
        · exact h2 y (by omega)
theorem mxF_congr {F G : Nat → Int} {k : Nat} (h : ∀ y, y < k → F y = G y) : mxF F k = mxF G k := by
  induction k with
  | zero => rfl
  | succ k ih =>
    have ih := ih fun y hy => h y (by omega)
    unfold mxF
    rw [ih, h k (by omega)]
    rcases mxF_is G k with ⟨rfl, e⟩ | ⟨m, e, h1, h2⟩
    · rw [e]; simp
    · rw [e]
      have et : ((m : Int)).toNat = m := by simp
      rw [et, h m (by omega)]
/-- A way that goes on: one step more. -/
def gw (G : Nat → Int) : Nat → Int → List Nat × Int
  | 0, v => ([], v)
  | k + 1, v => if (gw G k v).2 < 0 then gw G k v else ((gw G k v).1 ++ [(gw G k v).2.toNat], G (gw G k v).2.toNat)
theorem gw_done {G : Nat → Int} {v : Int} {k : Nat} (h : (gw G k v).2 < 0) (m : Nat) : gw G (k + m) v = gw G k v := by
  induction m with
  | zero => rfl
  | succ m ih =>
    show gw G ((k + m) + 1) v = _
    rw [gw, ih, if_pos h]
theorem gw_one {G : Nat → Int} {v : Int} {k m : Nat} (h : (gw G k v).2 < 0) (h2 : (gw G m v).2 < 0) : gw G k v = gw G m v := by
  rcases Nat.le_total k m with e | e
  · rw [← gw_done h (m - k), show k + (m - k) = m by omega]
  · rw [← gw_done h2 (k - m), show m + (k - m) = k by omega]
theorem gw_len (G : Nat → Int) (k : Nat) (v : Int) : (gw G k v).1.length ≤ k := by
  induction k with
  | zero => simp [gw]
  | succ k ih =>
    rw [gw]
    split
    · omega
    · rw [List.length_append, List.length_singleton]; omega
theorem pos_cons {x y : Nat} {R : List Nat} (h : x ≠ y) : pos (x :: R) y = pos R y + 1 := by
  unfold pos
  rw [List.idxOf_cons]
  have : (x == y) = false := by simp [h]
  rw [this]; rfl
/-- Where each goes on behind itself it comes to an end. -/
theorem gw_ends {A : Nat → List Nat} {W F G : Nat → Int} {R : List Nat} (hn : R.Nodup) (h : LG A W F G R) : ∀ (k : Nat) (v : Int), (v = -1 ∨ ∃ y : Nat, v = y ∧ y ∈ R) → ((gw G k v).2 = -1 ∨ ∃ y : Nat, (gw G k v).2 = y ∧ y ∈ R ∧ (∀ z ∈ (gw G k v).1, z ∈ R) ∧ k + pos R (v.toNat) ≤ pos R y ∧ (gw G k v).1.length = k) := by
  have nxt : ∀ x ∈ R, G x = -1 ∨ ∃ y : Nat, G x = y ∧ y ∈ R ∧ pos R x < pos R y := by
    have key : ∀ {R : List Nat}, LG A W F G R → R.Nodup → ∀ x ∈ R, G x = -1 ∨ ∃ y : Nat, G x = y ∧ y ∈ R ∧ pos R x < pos R y := by
      intro R h
      induction h with
      | nil => intro _ x hx; cases hx
      | @cons x R b h1 h2 h3 h4 ih =>
        intro hn y hy
        obtain ⟨n1, n2⟩ := List.nodup_cons.1 hn
        rcases List.mem_cons.1 hy with q | q
        · subst q
          rcases h3 with ⟨e, _⟩ | ⟨v, e, q1, _, _⟩
          · injection e with _ e2; exact Or.inl e2
          · injection e with _ e2
            have hv := h2 v q1
            have ne : y ≠ v := fun e => n1 (by rw [e]; exact hv)
            refine Or.inr ⟨v, e2, .tail _ hv, ?_⟩
            rw [pos_cons ne]
            unfold pos
            rw [List.idxOf_cons_self]
            omega
        · rcases ih n2 y q with e | ⟨z, e1, e2, e3⟩
          · exact Or.inl e
          · refine Or.inr ⟨z, e1, .tail _ e2, ?_⟩
            have ne1 : x ≠ y := fun e => n1 (by rw [e]; exact q)
            have ne2 : x ≠ z := fun e => n1 (by rw [e]; exact e2)
            rw [pos_cons ne1, pos_cons ne2]
            omega
    exact key h hn
  intro k v hv
  induction k with
  | zero =>
    rcases hv with e | ⟨y, e1, e2⟩
    · exact Or.inl e
    · exact Or.inr ⟨y, e1, e2, by simp [gw], by rw [e1]; simp, rfl⟩
  | succ k ih =>
    rw [gw]
    rcases ih with e | ⟨y, e1, e2, e3, e4, e5⟩
    · rw [if_pos (by rw [e]; decide)]; exact Or.inl e
    · rw [e1, if_neg (by omega)]
      have et : ((y : Int)).toNat = y := by simp
      rw [et]
      rcases nxt y e2 with q | ⟨z, q1, q2, q3⟩
      · exact Or.inl q
      · refine Or.inr ⟨z, q1, q2, fun u hu => ?_, by omega, by simp [e5]⟩
        rcases List.mem_append.1 hu with r | r
        · exact e3 u r
        · rw [List.mem_singleton] at r; rw [r]; exact e2
end Go.Proofs.Ytkmokoiilmdfbaa
