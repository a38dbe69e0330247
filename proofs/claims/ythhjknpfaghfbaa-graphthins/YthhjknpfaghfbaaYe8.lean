/- Graph, plain: how far nodes are from one, against the edges; the nearest of some. -/
import Derived.Test.YthhjknpfaghfbaaYg2
import Derived.Test.YthhjknpfaghfbaaYe1
namespace Go.Proofs.Ythhjknpfaghfbaa
open Go.RowKit

/-- What n leads to is raised. -/
def lvU (l : List Nat) (n : Nat) (F : Nat → Int) : Nat → Int := fun x => if x ∈ l then max (F x) (F n + 1) else F x
def lvF (A : Nat → List Nat) (D : List Nat) : Nat → Int := D.foldl (fun F n => lvU (A n) n F) (fun _ => 0)
theorem lvF_snoc (A : Nat → List Nat) (D : List Nat) (n : Nat) : lvF A (D ++ [n]) = lvU (A n) n (lvF A D) := by unfold lvF; rw [List.foldl_append]; rfl
theorem lvU_nil (n : Nat) (F : Nat → Int) : lvU [] n F = F := by funext x; simp [lvU]
theorem lvU_same {l m : List Nat} (h : ∀ x, x ∈ l ↔ x ∈ m) (n : Nat) (F : Nat → Int) : lvU l n F = lvU m n F := by
  funext x
  simp only [lvU, h x]
theorem lvU_own {l : List Nat} {n : Nat} (h : n ∉ l) (F : Nat → Int) : lvU l n F n = F n := by simp [lvU, h]
theorem lvU_snoc (l : List Nat) (y n : Nat) (F : Nat → Int) (x : Nat) : lvU (l ++ [y]) n F x = if x = y then max (lvU l n F x) (F n + 1) else lvU l n F x := by
  unfold lvU
  simp only [List.mem_append, List.mem_singleton]
  by_cases e : x = y
  · rw [if_pos (Or.inr e), if_pos e]
    split <;> omega
  · simp [e]
/-- What holds of the levels behind D. -/
structure LV (E : List (Nat × Nat)) (D : List Nat) (F : Nat → Int) : Prop where
  lo : ∀ x, 0 ≤ F x
  hi : ∀ x, F x ≤ D.length
  up : ∀ m x, m ∈ D → (m, x) ∈ E → F m + 1 ≤ F x
  of : ∀ x, F x = 0 ∨ ∃ m, m ∈ D ∧ (m, x) ∈ E ∧ F x = F m + 1
theorem LV.all {N : Nat} {E : List (Nat × Nat)} (hg : GOK N E) {D : List Nat} (h : KO N E D) : LV E D (lvF (nx N E) D) := by
  induction h with
  | nil => exact ⟨fun x => by simp [lvF], fun x => by simp [lvF], fun m x hm => by simp at hm, fun x => Or.inl rfl⟩
  | @snoc D n h1 h2 h3 h4 ih =>
    rw [lvF_snoc]
    generalize lvF (nx N E) D = F at *
    have kp : ∀ m, m ∈ D ∨ m = n → lvU (nx N E n) n F m = F m := fun m hm => by
      unfold lvU
      rw [if_neg fun q => ?_]
      obtain ⟨s1, s2, _⟩ := succ_new hg h1 h3 q
      rcases hm with e | e
      · exact s1 e
      · exact s2 e
    have ge : ∀ x, F x ≤ lvU (nx N E n) n F x := fun x => by unfold lvU; split <;> omega
    refine ⟨fun x => by have := ih.lo x; have := ge x; omega, fun x => ?_, fun m x hm hx => ?_, fun x => ?_⟩
    · have h5 := ih.hi x
      have h6 := ih.hi n
      have h7 : (D ++ [n]).length = D.length + 1 := by simp
      rw [h7]
      unfold lvU
      split <;> omega
    · rw [List.mem_append, List.mem_singleton] at hm
      rw [kp m hm]
      rcases hm with e | e
      · have := ih.up m x e hx; have := ge x; omega
      · subst e
        unfold lvU
        rw [if_pos ((nx_mem hg).2 hx)]
        omega
    · by_cases e : x ∈ nx N E n ∧ F x < F n + 1
      · refine Or.inr ⟨n, by simp, (nx_mem hg).1 e.1, ?_⟩
        rw [kp n (Or.inr rfl)]
        unfold lvU
        rw [if_pos e.1]
        omega
      · have e2 : lvU (nx N E n) n F x = F x := by
          unfold lvU
          split
          · rename_i q
            have : ¬ F x < F n + 1 := fun r => e ⟨q, r⟩
            omega
          · rfl
        rw [e2]
        rcases ih.of x with q | ⟨m, q1, q2, q3⟩
        · exact Or.inl q
        · exact Or.inr ⟨m, List.mem_append.2 (Or.inl q1), q2, by rw [kp m (Or.inl q1)]; exact q3⟩
/-! Sums. -/
/-- The greatest above 0, and who has it, the least of these. -/
def HV (F : Nat → Int) (l : List Nat) (p : Int × Int) : Prop := (p = (0, -1) ∧ ∀ y ∈ l, F y ≤ 0) ∨ ∃ w : Nat, p = (F w, (w : Int)) ∧ w ∈ l ∧ 0 < F w ∧ ∀ y ∈ l, F y < F w ∨ (F y = F w ∧ w ≤ y)
theorem HV.nil (F : Nat → Int) : HV F [] (0, -1) := Or.inl ⟨rfl, by simp⟩
theorem HV.one {F G : Nat → Int} {l m : List Nat} {p q : Int × Int} (h : HV F l p) (k : HV G m q) (hm : ∀ y, y ∈ l ↔ y ∈ m) (hF : ∀ y ∈ l, F y = G y) : p = q := by
  rcases h with ⟨rfl, h⟩ | ⟨w, rfl, h1, h2, h3⟩
  · rcases k with ⟨rfl, _⟩ | ⟨v, _, k1, k2, _⟩
    · rfl
    · have hv := (hm v).2 k1
      have := h v hv
      rw [hF v hv] at this
      omega
  · rcases k with ⟨rfl, k⟩ | ⟨v, rfl, k1, k2, k3⟩
    · have := k w ((hm w).1 h1)
      rw [← hF w h1] at this
      omega
    · have hv := (hm v).2 k1
      have a := h3 v hv
      have b := k3 w ((hm w).1 h1)
      rw [← hF w h1, ← hF v hv] at b
      have e : w = v := by omega
      rw [e, hF v hv]
theorem HV.lo {F : Nat → Int} {l : List Nat} {p : Int × Int} (h : HV F l p) : 0 ≤ p.1 := by
  rcases h with ⟨rfl, _⟩ | ⟨w, rfl, _, h, _⟩
  · exact Int.le_refl _
  · exact Int.le_of_lt h
theorem HV.ge {F : Nat → Int} {l : List Nat} {p : Int × Int} (h : HV F l p) {y : Nat} (hy : y ∈ l) : F y ≤ p.1 := by
  rcases h with ⟨rfl, h⟩ | ⟨w, rfl, _, _, h⟩
  · exact h y hy
  · have := h y hy; show F y ≤ F w; omega
/-- One more; a rising list's next one is behind. -/
theorem HV.more {F : Nat → Int} {l : List Nat} {p : Int × Int} (h : HV F l p) {y : Nat} (hy : p.1 < F y) : HV F (l ++ [y]) (F y, (y : Int)) := by
  have := h.lo
  refine Or.inr ⟨y, rfl, by simp, by omega, fun z hz => ?_⟩
  rcases List.mem_append.1 hz with q | q
  · have := h.ge q; omega
  · rw [List.mem_singleton] at q; rw [q]; omega
theorem HV.swap {F : Nat → Int} {l : List Nat} {p : Int × Int} (h : HV F l p) {y : Nat} (hy : F y = p.1) (h0 : 0 ≤ p.2) (h2 : (y : Int) < p.2) : HV F (l ++ [y]) (F y, (y : Int)) := by
  rcases h with ⟨rfl, h⟩ | ⟨w, rfl, k1, k2, k3⟩
  · exact absurd h0 (by decide)
  · have hy : F y = F w := hy
    have h2 : (y : Int) < w := h2
    refine Or.inr ⟨y, rfl, by simp, by omega, fun z hz => ?_⟩
    rcases List.mem_append.1 hz with q | q
    · have := k3 z q; omega
    · rw [List.mem_singleton] at q; rw [q]; omega
theorem HV.stay {F : Nat → Int} {l : List Nat} {p : Int × Int} (h : HV F l p) {y : Nat} (hy : F y ≤ p.1) (h2 : F y = p.1 → 0 ≤ p.2 → p.2 ≤ (y : Int)) : HV F (l ++ [y]) p := by
  rcases h with ⟨rfl, h⟩ | ⟨w, rfl, k1, k2, k3⟩
  · refine Or.inl ⟨rfl, fun z hz => ?_⟩
    rcases List.mem_append.1 hz with q | q
    · exact h z q
    · rw [List.mem_singleton] at q; rw [q]; exact hy
  · have hy : F y ≤ F w := hy
    have h2 : F y = F w → 0 ≤ (w : Int) → (w : Int) ≤ y := h2
    refine Or.inr ⟨w, rfl, List.mem_append.2 (Or.inl k1), k2, fun z hz => ?_⟩
    rcases List.mem_append.1 hz with q | q
    · exact k3 z q
    · rw [List.mem_singleton] at q
      rw [q]
      by_cases e : F y = F w
      · have := h2 e (by omega); omega
      · omega
/-- The sums of the nodes of R, and who comes next. -/
inductive LG (A : Nat → List Nat) (W : Nat → Int) (F G : Nat → Int) : List Nat → Prop
  | nil : LG A W F G []
  | cons {x : Nat} {R : List Nat} {b : Int} : LG A W F G R → (∀ y ∈ A x, y ∈ R) → HV F (A x) (b, G x) → F x = W x + b → LG A W F G (x :: R)
theorem LG.one {A B : Nat → List Nat} {W : Nat → Int} {F G F' G' : Nat → Int} (hAB : ∀ x y, y ∈ A x ↔ y ∈ B x) {R : List Nat} (h : LG A W F G R) : LG B W F' G' R → ∀ x ∈ R, F x = F' x ∧ G x = G' x := by
  induction h with
  | nil => intro _ x hx; cases hx
  | @cons x R b h1 h2 h3 h4 ih =>
    intro k
    cases k with
    | @cons _ _ b' k1 k2 k3 k4 =>
      have ih := ih k1
      have e := h3.one k3 (hAB x) fun y hy => (ih y (h2 y hy)).1
      injection e with e1 e2
      intro y hy
      rcases List.mem_cons.1 hy with q | q
      · rw [q]; exact ⟨by rw [h4, k4, e1], e2⟩
      · exact ih y q
theorem LG.congr {A : Nat → List Nat} {W : Nat → Int} {F G F' G' : Nat → Int} {R : List Nat} (h : LG A W F G R) : (∀ x ∈ R, F' x = F x ∧ G' x = G x) → LG A W F' G' R := by
  induction h with
  | nil => intro _; exact .nil
  | @cons x R b h1 h2 h3 h4 ih =>
    intro k
    have hx := k x (.head _)
    refine .cons (b := b) (ih fun y hy => k y (.tail _ hy)) h2 ?_ (by rw [hx.1]; exact h4)
    rw [hx.2]
    have kF : ∀ y ∈ A x, F' y = F y := fun y hy => (k y (.tail _ (h2 y hy))).1
    rcases h3 with ⟨e, h3⟩ | ⟨w, e, q1, q2, q3⟩
    · exact Or.inl ⟨e, fun y hy => by rw [kF y hy]; exact h3 y hy⟩
    · refine Or.inr ⟨w, by rw [kF w q1]; exact e, q1, by rw [kF w q1]; exact q2, fun y hy => ?_⟩
      rw [kF y hy, kF w q1]
      exact q3 y hy
theorem LG.bd {A : Nat → List Nat} {W : Nat → Int} {F G : Nat → Int} {R : List Nat} {M : Int} (hM : 0 ≤ M) (hW : ∀ x ∈ R, 0 ≤ W x ∧ W x ≤ M) (h : LG A W F G R) : ∀ x ∈ R, 0 ≤ F x ∧ F x ≤ R.length * M ∧ W x ≤ F x ∧ (G x = -1 ∨ ∃ y : Nat, G x = y ∧ y ∈ R) := by
  induction h with
  | nil => intro x hx; cases hx
  | @cons x R b h1 h2 h3 h4 ih =>
    have ih := ih fun y hy => hW y (.tail _ hy)
    have hl : ((x :: R).length : Int) * M = R.length * M + M := by rw [List.length_cons]; push_cast; rw [Int.add_mul]; omega
    intro y hy
    rw [hl]
    rcases List.mem_cons.1 hy with q | q
    · subst q
      have w := hW y (.head _)
      have hb : 0 ≤ b ∧ b ≤ R.length * M ∧ (G y = -1 ∨ ∃ z : Nat, G y = z ∧ z ∈ R) := by
        rcases h3 with ⟨e, h3⟩ | ⟨v, e, q1, q2, q3⟩
        · injection e with e1 e2
          exact ⟨by omega, by rw [e1]; exact Int.mul_nonneg (by omega) hM, Or.inl e2⟩
        · injection e with e1 e2
          have := ih v (h2 v q1)
          exact ⟨by omega, by omega, Or.inr ⟨v, e2, h2 v q1⟩⟩
      refine ⟨by omega, by omega, by omega, ?_⟩
      rcases hb.2.2 with e | ⟨z, e1, e2⟩
      · exact Or.inl e
      · exact Or.inr ⟨z, e1, .tail _ e2⟩
    · have := ih y q
      refine ⟨this.1, by omega, this.2.2.1, ?_⟩
      rcases this.2.2.2 with e | ⟨z, e1, e2⟩
      · exact Or.inl e
      · exact Or.inr ⟨z, e1, .tail _ e2⟩
/-- The first of the greatest among the first k. -/
def mxF (F : Nat → Int) : Nat → Int
  | 0 => -1
  | k + 1 => if mxF F k < 0 ∨ F (mxF F k).toNat < F k then k else mxF F k
theorem mxF_is (F : Nat → Int) (k : Nat) : (k = 0 ∧ mxF F k = -1) ∨ ∃ m : Nat, mxF F k = m ∧ m < k ∧ ∀ y, y < k → F y ≤ F m := by
  induction k with
  | zero => exact Or.inl ⟨rfl, rfl⟩
  | succ k ih =>
    right
    unfold mxF
    rcases ih with ⟨rfl, e⟩ | ⟨m, e, h1, h2⟩
    · rw [e, if_pos (Or.inl (by decide))]
      exact ⟨0, rfl, by omega, fun y hy => by have : y = 0 := by omega
                                              rw [this]; exact Int.le_refl _⟩
    · rw [e]
      have et : ((m : Int)).toNat = m := by simp
      rw [et]
      by_cases c : (m : Int) < 0 ∨ F m < F k
      · rw [if_pos c]
        refine ⟨k, rfl, by omega, fun y hy => ?_⟩
        by_cases z : y = k
        · rw [z]; exact Int.le_refl _
        · have := h2 y (by omega); omega
      · rw [if_neg c]
        refine ⟨m, rfl, by omega, fun y hy => ?_⟩
        by_cases z : y = k
        · rw [z]; omega
        · exact h2 y (by omega)
theorem mxF_congr {F G : Nat → Int} {k : Nat} (h : ∀ y, y < k → F y = G y) : mxF F k = mxF G k := by
  induction k with
  | zero => rfl
  | succ k ih =>
    have ih := ih fun y hy => h y (by omega)
    unfold mxF
    rw [ih, h k (by omega)]
    rcases mxF_is G k with ⟨rfl, e⟩ | ⟨m, e, h1, h2⟩
    · rw [e]; simp
    · rw [e]
      have et : ((m : Int)).toNat = m := by simp
      rw [et, h m (by omega)]
/-- A way that goes on: one step more. -/
def gw (G : Nat → Int) : Nat → Int → List Nat × Int
  | 0, v => ([], v)
  | k + 1, v => if (gw G k v).2 < 0 then gw G k v else ((gw G k v).1 ++ [(gw G k v).2.toNat], G (gw G k v).2.toNat)
theorem gw_done {G : Nat → Int} {v : Int} {k : Nat} (h : (gw G k v).2 < 0) (m : Nat) : gw G (k + m) v = gw G k v := by
  induction m with
  | zero => rfl
  | succ m ih =>
    show gw G ((k + m) + 1) v = _
    rw [gw, ih, if_pos h]
theorem gw_one {G : Nat → Int} {v : Int} {k m : Nat} (h : (gw G k v).2 < 0) (h2 : (gw G m v).2 < 0) : gw G k v = gw G m v := by
  rcases Nat.le_total k m with e | e
  · rw [← gw_done h (m - k), show k + (m - k) = m by omega]
  · rw [← gw_done h2 (k - m), show m + (k - m) = k by omega]
theorem gw_len (G : Nat → Int) (k : Nat) (v : Int) : (gw G k v).1.length ≤ k := by
  induction k with
  | zero => simp [gw]
  | succ k ih =>
    rw [gw]
    split
    · omega
    · rw [List.length_append, List.length_singleton]; omega
theorem pos_cons {x y : Nat} {R : List Nat} (h : x ≠ y) : pos (x :: R) y = pos R y + 1 := by
  unfold pos
  rw [List.idxOf_cons]
  have : (x == y) = false := by simp [h]
  rw [this]; rfl
/-- Where each goes on behind itself it comes to an end. -/
theorem gw_ends {A : Nat → List Nat} {W F G : Nat → Int} {R : List Nat} (hn : R.Nodup) (h : LG A W F G R) : ∀ (k : Nat) (v : Int), (v = -1 ∨ ∃ y : Nat, v = y ∧ y ∈ R) → ((gw G k v).2 = -1 ∨ ∃ y : Nat, (gw G k v).2 = y ∧ y ∈ R ∧ (∀ z ∈ (gw G k v).1, z ∈ R) ∧ k + pos R (v.toNat) ≤ pos R y ∧ (gw G k v).1.length = k) := by
  have nxt : ∀ x ∈ R, G x = -1 ∨ ∃ y : Nat, G x = y ∧ y ∈ R ∧ pos R x < pos R y := by
    have key : ∀ {R : List Nat}, LG A W F G R → R.Nodup → ∀ x ∈ R, G x = -1 ∨ ∃ y : Nat, G x = y ∧ y ∈ R ∧ pos R x < pos R y := by
      intro R h
      induction h with
      | nil => intro _ x hx; cases hx
      | @cons x R b h1 h2 h3 h4 ih =>
        intro hn y hy
        obtain ⟨n1, n2⟩ := List.nodup_cons.1 hn
        rcases List.mem_cons.1 hy with q | q
        · subst q
          rcases h3 with ⟨e, _⟩ | ⟨v, e, q1, _, _⟩
          · injection e with _ e2; exact Or.inl e2
          · injection e with _ e2
            have hv := h2 v q1
            have ne : y ≠ v := fun e => n1 (by rw [e]; exact hv)
            refine Or.inr ⟨v, e2, .tail _ hv, ?_⟩
            rw [pos_cons ne]
            unfold pos
            rw [List.idxOf_cons_self]
            omega
        · rcases ih n2 y q with e | ⟨z, e1, e2, e3⟩
          · exact Or.inl e
          · refine Or.inr ⟨z, e1, .tail _ e2, ?_⟩
            have ne1 : x ≠ y := fun e => n1 (by rw [e]; exact q)
            have ne2 : x ≠ z := fun e => n1 (by rw [e]; exact e2)
            rw [pos_cons ne1, pos_cons ne2]
            omega
    exact key h hn
  intro k v hv
  induction k with
  | zero =>
    rcases hv with e | ⟨y, e1, e2⟩
    · exact Or.inl e
    · exact Or.inr ⟨y, e1, e2, by simp [gw], by rw [e1]; simp, rfl⟩
  | succ k ih =>
    rw [gw]
    rcases ih with e | ⟨y, e1, e2, e3, e4, e5⟩
    · rw [if_pos (by rw [e]; decide)]; exact Or.inl e
    · rw [e1, if_neg (by omega)]
      have et : ((y : Int)).toNat = y := by simp
      rw [et]
      rcases nxt y e2 with q | ⟨z, q1, q2, q3⟩
      · exact Or.inl q
      · refine Or.inr ⟨z, q1, q2, fun u hu => ?_, by omega, by simp [e5]⟩
        rcases List.mem_append.1 hu with r | r
        · exact e3 u r
        · rw [List.mem_singleton] at r; rw [r]; exact e2
end Go.Proofs.Ythhjknpfaghfbaa
namespace Go.Proofs.Ythhjknpfaghfbaa
open Go.RowKit

def upF (F : Nat → Int) (y : Nat) (d : Int) : Nat → Int := fun x => if x = y then d else F x
/-- One node of the list that the search stands at. -/
def bf1 (d : Int) (s : (Nat → Int) × List Nat) (y : Nat) : (Nat → Int) × List Nat := if s.1 y < 0 then (upF s.1 y (d + 1), s.2 ++ [y]) else s
def bfI (l : List Nat) (d : Int) (s : (Nat → Int) × List Nat) : (Nat → Int) × List Nat := l.foldl (bf1 d) s
theorem bfI_snoc (l : List Nat) (y : Nat) (d : Int) (s : (Nat → Int) × List Nat) : bfI (l ++ [y]) d s = bf1 d (bfI l d s) y := by unfold bfI; rw [List.foldl_append]; rfl
/-- One step of the search. -/
def bfS (A : Nat → List Nat) (s : (Nat → Int) × List Nat) : (Nat → Int) × List Nat := match s.2 with
  | [] => s
  | x :: T => bfI (A x) (s.1 x) (s.1, T)
def bfN (A : Nat → List Nat) (s : (Nat → Int) × List Nat) : Nat → (Nat → Int) × List Nat
  | 0 => s
  | k + 1 => bfS A (bfN A s k)
theorem bfN_done {A : Nat → List Nat} {s : (Nat → Int) × List Nat} {k : Nat} (h : (bfN A s k).2 = []) (m : Nat) : bfN A s (k + m) = bfN A s k := by
  induction m with
  | zero => rfl
  | succ m ih =>
    show bfS A (bfN A s (k + m)) = _
    rw [ih]
    unfold bfS
    rw [h]
/-- Where it ends it ends with one answer. -/
theorem bfN_one {A : Nat → List Nat} {s : (Nat → Int) × List Nat} {k m : Nat} (h : (bfN A s k).2 = []) (h2 : (bfN A s m).2 = []) : bfN A s k = bfN A s m := by
  rcases Nat.le_total k m with e | e
  · rw [← bfN_done h (m - k), show k + (m - k) = m by omega]
  · rw [← bfN_done h2 (k - m), show m + (k - m) = k by omega]
/-- What holds all along: x is the node that the search stands at, the ones of l are done. -/
structure FI (E : List (Nat × Nat)) (n : Nat) (xs l : List Nat) (F : Nat → Int) (T : List Nat) : Prop where
  n0 : F n = 0
  lo : ∀ y, F y = -1 ∨ 0 ≤ F y
  pa : ∀ y, 0 ≤ F y → y = n ∨ ∃ z, (y, z) ∈ E ∧ 0 ≤ F z ∧ F y = F z + 1
  ze : ∀ y, F y = 0 → y = n
  td : ∀ z, 0 ≤ F z → z ∈ T ∨ z ∈ xs ∨ ∀ y, (y, z) ∈ E → 0 ≤ F y
  tq : ∀ z ∈ T, 0 ≤ F z
  xq : ∀ z ∈ xs, 0 ≤ F z
  dn : ∀ y ∈ l, 0 ≤ F y
theorem FI.start (E : List (Nat × Nat)) (n : Nat) : FI E n [] [] (upF (fun _ => -1) n 0) [n] := by
  have u : ∀ y, 0 ≤ upF (fun _ => -1) n 0 y → y = n := fun y h => by
    unfold upF at h
    by_cases e : y = n
    · exact e
    · rw [if_neg e] at h; exact absurd h (by show ¬ (0 : Int) ≤ -1; decide)
  refine ⟨by simp [upF], fun y => ?_, fun y h => Or.inl (u y h), fun y h => u y (by omega), fun z h => Or.inl (by rw [u z h]; simp), fun z hz => ?_, by simp, by simp⟩
  · unfold upF; split <;> simp
  · rw [List.mem_singleton] at hz; rw [hz]; simp [upF]
theorem FI.one {E : List (Nat × Nat)} {n x : Nat} {l : List Nat} {F : Nat → Int} {T : List Nat} {y : Nat} (h : FI E n [x] l F T) (hy : (y, x) ∈ E) : FI E n [x] (l ++ [y]) (bf1 (F x) (F, T) y).1 (bf1 (F x) (F, T) y).2 ∧ (bf1 (F x) (F, T) y).1 x = F x := by
  have hx := h.xq x (.head _)
  unfold bf1
  by_cases e : F y < 0
  · rw [if_pos e]
    have k : ∀ z, 0 ≤ F z → upF F y (F x + 1) z = F z := fun z hz => by
      unfold upF
      rw [if_neg (fun q => by rw [q] at hz; omega)]
    have kk : ∀ z, 0 ≤ upF F y (F x + 1) z → z = y ∨ (z ≠ y ∧ 0 ≤ F z) := fun z hz => by
      by_cases q : z = y
      · exact Or.inl q
      · unfold upF at hz; rw [if_neg q] at hz; exact Or.inr ⟨q, hz⟩
    have ky : upF F y (F x + 1) y = F x + 1 := by simp [upF]
    refine ⟨⟨?_, fun z => ?_, fun z hz => ?_, fun z hz => ?_, fun z hz => ?_, fun z hz => ?_, fun z hz => ?_, fun z hz => ?_⟩, k x hx⟩
    · show upF F y (F x + 1) n = 0
      rw [k n (by rw [h.n0]; omega)]; exact h.n0
    · show upF F y (F x + 1) z = -1 ∨ 0 ≤ upF F y (F x + 1) z
      by_cases q : z = y
      · rw [q, ky]; omega
      · unfold upF; rw [if_neg q]; exact h.lo z
    · show z = n ∨ ∃ v, (z, v) ∈ E ∧ 0 ≤ upF F y (F x + 1) v ∧ upF F y (F x + 1) z = upF F y (F x + 1) v + 1
      rcases kk z hz with q | ⟨q, hz2⟩
      · refine Or.inr ⟨x, by rw [q]; exact hy, by rw [k x hx]; exact hx, by rw [q, ky, k x hx]⟩
      · rcases h.pa z hz2 with r | ⟨v, r1, r2, r3⟩
        · exact Or.inl r
        · exact Or.inr ⟨v, r1, by rw [k v r2]; exact r2, by rw [k v r2, k z hz2]; exact r3⟩
    · have hz : upF F y (F x + 1) z = 0 := hz
      rcases kk z (by omega) with q | ⟨q, hz2⟩
      · rw [q, ky] at hz; omega
      · rw [k z hz2] at hz; exact h.ze z hz
    · show z ∈ T ++ [y] ∨ z ∈ [x] ∨ ∀ v, (v, z) ∈ E → 0 ≤ upF F y (F x + 1) v
      rcases kk z hz with q | ⟨q, hz2⟩
      · exact Or.inl (by rw [q]; simp)
      · rcases h.td z hz2 with r | r | r
        · exact Or.inl (List.mem_append.2 (Or.inl r))
        · exact Or.inr (Or.inl r)
        · exact Or.inr (Or.inr fun v hv => by rw [k v (r v hv)]; exact r v hv)
    · show 0 ≤ upF F y (F x + 1) z
      have hz : z ∈ T ++ [y] := hz
      rcases List.mem_append.1 hz with r | r
      · rw [k z (h.tq z r)]; exact h.tq z r
      · rw [List.mem_singleton] at r; rw [r, ky]; omega
    · show 0 ≤ upF F y (F x + 1) z
      rw [k z (h.xq z hz)]; exact h.xq z hz
    · show 0 ≤ upF F y (F x + 1) z
      rcases List.mem_append.1 hz with r | r
      · rw [k z (h.dn z r)]; exact h.dn z r
      · rw [List.mem_singleton] at r; rw [r, ky]; omega
  · rw [if_neg e]
    refine ⟨⟨h.n0, h.lo, h.pa, h.ze, h.td, h.tq, h.xq, fun z hz => ?_⟩, rfl⟩
    rcases List.mem_append.1 hz with r | r
    · exact h.dn z r
    · rw [List.mem_singleton] at r; rw [r]; show 0 ≤ F y; omega
theorem FI.pop {E : List (Nat × Nat)} {n x : Nat} {F : Nat → Int} {T : List Nat} (h : FI E n [] [] F (x :: T)) : FI E n [x] [] F T :=
  ⟨h.n0, h.lo, h.pa, h.ze, fun z hz => by
    rcases h.td z hz with r | r | r
    · rcases List.mem_cons.1 r with q | q
      · exact Or.inr (Or.inl (by rw [q]; simp))
      · exact Or.inl q
    · cases r
    · exact Or.inr (Or.inr r), fun z hz => h.tq z (.tail _ hz), fun z hz => by rw [List.mem_singleton] at hz; rw [hz]; exact h.tq x (.head _), by simp⟩
theorem FI.fin {E : List (Nat × Nat)} {n x : Nat} {l : List Nat} {F : Nat → Int} {T : List Nat} (h : FI E n [x] l F T) (hl : ∀ y, (y, x) ∈ E → y ∈ l) : FI E n [] [] F T :=
  ⟨h.n0, h.lo, h.pa, h.ze, fun z hz => by
    rcases h.td z hz with r | r | r
    · exact Or.inl r
    · rw [List.mem_singleton] at r
      subst r
      exact Or.inr (Or.inr fun y hy => h.dn y (hl y hy))
    · exact Or.inr (Or.inr r), h.tq, by simp, by simp⟩
/-- At its end: whoever has a way to it, or is it, has a number; each but it leads to one that is nearer by 1. -/
theorem FI.reach {E : List (Nat × Nat)} {n : Nat} {F : Nat → Int} (h : FI E n [] [] F []) (y : Nat) : 0 ≤ F y ↔ Rs (ed E) y n := by
  constructor
  · intro hy
    obtain ⟨k, hk⟩ : ∃ k : Nat, F y = k := ⟨(F y).toNat, by omega⟩
    clear hy
    induction k generalizing y with
    | zero => rw [h.ze y hk]; exact Rs.refl _ _
    | succ k ih =>
      rcases h.pa y (by omega) with r | ⟨z, r1, r2, r3⟩
      · rw [r]; exact Rs.refl _ _
      · exact Or.inr (Rs.step r1 (ih z (by omega)))
  · intro hy
    have : Rs (fun a b => ed E b a) n y := hy.flip
    refine Rs.ind (P := fun x => 0 ≤ F x) (fun a b ha hab => ?_) this (by show 0 ≤ F n; rw [h.n0]; omega)
    rcases h.td a ha with r | r | r
    · cases r
    · cases r
    · exact r b hab
/-- The first of them that is no farther than any; -1 if there is a way from none. -/
def nr1 (F : Nat → Int) (b : Int) (y : Nat) : Int := if 0 ≤ F y ∧ (b < 0 ∨ F y < F b.toNat) then y else b
def nrL (F : Nat → Int) (l : List Nat) : Int := l.foldl (nr1 F) (-1)
theorem nrL_snoc (F : Nat → Int) (l : List Nat) (y : Nat) : nrL F (l ++ [y]) = nr1 F (nrL F l) y := by unfold nrL; rw [List.foldl_append]; rfl
theorem nrL_is (F : Nat → Int) (l : List Nat) : (nrL F l = -1 ∧ ∀ y ∈ l, F y < 0) ∨ ∃ b : Nat, nrL F l = b ∧ b ∈ l ∧ 0 ≤ F b ∧ ∀ y ∈ l, 0 ≤ F y → F b ≤ F y := by
  have key : ∀ (l p : List Nat), ((nrL F p = -1 ∧ ∀ y ∈ p, F y < 0) ∨ ∃ b : Nat, nrL F p = b ∧ b ∈ p ∧ 0 ≤ F b ∧ ∀ y ∈ p, 0 ≤ F y → F b ≤ F y) → ((nrL F (p ++ l) = -1 ∧ ∀ y ∈ p ++ l, F y < 0) ∨ ∃ b : Nat, nrL F (p ++ l) = b ∧ b ∈ p ++ l ∧ 0 ≤ F b ∧ ∀ y ∈ p ++ l, 0 ≤ F y → F b ≤ F y) := by
    intro l
    induction l with
    | nil => intro p h; rw [List.append_nil]; exact h
    | cons a l ih =>
      intro p h
      have e : p ++ a :: l = (p ++ [a]) ++ l := by simp
      rw [e]
      refine ih (p ++ [a]) ?_
      rw [nrL_snoc]
      unfold nr1
      rcases h with ⟨h1, h2⟩ | ⟨b, h1, h2, h3, h4⟩
      · rw [h1]
        by_cases ha : 0 ≤ F a
        · rw [if_pos ⟨ha, Or.inl (by omega)⟩]
          refine Or.inr ⟨a, rfl, by simp, ha, fun y hy hy2 => ?_⟩
          rcases List.mem_append.1 hy with r | r
          · have := h2 y r; omega
          · rw [List.mem_singleton] at r; rw [r]; omega
        · rw [if_neg (fun q => ha q.1)]
          refine Or.inl ⟨rfl, fun y hy => ?_⟩
          rcases List.mem_append.1 hy with r | r
          · exact h2 y r
          · rw [List.mem_singleton] at r; rw [r]; omega
      · rw [h1]
        have eb : ((b : Int)).toNat = b := by simp
        rw [eb]
        by_cases ha : 0 ≤ F a ∧ F a < F b
        · rw [if_pos ⟨ha.1, Or.inr ha.2⟩]
          refine Or.inr ⟨a, rfl, by simp, ha.1, fun y hy hy2 => ?_⟩
          rcases List.mem_append.1 hy with r | r
          · have := h4 y r hy2; omega
          · rw [List.mem_singleton] at r; rw [r]; omega
        · have hq : ¬ (0 ≤ F a ∧ ((b : Int) < 0 ∨ F a < F b)) := fun q => ha ⟨q.1, q.2.resolve_left (by omega)⟩
          rw [if_neg hq]
          refine Or.inr ⟨b, rfl, List.mem_append.2 (Or.inl h2), h3, fun y hy hy2 => ?_⟩
          rcases List.mem_append.1 hy with r | r
          · exact h4 y r hy2
          · rw [List.mem_singleton] at r
            subst r
            omega
  have := key l [] (Or.inl ⟨rfl, by simp⟩)
  rw [List.nil_append] at this
  exact this
/-- From a node that has a way to it, and is not it, the next one is nearer. -/
theorem nr_falls {N : Nat} {E : List (Nat × Nat)} (hg : GOK N E) {n y : Nat} {F : Nat → Int} (h : FI E n [] [] F []) (hy : 0 ≤ F y) (hn : y ≠ n) : ∃ b : Nat, nrL F (nx N E y) = b ∧ b < N ∧ 0 ≤ F b ∧ F b < F y := by
  rcases h.pa y hy with r | ⟨z, r1, r2, r3⟩
  · exact absurd r hn
  · have hz : z ∈ nx N E y := (nx_mem hg).2 r1
    rcases nrL_is F (nx N E y) with ⟨_, q⟩ | ⟨b, q1, q2, q3, q4⟩
    · have := q z hz; omega
    · have := q4 z hz r2
      exact ⟨b, q1, (hg.lt _ ((nx_mem hg).1 q2)).2, q3, by omega⟩
/-- The first step: there is one just if the node goes round. -/
theorem nr_first {N : Nat} {E : List (Nat × Nat)} (hg : GOK N E) {n : Nat} {F : Nat → Int} (h : FI E n [] [] F []) : (nrL F (nx N E n) = -1 ∧ wyB E (-1) [n] n = false) ∨ ∃ b : Nat, nrL F (nx N E n) = b ∧ b < N ∧ 0 ≤ F b ∧ wyB E (-1) [n] n = true := by
  rcases nrL_is F (nx N E n) with ⟨q1, q2⟩ | ⟨b, q1, q2, q3, _⟩
  · refine Or.inl ⟨q1, ?_⟩
    rw [Bool.eq_false_iff]
    intro e
    obtain ⟨z, z1, z2⟩ := (wyB_self.1 e).first
    have := q2 z ((nx_mem hg).2 z1)
    have := (h.reach z).2 z2
    omega
  · have e := (nx_mem hg).1 q2
    exact Or.inr ⟨b, q1, (hg.lt _ e).2, q3, wyB_self.2 (Rs.step e ((h.reach b).1 q3))⟩
end Go.Proofs.Ythhjknpfaghfbaa
