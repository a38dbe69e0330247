/- Failures: what the walk over depths needs, plain; a row of numbers filled from the front. -/
import Derived.Test.YtaleagkhblokgaaDoorFx14
namespace Go.Proofs.YtaleagkhblokgaaDoor
open Go.RowKit

def dvL (D : List Int) (x : Int) : Int := D.getD x.toNat 0
/-- The depth of each whole, out of those of its parts. -/
def dW : List Int → List (Int × List Int) → List Int
  | D, [] => D
  | D, a :: r => dW (D ++ [mxL (a.2.map (dvL D)) + 1]) r
theorem dW_snoc : ∀ (A : List (Int × List Int)) (D : List Int) (a : Int × List Int), dW D (A ++ [a]) = dW D A ++ [mxL (a.2.map (dvL (dW D A))) + 1]
  | [], D, a => rfl
  | b :: A, D, a => by rw [List.cons_append, dW, dW_snoc A]; rfl
theorem dW_len : ∀ (A : List (Int × List Int)) (D : List Int), (dW D A).length = D.length + A.length
  | [], D => by simp [dW]
  | b :: A, D => by rw [dW, dW_len A]; simp; omega
/-- The stack behind all. -/
def endE : Nat → List Int → List Cr → List Int
  | _, E, [] => E
  | i, E, c :: r => endE (i + 1) (E.take (E.length - c.n.toNat) ++ [(i : Int)]) r
theorem dvL_old {D : List Int} {x y : Int} (h : x.toNat < D.length) : dvL (D ++ [y]) x = dvL D x := by
  unfold dvL; simp [List.getD, List.getElem?_append_left h]
theorem dvL_new {D : List Int} {y : Int} {i : Nat} (h : D.length = i) : dvL (D ++ [y]) (i : Int) = y := by
  unfold dvL; simp [List.getD, ← h]
theorem whS_dp : ∀ (l : List Cr) (i : Nat) (E : List Int) (A : List (Int × List Int)), A.length = i → (∀ x ∈ E, 0 ≤ x ∧ x < i) →
    dpS (E.map (dvL (dW [] A))) l = (endE i E l).map (dvL (dW [] (whS i E A l)))
  | [], i, E, A, _, _ => by rw [dpS, endE, whS]
  | c :: r, i, E, A, hA, hE => by
    have hl : (dW [] A).length = i := by rw [dW_len]; simpa using hA
    rw [dpS, endE, whS]
    obtain ⟨f, hf⟩ : ∃ f, f = (if 0 < c.n then (A.getD (E.getD (E.length - c.n.toNat) 0).toNat (0, [])).1 else (i : Int)) := ⟨_, rfl⟩
    rw [← hf]
    have ih := whS_dp r (i + 1) (E.take (E.length - c.n.toNat) ++ [(i : Int)]) (A ++ [(f, E.drop (E.length - c.n.toNat))]) (by simp [hA]) (fun x hx => by
      rw [List.mem_append, List.mem_singleton] at hx
      rcases hx with hx | hx
      · have := hE x (List.mem_of_mem_take hx); omega
      · omega)
    rw [← ih, dW_snoc]
    congr 1
    rw [List.map_append, List.length_map, List.map_take, List.map_drop]
    congr 1
    · rw [← List.map_take, ← List.map_take]
      refine List.map_congr_left (fun x hx => (dvL_old ?_).symm)
      have := hE x (List.mem_of_mem_take hx); omega
    · rw [List.map_singleton, dvL_new hl]
theorem endE_len : ∀ (l : List Cr) (i : Nat) (E : List Int) (t : Int), walkC E.length l = some t → ((endE i E l).length : Int) = t
  | [], i, E, t, h => by rw [walkC] at h; injection h
  | c :: r, i, E, t, h => by
    obtain ⟨⟨hcb, hcn⟩, hwn⟩ := walk_step h
    obtain ⟨hn0, hn1⟩ := crB_n hcb
    rw [endE]
    refine endE_len r (i + 1) _ t ?_
    rw [← hwn]; congr 1; simp; omega
theorem endE_last : ∀ (l : List Cr) (i : Nat) (E : List Int), l ≠ [] → ∃ E0, endE i E l = E0 ++ [((i + l.length - 1 : Nat) : Int)]
  | [], _, _, h => absurd rfl h
  | [c], i, E, _ => ⟨E.take (E.length - c.n.toNat), by rw [endE, endE]; simp⟩
  | c :: d :: r, i, E, _ => by
    obtain ⟨E0, h⟩ := endE_last (d :: r) (i + 1) (E.take (E.length - c.n.toNat) ++ [(i : Int)]) (by simp)
    refine ⟨E0, ?_⟩
    rw [endE, h]
    congr 3
    simp; omega
/-- The depth of the last whole is the failure's. -/
theorem deepV_last {l : List Cr} (h : chk l = 0) : l ≠ [] ∧ deepV l = (dW [] (whS 0 [] [] l)).getD (l.length - 1) 0 := by
  obtain ⟨_, hw⟩ := chk_ok h
  have hne : l ≠ [] := fun e => by subst e; simp [walkC] at hw
  refine ⟨hne, ?_⟩
  have h1 := whS_dp l 0 [] [] rfl (fun x hx => by simp at hx)
  have h2 := endE_len l 0 [] 1 hw
  obtain ⟨E0, h3⟩ := endE_last l 0 [] hne
  rw [h3, List.length_append] at h2
  have h4 : E0 = [] := List.length_eq_zero_iff.1 (by simp at h2; omega)
  rw [h3, h4] at h1
  simp only [List.map_nil, List.nil_append, List.map_cons] at h1
  unfold deepV
  rw [h1]
  simp [dvL]
end Go.Proofs.YtaleagkhblokgaaDoor
namespace Go.Proofs.YtaleagkhblokgaaDoor
open Go.RowKit

theorem mxL_snoc : ∀ (L : List Int) (x : Int), 0 ≤ x → mxL (L ++ [x]) = max (mxL L) x
  | [], x, h => by simp only [List.nil_append, mxL]; omega
  | a :: r, x, h => by rw [List.cons_append, mxL, mxL, mxL_snoc r x h]; omega
/-- A part lies below its whole. -/
def PB (A : List (Int × List Int)) : Prop := ∀ j, j < A.length → (A.getD j (0, [])).2.length ≤ j ∧ ∀ x ∈ (A.getD j (0, [])).2, 0 ≤ x ∧ x < j
theorem PB.snoc {A : List (Int × List Int)} (h : PB A) {a : Int × List Int} (hl : a.2.length ≤ A.length) (ha : ∀ x ∈ a.2, 0 ≤ x ∧ x < A.length) : PB (A ++ [a]) := by
  intro j hj
  by_cases hjA : j < A.length
  · rw [show (A ++ [a]).getD j (0, []) = A.getD j (0, []) by simp [List.getD, List.getElem?_append_left hjA]]; exact h j hjA
  · have : j = A.length := by simp at hj; omega
    subst this
    rw [show (A ++ [a]).getD A.length (0, []) = a by simp [List.getD]]; exact ⟨hl, ha⟩
theorem whS_PB : ∀ (l : List Cr) (i : Nat) (E : List Int) (A : List (Int × List Int)), A.length = i → PB A → E.length ≤ i → (∀ x ∈ E, 0 ≤ x ∧ x < i) → PB (whS i E A l)
  | [], i, E, A, _, h, _, _ => by rw [whS]; exact h
  | c :: r, i, E, A, hA, h, hl, hE => by
    rw [whS]
    refine whS_PB r (i + 1) _ _ (by simp [hA]) (h.snoc (by simp; omega) (fun x hx => ?_)) (by simp; omega) (fun x hx => ?_)
    · rw [hA]; exact hE x (List.mem_of_mem_drop hx)
    · rw [List.mem_append, List.mem_singleton] at hx
      rcases hx with hx | hx
      · have := hE x (List.mem_of_mem_take hx); omega
      · omega
/-- The wholes of a failure. -/
def whA (l : List Cr) : List (Int × List Int) := whS 0 [] [] l
theorem whA_len (l : List Cr) : (whA l).length = l.length := by unfold whA; rw [whS_len]; simp
theorem whA_PB (l : List Cr) : PB (whA l) := whS_PB l 0 [] [] rfl (fun j hj => by simp at hj) (Nat.le_refl _) (fun x hx => by simp at hx)
/-- The depths of the first k wholes. -/
def dK (A : List (Int × List Int)) (k : Nat) : List Int := dW [] (A.take k)
theorem dK_len {A : List (Int × List Int)} {k : Nat} (h : k ≤ A.length) : (dK A k).length = k := by unfold dK; rw [dW_len]; simp; omega
theorem dK_succ {A : List (Int × List Int)} {k : Nat} (h : k < A.length) : dK A (k + 1) = dK A k ++ [mxL ((A.getD k (0, [])).2.map (dvL (dK A k))) + 1] := by
  unfold dK
  rw [List.take_add_one, List.getElem?_eq_getElem h, Option.toList_some, dW_snoc]
  simp [List.getD, List.getElem?_eq_getElem h]
theorem dvL_mem {D : List Int} {x : Int} (h : x.toNat < D.length) : dvL D x ∈ D := by
  unfold dvL
  rw [List.getD_eq_getElem?_getD, List.getElem?_eq_getElem h]; exact List.getElem_mem h
theorem dK_bd {A : List (Int × List Int)} (h : PB A) : ∀ k, k ≤ A.length → ∀ x ∈ dK A k, 1 ≤ x ∧ x ≤ k
  | 0, _, x, hx => by simp [dK, dW] at hx
  | k + 1, hk, x, hx => by
    rw [dK_succ (by omega), List.mem_append, List.mem_singleton] at hx
    have ih := dK_bd h k (by omega)
    rcases hx with hx | hx
    · have := ih x hx; omega
    · have := mxL_bd ((A.getD k (0, [])).2.map (dvL (dK A k))) k (by omega) (fun y hy => by
        obtain ⟨z, hz, rfl⟩ := List.mem_map.1 hy
        have hz2 := (h k (by omega)).2 z hz
        exact (ih _ (dvL_mem (by rw [dK_len (by omega)]; omega))).2)
      omega
/-- The depth so far of the whole at k, j of its parts looked at. -/
def dJ (A : List (Int × List Int)) (k j : Nat) : Int := mxL (((A.getD k (0, [])).2.take j).map (dvL (dK A k))) + 1
theorem dJ_zero (A : List (Int × List Int)) (k : Nat) : dJ A k 0 = 1 := by simp [dJ, mxL]
theorem dJ_succ {A : List (Int × List Int)} (h : PB A) {k j : Nat} (hk : k < A.length) (hj : j < (A.getD k (0, [])).2.length) :
    ∃ (q : Nat) (y : Int), (A.getD k (0, [])).2.getD j 0 = (q : Int) ∧ q < k ∧ (dK A k).getD q 0 = y ∧ 1 ≤ y ∧ y ≤ k ∧ dJ A k (j + 1) = max (dJ A k j) (1 + y) ∧ 1 ≤ dJ A k j ∧ dJ A k j ≤ k + 1 := by
  obtain ⟨P, hP⟩ : ∃ P, P = (A.getD k (0, [])).2 := ⟨_, rfl⟩
  have hp : ∀ x ∈ P, 0 ≤ x ∧ x < k := fun x hx => (h k hk).2 x (hP ▸ hx)
  rw [← hP] at hj ⊢
  have hm : P[j] ∈ P := List.getElem_mem hj
  have hb := hp _ hm
  have hy := dK_bd h k (by omega) _ (dvL_mem (D := dK A k) (x := P[j]) (by rw [dK_len (by omega)]; omega))
  have hbd := mxL_bd ((P.take j).map (dvL (dK A k))) k (by omega) (fun y hy => by
    obtain ⟨z, hz, rfl⟩ := List.mem_map.1 hy
    have hz2 := hp z (List.mem_of_mem_take hz)
    exact (dK_bd h k (by omega) _ (dvL_mem (by rw [dK_len (by omega)]; omega))).2)
  refine ⟨P[j].toNat, dvL (dK A k) P[j], ?_, by omega, rfl, hy.1, hy.2, ?_, ?_, ?_⟩
  · rw [List.getD_eq_getElem?_getD, List.getElem?_eq_getElem hj]; simp; omega
  · unfold dJ
    rw [← hP, List.take_add_one, List.getElem?_eq_getElem hj, Option.toList_some, List.map_append, List.map_singleton, mxL_snoc _ _ (by omega)]
    omega
  · unfold dJ; rw [← hP]; omega
  · unfold dJ; rw [← hP]; omega
theorem dJ_all {A : List (Int × List Int)} {k : Nat} (h : k < A.length) : dK A k ++ [dJ A k (A.getD k (0, [])).2.length] = dK A (k + 1) := by
  rw [dK_succ h]; unfold dJ; rw [List.take_length]
theorem deepV_dK {l : List Cr} (h : chk l = 0) : 0 < l.length ∧ (dK (whA l) l.length).getD (l.length - 1) 0 = deepV l := by
  obtain ⟨h1, h2⟩ := deepV_last h
  refine ⟨List.length_pos_iff.2 h1, ?_⟩
  unfold dK
  rw [List.take_of_length_le (by rw [whA_len]; exact Nat.le_refl _), h2]; rfl
/-- A block of n numbers, the front of which is written; all else as it was. -/
structure DD (a b : World) (g n : Nat) (D : List Int) : Prop where
  os : b.os = a.os
  tape : b.tape = a.tape
  output : b.output = a.output
  size : a.heap.size ≤ b.heap.size
  lt : g < a.heap.size
  block : ∀ j, j < a.heap.size → j ≠ g → b.heap[j]? = a.heap[j]?
  blk : ∃ cur, b.heap[g]? = some (.cells cur 3) ∧ cur.size = n
  cell : ∀ j, j < D.length → b.cell? ⟨g, j, none⟩ = some (.int .i64 (D.getD j 0))
theorem DD.got {a b : World} {g n : Nat} {D : List Int} (h : DD a b g n D) {o : Nat} (ho : o < n) : ∃ v, b.cell? ⟨g, o, none⟩ = some v := by
  obtain ⟨cur, h1, h2⟩ := h.blk
  exact ⟨cur[o]'(by omega), cell_of_row _ _ _ _ _ _ h1 |>.trans (by simp [h2, ho])⟩
theorem DD.frozen {a b : World} {g n : Nat} {D : List Int} (h : DD a b g n D) (o : Nat) : b.frozen? ⟨g, o, none⟩ = false := by
  obtain ⟨cur, h1, h2⟩ := h.blk
  simp [World.frozen?, h1]
theorem DD.later {a b c : World} {g n : Nat} {D : List Int} (h : DD a b g n D) (k : Below b.heap.size b c) : DD a c g n D := by
  have hz := h.size
  have hg := h.lt
  obtain ⟨cur, h1, h2⟩ := h.blk
  exact ⟨k.os.trans h.os, k.tape.trans h.tape, k.output.trans h.output, Nat.le_trans hz k.size, hg, fun j hj hne => (k.block j (by omega)).trans (h.block j hj hne), ⟨cur, (k.block g (by omega)).trans h1, h2⟩,
    fun j hj => (k.cell (p := ⟨g, j, none⟩) (show g < b.heap.size by omega)).trans (h.cell j hj)⟩
theorem DD.alloc {a b : World} {g n : Nat} {D : List Int} (h : DD a b g n D) (o : Obj) : DD a (b.alloc o) g n D := h.later ((Below.refl _ _).alloc (Nat.le_refl _) o)
theorem DD.drew {a b : World} {g n : Nat} {D : List Int} (h : DD a b g n D) (m : Nat) : DD a (b.drewN m) g n D := ⟨h.os, h.tape, h.output, h.size, h.lt, h.block, h.blk, h.cell⟩
theorem DD.drew1 {a b : World} {g n : Nat} {D : List Int} (h : DD a b g n D) : DD a b.drew g n D := ⟨h.os, h.tape, h.output, h.size, h.lt, h.block, h.blk, h.cell⟩
theorem DD.set {a b : World} {g n : Nat} {D : List Int} (h : DD a b g n D) {k : Nat} (hk : k < n) (hD : D.length = k) (x : Int) : DD a (b.setCell ⟨g, k, none⟩ (.int .i64 x)) g n (D ++ [x]) := by
  obtain ⟨v, hv⟩ := h.got hk
  obtain ⟨cur, h1, h2⟩ := h.blk
  refine ⟨h.os, h.tape, h.output, by simpa [World.setCell] using h.size, h.lt, fun j hj hne => (Below.heap_setCell _ _ _ _ hne).trans (h.block j hj hne), ⟨cur.setIfInBounds k _, heap_setCell_same b g k cur _ _ h1, by simpa using h2⟩, fun j hj => ?_⟩
  by_cases hjk : j = k
  · subst hjk
    rw [World.cell?_setCell_same _ _ _ hv]
    simp [List.getD, ← hD]
  · have : j < D.length := by simp at hj; omega
    rw [set_other hjk, h.cell j this]
    simp [List.getD, List.getElem?_append_left this]
theorem DD.less {a b : World} {g n : Nat} {D : List Int} {x : Int} (h : DD a b g n (D ++ [x])) : DD a b g n D :=
  ⟨h.os, h.tape, h.output, h.size, h.lt, h.block, h.blk, fun j hj => by rw [h.cell j (by simp; omega)]; simp [List.getD, List.getElem?_append_left hj]⟩
theorem DD.last {a b : World} {g n : Nat} {D : List Int} {x : Int} (h : DD a b g n (D ++ [x])) {k : Nat} (hD : D.length = k) : b.cell? ⟨g, k, none⟩ = some (.int .i64 x) := by
  rw [h.cell k (by simp; omega)]; simp [List.getD, ← hD]
theorem DD.below {a b : World} {g n : Nat} {D : List Int} (h : DD a b g n D) {N : Nat} (hN : N ≤ g) : Below N a b :=
  ⟨h.os, h.tape, h.output, h.size, fun j hj => h.block j (by have := h.lt; omega) (by omega)⟩
end Go.Proofs.YtaleagkhblokgaaDoor
