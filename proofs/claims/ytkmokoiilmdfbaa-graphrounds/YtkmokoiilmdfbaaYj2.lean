/- Graph, plain: how often the search steps. -/
import Derived.Test.YtkmokoiilmdfbaaYf8
import Derived.Test.YtkmokoiilmdfbaaYg8
import Derived.ArgAppend
import Derived.Test.YtkmokoiilmdfbaaYe8
namespace Go.Proofs.Ytkmokoiilmdfbaa
open Go.RowKit

structure QR (w : World) (base g off cap : Nat) (l : List Nat) : Prop where
  b : base ≤ g
  row : ∃ cur, w.heap[g]? = some (.cells cur KI.ty) ∧ off + cap ≤ cur.size ∧ ∀ j (hj : j < l.length), cur[off + j]? = some (.int .i64 (l[j] : Nat))
  c : l.length ≤ cap
theorem QR.lt {w : World} {base g off cap : Nat} {l : List Nat} (h : QR w base g off cap l) : g < w.heap.size := by
  obtain ⟨cur, e, _⟩ := h.row
  exact (Array.getElem?_eq_some_iff.1 e).1
theorem QR.far {w w' : World} {base g off cap : Nat} {l : List Nat} (h : QR w base g off cap l) (k : w'.heap[g]? = w.heap[g]?) : QR w' base g off cap l :=
  ⟨h.b, by rw [k]; exact h.row, h.c⟩
theorem QR.at {w : World} {base g off cap : Nat} {l : List Nat} (h : QR w base g off cap l) {j : Nat} (hj : j < l.length) : w.cell? ⟨g, off + j, none⟩ = some (.int .i64 (l[j] : Nat)) := by
  obtain ⟨cur, e, _, e2⟩ := h.row
  rw [cell_of_row _ _ _ _ _ _ e]
  exact e2 j hj
theorem QR.head {w : World} {base g off cap x : Nat} {T : List Nat} (h : QR w base g off cap (x :: T)) : w.cell? ⟨g, off, none⟩ = some (.int .i64 (x : Nat)) := h.at (j := 0) (by simp)
theorem QR.pop {w : World} {base g off cap x : Nat} {T : List Nat} (h : QR w base g off (cap + 1) (x :: T)) : QR w base g (off + 1) cap T := by
  obtain ⟨cur, e, e1, e2⟩ := h.row
  refine ⟨h.b, ⟨cur, e, by omega, fun j hj => ?_⟩, by have := h.c; simp at this; exact this⟩
  have := e2 (j + 1) (by simpa using hj)
  rw [show off + 1 + j = off + (j + 1) by omega, this]
  rfl
theorem QR.pop1 {w : World} {base g off x : Nat} {T : List Nat} (h : QR w base g off 1 (x :: T)) : T = [] ∧ QR w base g off 0 [] := by
  have hc := h.c
  obtain ⟨cur, e, e1, e2⟩ := h.row
  refine ⟨List.length_eq_zero_iff.1 (by simp at hc; simp [hc]), h.b, ⟨cur, e, by omega, fun j hj => by simp at hj⟩, Nat.le_refl _⟩
theorem QR.put {w : World} {base g off cap : Nat} {l : List Nat} (h : QR w base g off cap l) (hc : l.length + 1 ≤ cap) (y : Nat) : QR (w.setCell ⟨g, off + l.length, none⟩ (.int .i64 (y : Nat))) base g off cap (l ++ [y]) := by
  obtain ⟨cur, e, e1, e2⟩ := h.row
  refine ⟨h.b, ⟨cur.setIfInBounds (off + l.length) (.int .i64 (y : Nat)), heap_setCell_same w g _ cur _ _ e, by simpa using e1, fun j hj => ?_⟩, by simpa using hc⟩
  rw [Array.getElem?_setIfInBounds]
  by_cases ej : j = l.length
  · subst ej
    rw [if_pos rfl, if_pos (by omega)]
    simp
  · have hl : j < l.length := by simp at hj; omega
    rw [if_neg (by omega), e2 j hl]
    simp [List.getElem_append_left hl]
theorem QR.own {w : World} {base g n cap : Nat} {l : List Nat} (h : OwnG KI w base (.slice (some ⟨g, 0, none⟩) n cap) (nI l)) : QR w base g 0 cap l := by
  have h0 := h
  rcases h.2 with ⟨e, _⟩ | ⟨g', cp, cur, e1, e2, e3, e4, e5, e6, e7⟩
  · cases e
  · injection e1 with e1 e8 e9
    injection e1 with e1
    injection e1 with e1 _ _
    subst e1 e9
    have e6' : cur.size = cap := by rw [e6]; exact Nat.mul_one _
    refine ⟨e2, ⟨cur, e3, by omega, fun j hj => ?_⟩, by rw [nI_len] at e4; exact e4⟩
    obtain ⟨X, o, e, hc⟩ := (OwnG.gs KI_ok.len h0).atI (k := j) (by rw [nI_len]; exact hj)
    injection e with e
    injection e with q1 q2 _
    subst q1 q2
    rw [cell_of_row _ _ _ _ _ _ e3, nI_at hj] at hc
    exact hc
theorem QR.new (w : World) (base y : Nat) (hb : base ≤ w.heap.size) : QR (w.alloc (.cells #[.int .i64 (y : Nat)] KI.ty)) base w.heap.size 0 1 [y] :=
  ⟨hb, ⟨_, heap_alloc_new _ _, by simp, fun j hj => by
    have : j = 0 := by simpa using hj
    subst this
    simp⟩, by simp⟩
set_option maxRecDepth 100000 in
/-- One more, where it lies anywhere in its block. -/
theorem append_q {ops : Array Oper} {rest : List Oper} {o : Oper} {a : Act} {Q : Exit → Act → World → Prop} (hgd : o.guard = none) (s x : Operand) (t : TypeId)
    (ho : o.op = .call { callee := .builtin .append, args := #[s, x], argTypes := #[t, t] })
    (base : Nat) (ht : Try.prog.underlying t = some (.slice KI.ty))
    (w0 : World) (tc : TypeId) (g off cap n : Nat) (l : List Nat) (y : Nat) (c : Nat) (hs : a.eval s = .slice (some ⟨g, off, none⟩) n cap) (hn : n = l.length) (hq : QR w0 base g off cap l) (b : Nat) (hb : w0.heap.size = b)
    (hx : a.eval x = .slice (some ⟨b, 0, none⟩) 1 c) (hlen : l.length + 1 ≤ 100000) (hbase : base ≤ w0.heap.size)
    (h : ∀ g' off' cap' w', QR w' base g' off' cap' (l ++ [y]) → Below base w0 w' → (∀ k, k < w0.heap.size → k ≠ g → w'.heap[k]? = w0.heap[k]?) → (g' = g ∨ w0.heap.size ≤ g') → wpList Try.prog ops Q rest (a.put o.dst (.slice (some ⟨g', off', none⟩) (n + 1) cap')) w') : wpList Try.prog ops Q (o :: rest) a (w0.alloc (.cells #[.int .i64 (y : Nat)] tc)) := by
  subst hb hn
  obtain ⟨i0, hi0, hz0, hz1, hz2⟩ := KI_ok.info
  have hq1 : QR (w0.alloc (.cells #[.int .i64 (y : Nat)] tc)) base g off cap l := hq.far (Below.heap_alloc _ _ _ hq.lt)
  have B1 : Below base w0 (w0.alloc (.cells #[.int .i64 (y : Nat)] tc)) := (Below.refl base w0).alloc hbase _
  have K1 : ∀ k, k < w0.heap.size → (w0.alloc (.cells #[.int .i64 (y : Nat)] tc)).heap[k]? = w0.heap[k]? := fun k hk => Below.heap_alloc w0 _ k hk
  have hnew : ∀ j u, [Value.int .i64 (y : Nat)][j]? = some u → (w0.alloc (.cells #[.int .i64 (y : Nat)] tc)).cell? ((⟨w0.heap.size, 0, none⟩ : Addr).add j) = some u := gr_news_at w0 #[.int .i64 (y : Nat)] tc _ rfl
  have hsz : w0.heap.size ≤ (w0.alloc (.cells #[.int .i64 (y : Nat)] tc)).heap.size := by simp
  generalize w0.alloc (.cells #[.int .i64 (y : Nat)] tc) = w1 at *
  refine wpList_append_arg w1 hgd s x t ho KI.ty i0 KI.z 1 8 ht hi0 hz0 hz1 hz2 rfl (by decide) g off l.length cap (l.map fun i => Value.int .i64 (i : Nat)) hs (by simp) (fun j u hj => ?_) ⟨w0.heap.size, 0, none⟩ 1 c [.int .i64 (y : Nat)] hx rfl hnew (fun u hu => by rw [List.mem_singleton] at hu; rw [hu]; rfl) (fun hr j hj => ?_) (by unfold maxLen; omega) (by omega) (fun hr => ?_) (fun hr v' w' h1 h2 => ?_)
  · rw [List.getElem?_map] at hj
    cases hl : l[j]? with
    | none => rw [hl] at hj; cases hj
    | some q =>
      rw [hl] at hj
      injection hj with hj
      obtain ⟨hlt, e⟩ := List.getElem?_eq_some_iff.1 hl
      rw [hq1.at hlt, e, ← hj]
  · obtain ⟨cur, e, e1, _⟩ := hq1.row
    refine ⟨?_, frozen_of_row _ _ _ _ _ e⟩
    rw [cell_of_row _ _ _ _ _ _ e]
    have : j = 0 := by simpa using hj
    subst this
    rw [Array.getElem?_eq_getElem (by omega)]
    rfl
  · refine h g off cap _ ?_ ?_ (fun k hk hne => ?_) (Or.inl rfl)
    · have := hq1.put hr y
      rw [Nat.mul_one]
      exact this
    · exact B1.setCell (p := ⟨g, _, none⟩) hq.b _
    · exact (set_far hne).trans (K1 k hk)
  · have O : OwnG KI w' w1.heap.size v' (nI (l ++ [y])) := by
      unfold OwnG
      rw [nI_len, List.length_append, List.length_singleton, KI_flat]
      have e : (nI (l ++ [y])).map (fun i => Value.int .i64 i) = (l.map fun i => Value.int .i64 (i : Nat)) ++ [.int .i64 (y : Nat)] := by simp [nI]
      rw [e]
      exact h1
    have O2 := O.low (base' := base) (by omega)
    have hnn : v'.ownBlock ≠ none := by
      intro e2
      rcases O.2 with ⟨_, e3⟩ | ⟨g9, cap9, cur9, e3, _⟩
      · rw [nI_len] at e3; simp at e3
      · rw [e3] at e2; cases e2
    obtain ⟨g9, cap9, e9, _⟩ := O2.place hnn
    rw [nI_len, List.length_append, List.length_singleton] at e9
    subst e9
    refine h g9 0 cap9 w' (QR.own O2) (B1.grown h2 (by omega) (fun k hk => by cases hk)) (fun k hk _ => (h2.block k (by omega) (fun e => by cases e)).trans (K1 k hk)) (Or.inr ?_)
    have := (O.lt (g := g9) rfl).1
    omega
end Go.Proofs.Ytkmokoiilmdfbaa
namespace Go.Proofs.Ytkmokoiilmdfbaa
open Go.RowKit

/-- How many of the first N stand at -1. -/
def unF (F : Nat → Int) : Nat → Nat
  | 0 => 0
  | n + 1 => unF F n + if F n < 0 then 1 else 0
theorem unF_le (F : Nat → Int) (N : Nat) : unF F N ≤ N := by
  induction N with
  | zero => exact Nat.le_refl _
  | succ n ih => unfold unF; split <;> omega
theorem unF_far {F : Nat → Int} {y : Nat} {d : Int} : ∀ {N : Nat}, N ≤ y → unF (upF F y d) N = unF F N := by
  intro N
  induction N with
  | zero => intro _; rfl
  | succ n ih =>
    intro h
    have e : upF F y d n = F n := by unfold upF; rw [if_neg (by omega)]
    unfold unF
    rw [ih (by omega), e]
theorem unF_up {F : Nat → Int} {y : Nat} {d : Int} (hF : F y < 0) (hd : 0 ≤ d) : ∀ {N : Nat}, y < N → unF (upF F y d) N + 1 = unF F N := by
  intro N
  induction N with
  | zero => intro h; omega
  | succ n ih =>
    intro h
    unfold unF
    by_cases e : y = n
    · subst e
      have e1 : upF F y d y = d := by simp [upF]
      rw [unF_far (Nat.le_refl _), e1, if_neg (by omega), if_pos hF]
    · have e1 : upF F y d n = F n := by unfold upF; rw [if_neg (fun q => e q.symm)]
      have := ih (by omega)
      rw [e1]
      omega
/-- k steps were taken; what they found is not farther than k. -/
structure FB (N k : Nat) (F : Nat → Int) (T : List Nat) : Prop where
  n : k + T.length + unF F N = N
  up : ∀ y, F y ≤ k
  lt : ∀ y ∈ T, y < N
theorem FB.start {N n : Nat} (h : n < N) : FB N 0 (upF (fun _ => -1) n 0) [n] := by
  have u : ∀ M, unF (fun _ => -1) M = M := fun M => by
    induction M with
    | zero => rfl
    | succ m ih => unfold unF; rw [ih]; simp
  refine ⟨?_, fun y => ?_, fun y hy => by rw [List.mem_singleton] at hy; rw [hy]; exact h⟩
  · have := unF_up (F := fun _ => -1) (y := n) (d := 0) (by decide) (by decide) h
    rw [u] at this
    simp
    omega
  · unfold upF; split <;> simp
theorem FB.pop {N k x : Nat} {F : Nat → Int} {T : List Nat} (h : FB N k F (x :: T)) : FB N (k + 1) F T :=
  ⟨by have := h.n; rw [List.length_cons] at this; omega, fun y => by have := h.up y; omega, fun y hy => h.lt y (.tail _ hy)⟩
theorem FB.one {N k : Nat} {F : Nat → Int} {T : List Nat} {d : Int} {y : Nat} (h : FB N (k + 1) F T) (hd : d ≤ k) (h0 : 0 ≤ d) (hy : y < N) : FB N (k + 1) (bf1 d (F, T) y).1 (bf1 d (F, T) y).2 := by
  unfold bf1
  by_cases e : F y < 0
  · rw [if_pos e]
    refine ⟨?_, fun z => ?_, fun z hz => ?_⟩
    · have := unF_up (d := d + 1) e (by omega) hy
      have := h.n
      show k + 1 + (T ++ [y]).length + unF (upF F y (d + 1)) N = N
      rw [List.length_append, List.length_singleton]
      omega
    · show upF F y (d + 1) z ≤ _
      unfold upF
      split
      · omega
      · exact h.up z
    · rcases List.mem_append.1 hz with q | q
      · exact h.lt z q
      · rw [List.mem_singleton] at q; rw [q]; exact hy
  · rw [if_neg e]; exact h
/-- Two searches along the same lists. -/
structure FK (N : Nat) (E : List (Nat × Nat)) (A : Nat → List Nat) (n k : Nat) (F : Nat → Int) (T : List Nat) : Prop where
  eq : bfN A (upF (fun _ => -1) n 0, [n]) k = (F, T)
  fi : FI E n [] [] F T
  fb : FB N k F T
theorem FK.start {N : Nat} (E : List (Nat × Nat)) (A : Nat → List Nat) {n : Nat} (h : n < N) : FK N E A n 0 (upF (fun _ => -1) n 0) [n] := ⟨rfl, FI.start E n, FB.start h⟩
/-- The step that stands at x, j of its list done. -/
structure FJ (N : Nat) (E : List (Nat × Nat)) (A : Nat → List Nat) (n k x : Nat) (F0 : Nat → Int) (T0 : List Nat) (j : Nat) (F : Nat → Int) (T : List Nat) : Prop where
  eq : bfI ((A x).take j) (F0 x) (F0, T0) = (F, T)
  fi : FI E n [x] ((A x).take j) F T
  fb : FB N (k + 1) F T
  at' : F x = F0 x
theorem FJ.start {N : Nat} {E : List (Nat × Nat)} {A : Nat → List Nat} {n k x : Nat} {F : Nat → Int} {T : List Nat} (h : FK N E A n k F (x :: T)) : FJ N E A n k x F T 0 F T := ⟨rfl, by rw [List.take_zero]; exact h.fi.pop, h.fb.pop, rfl⟩
theorem FJ.one {N : Nat} {E : List (Nat × Nat)} {A : Nat → List Nat} {n k x : Nat} {F0 : Nat → Int} {T0 : List Nat} {j : Nat} {F : Nat → Int} {T : List Nat} (hA : ∀ x y, y ∈ A x ↔ (y, x) ∈ E) (hN : ∀ x, ∀ y ∈ A x, y < N) (hx : F0 x ≤ k) (h : FJ N E A n k x F0 T0 j F T) (hj : j < (A x).length) :
    FJ N E A n k x F0 T0 (j + 1) (bf1 (F x) (F, T) (A x)[j]).1 (bf1 (F x) (F, T) (A x)[j]).2 := by
  have e := List.take_succ_eq_append_getElem hj
  obtain ⟨q1, q2⟩ := h.fi.one ((hA x (A x)[j]).1 (List.getElem_mem hj))
  refine ⟨?_, by rw [e]; exact q1, h.fb.one (by rw [h.at']; exact hx) (h.fi.xq x (.head _)) (hN x _ (List.getElem_mem hj)), q2.trans h.at'⟩
  rw [e, bfI_snoc, h.eq, h.at']
theorem FJ.fin {N : Nat} {E : List (Nat × Nat)} {A : Nat → List Nat} {n k x : Nat} {F0 : Nat → Int} {T0 : List Nat} {F : Nat → Int} {T : List Nat} (hA : ∀ x y, y ∈ A x ↔ (y, x) ∈ E) (h0 : FK N E A n k F0 (x :: T0)) (h : FJ N E A n k x F0 T0 (A x).length F T) : FK N E A n (k + 1) F T := by
  have e := h.eq
  have f := h.fi
  rw [List.take_length] at e f
  refine ⟨?_, f.fin fun y hy => (hA x y).2 hy, h.fb⟩
  show bfS A (bfN A _ k) = _
  rw [h0.eq]
  exact e
end Go.Proofs.Ytkmokoiilmdfbaa
