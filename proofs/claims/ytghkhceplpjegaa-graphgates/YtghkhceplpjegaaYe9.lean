/- Graph: nearest. -/
import Derived.Test.YtghkhceplpjegaaYe5
import Derived.Test.YtghkhceplpjegaaYg1
namespace Go.Proofs.Ytghkhceplpjegaa
open Go.RowKit

set_option maxHeartbeats 4000000 in
theorem visA_any {w0 : World} {N lb bs B : Nat} {vs : List Sl} {A : Nat → List Nat} (hN : N ≤ 4096) {W : World} {S : Nat → Bool} {L : List Nat} (h : RJ w0 N lb bs B vs A W S L) (x : Nat) (hx : x < N) (hxS : S x = true) (hxL : x ∉ L) : Calls Try.prog 69 #[.int .i64 x, .pointer (some ⟨B, 0, none⟩)] W fun e w' => e = .returned (.tuple #[]) ∧ RJ w0 N lb bs B vs A w' S (L ++ [x]) := by
  obtain ⟨q, c, h1, h2, h3⟩ := h.bx
  have ll := nd_len h.ll
  have LS : Hid (((nI L).length + 1) * KI.B ≤ 140737488355328) := by show (_ + 1) * 8 ≤ _; rw [nI_len]; omega
  have VS := hid (fun w1 w8 g8 c8 => h.vis (w1 := w1) (w8 := w8) (g8 := g8) (c8 := c8) hx hxS hxL h1 h2 h3)
  have x0 : W.cell? ⟨B, 0, none⟩ = some (.slice q L.length c) := cell_of_row _ _ _ _ _ _ h1
  have O1 := hid h2
  have BS : Hid (w0.heap.size ≤ W.heap.size) := h.bl.size
  have e0 := nI_len L
  rw [e0] at LS
  have AP := hid (fun (g8 c8 : Nat) (w8 : World) (ho : OwnG KI w8 w0.heap.size (.slice (some ⟨g8, 0, none⟩) ((nI L).length + 1) c8) (nI L ++ [(x : Int)])) => (by rw [e0] at ho; exact ho : OwnG KI w8 w0.heap.size (.slice (some ⟨g8, 0, none⟩) (L.length + 1) c8) (nI L ++ [(x : Int)])))
  clear h h1 h2 h3 hxS hxL ll
  obtain ⟨R, hR⟩ : ∃ R, R = nI L := ⟨_, rfl⟩
  rw [← hR] at O1 AP VS e0
  have EL : Hid (R.length = L.length) := e0
  rw [← e0] at LS VS AP O1 x0
  clear e0 hR
  go_enter Try.func69, Try.ntmps69
  go_wp2_with (at_builtin; refine append_g KI KI_ok rfl (.tmp 3) (.tmp 5) 25 rfl w0.heap.size Try.underlying25 W _ _ (.slice q R.length c) R (x : Int) _ rfl O1.out W.heap.size rfl rfl rfl LS.out BS.out ?_; intro g5 cp5 w5 ho5 hb5 hk5 hg5; obtain ⟨k1, k2, k3⟩ := VS.out W w5 g5 cp5 (Below.refl _ _) ho5 hb5 hk5 hg5; have K1 := hid k1; clear k1 ho5 hb5 hk5 hg5)
  go_end0
  exact ⟨rfl, K1.out⟩
set_option maxHeartbeats 4000000 in
theorem visB_any {w0 : World} {N lb bs B : Nat} {vs : List Sl} {A : Nat → List Nat} (hN : N ≤ 4096) {W : World} {S : Nat → Bool} {L : List Nat} (h : RJ w0 N lb bs B vs A W S L) (x : Nat) (hx : x < N) (hxS : S x = true) (hxL : x ∉ L) : Calls Try.prog 70 #[.int .i64 x, .pointer (some ⟨B, 0, none⟩)] W fun e w' => e = .returned (.tuple #[]) ∧ RJ w0 N lb bs B vs A w' S (L ++ [x]) := by
  obtain ⟨q, c, h1, h2, h3⟩ := h.bx
  have ll := nd_len h.ll
  have LS : Hid (((nI L).length + 1) * KI.B ≤ 140737488355328) := by show (_ + 1) * 8 ≤ _; rw [nI_len]; omega
  have VS := hid (fun w1 w8 g8 c8 => h.vis (w1 := w1) (w8 := w8) (g8 := g8) (c8 := c8) hx hxS hxL h1 h2 h3)
  have x0 : W.cell? ⟨B, 0, none⟩ = some (.slice q L.length c) := cell_of_row _ _ _ _ _ _ h1
  have O1 := hid h2
  have BS : Hid (w0.heap.size ≤ W.heap.size) := h.bl.size
  have e0 := nI_len L
  rw [e0] at LS
  have AP := hid (fun (g8 c8 : Nat) (w8 : World) (ho : OwnG KI w8 w0.heap.size (.slice (some ⟨g8, 0, none⟩) ((nI L).length + 1) c8) (nI L ++ [(x : Int)])) => (by rw [e0] at ho; exact ho : OwnG KI w8 w0.heap.size (.slice (some ⟨g8, 0, none⟩) (L.length + 1) c8) (nI L ++ [(x : Int)])))
  clear h h1 h2 h3 hxS hxL ll
  obtain ⟨R, hR⟩ : ∃ R, R = nI L := ⟨_, rfl⟩
  rw [← hR] at O1 AP VS e0
  have EL : Hid (R.length = L.length) := e0
  rw [← e0] at LS VS AP O1 x0
  clear e0 hR
  go_enter Try.func70, Try.ntmps70
  go_wp2_with (at_builtin; refine append_g KI KI_ok rfl (.tmp 3) (.tmp 5) 25 rfl w0.heap.size Try.underlying25 W _ _ (.slice q R.length c) R (x : Int) _ rfl O1.out W.heap.size rfl rfl rfl LS.out BS.out ?_; intro g5 cp5 w5 ho5 hb5 hk5 hg5; obtain ⟨k1, k2, k3⟩ := VS.out W w5 g5 cp5 (Below.refl _ _) ho5 hb5 hk5 hg5; have K1 := hid k1; clear k1 ho5 hb5 hk5 hg5)
  go_end0
  exact ⟨rfl, K1.out⟩
/-- Two components by their first nodes. -/
theorem cmp_any (w : World) (X Y o o2 na nb ca cb : Nat) (a b : Nat) (ha : a < 4096) (hb : b < 4096) (h1 : w.cell? ⟨X, o, none⟩ = some (.int .i64 a)) (h2 : w.cell? ⟨Y, o2, none⟩ = some (.int .i64 b)) (h3 : 0 < na) (h4 : 0 < nb) : Calls Try.prog 72 #[.slice (some ⟨X, o, none⟩) na ca, .slice (some ⟨Y, o2, none⟩) nb cb] w fun e w' => e = .returned (.int .i64 ((a : Int) - (b : Int))) ∧ ∃ q os', w' = Go.Sort.grow (w.drewN q) os' := by
  have h3i : (0 : Int) < (na : Nat) := by omega
  have h4i : (0 : Int) < (nb : Nat) := by omega
  have e1 : o + 0 = o := Nat.add_zero o
  go_enter Try.func72, Try.ntmps72
  have hs : IntKind.i64.wrap ((a : Int) - (b : Int)) = (a : Int) - (b : Int) := IntWalk.i64_in _ (by omega)
  go_wp2
  go_quiet (fail)
  go_wp2
  go_ret
  exact ⟨rfl, nq, #[], by rw [Go.Sort.grow_empty]⟩
end Go.Proofs.Ytghkhceplpjegaa
namespace Go.Proofs.Ytghkhceplpjegaa
open Go.RowKit

def upF (F : Nat → Int) (y : Nat) (d : Int) : Nat → Int := fun x => if x = y then d else F x
/-- One node of the list that the search stands at. -/
def bf1 (d : Int) (s : (Nat → Int) × List Nat) (y : Nat) : (Nat → Int) × List Nat := if s.1 y < 0 then (upF s.1 y (d + 1), s.2 ++ [y]) else s
def bfI (l : List Nat) (d : Int) (s : (Nat → Int) × List Nat) : (Nat → Int) × List Nat := l.foldl (bf1 d) s
theorem bfI_snoc (l : List Nat) (y : Nat) (d : Int) (s : (Nat → Int) × List Nat) : bfI (l ++ [y]) d s = bf1 d (bfI l d s) y := by unfold bfI; rw [List.foldl_append]; rfl
/-- One step of the search. -/
def bfS (A : Nat → List Nat) (s : (Nat → Int) × List Nat) : (Nat → Int) × List Nat := match s.2 with
  | [] => s
  | x :: T => bfI (A x) (s.1 x) (s.1, T)
def bfN (A : Nat → List Nat) (s : (Nat → Int) × List Nat) : Nat → (Nat → Int) × List Nat
  | 0 => s
  | k + 1 => bfS A (bfN A s k)
theorem bfN_done {A : Nat → List Nat} {s : (Nat → Int) × List Nat} {k : Nat} (h : (bfN A s k).2 = []) (m : Nat) : bfN A s (k + m) = bfN A s k := by
  induction m with
  | zero => rfl
  | succ m ih =>
    show bfS A (bfN A s (k + m)) = _
    rw [ih]
    unfold bfS
    rw [h]
/-- Where it ends it ends with one answer. -/
theorem bfN_one {A : Nat → List Nat} {s : (Nat → Int) × List Nat} {k m : Nat} (h : (bfN A s k).2 = []) (h2 : (bfN A s m).2 = []) : bfN A s k = bfN A s m := by
  rcases Nat.le_total k m with e | e
  · rw [← bfN_done h (m - k), show k + (m - k) = m by omega]
  · rw [← bfN_done h2 (k - m), show m + (k - m) = k by omega]
/-- What holds all along: x is the node that the search stands at, the ones of l are done. -/
structure FI (E : List (Nat × Nat)) (n : Nat) (xs l : List Nat) (F : Nat → Int) (T : List Nat) : Prop where
  n0 : F n = 0
  lo : ∀ y, F y = -1 ∨ 0 ≤ F y
  pa : ∀ y, 0 ≤ F y → y = n ∨ ∃ z, (y, z) ∈ E ∧ 0 ≤ F z ∧ F y = F z + 1
  ze : ∀ y, F y = 0 → y = n
  td : ∀ z, 0 ≤ F z → z ∈ T ∨ z ∈ xs ∨ ∀ y, (y, z) ∈ E → 0 ≤ F y
  tq : ∀ z ∈ T, 0 ≤ F z
  xq : ∀ z ∈ xs, 0 ≤ F z
  dn : ∀ y ∈ l, 0 ≤ F y
theorem FI.start (E : List (Nat × Nat)) (n : Nat) : FI E n [] [] (upF (fun _ => -1) n 0) [n] := by
  have u : ∀ y, 0 ≤ upF (fun _ => -1) n 0 y → y = n := fun y h => by
    unfold upF at h
    by_cases e : y = n
    · exact e
    · rw [if_neg e] at h; exact absurd h (by show ¬ (0 : Int) ≤ -1; decide)
  refine ⟨by simp [upF], fun y => ?_, fun y h => Or.inl (u y h), fun y h => u y (by omega), fun z h => Or.inl (by rw [u z h]; simp), fun z hz => ?_, by simp, by simp⟩
  · unfold upF; split <;> simp
  · rw [List.mem_singleton] at hz; rw [hz]; simp [upF]
theorem FI.one {E : List (Nat × Nat)} {n x : Nat} {l : List Nat} {F : Nat → Int} {T : List Nat} {y : Nat} (h : FI E n [x] l F T) (hy : (y, x) ∈ E) : FI E n [x] (l ++ [y]) (bf1 (F x) (F, T) y).1 (bf1 (F x) (F, T) y).2 ∧ (bf1 (F x) (F, T) y).1 x = F x := by
  have hx := h.xq x (.head _)
  unfold bf1
  by_cases e : F y < 0
  · rw [if_pos e]
    have k : ∀ z, 0 ≤ F z → upF F y (F x + 1) z = F z := fun z hz => by
      unfold upF
      rw [if_neg (fun q => by rw [q] at hz; omega)]
    have kk : ∀ z, 0 ≤ upF F y (F x + 1) z → z = y ∨ (z ≠ y ∧ 0 ≤ F z) := fun z hz => by
      by_cases q : z = y
      · exact Or.inl q
      · unfold upF at hz; rw [if_neg q] at hz; exact Or.inr ⟨q, hz⟩
    have ky : upF F y (F x + 1) y = F x + 1 := by simp [upF]
    refine ⟨⟨?_, fun z => ?_, fun z hz => ?_, fun z hz => ?_, fun z hz => ?_, fun z hz => ?_, fun z hz => ?_, fun z hz => ?_⟩, k x hx⟩
    · show upF F y (F x + 1) n = 0
      rw [k n (by rw [h.n0]; omega)]; exact h.n0
    · show upF F y (F x + 1) z = -1 ∨ 0 ≤ upF F y (F x + 1) z
      by_cases q : z = y
      · rw [q, ky]; omega
      · unfold upF; rw [if_neg q]; exact h.lo z
    · show z = n ∨ ∃ v, (z, v) ∈ E ∧ 0 ≤ upF F y (F x + 1) v ∧ upF F y (F x + 1) z = upF F y (F x + 1) v + 1
      rcases kk z hz with q | ⟨q, hz2⟩
      · refine Or.inr ⟨x, by rw [q]; exact hy, by rw [k x hx]; exact hx, by rw [q, ky, k x hx]⟩
      · rcases h.pa z hz2 with r | ⟨v, r1, r2, r3⟩
        · exact Or.inl r
        · exact Or.inr ⟨v, r1, by rw [k v r2]; exact r2, by rw [k v r2, k z hz2]; exact r3⟩
    · have hz : upF F y (F x + 1) z = 0 := hz
      rcases kk z (by omega) with q | ⟨q, hz2⟩
      · rw [q, ky] at hz; omega
      · rw [k z hz2] at hz; exact h.ze z hz
    · show z ∈ T ++ [y] ∨ z ∈ [x] ∨ ∀ v, (v, z) ∈ E → 0 ≤ upF F y (F x + 1) v
      rcases kk z hz with q | ⟨q, hz2⟩
      · exact Or.inl (by rw [q]; simp)
      · rcases h.td z hz2 with r | r | r
        · exact Or.inl (List.mem_append.2 (Or.inl r))
        · exact Or.inr (Or.inl r)
        · exact Or.inr (Or.inr fun v hv => by rw [k v (r v hv)]; exact r v hv)
    · show 0 ≤ upF F y (F x + 1) z
      have hz : z ∈ T ++ [y] := hz
      rcases List.mem_append.1 hz with r | r
      · rw [k z (h.tq z r)]; exact h.tq z r
      · rw [List.mem_singleton] at r; rw [r, ky]; omega
    · show 0 ≤ upF F y (F x + 1) z
      rw [k z (h.xq z hz)]; exact h.xq z hz
    · show 0 ≤ upF F y (F x + 1) z
      rcases List.mem_append.1 hz with r | r
      · rw [k z (h.dn z r)]; exact h.dn z r
      · rw [List.mem_singleton] at r; rw [r, ky]; omega
  · rw [if_neg e]
    refine ⟨⟨h.n0, h.lo, h.pa, h.ze, h.td, h.tq, h.xq, fun z hz => ?_⟩, rfl⟩
    rcases List.mem_append.1 hz with r | r
    · exact h.dn z r
    · rw [List.mem_singleton] at r; rw [r]; show 0 ≤ F y; omega
theorem FI.pop {E : List (Nat × Nat)} {n x : Nat} {F : Nat → Int} {T : List Nat} (h : FI E n [] [] F (x :: T)) : FI E n [x] [] F T :=
  ⟨h.n0, h.lo, h.pa, h.ze, fun z hz => by
    rcases h.td z hz with r | r | r
    · rcases List.mem_cons.1 r with q | q
      · exact Or.inr (Or.inl (by rw [q]; simp))
      · exact Or.inl q
    · cases r
    · exact Or.inr (Or.inr r), fun z hz => h.tq z (.tail _ hz), fun z hz => by rw [List.mem_singleton] at hz; rw [hz]; exact h.tq x (.head _), by simp⟩
theorem FI.fin {E : List (Nat × Nat)} {n x : Nat} {l : List Nat} {F : Nat → Int} {T : List Nat} (h : FI E n [x] l F T) (hl : ∀ y, (y, x) ∈ E → y ∈ l) : FI E n [] [] F T :=
  ⟨h.n0, h.lo, h.pa, h.ze, fun z hz => by
    rcases h.td z hz with r | r | r
    · exact Or.inl r
    · rw [List.mem_singleton] at r
      subst r
      exact Or.inr (Or.inr fun y hy => h.dn y (hl y hy))
    · exact Or.inr (Or.inr r), h.tq, by simp, by simp⟩
/-- At its end: whoever has a way to it, or is it, has a number; each but it leads to one that is nearer by 1. -/
theorem FI.reach {E : List (Nat × Nat)} {n : Nat} {F : Nat → Int} (h : FI E n [] [] F []) (y : Nat) : 0 ≤ F y ↔ Rs (ed E) y n := by
  constructor
  · intro hy
    obtain ⟨k, hk⟩ : ∃ k : Nat, F y = k := ⟨(F y).toNat, by omega⟩
    clear hy
    induction k generalizing y with
    | zero => rw [h.ze y hk]; exact Rs.refl _ _
    | succ k ih =>
      rcases h.pa y (by omega) with r | ⟨z, r1, r2, r3⟩
      · rw [r]; exact Rs.refl _ _
      · exact Or.inr (Rs.step r1 (ih z (by omega)))
  · intro hy
    have : Rs (fun a b => ed E b a) n y := hy.flip
    refine Rs.ind (P := fun x => 0 ≤ F x) (fun a b ha hab => ?_) this (by show 0 ≤ F n; rw [h.n0]; omega)
    rcases h.td a ha with r | r | r
    · cases r
    · cases r
    · exact r b hab
/-- The first of them that is no farther than any; -1 if there is a way from none. -/
def nr1 (F : Nat → Int) (b : Int) (y : Nat) : Int := if 0 ≤ F y ∧ (b < 0 ∨ F y < F b.toNat) then y else b
def nrL (F : Nat → Int) (l : List Nat) : Int := l.foldl (nr1 F) (-1)
theorem nrL_snoc (F : Nat → Int) (l : List Nat) (y : Nat) : nrL F (l ++ [y]) = nr1 F (nrL F l) y := by unfold nrL; rw [List.foldl_append]; rfl
theorem nrL_is (F : Nat → Int) (l : List Nat) : (nrL F l = -1 ∧ ∀ y ∈ l, F y < 0) ∨ ∃ b : Nat, nrL F l = b ∧ b ∈ l ∧ 0 ≤ F b ∧ ∀ y ∈ l, 0 ≤ F y → F b ≤ F y := by
  have key : ∀ (l p : List Nat), ((nrL F p = -1 ∧ ∀ y ∈ p, F y < 0) ∨ ∃ b : Nat, nrL F p = b ∧ b ∈ p ∧ 0 ≤ F b ∧ ∀ y ∈ p, 0 ≤ F y → F b ≤ F y) → ((nrL F (p ++ l) = -1 ∧ ∀ y ∈ p ++ l, F y < 0) ∨ ∃ b : Nat, nrL F (p ++ l) = b ∧ b ∈ p ++ l ∧ 0 ≤ F b ∧ ∀ y ∈ p ++ l, 0 ≤ F y → F b ≤ F y) := by
    intro l
    induction l with
    | nil => intro p h; rw [List.append_nil]; exact h
    | cons a l ih =>
      intro p h
      have e : p ++ a :: l = (p ++ [a]) ++ l := by simp
      rw [e]
      refine ih (p ++ [a]) ?_
      rw [nrL_snoc]
      unfold nr1
      rcases h with ⟨h1, h2⟩ | ⟨b, h1, h2, h3, h4⟩
      · rw [h1]
        by_cases ha : 0 ≤ F a
        · rw [if_pos ⟨ha, Or.inl (by omega)⟩]
          refine Or.inr ⟨a, rfl, by simp, ha, fun y hy hy2 => ?_⟩
          rcases List.mem_append.1 hy with r | r
          · have := h2 y r; omega
          · rw [List.mem_singleton] at r; rw [r]; omega
        · rw [if_neg (fun q => ha q.1)]
          refine Or.inl ⟨rfl, fun y hy => ?_⟩
          rcases List.mem_append.1 hy with r | r
          · exact h2 y r
          · rw [List.mem_singleton] at r; rw [r]; omega
      · rw [h1]
        have eb : ((b : Int)).toNat = b := by simp
        rw [eb]
        by_cases ha : 0 ≤ F a ∧ F a < F b
        · rw [if_pos ⟨ha.1, Or.inr ha.2⟩]
          refine Or.inr ⟨a, rfl, by simp, ha.1, fun y hy hy2 => ?_⟩
          rcases List.mem_append.1 hy with r | r
          · have := h4 y r hy2; omega
          · rw [List.mem_singleton] at r; rw [r]; omega
        · have hq : ¬ (0 ≤ F a ∧ ((b : Int) < 0 ∨ F a < F b)) := fun q => ha ⟨q.1, q.2.resolve_left (by omega)⟩
          rw [if_neg hq]
          refine Or.inr ⟨b, rfl, List.mem_append.2 (Or.inl h2), h3, fun y hy hy2 => ?_⟩
          rcases List.mem_append.1 hy with r | r
          · exact h4 y r hy2
          · rw [List.mem_singleton] at r
            subst r
            omega
  have := key l [] (Or.inl ⟨rfl, by simp⟩)
  rw [List.nil_append] at this
  exact this
/-- From a node that has a way to it, and is not it, the next one is nearer. -/
theorem nr_falls {N : Nat} {E : List (Nat × Nat)} (hg : GOK N E) {n y : Nat} {F : Nat → Int} (h : FI E n [] [] F []) (hy : 0 ≤ F y) (hn : y ≠ n) : ∃ b : Nat, nrL F (nx N E y) = b ∧ b < N ∧ 0 ≤ F b ∧ F b < F y := by
  rcases h.pa y hy with r | ⟨z, r1, r2, r3⟩
  · exact absurd r hn
  · have hz : z ∈ nx N E y := (nx_mem hg).2 r1
    rcases nrL_is F (nx N E y) with ⟨_, q⟩ | ⟨b, q1, q2, q3, q4⟩
    · have := q z hz; omega
    · have := q4 z hz r2
      exact ⟨b, q1, (hg.lt _ ((nx_mem hg).1 q2)).2, q3, by omega⟩
/-- The first step: there is one just if the node goes round. -/
theorem nr_first {N : Nat} {E : List (Nat × Nat)} (hg : GOK N E) {n : Nat} {F : Nat → Int} (h : FI E n [] [] F []) : (nrL F (nx N E n) = -1 ∧ wyB E (-1) [n] n = false) ∨ ∃ b : Nat, nrL F (nx N E n) = b ∧ b < N ∧ 0 ≤ F b ∧ wyB E (-1) [n] n = true := by
  rcases nrL_is F (nx N E n) with ⟨q1, q2⟩ | ⟨b, q1, q2, q3, _⟩
  · refine Or.inl ⟨q1, ?_⟩
    rw [Bool.eq_false_iff]
    intro e
    obtain ⟨z, z1, z2⟩ := (wyB_self.1 e).first
    have := q2 z ((nx_mem hg).2 z1)
    have := (h.reach z).2 z2
    omega
  · have e := (nx_mem hg).1 q2
    exact Or.inr ⟨b, q1, (hg.lt _ e).2, q3, wyB_self.2 (Rs.step e ((h.reach b).1 q3))⟩
end Go.Proofs.Ytghkhceplpjegaa
namespace Go.Proofs.Ytghkhceplpjegaa
open Go.RowKit

theorem far_at {w : World} {p : Option Addr} {n cap N : Nat} {F : Nat → Int} (h : GS KI w (.slice p n cap) ((List.range N).map F)) {y : Nat} (hy : y < N) : ∃ X o, p = some ⟨X, o, none⟩ ∧ w.cell? ⟨X, o + y, none⟩ = some (.int .i64 (F y)) := by
  obtain ⟨X, o, e, hc⟩ := h.atI (k := y) (by simpa using hy)
  refine ⟨X, o, e, ?_⟩
  rw [hc]
  simp
end Go.Proofs.Ytghkhceplpjegaa
