/- Graphs, plain: the document's search; what can be reached. -/
import Derived.Test.YtghkhceplpjegaaYa1
import Derived.Lib.SlicesCompact
namespace Go.Proofs.Ytghkhceplpjegaa
open Go.RowKit

def nI (l : List Nat) : List Int := l.map fun (x : Nat) => (x : Int)
theorem nI_len (l : List Nat) : (nI l).length = l.length := by simp [nI]
theorem nI_app (l m : List Nat) : nI (l ++ m) = nI l ++ nI m := by simp [nI]
theorem nI_mem {l : List Nat} {x : Int} : x ∈ nI l ↔ ∃ k : Nat, k ∈ l ∧ x = k := by
  simp only [nI, List.mem_map]
  constructor
  · rintro ⟨k, h, e⟩; exact ⟨k, h, e.symm⟩
  · rintro ⟨k, h, e⟩; exact ⟨k, h, e.symm⟩
theorem nI_at {l : List Nat} {k : Nat} (h : k < l.length) : (nI l)[k]'(by rw [nI_len]; exact h) = (l[k] : Int) := by simp [nI]
theorem nI_inj {l m : List Nat} (h : nI l = nI m) : l = m := by
  have : (nI l).map Int.toNat = (nI m).map Int.toNat := by rw [h]
  simpa [nI, Function.comp_def] using this
/-- Numbers that rise, each of them one of these, are these. -/
theorem int_ris {n : Nat} {p : Nat → Bool} {M : List Int} (hp : M.Pairwise (· < ·)) (hm : ∀ x, x ∈ M ↔ ∃ k : Nat, x = k ∧ k < n ∧ p k = true) : M = nI (ris n p) := by
  have e : M = nI (M.map Int.toNat) := by
    have : ∀ L : List Int, (∀ x ∈ L, 0 ≤ x) → L = nI (L.map Int.toNat) := fun L => by
      induction L with
      | nil => intro _; rfl
      | cons a r ih =>
        intro h
        have h1 := h a (.head _)
        show a :: r = (↑a.toNat : Int) :: nI (r.map Int.toNat)
        rw [← ih fun x hx => h x (.tail _ hx), Int.toNat_of_nonneg h1]
    exact this M fun x hx => by obtain ⟨k, h, _⟩ := (hm x).1 hx; omega
  rw [e]
  refine congrArg nI (ris_uniq ?_ fun x => ?_)
  · rw [List.pairwise_map]
    refine hp.imp_of_mem fun {a b} ha hb hab => ?_
    obtain ⟨k, h1, _⟩ := (hm a).1 ha
    obtain ⟨j, h2, _⟩ := (hm b).1 hb
    omega
  · rw [List.mem_map]
    constructor
    · rintro ⟨a, ha, rfl⟩
      obtain ⟨k, h1, h2⟩ := (hm a).1 ha
      rw [h1]
      simpa using h2
    · intro hx
      exact ⟨x, (hm x).2 ⟨x, rfl, hx⟩, by simp⟩
/-- Sorted. -/
theorem srt_pair (l : List Int) : (l.mergeSort fun x y => decide (x ≤ y)).Pairwise (· ≤ ·) := by
  have := List.pairwise_mergeSort (le := fun (x y : Int) => decide (x ≤ y)) (by intro a b c h1 h2; simp at *; omega) (by intro a b; simp; omega) l
  exact this.imp fun h => by simpa using h
theorem srt_up {l : List Int} (h : l.Nodup) : (l.mergeSort fun x y => decide (x ≤ y)).Pairwise (· < ·) := by
  have h1 := srt_pair l
  have h2 : (l.mergeSort fun x y => decide (x ≤ y)).Nodup := (List.mergeSort_perm l _).nodup_iff.2 h
  exact (h1.and h2).imp fun {a b} ⟨h3, h4⟩ => by
    have h4 : a ≠ b := h4
    omega
theorem srt_mem {l : List Int} {x : Int} : x ∈ (l.mergeSort fun x y => decide (x ≤ y)) ↔ x ∈ l := List.mem_mergeSort
theorem nI_nodup {l : List Nat} (h : l.Nodup) : (nI l).Nodup := by
  unfold nI List.Nodup
  rw [List.pairwise_map]
  exact h.imp fun hab e => hab (by omega)
/-- Each once. -/
theorem cpt_up {l : List Int} (h : l.Pairwise (· ≤ ·)) : (Go.Lib.compact l).Pairwise (· < ·) := by
  unfold Go.Lib.compact Go.Lib.compactUpTo
  rw [List.pairwise_map]
  have hr : ((List.range l.length).filter (Go.Lib.keeps l.toArray)).Pairwise (· < ·) := List.Pairwise.filter _ List.pairwise_lt_range
  refine hr.imp_of_mem fun {a b} ha hb hab => ?_
  rw [List.mem_filter, List.mem_range] at ha hb
  have hb2 : b = 0 ∨ l.toArray[b]! ≠ l.toArray[b - 1]! := by simpa [Go.Lib.keeps] using hb.2
  have hb3 : l.toArray[b]! ≠ l.toArray[b - 1]! := by
    rcases hb2 with e | e
    · omega
    · exact e
  have g : ∀ i, i < l.length → l.toArray[i]! = l[i]! := fun i hi => by simp
  have le : ∀ i j, i ≤ j → j < l.length → l[i]! ≤ l[j]! := fun i j hij hj => by
    by_cases e : i = j
    · subst e; omega
    · rw [getElem!_pos l i (by omega), getElem!_pos l j hj]
      exact (List.pairwise_iff_getElem.1 h) i j (by omega) hj (by omega)
  rw [g a (by omega), g b (by omega)]
  rw [g b (by omega), g (b - 1) (by omega)] at hb3
  have h1 := le a (b - 1) (by omega) (by omega)
  have h2 := le (b - 1) b (by omega) (by omega)
  omega
theorem cpt_mem {l : List Int} {x : Int} : x ∈ Go.Lib.compact l ↔ x ∈ l := by
  unfold Go.Lib.compact Go.Lib.compactUpTo
  rw [List.mem_map]
  constructor
  · rintro ⟨k, hk, rfl⟩
    rw [List.mem_filter, List.mem_range] at hk
    have : l.toArray[k]! = l[k] := by simp [hk.1]
    rw [this]
    exact List.getElem_mem _
  · intro hx
    have key : ∀ m, m ≤ l.length → (∃ k, k < m ∧ l.toArray[k]! = x) → ∃ k, (k < m ∧ Go.Lib.keeps l.toArray k = true) ∧ l.toArray[k]! = x := fun m => by
      induction m with
      | zero => rintro _ ⟨k, h, _⟩; omega
      | succ m ih =>
        rintro hm ⟨k, hk, e⟩
        by_cases h2 : ∃ j, j < m ∧ l.toArray[j]! = x
        · obtain ⟨j, ⟨h3, h4⟩, h5⟩ := ih (by omega) h2
          exact ⟨j, ⟨by omega, h4⟩, h5⟩
        · have hkm : k = m := by
            by_cases h3 : k = m
            · exact h3
            · exact absurd ⟨k, by omega, e⟩ h2
          subst hkm
          refine ⟨k, ⟨by omega, ?_⟩, e⟩
          unfold Go.Lib.keeps
          rw [decide_eq_true_iff]
          by_cases h0 : k = 0
          · exact Or.inl h0
          · right
            intro e2
            exact h2 ⟨k - 1, by omega, by rw [← e2]; exact e⟩
    obtain ⟨i, hi, e⟩ := List.mem_iff_getElem.1 hx
    obtain ⟨k, ⟨h1, h2⟩, h3⟩ := key l.length (Nat.le_refl _) ⟨i, hi, by simp [hi, e]⟩
    exact ⟨k, by rw [List.mem_filter, List.mem_range]; exact ⟨h1, h2⟩, h3⟩

/-- Both ends are nodes. -/
def edB (n : Int) (x : Int × Int) : Bool := (decide (0 ≤ x.1) && decide (x.1 < n)) && (decide (0 ≤ x.2) && decide (x.2 < n))
/-- What Check answers. -/
def chkG (n : Int) (e : List (Int × Int)) : Int := if n < 0 ∨ 4096 < n then 1 else if 16384 < e.length then 3 else if e.all (edB n) then 0 else 1
def eI (E : List (Nat × Nat)) : List (Int × Int) := E.map fun (x : Nat × Nat) => ((x.1 : Int), (x.2 : Int))
theorem eI_len (E : List (Nat × Nat)) : (eI E).length = E.length := by simp [eI]
theorem eI_at {E : List (Nat × Nat)} {k : Nat} (h : k < E.length) : (eI E)[k]'(by rw [eI_len]; exact h) = ((E[k].1 : Int), (E[k].2 : Int)) := by simp [eI]
/-- A right graph. -/
structure GOK (N : Nat) (E : List (Nat × Nat)) : Prop where
  n : N ≤ 4096
  e : E.length ≤ 16384
  lt : ∀ x ∈ E, x.1 < N ∧ x.2 < N
theorem chkG_ok {n : Int} {e : List (Int × Int)} (h : chkG n e = 0) : ∃ N E, n = (N : Nat) ∧ e = eI E ∧ GOK N E := by
  unfold chkG at h
  split at h
  · cases h
  · rename_i h1
    split at h
    · cases h
    · rename_i h2
      split at h
      · rename_i h3
        rw [List.all_eq_true] at h3
        have key : ∀ l : List (Int × Int), (∀ x ∈ l, edB n x = true) → l = eI (l.map fun x => (x.1.toNat, x.2.toNat)) := fun l => by
          induction l with
          | nil => intro _; rfl
          | cons a r ih =>
            intro h
            have h4 := h a (.head _)
            simp only [edB, Bool.and_eq_true, decide_eq_true_eq] at h4
            show a :: r = ((a.1.toNat : Int), (a.2.toNat : Int)) :: eI (r.map fun x => (x.1.toNat, x.2.toNat))
            rw [← ih fun x hx => h x (.tail _ hx), Int.toNat_of_nonneg h4.1.1, Int.toNat_of_nonneg h4.2.1]
        refine ⟨n.toNat, e.map fun x => (x.1.toNat, x.2.toNat), by omega, key e h3, by omega, by simp; omega, fun x hx => ?_⟩
        rw [List.mem_map] at hx
        obtain ⟨y, hy, rfl⟩ := hx
        have h4 := h3 y hy
        simp only [edB, Bool.and_eq_true, decide_eq_true_eq] at h4
        show y.1.toNat < n.toNat ∧ y.2.toNat < n.toNat
        omega
      · cases h
theorem GOK.chk {N : Nat} {E : List (Nat × Nat)} (h : GOK N E) : chkG N (eI E) = 0 := by
  unfold chkG
  have h1 := h.n
  have h2 := h.e
  rw [if_neg (by omega), if_neg (by rw [eI_len]; omega), if_pos]
  rw [List.all_eq_true]
  intro x hx
  obtain ⟨y, hy, rfl⟩ := List.mem_map.1 hx
  have := h.lt y hy
  simp only [edB, Bool.and_eq_true, decide_eq_true_eq]
  omega
/-- An edge. -/
def ed (E : List (Nat × Nat)) (a b : Nat) : Prop := (a, b) ∈ E
/-- Where a node's edges lead, in their order. -/
def tg (E : List (Nat × Nat)) (i : Nat) : List Nat := (E.filter fun x => decide (x.1 = i)).map (·.2)
theorem tg_mem {E : List (Nat × Nat)} {i k : Nat} : k ∈ tg E i ↔ (i, k) ∈ E := by
  simp only [tg, List.mem_map, List.mem_filter, decide_eq_true_eq]
  constructor
  · rintro ⟨⟨a, b⟩, ⟨h1, h2⟩, h3⟩
    simp only at h2 h3
    subst h2 h3
    exact h1
  · intro h; exact ⟨(i, k), ⟨h, rfl⟩, rfl⟩
theorem tg_snoc (E : List (Nat × Nat)) (x : Nat × Nat) (i : Nat) : tg (E ++ [x]) i = if i = x.1 then tg E i ++ [x.2] else tg E i := by
  unfold tg
  rw [List.filter_append, List.map_append]
  by_cases h : i = x.1
  · rw [if_pos h]; subst h; simp
  · rw [if_neg h]
    have : ¬ x.1 = i := fun e => h e.symm
    simp [this]
theorem tg_len (E : List (Nat × Nat)) (i : Nat) : (tg E i).length ≤ E.length := by
  unfold tg
  rw [List.length_map]
  exact List.length_filter_le _ _
/-- The nodes that an edge leads to from a node, rising, each once. -/
def nx (N : Nat) (E : List (Nat × Nat)) (i : Nat) : List Nat := ris N fun k => decide ((i, k) ∈ E)
theorem nx_mem {N : Nat} {E : List (Nat × Nat)} (h : GOK N E) {i k : Nat} : k ∈ nx N E i ↔ (i, k) ∈ E := by
  unfold nx
  rw [ris_mem, decide_eq_true_iff]
  exact ⟨fun h => h.2, fun hk => ⟨(h.lt _ hk).2, hk⟩⟩
theorem nx_len (N : Nat) (E : List (Nat × Nat)) (i : Nat) : (nx N E i).length ≤ N := ris_len _ _
theorem nx_of {N : Nat} {E : List (Nat × Nat)} (h : GOK N E) {i : Nat} {M : List Int} (hp : M.Pairwise (· < ·)) (hm : ∀ x, x ∈ M ↔ x ∈ nI (tg E i)) : M = nI (nx N E i) := by
  refine int_ris hp fun x => ?_
  rw [hm, nI_mem]
  constructor
  · rintro ⟨k, h1, h2⟩
    rw [tg_mem] at h1
    exact ⟨k, h2, (h.lt _ h1).2, decide_eq_true h1⟩
  · rintro ⟨k, h1, _, h3⟩
    exact ⟨k, tg_mem.2 (of_decide_eq_true h3), h1⟩
theorem nx_sorted {N : Nat} {E : List (Nat × Nat)} (h : GOK N E) (i : Nat) : Go.Lib.compact ((nI (tg E i)).mergeSort fun x y => decide (x ≤ y)) = nI (nx N E i) :=
  nx_of h (cpt_up (srt_pair _)) fun x => by rw [cpt_mem, srt_mem]
/-- The edges the other way round. -/
def tu (E : List (Nat × Nat)) : List (Nat × Nat) := E.map fun x => (x.2, x.1)
theorem tu_mem {E : List (Nat × Nat)} {a b : Nat} : (a, b) ∈ tu E ↔ (b, a) ∈ E := by
  simp only [tu, List.mem_map]
  constructor
  · rintro ⟨⟨x, y⟩, h, e⟩
    simp only [Prod.mk.injEq] at e
    rw [← e.1, ← e.2]; exact h
  · intro h; exact ⟨(b, a), h, rfl⟩
theorem tu_ok {N : Nat} {E : List (Nat × Nat)} (h : GOK N E) : GOK N (tu E) :=
  ⟨h.n, by simp only [tu, List.length_map]; exact h.e, fun x hx => by
    obtain ⟨y, hy, rfl⟩ := List.mem_map.1 hx
    exact ⟨(h.lt y hy).2, (h.lt y hy).1⟩⟩
end Go.Proofs.Ytghkhceplpjegaa
namespace Go.Proofs.Ytghkhceplpjegaa
open Go.RowKit

/-- An edge that is no node's d. -/
def edW (E : List (Nat × Nat)) (d : Int) (a b : Nat) : Prop := (a, b) ∈ E ∧ (a : Int) ≠ d ∧ (b : Int) ≠ d
theorem edW_none {E : List (Nat × Nat)} {d : Int} (hd : d < 0) {a b : Nat} : edW E d a b ↔ ed E a b := ⟨fun h => h.1, fun h => ⟨h, by omega, by omega⟩⟩
/-- The search: what was seen, what is to be done, where it began. -/
structure WyS (E : List (Nat × Nat)) (d : Int) (F : List Nat) (S : Nat → Bool) (T : List Nat) : Prop where
  le : ∀ y, S y = true → ∃ r ∈ F, Wy (edW E d) r y
  td : ∀ t ∈ T, t ∈ F ∨ S t = true
  cl : ∀ x, (x ∈ F ∨ S x = true) → x ∉ T → ∀ y, edW E d x y → S y = true
/-- .. amid the edges of one node. -/
structure WyI (E : List (Nat × Nat)) (d : Int) (F : List Nat) (S : Nat → Bool) (T : List Nat) (n i : Nat) : Prop where
  nd : (n : Int) ≠ d
  nF : n ∈ F ∨ S n = true
  le : ∀ y, S y = true → ∃ r ∈ F, Wy (edW E d) r y
  td : ∀ t ∈ T, t ∈ F ∨ S t = true
  cl : ∀ x, (x ∈ F ∨ S x = true) → x ∉ T → x ≠ n → ∀ y, edW E d x y → S y = true
  of : ∀ y ∈ (tg E n).take i, (y : Int) ≠ d → S y = true
theorem WyS.start (E : List (Nat × Nat)) (d : Int) (F : List Nat) : WyS E d F (fun _ => false) F :=
  ⟨fun _ h => (by cases h), fun _ h => Or.inl h, fun x h hn => by
    rcases h with h | h
    · exact absurd h hn
    · cases h⟩
theorem WyS.skip {E : List (Nat × Nat)} {d : Int} {F : List Nat} {S : Nat → Bool} {T : List Nat} {n : Nat} (h : WyS E d F S (T ++ [n])) (hn : (n : Int) = d) : WyS E d F S T :=
  ⟨h.le, fun t ht => h.td t (List.mem_append_left _ ht), fun x hx hT y hy => by
    by_cases e : x = n
    · subst e; exact absurd hn hy.2.1
    · exact h.cl x hx (by simp [hT, e]) y hy⟩
theorem WyS.inner {E : List (Nat × Nat)} {d : Int} {F : List Nat} {S : Nat → Bool} {T : List Nat} {n : Nat} (h : WyS E d F S (T ++ [n])) (hn : (n : Int) ≠ d) : WyI E d F S T n 0 :=
  ⟨hn, h.td n (by simp), h.le, fun t ht => h.td t (List.mem_append_left _ ht), fun x hx hT hne y hy => h.cl x hx (by simp [hT, hne]) y hy, by simp⟩
theorem WyI.fin {E : List (Nat × Nat)} {d : Int} {F : List Nat} {S : Nat → Bool} {T : List Nat} {n : Nat} (h : WyI E d F S T n (tg E n).length) : WyS E d F S T :=
  ⟨h.le, h.td, fun x hx hT y hy => by
    by_cases e : x = n
    · subst e; exact h.of y (by rw [List.take_length]; exact tg_mem.2 hy.1) hy.2.2
    · exact h.cl x hx hT e y hy⟩
theorem take_in {α : Type} {l : List α} {i : Nat} (hi : i < l.length) {y : α} (hy : y ∈ l.take (i + 1)) : y ∈ l.take i ∨ y = l[i] := by
  rw [List.take_succ_eq_append_getElem hi, List.mem_append, List.mem_singleton] at hy
  exact hy
theorem WyI.skip {E : List (Nat × Nat)} {d : Int} {F : List Nat} {S : Nat → Bool} {T : List Nat} {n i : Nat} (h : WyI E d F S T n i) (hi : i < (tg E n).length) (hs : ((tg E n)[i] : Int) = d ∨ S (tg E n)[i] = true) : WyI E d F S T n (i + 1) :=
  ⟨h.nd, h.nF, h.le, h.td, h.cl, fun y hy hd => by
    rcases take_in hi hy with e | e
    · exact h.of y e hd
    · subst e
      rcases hs with e | e
      · exact absurd e hd
      · exact e⟩
theorem WyI.push {E : List (Nat × Nat)} {d : Int} {F : List Nat} {S : Nat → Bool} {T : List Nat} {n i : Nat} (h : WyI E d F S T n i) (hi : i < (tg E n).length) (hd : ((tg E n)[i] : Int) ≠ d) : WyI E d F (adP S (tg E n)[i]) (T ++ [(tg E n)[i]]) n (i + 1) := by
  have he : edW E d n (tg E n)[i] := ⟨tg_mem.1 (List.getElem_mem hi), h.nd, hd⟩
  refine ⟨h.nd, h.nF.imp id fun e => adP_iff.2 (Or.inl e), fun y hy => ?_, fun t ht => ?_, fun x hx hT hne y hy => ?_, fun y hy hd2 => ?_⟩
  · rcases adP_iff.1 hy with e | e
    · exact h.le y e
    · subst e
      rcases h.nF with e | e
      · exact ⟨n, e, .one he⟩
      · obtain ⟨r, hr, k⟩ := h.le n e
        exact ⟨r, hr, k.snoc he⟩
  · rw [List.mem_append, List.mem_singleton] at ht
    rcases ht with ht | ht
    · exact (h.td t ht).imp id fun e => adP_iff.2 (Or.inl e)
    · exact Or.inr (adP_iff.2 (Or.inr ht))
  · simp only [List.mem_append, List.mem_singleton, not_or] at hT
    refine adP_iff.2 (Or.inl (h.cl x ?_ hT.1 hne y hy))
    rcases hx with e | e
    · exact Or.inl e
    · rcases adP_iff.1 e with e | e
      · exact Or.inr e
      · exact absurd e hT.2
  · rcases take_in hi hy with e | e
    · exact adP_iff.2 (Or.inl (h.of y e hd2))
    · exact adP_iff.2 (Or.inr e)
theorem WyS.fin {E : List (Nat × Nat)} {d : Int} {F : List Nat} {S : Nat → Bool} (h : WyS E d F S []) (y : Nat) : S y = true ↔ ∃ r ∈ F, Wy (edW E d) r y := by
  constructor
  · exact h.le y
  · rintro ⟨r, hr, k⟩
    have key : ∀ x z, Wy (edW E d) x z → (x ∈ F ∨ S x = true) → S z = true := fun x z k => by
      induction k with
      | one e => intro hx; exact h.cl _ hx (by simp) _ e
      | more e _ ih => intro hx; exact ih (Or.inr (h.cl _ hx (by simp) _ e))
    exact key r y k (Or.inl hr)
open Classical in
/-- It is one of these, or they have a way to it. -/
noncomputable def rcB (E : List (Nat × Nat)) (F : List Nat) (x : Nat) : Bool := decide (∃ r ∈ F, Rs (ed E) r x)
theorem rcB_iff {E : List (Nat × Nat)} {F : List Nat} {x : Nat} : rcB E F x = true ↔ ∃ r ∈ F, Rs (ed E) r x := by simp [rcB]
open Classical in
/-- They have a way to it, not through d. -/
noncomputable def wyB (E : List (Nat × Nat)) (d : Int) (F : List Nat) (x : Nat) : Bool := decide (∃ r ∈ F, Wy (edW E d) r x)
theorem wyB_iff {E : List (Nat × Nat)} {d : Int} {F : List Nat} {x : Nat} : wyB E d F x = true ↔ ∃ r ∈ F, Wy (edW E d) r x := by simp [wyB]
theorem WyS.is {E : List (Nat × Nat)} {d : Int} {F : List Nat} {S : Nat → Bool} (h : WyS E d F S []) : S = wyB E d F := by
  funext y
  rw [Bool.eq_iff_iff, h.fin, wyB_iff]
/-- The nodes that are given, and all that they have a way to. -/
noncomputable def reL (N : Nat) (E : List (Nat × Nat)) (F : List Nat) : List Nat := ris N (rcB E F)
theorem reL_len (N : Nat) (E : List (Nat × Nat)) (F : List Nat) : (reL N E F).length ≤ N := ris_len _ _
/-- A walk over the nodes' lists. -/
theorem DL.rc {N : Nat} {E : List (Nat × Nat)} (h : GOK N E) {S : Nat → Bool} {F L : List Nat} (k : DL (nx N E) (fun _ => false) F S L) : S = rcB E F := by
  funext y
  rw [Bool.eq_iff_iff, k.reach, rcB_iff]
  constructor
  · rintro ⟨r, hr, q⟩; exact ⟨r, hr, q.imp fun a b e => (nx_mem h).1 e⟩
  · rintro ⟨r, hr, q⟩; exact ⟨r, hr, q.imp fun a b e => (nx_mem h).2 e⟩
theorem rc_lt {N : Nat} {E : List (Nat × Nat)} (h : GOK N E) {r x : Nat} (hr : r < N) (k : Rs (ed E) r x) : x < N := Rs.ind (P := fun x => x < N) (fun _ _ _ e => (h.lt _ e).2) k hr
theorem wy_rc {E : List (Nat × Nat)} {F : List Nat} {x : Nat} : rcB E F x = true ↔ x ∈ F ∨ wyB E (-1) F x = true := by
  rw [rcB_iff, wyB_iff]
  constructor
  · rintro ⟨r, hr, rfl | k⟩
    · exact Or.inl hr
    · exact Or.inr ⟨r, hr, k.imp fun a b e => (edW_none (by omega)).2 e⟩
  · rintro (h | ⟨r, hr, k⟩)
    · exact ⟨x, h, Or.inl rfl⟩
    · exact ⟨r, hr, Or.inr (k.imp fun a b e => (edW_none (by omega)).1 e)⟩
end Go.Proofs.Ytghkhceplpjegaa
