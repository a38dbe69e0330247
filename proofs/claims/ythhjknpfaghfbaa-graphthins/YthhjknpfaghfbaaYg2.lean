/- Graph, plain: how many lead to a node that do not stand yet: each once, and edge by edge; what is ready. -/
import Derived.Test.YthhjknpfaghfbaaYg1
namespace Go.Proofs.Ythhjknpfaghfbaa
open Go.RowKit

theorem filt_len {α : Type} {p q r : α → Bool} : ∀ {l : List α}, (∀ x ∈ l, p x = (q x || r x)) → (∀ x ∈ l, ¬ (q x = true ∧ r x = true)) → (l.filter p).length = (l.filter q).length + (l.filter r).length
  | [], _, _ => rfl
  | a :: l, h, k => by
    have ih := filt_len (l := l) (fun x hx => h x (.tail _ hx)) (fun x hx => k x (.tail _ hx))
    have h1 := h a (.head _)
    have h2 := k a (.head _)
    simp only [List.filter_cons]
    cases ea : q a <;> cases eb : r a <;> simp [ea, eb] at h1 h2 <;> simp [h1] <;> omega
/-- How many nodes that lead to it do not stand. -/
def pcn (N : Nat) (A : Nat → List Nat) (D : List Nat) (x : Nat) : Nat := ((List.range N).filter fun m => decide (x ∈ A m) && !decide (m ∈ D)).length
theorem pcn_zero {N : Nat} {E : List (Nat × Nat)} (hg : GOK N E) {D : List Nat} {x : Nat} : pcn N (nx N E) D x = 0 ↔ ∀ m, (m, x) ∈ E → m ∈ D := by
  unfold pcn
  rw [List.length_eq_zero_iff, List.filter_eq_nil_iff]
  constructor
  · intro h m hm
    have := h m (List.mem_range.2 (hg.lt _ hm).1)
    simp only [Bool.and_eq_true, decide_eq_true_eq, Bool.not_eq_true', decide_eq_false_iff_not, not_and, Decidable.not_not] at this
    exact this ((nx_mem hg).2 hm)
  · intro h m _
    simp only [Bool.and_eq_true, decide_eq_true_eq, Bool.not_eq_true', decide_eq_false_iff_not, not_and, Decidable.not_not]
    exact fun hm => h m ((nx_mem hg).1 hm)
theorem one_filt {n : Nat} {p : Nat → Bool} : ∀ {l : List Nat}, l.Nodup → n ∈ l → (l.filter fun m => decide (m = n) && p m).length = if p n = true then 1 else 0
  | [], _, h => by cases h
  | a :: l, hn, h => by
    obtain ⟨h1, h2⟩ := List.nodup_cons.1 hn
    by_cases e : a = n
    · subst e
      have hz : (l.filter fun m => decide (m = a) && p m) = [] := List.filter_eq_nil_iff.2 fun m hm => by
        have : m ≠ a := fun q => h1 (by rw [← q]; exact hm)
        simp [this]
      rw [List.filter_cons, hz]
      cases p a <;> simp
    · have hm : n ∈ l := by
        rcases List.mem_cons.1 h with q | q
        · exact absurd q.symm e
        · exact q
      rw [List.filter_cons]
      simp only [e, decide_false, Bool.false_and]
      exact one_filt h2 hm
theorem pcn_snoc {N : Nat} {A : Nat → List Nat} {D : List Nat} {n : Nat} (hn : n < N) (hd : n ∉ D) (x : Nat) : pcn N A D x = pcn N A (D ++ [n]) x + if x ∈ A n then 1 else 0 := by
  unfold pcn
  rw [filt_len (p := fun m => decide (x ∈ A m) && !decide (m ∈ D)) (q := fun m => decide (x ∈ A m) && !decide (m ∈ D ++ [n])) (r := fun m => decide (m = n) && decide (x ∈ A m))]
  · rw [one_filt List.nodup_range (List.mem_range.2 hn)]
    simp
  · intro m _
    by_cases e : m = n
    · subst e; simp [hd]
    · simp [e]
  · intro m _
    by_cases e : m = n
    · subst e; simp
    · simp [e]
theorem pcn_start (A : Nat → List Nat) (x k : Nat) : ((List.range (k + 1)).filter fun m => decide (x ∈ A m)).length = ((List.range k).filter fun m => decide (x ∈ A m)).length + if x ∈ A k then 1 else 0 := by
  rw [List.range_succ, List.filter_append, List.length_append]
  congr 1
  by_cases h : x ∈ A k <;> simp [h]
/-- Behind the first k nodes. -/
def pcS (A : Nat → List Nat) (k x : Nat) : Nat := ((List.range k).filter fun m => decide (x ∈ A m)).length
theorem pcS_zero (A : Nat → List Nat) (x : Nat) : pcS A 0 x = 0 := rfl
theorem pcS_succ (A : Nat → List Nat) (k x : Nat) : pcS A (k + 1) x = pcS A k x + if x ∈ A k then 1 else 0 := pcn_start A x k
theorem pcS_all (N : Nat) (A : Nat → List Nat) (x : Nat) : pcS A N x = pcn N A [] x := by
  unfold pcS pcn
  simp
theorem pcS_le (A : Nat → List Nat) (k x : Nat) : pcS A k x ≤ k := by have := List.length_filter_le (fun m => decide (x ∈ A m)) (List.range k); simpa [pcS] using this
theorem pcn_le (N : Nat) (A : Nat → List Nat) (D : List Nat) (x : Nat) : pcn N A D x ≤ N := by have := List.length_filter_le (fun m => decide (x ∈ A m) && !decide (m ∈ D)) (List.range N); simpa [pcn] using this
/-- What is ready behind D, when j of what n leads to are done. -/
structure RDY (N : Nat) (A : Nat → List Nat) (E : List (Nat × Nat)) (D : List Nat) (n j : Nat) (H : List Nat) : Prop where
  nd : H.Nodup
  is : ∀ x, x ∈ H ↔ (x < N ∧ cnd E D x ∧ x ≠ n) ∨ (x ∈ (A n).take j ∧ pcn N A D x = 1)
/-- What is ready behind D. -/
structure RDO (N : Nat) (E : List (Nat × Nat)) (D : List Nat) (H : List Nat) : Prop where
  nd : H.Nodup
  is : ∀ x, x ∈ H ↔ x < N ∧ cnd E D x
theorem RDO.perm {N : Nat} {E : List (Nat × Nat)} {D H H' : List Nat} (h : RDO N E D H) (p : H.Perm H') : RDO N E D H' := ⟨p.nodup_iff.1 h.nd, fun x => p.mem_iff.symm.trans (h.is x)⟩
theorem RDY.perm {N : Nat} {A : Nat → List Nat} {E : List (Nat × Nat)} {D H H' : List Nat} {n j : Nat} (h : RDY N A E D n j H) (p : H.Perm H') : RDY N A E D n j H' := ⟨p.nodup_iff.1 h.nd, fun x => p.mem_iff.symm.trans (h.is x)⟩
/-- The first k nodes are looked at. -/
theorem cnd_nil {N : Nat} {E : List (Nat × Nat)} (hg : GOK N E) {x : Nat} : cnd E [] x ↔ pcS (nx N E) N x = 0 := by
  rw [pcS_all, pcn_zero hg]
  simp [cnd]
theorem cnd_pcn {N : Nat} {E : List (Nat × Nat)} (hg : GOK N E) {D : List Nat} {x : Nat} : cnd E D x ↔ x ∉ D ∧ pcn N (nx N E) D x = 0 := by rw [pcn_zero hg]; rfl
/-- The least that is ready is taken. -/
theorem RDO.take {N : Nat} {E : List (Nat × Nat)} {D H : List Nat} {n : Nat} (h : RDO N E D (n :: H)) (hk : KO N E D) (hm : ∀ x ∈ H, n ≤ x) : n < N ∧ n ∉ D ∧ KO N E (D ++ [n]) ∧ RDY N (nx N E) E D n 0 H := by
  obtain ⟨h1, h2⟩ := (h.is n).1 (.head _)
  obtain ⟨h3, h4⟩ := List.nodup_cons.1 h.nd
  refine ⟨h1, h2.1, .snoc hk h1 h2 (fun m hmn hc => ?_), h4, fun x => ?_⟩
  · have hx := (h.is m).2 ⟨by omega, hc⟩
    rcases List.mem_cons.1 hx with q | q
    · omega
    · have := hm m q; omega
  · constructor
    · intro hx
      have := (h.is x).1 (.tail _ hx)
      exact Or.inl ⟨this.1, this.2, fun e => h3 (by rw [← e]; exact hx)⟩
    · rintro (⟨q1, q2, q3⟩ | ⟨q1, _⟩)
      · rcases List.mem_cons.1 ((h.is x).2 ⟨q1, q2⟩) with q | q
        · exact absurd q q3
        · exact q
      · simp at q1
theorem nx_nodup (N : Nat) (E : List (Nat × Nat)) (i : Nat) : (nx N E i).Nodup := (ris_up _ _).imp fun h => Nat.ne_of_lt h
theorem take_not {α : Type} {l : List α} (hn : l.Nodup) {j : Nat} (hj : j < l.length) : l[j] ∉ l.take j := fun h => by
  obtain ⟨i, hi, e⟩ := List.mem_take_iff_getElem.1 h
  have hi2 : i < j := by omega
  unfold List.Nodup at hn
  rw [List.pairwise_iff_getElem] at hn
  exact hn i j (by omega) hj hi2 e
/-- Nobody who leads to one that stands, or may, is left. -/
theorem succ_new {N : Nat} {E : List (Nat × Nat)} (hg : GOK N E) {D : List Nat} {n x : Nat} (hk : KO N E D) (hc : cnd E D n) (hx : x ∈ nx N E n) : x ∉ D ∧ x ≠ n ∧ ¬ cnd E D x := by
  have he := (nx_mem hg).1 hx
  exact ⟨fun q => hc.1 (hk.cl q he), fun e => hc.1 (hc.2 n (by rw [e] at he; exact he)), fun q => hc.1 (q.2 n he)⟩
theorem RDY.push {N : Nat} {E : List (Nat × Nat)} (hg : GOK N E) {D H : List Nat} {n j : Nat} (hk : KO N E D) (hc : cnd E D n) (h : RDY N (nx N E) E D n j H) (hj : j < (nx N E n).length) (h1 : pcn N (nx N E) D (nx N E n)[j] = 1) : RDY N (nx N E) E D n (j + 1) ((nx N E n)[j] :: H) := by
  have hm := List.getElem_mem hj
  obtain ⟨s1, s2, s3⟩ := succ_new hg hk hc hm
  have hnt := take_not (nx_nodup N E n) hj
  refine ⟨List.nodup_cons.2 ⟨fun q => ?_, h.nd⟩, fun x => ?_⟩
  · rcases (h.is _).1 q with ⟨_, q2, _⟩ | ⟨q1, _⟩
    · exact s3 q2
    · exact hnt q1
  · rw [List.take_succ_eq_append_getElem hj, List.mem_append, List.mem_singleton, List.mem_cons, h.is]
    constructor
    · rintro (q | q | ⟨q1, q2⟩)
      · exact Or.inr ⟨Or.inr q, by rw [q]; exact h1⟩
      · exact Or.inl q
      · exact Or.inr ⟨Or.inl q1, q2⟩
    · rintro (q | ⟨q1 | q1, q2⟩)
      · exact Or.inr (Or.inl q)
      · exact Or.inr (Or.inr ⟨q1, q2⟩)
      · exact Or.inl q1
theorem RDY.skip {N : Nat} {E : List (Nat × Nat)} {D H : List Nat} {n j : Nat} (h : RDY N (nx N E) E D n j H) (hj : j < (nx N E n).length) (h1 : pcn N (nx N E) D (nx N E n)[j] ≠ 1) : RDY N (nx N E) E D n (j + 1) H := by
  refine ⟨h.nd, fun x => ?_⟩
  rw [List.take_succ_eq_append_getElem hj, List.mem_append, List.mem_singleton, h.is]
  constructor
  · rintro (q | ⟨q1, q2⟩)
    · exact Or.inl q
    · exact Or.inr ⟨Or.inl q1, q2⟩
  · rintro (q | ⟨q1 | q1, q2⟩)
    · exact Or.inl q
    · exact Or.inr ⟨q1, q2⟩
    · rw [q1] at q2; exact absurd q2 h1
theorem RDY.fin {N : Nat} {E : List (Nat × Nat)} (hg : GOK N E) {D H : List Nat} {n : Nat} (hn : n < N) (hk : KO N E D) (hc : cnd E D n) (h : RDY N (nx N E) E D n (nx N E n).length H) : RDO N E (D ++ [n]) H := by
  refine ⟨h.nd, fun x => ?_⟩
  rw [h.is, List.take_length]
  have hs := pcn_snoc (A := nx N E) hn hc.1 x
  constructor
  · rintro (⟨q1, q2, q3⟩ | ⟨q1, q2⟩)
    · exact ⟨q1, by simp [q2.1, q3], fun m hm => List.mem_append.2 (Or.inl (q2.2 m hm))⟩
    · obtain ⟨s1, s2, s3⟩ := succ_new hg hk hc q1
      rw [if_pos q1, q2] at hs
      exact ⟨(hg.lt _ ((nx_mem hg).1 q1)).2, (cnd_pcn hg).2 ⟨by simp [s1, s2], by omega⟩⟩
  · rintro ⟨q1, q2⟩
    obtain ⟨q3, q4⟩ := (cnd_pcn hg).1 q2
    rw [q4] at hs
    simp only [List.mem_append, List.mem_singleton, not_or] at q3
    by_cases e : x ∈ nx N E n
    · rw [if_pos e] at hs
      exact Or.inr ⟨e, by omega⟩
    · rw [if_neg e] at hs
      exact Or.inl ⟨q1, (cnd_pcn hg).2 ⟨q3.1, by omega⟩, q3.2⟩
/-- What the numbers are when j of what n leads to are done. -/
def lfJ (N : Nat) (A : Nat → List Nat) (D : List Nat) (n j x : Nat) : Int := (pcn N A D x : Int) - if x ∈ (A n).take j then 1 else 0
theorem lfJ_zero (N : Nat) (A : Nat → List Nat) (D : List Nat) (n x : Nat) : lfJ N A D n 0 x = pcn N A D x := by simp [lfJ]
theorem lfJ_at {N : Nat} {E : List (Nat × Nat)} {D : List Nat} {n j : Nat} (hj : j < (nx N E n).length) : lfJ N (nx N E) D n j (nx N E n)[j] = pcn N (nx N E) D (nx N E n)[j] := by
  unfold lfJ
  rw [if_neg (take_not (nx_nodup N E n) hj)]
  omega
theorem lfJ_succ {N : Nat} {E : List (Nat × Nat)} {D : List Nat} {n j : Nat} (hj : j < (nx N E n).length) (x : Nat) : lfJ N (nx N E) D n (j + 1) x = if x = (nx N E n)[j] then lfJ N (nx N E) D n j x - 1 else lfJ N (nx N E) D n j x := by
  unfold lfJ
  rw [List.take_succ_eq_append_getElem hj]
  by_cases e : x = (nx N E n)[j]
  · rw [if_pos e, e, if_pos (List.mem_append.2 (Or.inr (List.mem_singleton.2 rfl))), if_neg (take_not (nx_nodup N E n) hj)]
    omega
  · rw [if_neg e]
    have : x ∈ (nx N E n).take j ++ [(nx N E n)[j]] ↔ x ∈ (nx N E n).take j := by rw [List.mem_append, List.mem_singleton]; exact ⟨fun q => q.resolve_right e, Or.inl⟩
    simp only [this]
theorem lfJ_fin {N : Nat} {A : Nat → List Nat} {D : List Nat} {n : Nat} (hn : n < N) (hd : n ∉ D) (x : Nat) : lfJ N A D n (A n).length x = pcn N A (D ++ [n]) x := by
  have := pcn_snoc (A := A) hn hd x
  unfold lfJ
  rw [List.take_length, this]
  split <;> omega
/-- At the beginning, when j of what k leads to are counted. -/
def lfS (A : Nat → List Nat) (k j x : Nat) : Int := (pcS A k x : Int) + if x ∈ (A k).take j then 1 else 0
theorem lfS_zero (A : Nat → List Nat) (k x : Nat) : lfS A k 0 x = pcS A k x := by simp [lfS]
theorem lfS_succ {N : Nat} {E : List (Nat × Nat)} {k j : Nat} (hj : j < (nx N E k).length) (x : Nat) : lfS (nx N E) k (j + 1) x = if x = (nx N E k)[j] then lfS (nx N E) k j x + 1 else lfS (nx N E) k j x := by
  unfold lfS
  rw [List.take_succ_eq_append_getElem hj]
  by_cases e : x = (nx N E k)[j]
  · rw [if_pos e, e, if_pos (List.mem_append.2 (Or.inr (List.mem_singleton.2 rfl))), if_neg (take_not (nx_nodup N E k) hj)]
    omega
  · rw [if_neg e]
    have : x ∈ (nx N E k).take j ++ [(nx N E k)[j]] ↔ x ∈ (nx N E k).take j := by rw [List.mem_append, List.mem_singleton]; exact ⟨fun q => q.resolve_right e, Or.inl⟩
    simp only [this]
theorem lfS_fin (A : Nat → List Nat) (k x : Nat) : lfS A k (A k).length x = pcS A (k + 1) x := by
  have := pcS_succ A k x
  unfold lfS
  rw [List.take_length, this]
  split <;> omega
/-- Edge by edge. -/
def elE (E : List (Nat × Nat)) (D : List Nat) (x : Nat) : Nat := (E.filter fun e => decide (e.2 = x) && !decide (e.1 ∈ D)).length
theorem elE_zero {E : List (Nat × Nat)} {D : List Nat} {x : Nat} : elE E D x = 0 ↔ ∀ m, (m, x) ∈ E → m ∈ D := by
  unfold elE
  rw [List.length_eq_zero_iff, List.filter_eq_nil_iff]
  constructor
  · intro h m hm
    have := h _ hm
    simpa using this
  · rintro h ⟨a, b⟩ hab
    simp only [Bool.and_eq_true, decide_eq_true_eq, Bool.not_eq_true', decide_eq_false_iff_not, not_and, Decidable.not_not]
    intro e
    subst e
    exact h a hab
theorem elE_le (E : List (Nat × Nat)) (D : List Nat) (x : Nat) : elE E D x ≤ E.length := List.length_filter_le _ _
theorem cnt_tg (E : List (Nat × Nat)) (n x : Nat) : (tg E n).count x = (E.filter fun e => decide (e.2 = x) && decide (e.1 = n)).length := by
  unfold tg
  rw [List.count_eq_countP, List.countP_map, List.countP_eq_length_filter, List.filter_filter]
  congr 1
theorem elE_snoc {E : List (Nat × Nat)} {D : List Nat} {n : Nat} (hd : n ∉ D) (x : Nat) : elE E D x = elE E (D ++ [n]) x + (tg E n).count x := by
  rw [cnt_tg]
  unfold elE
  refine filt_len (fun e _ => ?_) (fun e _ => ?_)
  · by_cases q : e.1 = n
    · rw [q]; simp [hd]
    · simp [q]
  · by_cases q : e.1 = n
    · simp [q]
    · simp [q]
/-- What the document's numbers are when i of what n leads to are done. -/
def lfR (E : List (Nat × Nat)) (D : List Nat) (x : Nat) : Int := if x ∈ D then -1 else elE E D x
def lfI (E : List (Nat × Nat)) (D : List Nat) (n i x : Nat) : Int := (if x ∈ D ++ [n] then -1 else (elE E D x : Int)) - ((tg E n).take i).count x
theorem lfR_zero {E : List (Nat × Nat)} {D : List Nat} {x : Nat} : lfR E D x = 0 ↔ cnd E D x := by
  unfold lfR cnd
  split
  · rename_i h; simp [h]
  · rename_i h; rw [← elE_zero]; simp [h]
theorem lfI_zero (E : List (Nat × Nat)) (D : List Nat) (n x : Nat) : lfI E D n 0 x = if x = n then -1 else lfR E D x := by
  unfold lfI lfR
  by_cases e : x = n <;> simp [e]
theorem lfI_succ {E : List (Nat × Nat)} {D : List Nat} {n i : Nat} (hi : i < (tg E n).length) (x : Nat) : lfI E D n (i + 1) x = if x = (tg E n)[i] then lfI E D n i x - 1 else lfI E D n i x := by
  unfold lfI
  rw [List.take_succ_eq_append_getElem hi, List.count_append]
  by_cases e : x = (tg E n)[i]
  · rw [if_pos e, ← e]
    simp
    omega
  · rw [if_neg e, List.count_singleton]
    have : ((tg E n)[i] == x) = false := by simp; exact fun q => e q.symm
    rw [this]
    simp
theorem lfI_fin {N : Nat} {E : List (Nat × Nat)} {D : List Nat} {n : Nat} (hk : KO N E D) (hc : cnd E D n) (x : Nat) : lfI E D n (tg E n).length x = lfR E (D ++ [n]) x := by
  unfold lfI lfR
  rw [List.take_length]
  by_cases e : x ∈ D ++ [n]
  · rw [if_pos e, if_pos e]
    have : (tg E n).count x = 0 := List.count_eq_zero.2 fun q => by
      have he := tg_mem.1 q
      rcases List.mem_append.1 e with r | r
      · exact hc.1 (hk.cl r he)
      · rw [List.mem_singleton] at r; rw [r] at he; exact hc.1 (hc.2 n he)
    rw [this]; rfl
  · rw [if_neg e, if_neg e, elE_snoc hc.1 x]
    omega
theorem lfI_lo {N : Nat} {E : List (Nat × Nat)} {D : List Nat} {n : Nat} (hc : cnd E D n) (hk : KO N E D) (i x : Nat) : -1 ≤ lfI E D n i x ∧ lfI E D n i x ≤ E.length := by
  have h1 := lfI_fin hk hc x
  have h2 : -1 ≤ lfR E (D ++ [n]) x := by unfold lfR; split <;> omega
  have h3 : ((tg E n).take i).count x ≤ (tg E n).count x := (List.take_sublist _ _).count_le _
  have h4 := elE_le E D x
  unfold lfI at h1 ⊢
  rw [List.take_length] at h1
  constructor
  · omega
  · split <;> omega
end Go.Proofs.Ythhjknpfaghfbaa
