/- Graph, plain: levels; the greatest sums along ways. -/
import Derived.Test.YtghkhceplpjegaaYg1
namespace Go.Proofs.Ytghkhceplpjegaa
open Go.RowKit

theorem filt_len {α : Type} {p q r : α → Bool} : ∀ {l : List α}, (∀ x ∈ l, p x = (q x || r x)) → (∀ x ∈ l, ¬ (q x = true ∧ r x = true)) → (l.filter p).length = (l.filter q).length + (l.filter r).length
  | [], _, _ => rfl
  | a :: l, h, k => by
    have ih := filt_len (l := l) (fun x hx => h x (.tail _ hx)) (fun x hx => k x (.tail _ hx))
    have h1 := h a (.head _)
    have h2 := k a (.head _)
    simp only [List.filter_cons]
    cases ea : q a <;> cases eb : r a <;> simp [ea, eb] at h1 h2 <;> simp [h1] <;> omega
/-- How many nodes that lead to it do not stand. -/
def pcn (N : Nat) (A : Nat → List Nat) (D : List Nat) (x : Nat) : Nat := ((List.range N).filter fun m => decide (x ∈ A m) && !decide (m ∈ D)).length
theorem pcn_zero {N : Nat} {E : List (Nat × Nat)} (hg : GOK N E) {D : List Nat} {x : Nat} : pcn N (nx N E) D x = 0 ↔ ∀ m, (m, x) ∈ E → m ∈ D := by
  unfold pcn
  rw [List.length_eq_zero_iff, List.filter_eq_nil_iff]
  constructor
  · intro h m hm
    have := h m (List.mem_range.2 (hg.lt _ hm).1)
    simp only [Bool.and_eq_true, decide_eq_true_eq, Bool.not_eq_true', decide_eq_false_iff_not, not_and, Decidable.not_not] at this
    exact this ((nx_mem hg).2 hm)
  · intro h m _
    simp only [Bool.and_eq_true, decide_eq_true_eq, Bool.not_eq_true', decide_eq_false_iff_not, not_and, Decidable.not_not]
    exact fun hm => h m ((nx_mem hg).1 hm)
theorem one_filt {n : Nat} {p : Nat → Bool} : ∀ {l : List Nat}, l.Nodup → n ∈ l → (l.filter fun m => decide (m = n) && p m).length = if p n = true then 1 else 0
  | [], _, h => by cases h
  | a :: l, hn, h => by
    obtain ⟨h1, h2⟩ := List.nodup_cons.1 hn
    by_cases e : a = n
    · subst e
      have hz : (l.filter fun m => decide (m = a) && p m) = [] := List.filter_eq_nil_iff.2 fun m hm => by
        have : m ≠ a := fun q => h1 (by rw [← q]; exact hm)
        simp [this]
      rw [List.filter_cons, hz]
      cases p a <;> simp
    · have hm : n ∈ l := by
        rcases List.mem_cons.1 h with q | q
        · exact absurd q.symm e
        · exact q
      rw [List.filter_cons]
      simp only [e, decide_false, Bool.false_and]
      exact one_filt h2 hm
theorem pcn_snoc {N : Nat} {A : Nat → List Nat} {D : List Nat} {n : Nat} (hn : n < N) (hd : n ∉ D) (x : Nat) : pcn N A D x = pcn N A (D ++ [n]) x + if x ∈ A n then 1 else 0 := by
  unfold pcn
  rw [filt_len (p := fun m => decide (x ∈ A m) && !decide (m ∈ D)) (q := fun m => decide (x ∈ A m) && !decide (m ∈ D ++ [n])) (r := fun m => decide (m = n) && decide (x ∈ A m))]
  · rw [one_filt List.nodup_range (List.mem_range.2 hn)]
    simp
  · intro m _
    by_cases e : m = n
    · subst e; simp [hd]
    · simp [e]
  · intro m _
    by_cases e : m = n
    · subst e; simp
    · simp [e]
theorem pcn_start (A : Nat → List Nat) (x k : Nat) : ((List.range (k + 1)).filter fun m => decide (x ∈ A m)).length = ((List.range k).filter fun m => decide (x ∈ A m)).length + if x ∈ A k then 1 else 0 := by
  rw [List.range_succ, List.filter_append, List.length_append]
  congr 1
  by_cases h : x ∈ A k <;> simp [h]
/-- Behind the first k nodes. -/
def pcS (A : Nat → List Nat) (k x : Nat) : Nat := ((List.range k).filter fun m => decide (x ∈ A m)).length
theorem pcS_zero (A : Nat → List Nat) (x : Nat) : pcS A 0 x = 0 := rfl
theorem pcS_succ (A : Nat → List Nat) (k x : Nat) : pcS A (k + 1) x = pcS A k x + if x ∈ A k then 1 else 0 := pcn_start A x k
theorem pcS_all (N : Nat) (A : Nat → List Nat) (x : Nat) : pcS A N x = pcn N A [] x := by
  unfold pcS pcn
  simp
theorem pcS_le (A : Nat → List Nat) (k x : Nat) : pcS A k x ≤ k := by have := List.length_filter_le (fun m => decide (x ∈ A m)) (List.range k); simpa [pcS] using this
theorem pcn_le (N : Nat) (A : Nat → List Nat) (D : List Nat) (x : Nat) : pcn N A D x ≤ N := by have := List.length_filter_le (fun m => decide (x ∈ A m) && !decide (m ∈ D)) (List.range N); simpa [pcn] using this
/-- What is ready behind D, when j of what n leads to are done. -/
structure RDY (N : Nat) (A : Nat → List Nat) (E : List (Nat × Nat)) (D : List Nat) (n j : Nat) (H : List Nat) : Prop where
  nd : H.Nodup
  is : ∀ x, x ∈ H ↔ (x < N ∧ cnd E D x ∧ x ≠ n) ∨ (x ∈ (A n).take j ∧ pcn N A D x = 1)
/-- What is ready behind D. -/
structure RDO (N : Nat) (E : List (Nat × Nat)) (D : List Nat) (H : List Nat) : Prop where
  nd : H.Nodup
  is : ∀ x, x ∈ H ↔ x < N ∧ cnd E D x
theorem RDO.perm {N : Nat} {E : List (Nat × Nat)} {D H H' : List Nat} (h : RDO N E D H) (p : H.Perm H') : RDO N E D H' := ⟨p.nodup_iff.1 h.nd, fun x => p.mem_iff.symm.trans (h.is x)⟩
theorem RDY.perm {N : Nat} {A : Nat → List Nat} {E : List (Nat × Nat)} {D H H' : List Nat} {n j : Nat} (h : RDY N A E D n j H) (p : H.Perm H') : RDY N A E D n j H' := ⟨p.nodup_iff.1 h.nd, fun x => p.mem_iff.symm.trans (h.is x)⟩
/-- The first k nodes are looked at. -/
theorem cnd_nil {N : Nat} {E : List (Nat × Nat)} (hg : GOK N E) {x : Nat} : cnd E [] x ↔ pcS (nx N E) N x = 0 := by
  rw [pcS_all, pcn_zero hg]
  simp [cnd]
theorem cnd_pcn {N : Nat} {E : List (Nat × Nat)} (hg : GOK N E) {D : List Nat} {x : Nat} : cnd E D x ↔ x ∉ D ∧ pcn N (nx N E) D x = 0 := by rw [pcn_zero hg]; rfl
/-- The least that is ready is taken. -/
theorem RDO.take {N : Nat} {E : List (Nat × Nat)} {D H : List Nat} {n : Nat} (h : RDO N E D (n :: H)) (hk : KO N E D) (hm : ∀ x ∈ H, n ≤ x) : n < N ∧ n ∉ D ∧ KO N E (D ++ [n]) ∧ RDY N (nx N E) E D n 0 H := by
  obtain ⟨h1, h2⟩ := (h.is n).1 (.head _)
  obtain ⟨h3, h4⟩ := List.nodup_cons.1 h.nd
  refine ⟨h1, h2.1, .snoc hk h1 h2 (fun m hmn hc => ?_), h4, fun x => ?_⟩
  · have hx := (h.is m).2 ⟨by omega, hc⟩
    rcases List.mem_cons.1 hx with q | q
    · omega
    · have := hm m q; omega
  · constructor
    · intro hx
      have := (h.is x).1 (.tail _ hx)
      exact Or.inl ⟨this.1, this.2, fun e => h3 (by rw [← e]; exact hx)⟩
    · rintro (⟨q1, q2, q3⟩ | ⟨q1, _⟩)
      · rcases List.mem_cons.1 ((h.is x).2 ⟨q1, q2⟩) with q | q
        · exact absurd q q3
        · exact q
      · simp at q1
theorem nx_nodup (N : Nat) (E : List (Nat × Nat)) (i : Nat) : (nx N E i).Nodup := (ris_up _ _).imp fun h => Nat.ne_of_lt h
theorem take_not {α : Type} {l : List α} (hn : l.Nodup) {j : Nat} (hj : j < l.length) : l[j] ∉ l.take j := fun h => by
  obtain ⟨i, hi, e⟩ := List.mem_take_iff_getElem.1 h
  have hi2 : i < j := by omega
  unfold List.Nodup at hn
  rw [List.pairwise_iff_getElem] at hn
  exact hn i j (by omega) hj hi2 e
/-- Nobody who leads to one that stands, or may, is left. -/
theorem succ_new {N : Nat} {E : List (Nat × Nat)} (hg : GOK N E) {D : List Nat} {n x : Nat} (hk : KO N E D) (hc : cnd E D n) (hx : x ∈ nx N E n) : x ∉ D ∧ x ≠ n ∧ ¬ cnd E D x := by
  have he := (nx_mem hg).1 hx
  exact ⟨fun q => hc.1 (hk.cl q he), fun e => hc.1 (hc.2 n (by rw [e] at he; exact he)), fun q => hc.1 (q.2 n he)⟩
theorem RDY.push {N : Nat} {E : List (Nat × Nat)} (hg : GOK N E) {D H : List Nat} {n j : Nat} (hk : KO N E D) (hc : cnd E D n) (h : RDY N (nx N E) E D n j H) (hj : j < (nx N E n).length) (h1 : pcn N (nx N E) D (nx N E n)[j] = 1) : RDY N (nx N E) E D n (j + 1) ((nx N E n)[j] :: H) := by
  have hm := List.getElem_mem hj
  obtain ⟨s1, s2, s3⟩ := succ_new hg hk hc hm
  have hnt := take_not (nx_nodup N E n) hj
  refine ⟨List.nodup_cons.2 ⟨fun q => ?_, h.nd⟩, fun x => ?_⟩
  · rcases (h.is _).1 q with ⟨_, q2, _⟩ | ⟨q1, _⟩
    · exact s3 q2
    · exact hnt q1
  · rw [List.take_succ_eq_append_getElem hj, List.mem_append, List.mem_singleton, List.mem_cons, h.is]
    constructor
    · rintro (q | q | ⟨q1, q2⟩)
      · exact Or.inr ⟨Or.inr q, by rw [q]; exact h1⟩
      · exact Or.inl q
      · exact Or.inr ⟨Or.inl q1, q2⟩
    · rintro (q | ⟨q1 | q1, q2⟩)
      · exact Or.inr (Or.inl q)
      · exact Or.inr (Or.inr ⟨q1, q2⟩)
      · exact Or.inl q1
theorem RDY.skip {N : Nat} {E : List (Nat × Nat)} {D H : List Nat} {n j : Nat} (h : RDY N (nx N E) E D n j H) (hj : j < (nx N E n).length) (h1 : pcn N (nx N E) D (nx N E n)[j] ≠ 1) : RDY N (nx N E) E D n (j + 1) H := by
  refine ⟨h.nd, fun x => ?_⟩
  rw [List.take_succ_eq_append_getElem hj, List.mem_append, List.mem_singleton, h.is]
  constructor
  · rintro (q | ⟨q1, q2⟩)
    · exact Or.inl q
    · exact Or.inr ⟨Or.inl q1, q2⟩
  · rintro (q | ⟨q1 | q1, q2⟩)
    · exact Or.inl q
    · exact Or.inr ⟨q1, q2⟩
    · rw [q1] at q2; exact absurd q2 h1
theorem RDY.fin {N : Nat} {E : List (Nat × Nat)} (hg : GOK N E) {D H : List Nat} {n : Nat} (hn : n < N) (hk : KO N E D) (hc : cnd E D n) (h : RDY N (nx N E) E D n (nx N E n).length H) : RDO N E (D ++ [n]) H := by
  refine ⟨h.nd, fun x => ?_⟩
  rw [h.is, List.take_length]
  have hs := pcn_snoc (A := nx N E) hn hc.1 x
  constructor
  · rintro (⟨q1, q2, q3⟩ | ⟨q1, q2⟩)
    · exact ⟨q1, by simp [q2.1, q3], fun m hm => List.mem_append.2 (Or.inl (q2.2 m hm))⟩
    · obtain ⟨s1, s2, s3⟩ := succ_new hg hk hc q1
      rw [if_pos q1, q2] at hs
      exact ⟨(hg.lt _ ((nx_mem hg).1 q1)).2, (cnd_pcn hg).2 ⟨by simp [s1, s2], by omega⟩⟩
  · rintro ⟨q1, q2⟩
    obtain ⟨q3, q4⟩ := (cnd_pcn hg).1 q2
    rw [q4] at hs
    simp only [List.mem_append, List.mem_singleton, not_or] at q3
    by_cases e : x ∈ nx N E n
    · rw [if_pos e] at hs
      exact Or.inr ⟨e, by omega⟩
    · rw [if_neg e] at hs
      exact Or.inl ⟨q1, (cnd_pcn hg).2 ⟨q3.1, by omega⟩, q3.2⟩
/-- What the numbers are when j of what n leads to are done. -/
def lfJ (N : Nat) (A : Nat → List Nat) (D : List Nat) (n j x : Nat) : Int := (pcn N A D x : Int) - if x ∈ (A n).take j then 1 else 0
theorem lfJ_zero (N : Nat) (A : Nat → List Nat) (D : List Nat) (n x : Nat) : lfJ N A D n 0 x = pcn N A D x := by simp [lfJ]
theorem lfJ_at {N : Nat} {E : List (Nat × Nat)} {D : List Nat} {n j : Nat} (hj : j < (nx N E n).length) : lfJ N (nx N E) D n j (nx N E n)[j] = pcn N (nx N E) D (nx N E n)[j] := by
  unfold lfJ
  rw [if_neg (take_not (nx_nodup N E n) hj)]
  omega
theorem lfJ_succ {N : Nat} {E : List (Nat × Nat)} {D : List Nat} {n j : Nat} (hj : j < (nx N E n).length) (x : Nat) : lfJ N (nx N E) D n (j + 1) x = if x = (nx N E n)[j] then lfJ N (nx N E) D n j x - 1 else lfJ N (nx N E) D n j x := by
  unfold lfJ
  rw [List.take_succ_eq_append_getElem hj]
  by_cases e : x = (nx N E n)[j]
  · rw [if_pos e, e, if_pos (List.mem_append.2 (Or.inr (List.mem_singleton.2 rfl))), if_neg (take_not (nx_nodup N E n) hj)]
    omega
  · rw [if_neg e]
    have : x ∈ (nx N E n).take j ++ [(nx N E n)[j]] ↔ x ∈ (nx N E n).take j := by rw [List.mem_append, List.mem_singleton]; exact ⟨fun q => q.resolve_right e, Or.inl⟩
    simp only [this]
theorem lfJ_fin {N : Nat} {A : Nat → List Nat} {D : List Nat} {n : Nat} (hn : n < N) (hd : n ∉ D) (x : Nat) : lfJ N A D n (A n).length x = pcn N A (D ++ [n]) x := by
  have := pcn_snoc (A := A) hn hd x
  unfold lfJ
  rw [List.take_length, this]
  split <;> omega
/-- At the beginning, when j of what k leads to are counted. -/
def lfS (A : Nat → List Nat) (k j x : Nat) : Int := (pcS A k x : Int) + if x ∈ (A k).take j then 1 else 0
theorem lfS_zero (A : Nat → List Nat) (k x : Nat) : lfS A k 0 x = pcS A k x := by simp [lfS]
theorem lfS_succ {N : Nat} {E : List (Nat × Nat)} {k j : Nat} (hj : j < (nx N E k).length) (x : Nat) : lfS (nx N E) k (j + 1) x = if x = (nx N E k)[j] then lfS (nx N E) k j x + 1 else lfS (nx N E) k j x := by
  unfold lfS
  rw [List.take_succ_eq_append_getElem hj]
  by_cases e : x = (nx N E k)[j]
  · rw [if_pos e, e, if_pos (List.mem_append.2 (Or.inr (List.mem_singleton.2 rfl))), if_neg (take_not (nx_nodup N E k) hj)]
    omega
  · rw [if_neg e]
    have : x ∈ (nx N E k).take j ++ [(nx N E k)[j]] ↔ x ∈ (nx N E k).take j := by rw [List.mem_append, List.mem_singleton]; exact ⟨fun q => q.resolve_right e, Or.inl⟩
    simp only [this]
theorem lfS_fin (A : Nat → List Nat) (k x : Nat) : lfS A k (A k).length x = pcS A (k + 1) x := by
  have := pcS_succ A k x
  unfold lfS
  rw [List.take_length, this]
  split <;> omega
/-- Edge by edge. -/
def elE (E : List (Nat × Nat)) (D : List Nat) (x : Nat) : Nat := (E.filter fun e => decide (e.2 = x) && !decide (e.1 ∈ D)).length
theorem elE_zero {E : List (Nat × Nat)} {D : List Nat} {x : Nat} : elE E D x = 0 ↔ ∀ m, (m, x) ∈ E → m ∈ D := by
  unfold elE
  rw [List.length_eq_zero_iff, List.filter_eq_nil_iff]
  constructor
  · intro h m hm
    have := h _ hm
    simpa using this
  · rintro h ⟨a, b⟩ hab
    simp only [Bool.and_eq_true, decide_eq_true_eq, Bool.not_eq_true', decide_eq_false_iff_not, not_and, Decidable.not_not]
    intro e
    subst e
    exact h a hab
theorem elE_le (E : List (Nat × Nat)) (D : List Nat) (x : Nat) : elE E D x ≤ E.length := List.length_filter_le _ _
theorem cnt_tg (E : List (Nat × Nat)) (n x : Nat) : (tg E n).count x = (E.filter fun e => decide (e.2 = x) && decide (e.1 = n)).length := by
  unfold tg
  rw [List.count_eq_countP, List.countP_map, List.countP_eq_length_filter, List.filter_filter]
  congr 1
theorem elE_snoc {E : List (Nat × Nat)} {D : List Nat} {n : Nat} (hd : n ∉ D) (x : Nat) : elE E D x = elE E (D ++ [n]) x + (tg E n).count x := by
  rw [cnt_tg]
  unfold elE
  refine filt_len (fun e _ => ?_) (fun e _ => ?_)
  · by_cases q : e.1 = n
    · rw [q]; simp [hd]
    · simp [q]
  · by_cases q : e.1 = n
    · simp [q]
    · simp [q]
/-- What the document's numbers are when i of what n leads to are done. -/
def lfR (E : List (Nat × Nat)) (D : List Nat) (x : Nat) : Int := if x ∈ D then -1 else elE E D x
def lfI (E : List (Nat × Nat)) (D : List Nat) (n i x : Nat) : Int := (if x ∈ D ++ [n] then -1 else (elE E D x : Int)) - ((tg E n).take i).count x
theorem lfR_zero {E : List (Nat × Nat)} {D : List Nat} {x : Nat} : lfR E D x = 0 ↔ cnd E D x := by
  unfold lfR cnd
  split
  · rename_i h; simp [h]
  · rename_i h; rw [← elE_zero]; simp [h]
theorem lfI_zero (E : List (Nat × Nat)) (D : List Nat) (n x : Nat) : lfI E D n 0 x = if x = n then -1 else lfR E D x := by
  unfold lfI lfR
  by_cases e : x = n <;> simp [e]
theorem lfI_succ {E : List (Nat × Nat)} {D : List Nat} {n i : Nat} (hi : i < (tg E n).length) (x : Nat) : lfI E D n (i + 1) x = if x = (tg E n)[i] then lfI E D n i x - 1 else lfI E D n i x := by
  unfold lfI
  rw [List.take_succ_eq_append_getElem hi, List.count_append]
  by_cases e : x = (tg E n)[i]
  · rw [if_pos e, ← e]
    simp
    omega
  · rw [if_neg e, List.count_singleton]
    have : ((tg E n)[i] == x) = false := by simp; exact fun q => e q.symm
    rw [this]
    simp
theorem lfI_fin {N : Nat} {E : List (Nat × Nat)} {D : List Nat} {n : Nat} (hk : KO N E D) (hc : cnd E D n) (x : Nat) : lfI E D n (tg E n).length x = lfR E (D ++ [n]) x := by
  unfold lfI lfR
  rw [List.take_length]
  by_cases e : x ∈ D ++ [n]
  · rw [if_pos e, if_pos e]
    have : (tg E n).count x = 0 := List.count_eq_zero.2 fun q => by
      have he := tg_mem.1 q
      rcases List.mem_append.1 e with r | r
      · exact hc.1 (hk.cl r he)
      · rw [List.mem_singleton] at r; rw [r] at he; exact hc.1 (hc.2 n he)
    rw [this]; rfl
  · rw [if_neg e, if_neg e, elE_snoc hc.1 x]
    omega
theorem lfI_lo {N : Nat} {E : List (Nat × Nat)} {D : List Nat} {n : Nat} (hc : cnd E D n) (hk : KO N E D) (i x : Nat) : -1 ≤ lfI E D n i x ∧ lfI E D n i x ≤ E.length := by
  have h1 := lfI_fin hk hc x
  have h2 : -1 ≤ lfR E (D ++ [n]) x := by unfold lfR; split <;> omega
  have h3 : ((tg E n).take i).count x ≤ (tg E n).count x := (List.take_sublist _ _).count_le _
  have h4 := elE_le E D x
  unfold lfI at h1 ⊢
  rw [List.take_length] at h1
  constructor
  · omega
  · split <;> omega
end Go.Proofs.Ytghkhceplpjegaa
namespace Go.Proofs.Ytghkhceplpjegaa
open Go.RowKit

/-- What n leads to is raised. -/
def lvU (l : List Nat) (n : Nat) (F : Nat → Int) : Nat → Int := fun x => if x ∈ l then max (F x) (F n + 1) else F x
def lvF (A : Nat → List Nat) (D : List Nat) : Nat → Int := D.foldl (fun F n => lvU (A n) n F) (fun _ => 0)
theorem lvF_snoc (A : Nat → List Nat) (D : List Nat) (n : Nat) : lvF A (D ++ [n]) = lvU (A n) n (lvF A D) := by unfold lvF; rw [List.foldl_append]; rfl
theorem lvU_nil (n : Nat) (F : Nat → Int) : lvU [] n F = F := by funext x; simp [lvU]
theorem lvU_same {l m : List Nat} (h : ∀ x, x ∈ l ↔ x ∈ m) (n : Nat) (F : Nat → Int) : lvU l n F = lvU m n F := by
  funext x
  simp only [lvU, h x]
theorem lvU_own {l : List Nat} {n : Nat} (h : n ∉ l) (F : Nat → Int) : lvU l n F n = F n := by simp [lvU, h]
theorem lvU_snoc (l : List Nat) (y n : Nat) (F : Nat → Int) (x : Nat) : lvU (l ++ [y]) n F x = if x = y then max (lvU l n F x) (F n + 1) else lvU l n F x := by
  unfold lvU
  simp only [List.mem_append, List.mem_singleton]
  by_cases e : x = y
  · rw [if_pos (Or.inr e), if_pos e]
    split <;> omega
  · simp [e]
/-- What holds of the levels behind D. -/
structure LV (E : List (Nat × Nat)) (D : List Nat) (F : Nat → Int) : Prop where
  lo : ∀ x, 0 ≤ F x
  hi : ∀ x, F x ≤ D.length
  up : ∀ m x, m ∈ D → (m, x) ∈ E → F m + 1 ≤ F x
  of : ∀ x, F x = 0 ∨ ∃ m, m ∈ D ∧ (m, x) ∈ E ∧ F x = F m + 1
theorem LV.all {N : Nat} {E : List (Nat × Nat)} (hg : GOK N E) {D : List Nat} (h : KO N E D) : LV E D (lvF (nx N E) D) := by
  induction h with
  | nil => exact ⟨fun x => by simp [lvF], fun x => by simp [lvF], fun m x hm => by simp at hm, fun x => Or.inl rfl⟩
  | @snoc D n h1 h2 h3 h4 ih =>
    rw [lvF_snoc]
    generalize lvF (nx N E) D = F at *
    have kp : ∀ m, m ∈ D ∨ m = n → lvU (nx N E n) n F m = F m := fun m hm => by
      unfold lvU
      rw [if_neg fun q => ?_]
      obtain ⟨s1, s2, _⟩ := succ_new hg h1 h3 q
      rcases hm with e | e
      · exact s1 e
      · exact s2 e
    have ge : ∀ x, F x ≤ lvU (nx N E n) n F x := fun x => by unfold lvU; split <;> omega
    refine ⟨fun x => by have := ih.lo x; have := ge x; omega, fun x => ?_, fun m x hm hx => ?_, fun x => ?_⟩
    · have h5 := ih.hi x
      have h6 := ih.hi n
      have h7 : (D ++ [n]).length = D.length + 1 := by simp
      rw [h7]
      unfold lvU
      split <;> omega
    · rw [List.mem_append, List.mem_singleton] at hm
      rw [kp m hm]
      rcases hm with e | e
      · have := ih.up m x e hx; have := ge x; omega
      · subst e
        unfold lvU
        rw [if_pos ((nx_mem hg).2 hx)]
        omega
    · by_cases e : x ∈ nx N E n ∧ F x < F n + 1
      · refine Or.inr ⟨n, by simp, (nx_mem hg).1 e.1, ?_⟩
        rw [kp n (Or.inr rfl)]
        unfold lvU
        rw [if_pos e.1]
        omega
      · have e2 : lvU (nx N E n) n F x = F x := by
          unfold lvU
          split
          · rename_i q
            have : ¬ F x < F n + 1 := fun r => e ⟨q, r⟩
            omega
          · rfl
        rw [e2]
        rcases ih.of x with q | ⟨m, q1, q2, q3⟩
        · exact Or.inl q
        · exact Or.inr ⟨m, List.mem_append.2 (Or.inl q1), q2, by rw [kp m (Or.inl q1)]; exact q3⟩
/-! Sums. -/
/-- The greatest above 0, and who has it, the least of these. -/
def HV (F : Nat → Int) (l : List Nat) (p : Int × Int) : Prop := (p = (0, -1) ∧ ∀ y ∈ l, F y ≤ 0) ∨ ∃ w : Nat, p = (F w, (w : Int)) ∧ w ∈ l ∧ 0 < F w ∧ ∀ y ∈ l, F y < F w ∨ (F y = F w ∧ w ≤ y)
theorem HV.nil (F : Nat → Int) : HV F [] (0, -1) := Or.inl ⟨rfl, by simp⟩
theorem HV.one {F G : Nat → Int} {l m : List Nat} {p q : Int × Int} (h : HV F l p) (k : HV G m q) (hm : ∀ y, y ∈ l ↔ y ∈ m) (hF : ∀ y ∈ l, F y = G y) : p = q := by
  rcases h with ⟨rfl, h⟩ | ⟨w, rfl, h1, h2, h3⟩
  · rcases k with ⟨rfl, _⟩ | ⟨v, _, k1, k2, _⟩
    · rfl
    · have hv := (hm v).2 k1
      have := h v hv
      rw [hF v hv] at this
      omega
  · rcases k with ⟨rfl, k⟩ | ⟨v, rfl, k1, k2, k3⟩
    · have := k w ((hm w).1 h1)
      rw [← hF w h1] at this
      omega
    · have hv := (hm v).2 k1
      have a := h3 v hv
      have b := k3 w ((hm w).1 h1)
      rw [← hF w h1, ← hF v hv] at b
      have e : w = v := by omega
      rw [e, hF v hv]
theorem HV.lo {F : Nat → Int} {l : List Nat} {p : Int × Int} (h : HV F l p) : 0 ≤ p.1 := by
  rcases h with ⟨rfl, _⟩ | ⟨w, rfl, _, h, _⟩
  · exact Int.le_refl _
  · exact Int.le_of_lt h
theorem HV.ge {F : Nat → Int} {l : List Nat} {p : Int × Int} (h : HV F l p) {y : Nat} (hy : y ∈ l) : F y ≤ p.1 := by
  rcases h with ⟨rfl, h⟩ | ⟨w, rfl, _, _, h⟩
  · exact h y hy
  · have := h y hy; show F y ≤ F w; omega
/-- One more; a rising list's next one is behind. -/
theorem HV.more {F : Nat → Int} {l : List Nat} {p : Int × Int} (h : HV F l p) {y : Nat} (hy : p.1 < F y) : HV F (l ++ [y]) (F y, (y : Int)) := by
  have := h.lo
  refine Or.inr ⟨y, rfl, by simp, by omega, fun z hz => ?_⟩
  rcases List.mem_append.1 hz with q | q
  · have := h.ge q; omega
  · rw [List.mem_singleton] at q; rw [q]; omega
theorem HV.swap {F : Nat → Int} {l : List Nat} {p : Int × Int} (h : HV F l p) {y : Nat} (hy : F y = p.1) (h0 : 0 ≤ p.2) (h2 : (y : Int) < p.2) : HV F (l ++ [y]) (F y, (y : Int)) := by
  rcases h with ⟨rfl, h⟩ | ⟨w, rfl, k1, k2, k3⟩
  · exact absurd h0 (by decide)
  · have hy : F y = F w := hy
    have h2 : (y : Int) < w := h2
    refine Or.inr ⟨y, rfl, by simp, by omega, fun z hz => ?_⟩
    rcases List.mem_append.1 hz with q | q
    · have := k3 z q; omega
    · rw [List.mem_singleton] at q; rw [q]; omega
theorem HV.stay {F : Nat → Int} {l : List Nat} {p : Int × Int} (h : HV F l p) {y : Nat} (hy : F y ≤ p.1) (h2 : F y = p.1 → 0 ≤ p.2 → p.2 ≤ (y : Int)) : HV F (l ++ [y]) p := by
  rcases h with ⟨rfl, h⟩ | ⟨w, rfl, k1, k2, k3⟩
  · refine Or.inl ⟨rfl, fun z hz => ?_⟩
    rcases List.mem_append.1 hz with q | q
    · exact h z q
    · rw [List.mem_singleton] at q; rw [q]; exact hy
  · have hy : F y ≤ F w := hy
    have h2 : F y = F w → 0 ≤ (w : Int) → (w : Int) ≤ y := h2
    refine Or.inr ⟨w, rfl, List.mem_append.2 (Or.inl k1), k2, fun z hz => ?_⟩
    rcases List.mem_append.1 hz with q | q
    · exact k3 z q
    · rw [List.mem_singleton] at q
      rw [q]
      by_cases e : F y = F w
      · have := h2 e (by omega); omega
      · omega
/-- The sums of the nodes of R, and who comes next. -/
inductive LG (A : Nat → List Nat) (W : Nat → Int) (F G : Nat → Int) : List Nat → Prop
  | nil : LG A W F G []
  | cons {x : Nat} {R : List Nat} {b : Int} : LG A W F G R → (∀ y ∈ A x, y ∈ R) → HV F (A x) (b, G x) → F x = W x + b → LG A W F G (x :: R)
theorem LG.one {A B : Nat → List Nat} {W : Nat → Int} {F G F' G' : Nat → Int} (hAB : ∀ x y, y ∈ A x ↔ y ∈ B x) {R : List Nat} (h : LG A W F G R) : LG B W F' G' R → ∀ x ∈ R, F x = F' x ∧ G x = G' x := by
  induction h with
  | nil => intro _ x hx; cases hx
  | @cons x R b h1 h2 h3 h4 ih =>
    intro k
    cases k with
    | @cons _ _ b' k1 k2 k3 k4 =>
      have ih := ih k1
      have e := h3.one k3 (hAB x) fun y hy => (ih y (h2 y hy)).1
      injection e with e1 e2
      intro y hy
      rcases List.mem_cons.1 hy with q | q
      · rw [q]; exact ⟨by rw [h4, k4, e1], e2⟩
      · exact ih y q
theorem LG.congr {A : Nat → List Nat} {W : Nat → Int} {F G F' G' : Nat → Int} {R : List Nat} (h : LG A W F G R) : (∀ x ∈ R, F' x = F x ∧ G' x = G x) → LG A W F' G' R := by
  induction h with
  | nil => intro _; exact .nil
  | @cons x R b h1 h2 h3 h4 ih =>
    intro k
    have hx := k x (.head _)
    refine .cons (b := b) (ih fun y hy => k y (.tail _ hy)) h2 ?_ (by rw [hx.1]; exact h4)
    rw [hx.2]
    have kF : ∀ y ∈ A x, F' y = F y := fun y hy => (k y (.tail _ (h2 y hy))).1
    rcases h3 with ⟨e, h3⟩ | ⟨w, e, q1, q2, q3⟩
    · exact Or.inl ⟨e, fun y hy => by rw [kF y hy]; exact h3 y hy⟩
    · refine Or.inr ⟨w, by rw [kF w q1]; exact e, q1, by rw [kF w q1]; exact q2, fun y hy => ?_⟩
      rw [kF y hy, kF w q1]
      exact q3 y hy
theorem LG.bd {A : Nat → List Nat} {W : Nat → Int} {F G : Nat → Int} {R : List Nat} {M : Int} (hM : 0 ≤ M) (hW : ∀ x ∈ R, 0 ≤ W x ∧ W x ≤ M) (h : LG A W F G R) : ∀ x ∈ R, 0 ≤ F x ∧ F x ≤ R.length * M ∧ W x ≤ F x ∧ (G x = -1 ∨ ∃ y : Nat, G x = y ∧ y ∈ R) := by
  induction h with
  | nil => intro x hx; cases hx
  | @cons x R b h1 h2 h3 h4 ih =>
    have ih := ih fun y hy => hW y (.tail _ hy)
    have hl : ((x :: R).length : Int) * M = R.length * M + M := by rw [List.length_cons]; push_cast; rw [Int.add_mul]; omega
    intro y hy
    rw [hl]
    rcases List.mem_cons.1 hy with q | q
    · subst q
      have w := hW y (.head _)
      have hb : 0 ≤ b ∧ b ≤ R.length * M ∧ (G y = -1 ∨ ∃ z : Nat, G y = z ∧ z ∈ R) := by
        rcases h3 with ⟨e, h3⟩ | ⟨v, e, q1, q2, q3⟩
        · injection e with e1 e2
          exact ⟨by omega, by rw [e1]; exact Int.mul_nonneg (by omega) hM, Or.inl e2⟩
        · injection e with e1 e2
          have := ih v (h2 v q1)
          exact ⟨by omega, by omega, Or.inr ⟨v, e2, h2 v q1⟩⟩
      refine ⟨by omega, by omega, by omega, ?_⟩
      rcases hb.2.2 with e | ⟨z, e1, e2⟩
      · exact Or.inl e
      · exact Or.inr ⟨z, e1, .tail _ e2⟩
    · have := ih y q
      refine ⟨this.1, by omega, this.2.2.1, ?_⟩
      rcases this.2.2.2 with e | ⟨z, e1, e2⟩
      · exact Or.inl e
      · exact Or.inr ⟨z, e1, .tail _ e2⟩
/-- The first of the greatest among the first k. -/
def mxF (F : Nat → Int) : Nat → Int
  | 0 => -1
  | k + 1 => if mxF F k < 0 ∨ F (mxF F k).toNat < F k then k else mxF F k
theorem mxF_is (F : Nat → Int) (k : Nat) : (k = 0 ∧ mxF F k = -1) ∨ ∃ m : Nat, mxF F k = m ∧ m < k ∧ ∀ y, y < k → F y ≤ F m := by
  induction k with
  | zero => exact Or.inl ⟨rfl, rfl⟩
  | succ k ih =>
    right
    unfold mxF
    rcases ih with ⟨rfl, e⟩ | ⟨m, e, h1, h2⟩
    · rw [e, if_pos (Or.inl (by decide))]
      exact ⟨0, rfl, by omega, fun y hy => by have : y = 0 := by omega
                                              rw [this]; exact Int.le_refl _⟩
    · rw [e]
      have et : ((m : Int)).toNat = m := by simp
      rw [et]
      by_cases c : (m : Int) < 0 ∨ F m < F k
      · rw [if_pos c]
        refine ⟨k, rfl, by omega, fun y hy => ?_⟩
        by_cases z : y = k
        · rw [z]; exact Int.le_refl _
        · have := h2 y (by omega); omega
      · rw [if_neg c]
        refine ⟨m, rfl, by omega, fun y hy => ?_⟩
        by_cases z : y = k
        · rw [z]; omega
        · exact h2 y (by omega)
theorem mxF_congr {F G : Nat → Int} {k : Nat} (h : ∀ y, y < k → F y = G y) : mxF F k = mxF G k := by
  induction k with
  | zero => rfl
  | succ k ih =>
    have ih := ih fun y hy => h y (by omega)
    unfold mxF
    rw [ih, h k (by omega)]
    rcases mxF_is G k with ⟨rfl, e⟩ | ⟨m, e, h1, h2⟩
    · rw [e]; simp
    · rw [e]
      have et : ((m : Int)).toNat = m := by simp
      rw [et, h m (by omega)]
/-- A way that goes on: one step more. -/
def gw (G : Nat → Int) : Nat → Int → List Nat × Int
  | 0, v => ([], v)
  | k + 1, v => if (gw G k v).2 < 0 then gw G k v else ((gw G k v).1 ++ [(gw G k v).2.toNat], G (gw G k v).2.toNat)
theorem gw_done {G : Nat → Int} {v : Int} {k : Nat} (h : (gw G k v).2 < 0) (m : Nat) : gw G (k + m) v = gw G k v := by
  induction m with
  | zero => rfl
  | succ m ih =>
    show gw G ((k + m) + 1) v = _
    rw [gw, ih, if_pos h]
theorem gw_one {G : Nat → Int} {v : Int} {k m : Nat} (h : (gw G k v).2 < 0) (h2 : (gw G m v).2 < 0) : gw G k v = gw G m v := by
  rcases Nat.le_total k m with e | e
  · rw [← gw_done h (m - k), show k + (m - k) = m by omega]
  · rw [← gw_done h2 (k - m), show m + (k - m) = k by omega]
theorem gw_len (G : Nat → Int) (k : Nat) (v : Int) : (gw G k v).1.length ≤ k := by
  induction k with
  | zero => simp [gw]
  | succ k ih =>
    rw [gw]
    split
    · omega
    · rw [List.length_append, List.length_singleton]; omega
theorem pos_cons {x y : Nat} {R : List Nat} (h : x ≠ y) : pos (x :: R) y = pos R y + 1 := by
  unfold pos
  rw [List.idxOf_cons]
  have : (x == y) = false := by simp [h]
  rw [this]; rfl
/-- Where each goes on behind itself it comes to an end. -/
theorem gw_ends {A : Nat → List Nat} {W F G : Nat → Int} {R : List Nat} (hn : R.Nodup) (h : LG A W F G R) : ∀ (k : Nat) (v : Int), (v = -1 ∨ ∃ y : Nat, v = y ∧ y ∈ R) → ((gw G k v).2 = -1 ∨ ∃ y : Nat, (gw G k v).2 = y ∧ y ∈ R ∧ (∀ z ∈ (gw G k v).1, z ∈ R) ∧ k + pos R (v.toNat) ≤ pos R y ∧ (gw G k v).1.length = k) := by
  have nxt : ∀ x ∈ R, G x = -1 ∨ ∃ y : Nat, G x = y ∧ y ∈ R ∧ pos R x < pos R y := by
    have key : ∀ {R : List Nat}, LG A W F G R → R.Nodup → ∀ x ∈ R, G x = -1 ∨ ∃ y : Nat, G x = y ∧ y ∈ R ∧ pos R x < pos R y := by
      intro R h
      induction h with
      | nil => intro _ x hx; cases hx
      | @cons x R b h1 h2 h3 h4 ih =>
        intro hn y hy
        obtain ⟨n1, n2⟩ := List.nodup_cons.1 hn
        rcases List.mem_cons.1 hy with q | q
        · subst q
          rcases h3 with ⟨e, _⟩ | ⟨v, e, q1, _, _⟩
          · injection e with _ e2; exact Or.inl e2
          · injection e with _ e2
            have hv := h2 v q1
            have ne : y ≠ v := fun e => n1 (by rw [e]; exact hv)
            refine Or.inr ⟨v, e2, .tail _ hv, ?_⟩
            rw [pos_cons ne]
            unfold pos
            rw [List.idxOf_cons_self]
            omega
        · rcases ih n2 y q with e | ⟨z, e1, e2, e3⟩
          · exact Or.inl e
          · refine Or.inr ⟨z, e1, .tail _ e2, ?_⟩
            have ne1 : x ≠ y := fun e => n1 (by rw [e]; exact q)
            have ne2 : x ≠ z := fun e => n1 (by rw [e]; exact e2)
            rw [pos_cons ne1, pos_cons ne2]
            omega
    exact key h hn
  intro k v hv
  induction k with
  | zero =>
    rcases hv with e | ⟨y, e1, e2⟩
    · exact Or.inl e
    · exact Or.inr ⟨y, e1, e2, by simp [gw], by rw [e1]; simp, rfl⟩
  | succ k ih =>
    rw [gw]
    rcases ih with e | ⟨y, e1, e2, e3, e4, e5⟩
    · rw [if_pos (by rw [e]; decide)]; exact Or.inl e
    · rw [e1, if_neg (by omega)]
      have et : ((y : Int)).toNat = y := by simp
      rw [et]
      rcases nxt y e2 with q | ⟨z, q1, q2, q3⟩
      · exact Or.inl q
      · refine Or.inr ⟨z, q1, q2, fun u hu => ?_, by omega, by simp [e5]⟩
        rcases List.mem_append.1 hu with r | r
        · exact e3 u r
        · rw [List.mem_singleton] at r; rw [r]; exact e2
end Go.Proofs.Ytghkhceplpjegaa
