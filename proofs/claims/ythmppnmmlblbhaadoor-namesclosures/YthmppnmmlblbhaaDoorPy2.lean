/- Names: which expressions are right, plain. -/
import Derived.Test.YthmppnmmlblbhaaDoorPx3
import Derived.Test.YthmppnmmlblbhaaDoorPy1
namespace Go.Proofs.YthmppnmmlblbhaaDoor
open Go.RowKit

def nsO (l : List Opn) : List Int := l.map (·.n)
theorem nsO_len (l : List Opn) : (nsO l).length = l.length := by simp [nsO]
/-- How many wholes are left; none: an operation can not stand there. -/
def walkO : Int → List Opn → Option Int
  | s, [] => some s
  | s, c :: r => if opB c = true ∧ c.n ≤ s then walkO (s + (1 - c.n)) r else none
theorem opB_parts {c : Opn} (h : opB c = true) : isX c.kind = true ∧ arB c = true ∧ inB' c = true ∧ txB c = true := by
  unfold opB at h
  simp only [Bool.and_eq_true] at h
  exact ⟨h.1, h.2.1.1, h.2.1.2, h.2.2⟩
theorem oprt_bd {k : Int} (h : isX k = true) : 0 ≤ oprt k ∧ oprt k ≤ 3 := by
  rw [isX_iff] at h
  have : k = 1 ∨ k = 2 ∨ k = 3 ∨ k = 4 ∨ k = 5 ∨ k = 6 ∨ k = 7 ∨ k = 8 ∨ k = 9 ∨ k = 10 ∨ k = 11 ∨ k = 12 ∨ k = 13 ∨ k = 14 ∨ k = 15 ∨ k = 16 ∨ k = 17 ∨ k = 18 ∨ k = 19 := by omega
  rcases this with rfl | rfl | rfl | rfl | rfl | rfl | rfl | rfl | rfl | rfl | rfl | rfl | rfl | rfl | rfl | rfl | rfl | rfl | rfl <;> decide
theorem opB_n {c : Opn} (h : opB c = true) : 0 ≤ c.n := by
  obtain ⟨h1, h2, _⟩ := opB_parts h
  have := oprt_bd h1
  unfold arB at h2
  split at h2 <;> simp at h2 <;> omega
theorem opB_n2 {c : Opn} (h : opB c = true) (hk : c.kind ≠ 5) : c.n = oprt c.kind := by
  obtain ⟨h1, h2, _⟩ := opB_parts h
  unfold arB at h2
  rw [if_neg hk] at h2
  simpa using h2
theorem walkO_step {c : Opn} {r : List Opn} {s t : Int} (h : walkO s (c :: r) = some t) : (opB c = true ∧ c.n ≤ s) ∧ walkO (s + (1 - c.n)) r = some t := by
  rw [walkO] at h
  split at h
  · rename_i hc; exact ⟨hc, h⟩
  · cases h
theorem walkO_iff : ∀ (l : List Opn) (s t : Int), walkO s l = some t ↔ (∀ c ∈ l, opB c = true) ∧ walkN s (nsO l) = some t
  | [], s, t => by simp [walkO, walkN, nsO]
  | c :: r, s, t => by
    have ih := walkO_iff r (s + (1 - c.n)) t
    rw [walkO, show nsO (c :: r) = c.n :: nsO r from rfl, walkN]
    by_cases h1 : opB c = true
    · have hn := opB_n h1
      by_cases h2 : c.n ≤ s
      · rw [if_pos ⟨h1, h2⟩, if_pos ⟨hn, h2⟩, ih]; simp [h1]
      · rw [if_neg (fun h => h2 h.2), if_neg (fun h => h2 h.2)]; simp
    · rw [if_neg (fun h => h1 h.1)]; simp [h1]
def wholeB (l : List Opn) : Bool := decide (walkO 0 l = some 1)
theorem wholeB_ok {l : List Opn} (h : wholeB l = true) : (∀ c ∈ l, opB c = true) ∧ walkN 0 (nsO l) = some 1 := (walkO_iff l 0 1).1 (by simpa [wholeB] using h)
def op0 : Opn := ⟨0, 0, 0, ByteArray.empty⟩
def opA (l : List Opn) (k : Nat) : Opn := l.getD k op0
theorem opA_eq {l : List Opn} {k : Nat} (h : k < l.length) : opA l k = l[k] := by unfold opA; simp [List.getD, List.getElem?_eq_getElem h]
/-- The parts of the whole at a place. -/
def ptO (l : List Opn) (k : Nat) : List Int := ((whA (nsO l)).getD k (0, [])).2
/-- The place of its first part. -/
def p0 (l : List Opn) (k : Nat) : Int := (ptO l k).getD 0 0
/-- Does the let at k bind the local at u? -/
def bindB (l : List Opn) (k : Nat) (u : Int) : Bool := decide (p0 l k < u) && decide ((opA l u.toNat).text = (opA l k).text)
/-- The locals that are not bound yet. -/
def unbK (l : List Opn) : Nat → List Int
  | 0 => []
  | k + 1 => if (opA l k).kind = 4 then unbK l k ++ [(k : Int)] else if (opA l k).kind = 19 then (unbK l k).filter (fun u => !(bindB l k u)) else unbK l k
def boundB (l : List Opn) : Bool := decide ((unbK l l.length).length = 0)
theorem unbK_mem (l : List Opn) : ∀ (k : Nat) (x : Int), x ∈ unbK l k ↔ ∃ i : Nat, x = i ∧ i < k ∧ (opA l i).kind = 4 ∧ ∀ k', i < k' → k' < k → (opA l k').kind = 19 → bindB l k' (i : Int) = false
  | 0, x => by simp [unbK]
  | k + 1, x => by
    have ih := unbK_mem l k
    rw [unbK]
    by_cases h4 : (opA l k).kind = 4
    · rw [if_pos h4, List.mem_append, List.mem_singleton, ih]
      constructor
      · rintro (⟨i, rfl, h1, h2, h3⟩ | rfl)
        · exact ⟨i, rfl, by omega, h2, fun k' a b c => by
            by_cases e : k' = k
            · subst e; omega
            · exact h3 k' a (by omega) c⟩
        · exact ⟨k, rfl, by omega, h4, fun k' a b c => by omega⟩
      · rintro ⟨i, rfl, h1, h2, h3⟩
        by_cases e : i = k
        · subst e; exact Or.inr rfl
        · exact Or.inl ⟨i, rfl, by omega, h2, fun k' a b c => h3 k' a (by omega) c⟩
    · rw [if_neg h4]
      by_cases h19 : (opA l k).kind = 19
      · rw [if_pos h19, List.mem_filter, ih]
        constructor
        · rintro ⟨⟨i, rfl, h1, h2, h3⟩, h5⟩
          refine ⟨i, rfl, by omega, h2, fun k' a b c => ?_⟩
          by_cases e : k' = k
          · subst e; simpa using h5
          · exact h3 k' a (by omega) c
        · rintro ⟨i, rfl, h1, h2, h3⟩
          have hik : i ≠ k := fun e => by subst e; exact h4 h2
          exact ⟨⟨i, rfl, by omega, h2, fun k' a b c => h3 k' a (by omega) c⟩, by rw [h3 k (by omega) (by omega) h19]; rfl⟩
      · rw [if_neg h19, ih]
        constructor
        · rintro ⟨i, rfl, h1, h2, h3⟩
          refine ⟨i, rfl, by omega, h2, fun k' a b c => ?_⟩
          by_cases e : k' = k
          · subst e; exact absurd c h19
          · exact h3 k' a (by omega) c
        · rintro ⟨i, rfl, h1, h2, h3⟩
          have hik : i ≠ k := fun e => by subst e; exact h4 h2
          exact ⟨i, rfl, by omega, h2, fun k' a b c => h3 k' a (by omega) c⟩
theorem unbK_bd (l : List Opn) (k : Nat) : ∀ x ∈ unbK l k, 0 ≤ x ∧ x < k := fun x hx => by
  obtain ⟨i, rfl, h1, _⟩ := (unbK_mem l k x).1 hx
  omega
theorem unbK_len (l : List Opn) : ∀ k, (unbK l k).length ≤ k
  | 0 => by simp [unbK]
  | k + 1 => by
    have ih := unbK_len l k
    rw [unbK]
    split
    · simp; omega
    · split
      · have := List.length_filter_le (fun u => !(bindB l k u)) (unbK l k); omega
      · omega
/-- The parts of a right row. -/
theorem ptO_len {l : List Opn} (h : walkN 0 (nsO l) = some 1) {k : Nat} (hk : k < l.length) : ((ptO l k).length : Int) = l[k].n ∧ ∀ x ∈ ptO l k, 0 ≤ x ∧ x < k := by
  obtain ⟨E', PJ⟩ := whA_PI h
  obtain ⟨c, h1, h2, _, h4⟩ := PJ.pa k (by rw [nsO_len]; exact hk)
  have : c = l[k].n := by
    have e : (nsO l)[k]? = some l[k].n := by simp [nsO, List.getElem?_eq_getElem hk]
    rw [e] at h1; exact (Option.some.inj h1).symm
  subst this
  exact ⟨h2, h4⟩
/-- A let's second part ends right ahead of it, and begins right behind the first one. -/
theorem let_from {l : List Opn} (h : wholeB l = true) {k : Nat} (hk : k < l.length) (h19 : (opA l k).kind = 19) : 1 ≤ k ∧ frA (whA (nsO l)) ((k - 1 : Nat) : Int) = p0 l k + 1 := by
  obtain ⟨ha, hw⟩ := wholeB_ok h
  obtain ⟨E', PJ⟩ := whA_PI hw
  obtain ⟨c, h1, h2, h3, h4⟩ := PJ.pa k (by rw [nsO_len]; exact hk)
  obtain ⟨h5, h6⟩ := ptO_len hw hk
  rw [opA_eq hk] at h19
  have hn : l[k].n = 2 := by rw [opB_n2 (ha _ (List.getElem_mem hk)) (by rw [h19]; decide), h19]; decide
  have hl : (ptO l k).length = 2 := by omega
  change CHN (frA (whA (nsO l))) (ptO l k) k at h3
  have e1 := h3.1 0 (by omega)
  have e2 := h3.2 (by omega)
  rw [hl] at e2
  have hm := h6 _ (mem_getD (S := ptO l k) (j := 1) (by omega))
  simp only [Nat.zero_add, show 2 - 1 = 1 from rfl] at e1 e2
  refine ⟨by omega, ?_⟩
  have e3 : ((k - 1 : Nat) : Int) = (ptO l k).getD 1 0 := by omega
  rw [e3]; unfold p0; omega
/-- The reference's word for it. -/
theorem boundB_iff {l : List Opn} (h : wholeB l = true) : boundB l = true ↔ ∀ i, i < l.length → (opA l i).kind = 4 → ∃ k, i < k ∧ k < l.length ∧ (opA l k).kind = 19 ∧ (opA l k).text = (opA l i).text ∧ frA (whA (nsO l)) ((k - 1 : Nat) : Int) ≤ i := by
  have key : ∀ k i, k < l.length → (opA l k).kind = 19 → (bindB l k (i : Nat) = true ↔ ((opA l k).text = (opA l i).text ∧ frA (whA (nsO l)) ((k - 1 : Nat) : Int) ≤ i)) := fun k i hk h19 => by
    obtain ⟨_, e⟩ := let_from h hk h19
    rw [e]
    unfold bindB
    simp only [Bool.and_eq_true, decide_eq_true_eq, Int.toNat_natCast]
    constructor
    · rintro ⟨a, b⟩; exact ⟨b.symm, by omega⟩
    · rintro ⟨a, b⟩; exact ⟨by omega, a.symm⟩
  have e0 : boundB l = true ↔ ∀ x, x ∉ unbK l l.length := by
    unfold boundB
    rw [decide_eq_true_eq, List.length_eq_zero_iff, List.eq_nil_iff_forall_not_mem]
  rw [e0]
  constructor
  · intro hb i hi h4
    have := hb (i : Int)
    rw [unbK_mem] at this
    refine Classical.byContradiction fun hn => this ⟨i, rfl, hi, h4, fun k' a b c => ?_⟩
    cases hc : bindB l k' (i : Int) with
    | false => rfl
    | true =>
      obtain ⟨u, v⟩ := (key k' i b c).1 hc
      exact absurd ⟨k', a, b, c, u, v⟩ hn
  · intro hr x hx
    obtain ⟨i, rfl, h1, h2, h3⟩ := (unbK_mem l l.length x).1 hx
    obtain ⟨k, a, b, c, d, e⟩ := hr i h1 h2
    have := h3 k a b c
    rw [(key k i b c).2 ⟨d, e⟩] at this
    cases this
def longB (l : List Opn) : Bool := l.any fun o => decide (4096 < o.text.size)
def deepO (l : List Opn) : Int := deepV (nsO l)
/-- What is wrong with an expression. -/
def chkO (l : List Opn) : Int := if 256 < l.length then 3 else if wholeB l = true ∧ boundB l = true then (if longB l = true ∨ 32 < deepO l then 3 else 0) else 5
theorem chkO_ok {l : List Opn} (h : chkO l = 0) : l.length ≤ 256 ∧ wholeB l = true ∧ boundB l = true ∧ longB l = false ∧ deepO l ≤ 32 := by
  unfold chkO at h
  split at h
  · omega
  · split at h
    · rename_i h1 h2
      split at h
      · omega
      · rename_i h3
        exact ⟨by omega, h2.1, h2.2, by simpa using fun e => h3 (Or.inl e), by have := fun e => h3 (Or.inr e); omega⟩
    · omega
theorem longB_iff {l : List Opn} : longB l = false ↔ ∀ k (h : k < l.length), l[k].text.size ≤ 4096 := by
  unfold longB
  rw [List.any_eq_false]
  constructor
  · intro h k hk
    have := h _ (List.getElem_mem hk)
    simpa using this
  · intro h o ho
    obtain ⟨k, hk, rfl⟩ := List.getElem_of_mem ho
    simpa using h k hk
theorem longB_hit {l : List Opn} {k : Nat} (h : k < l.length) (h2 : 4096 < l[k].text.size) : longB l = true := by
  cases e : longB l with
  | true => rfl
  | false => have := longB_iff.1 e k h; omega
end Go.Proofs.YthmppnmmlblbhaaDoor
