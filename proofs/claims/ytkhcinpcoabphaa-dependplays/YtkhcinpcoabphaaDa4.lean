/- Depend: circles of a list of what leads where (plain). -/
import Derived.Test.YtkhcinpcoabphaaDa3
namespace Go.Proofs.Ytkhcinpcoabphaa

def rlB (L : List Int) : Bool := L.all fun x => decide (-1 ≤ x ∧ x < L.length)
theorem rlB_at {L : List Int} (h : rlB L = true) {k : Nat} (hk : k < L.length) : -1 ≤ L[k] ∧ L[k] < L.length := by
  unfold rlB at h
  rw [List.all_eq_true] at h
  simpa using h _ (List.getElem_mem hk)
theorem rlB_no {L : List Int} {k : Nat} (hk : k < L.length) (h : ¬ (-1 ≤ L[k] ∧ L[k] < L.length)) : rlB L = false := by
  cases e : rlB L with
  | false => rfl
  | true => exact absurd (rlB_at e hk) h
theorem rlB_all {L : List Int} (h : ∀ k (hk : k < L.length), -1 ≤ L[k] ∧ L[k] < L.length) : rlB L = true := by
  unfold rlB
  rw [List.all_eq_true]
  intro x hx
  obtain ⟨k, hk, rfl⟩ := List.getElem_of_mem hx
  simpa using h k hk
def oI (x : Int) : Option Nat := if 0 ≤ x then some x.toNat else none
def eO : Option Nat → Int
  | none => -1
  | some j => j
theorem oI_eO (o : Option Nat) : oI (eO o) = o := by
  cases o with
  | none => rfl
  | some j => simp [eO, oI]
theorem eO_oI {x : Int} (h : -1 ≤ x) : eO (oI x) = x := by
  unfold oI
  split
  · show ((x.toNat : Nat) : Int) = x; omega
  · show (-1 : Int) = x; omega
/-- Where one leads. -/
def fL (L : List Int) (i : Nat) : Option Nat := (L[i]?).bind oI
theorem fL_at {L : List Int} {k : Nat} (hk : k < L.length) : fL L k = oI L[k] := by simp [fL, hk]
theorem fL_bd {L : List Int} (h : rlB L = true) : BD (fL L) L.length := fun i j hi e => by
  rw [fL_at hi] at e
  have := rlB_at h hi
  unfold oI at e
  split at e
  · injection e with e; omega
  · cases e
/-- Where one comes to by so many steps. -/
def farL (L : List Int) (m : Nat) : List Int := (List.range L.length).map fun i => eO (itn (fL L) m i)
theorem farL_len (L : List Int) (m : Nat) : (farL L m).length = L.length := by simp [farL]
theorem farL_at {L : List Int} {m k : Nat} (hk : k < L.length) : (farL L m)[k]'(by rw [farL_len]; exact hk) = eO (itn (fL L) m k) := by simp [farL]
theorem farL_one {L : List Int} (h : rlB L = true) : farL L 1 = L := by
  apply List.ext_getElem (farL_len L 1)
  intro k h1 h2
  rw [farL_at h2, it_one, fL_at h2, eO_oI (rlB_at h h2).1]
theorem farL_f {L : List Int} {m k : Nat} (hk : k < L.length) : fL (farL L m) k = itn (fL L) m k := by
  rw [fL_at (by rw [farL_len]; exact hk), farL_at hk, oI_eO]
theorem farL_rl {L : List Int} (h : rlB L = true) (m : Nat) : rlB (farL L m) = true := by
  refine rlB_all fun k hk => ?_
  have hk2 : k < L.length := by rw [farL_len] at hk; exact hk
  rw [farL_at hk2, farL_len]
  cases e : itn (fL L) m k with
  | none => simp [eO]; omega
  | some j => have := (fL_bd h).steps m k j hk2 e; simp [eO]; omega
/-- Twice as far. -/
def twA (M : List Int) (k : Nat) : Int := eO ((fL M k).bind (fL M))
def twL (M : List Int) : List Int := (List.range M.length).map (twA M)
theorem twL_len (M : List Int) : (twL M).length = M.length := by simp [twL]
theorem twL_at {M : List Int} {k : Nat} (hk : k < M.length) : (twL M)[k]'(by rw [twL_len]; exact hk) = twA M k := by simp [twL]
theorem twL_far {L : List Int} (h : rlB L = true) (m : Nat) : twL (farL L m) = farL L (m + m) := by
  apply List.ext_getElem (by rw [twL_len, farL_len, farL_len])
  intro k h1 h2
  have hk : k < L.length := by rw [farL_len] at h2; exact h2
  rw [twL_at (by rw [farL_len]; exact hk), farL_at hk]
  unfold twA
  rw [farL_f hk, it_add]
  congr 1
  cases e : itn (fL L) m k with
  | none => rfl
  | some j => exact farL_f ((fL_bd h).steps m k j hk e)
theorem twA_no {M : List Int} {k : Nat} (hk : k < M.length) (h : M[k] < 0) : twA M k = -1 := by
  unfold twA
  rw [fL_at hk]
  unfold oI
  rw [if_neg (by omega)]
  rfl
theorem twA_yes {M : List Int} (hr : rlB M = true) {k j : Nat} (hk : k < M.length) (h : M[k] = (j : Int)) (hj : j < M.length) : twA M k = M[j] := by
  unfold twA
  rw [fL_at hk, h]
  show eO (((oI (j : Int))).bind (fL M)) = _
  have : oI (j : Int) = some j := by simp [oI]
  rw [this]
  show eO (fL M j) = _
  rw [fL_at hj, eO_oI (rlB_at hr hj).1]
/-- The least that is no -1. -/
def lsI (n : Int) (M : List Int) : Int := M.foldl (fun a x => if x = -1 then a else min a x) n
theorem lsI_snoc (n : Int) (M : List Int) (x : Int) : lsI n (M ++ [x]) = if x = -1 then lsI n M else min (lsI n M) x := by unfold lsI; rw [List.foldl_append]; rfl
theorem lsI_spec (n : Int) (M : List Int) : lsI n M ≤ n ∧ (∀ x ∈ M, x ≠ -1 → lsI n M ≤ x) ∧ (lsI n M = n ∨ (lsI n M ∈ M ∧ lsI n M ≠ -1)) := by
  induction M generalizing n with
  | nil => exact ⟨Int.le_refl _, fun x hx => (by cases hx), Or.inl rfl⟩
  | cons x M ih =>
    have e : lsI n (x :: M) = lsI (if x = -1 then n else min n x) M := rfl
    obtain ⟨h1, h2, h3⟩ := ih (if x = -1 then n else min n x)
    rw [e]
    by_cases hx : x = -1
    · rw [if_pos hx] at h1 h2 h3 ⊢
      refine ⟨h1, fun y hy hne => ?_, ?_⟩
      · rcases List.mem_cons.1 hy with rfl | hy
        · exact absurd hx hne
        · exact h2 y hy hne
      · rcases h3 with h3 | ⟨h3, h4⟩
        · exact Or.inl h3
        · exact Or.inr ⟨List.mem_cons_of_mem _ h3, h4⟩
    · rw [if_neg hx] at h1 h2 h3 ⊢
      refine ⟨by omega, fun y hy hne => ?_, ?_⟩
      · rcases List.mem_cons.1 hy with rfl | hy
        · omega
        · exact h2 y hy hne
      · rcases h3 with h3 | ⟨h3, h4⟩
        · by_cases hm : n ≤ x
          · left; omega
          · right
            have e2 : lsI (min n x) M = x := by omega
            rw [e2]; exact ⟨by simp, hx⟩
        · exact Or.inr ⟨List.mem_cons_of_mem _ h3, h4⟩
/-- The least number that comes back to itself. -/
structure Lst (L : List Int) (m : Nat) : Prop where
  lt : m < L.length
  cyc : Cyc (fL L) m
  le : ∀ j, j < L.length → Cyc (fL L) j → m ≤ j
theorem Lst.uniq {L : List Int} {m k : Nat} (h : Lst L m) (h' : Lst L k) : m = k := by
  have := h.le k h'.lt h'.cyc
  have := h'.le m h.lt h.cyc
  omega
theorem ls_lst {L : List Int} (h : rlB L = true) {N : Nat} (hN : L.length ≤ N) (hl : lsI L.length (farL L N) < L.length) : ∃ m : Nat, lsI L.length (farL L N) = m ∧ Lst L m := by
  obtain ⟨_, h2, h3⟩ := lsI_spec L.length (farL L N)
  generalize lsI L.length (farL L N) = r at *
  rcases h3 with h3 | ⟨h3, h4⟩
  · omega
  · obtain ⟨k, hk, hr⟩ := List.getElem_of_mem h3
    have hk2 : k < L.length := by rw [farL_len] at hk; exact hk
    rw [farL_at hk2] at hr
    cases e : itn (fL L) N k with
    | none => rw [e] at hr; exact absurd hr.symm h4
    | some j =>
      rw [e] at hr
      refine ⟨j, hr.symm, (fL_bd h).steps N k j hk2 e, pig (fL_bd h) hk2 hN e, fun i hi hc => ?_⟩
      obtain ⟨x, k2, hx, hx2⟩ := cyc_back hc N
      have hxl := (fL_bd h).steps k2 i x hi hx
      have hmem : (i : Int) ∈ farL L N := by
        have := farL_at (m := N) hxl
        rw [hx2] at this
        have this : (farL L N)[x]'(by rw [farL_len]; exact hxl) = (i : Int) := this
        rw [← this]; exact List.getElem_mem _
      have := h2 i hmem (by omega)
      rw [← hr] at this
      have this : (j : Int) ≤ i := this
      omega
theorem ls_none {L : List Int} (h : rlB L = true) {N : Nat} (hl : ¬ lsI L.length (farL L N) < L.length) : ∀ i, i < L.length → ¬ Cyc (fL L) i := fun i hi hc => by
  obtain ⟨_, h2, _⟩ := lsI_spec L.length (farL L N)
  obtain ⟨x, k2, hx, hx2⟩ := cyc_back hc N
  have hxl := (fL_bd h).steps k2 i x hi hx
  have hmem : (i : Int) ∈ farL L N := by
    have := farL_at (m := N) hxl
    rw [hx2] at this
    have this : (farL L N)[x]'(by rw [farL_len]; exact hxl) = (i : Int) := this
    rw [← this]; exact List.getElem_mem _
  have := h2 i hmem (by omega)
  omega
/-- On, up to where one comes back. -/
def gL (L : List Int) (m x : Nat) : Option Nat := if fL L x = some m then none else fL L x
theorem gL_sub {L : List Int} {m x y : Nat} (h : gL L m x = some y) : fL L x = some y := by
  unfold gL at h
  split at h
  · cases h
  · exact h
theorem gL_it {L : List Int} {m : Nat} : ∀ {k x y : Nat}, itn (gL L m) k x = some y → itn (fL L) k x = some y
  | 0, _, _, h => h
  | k + 1, x, y, h => by
    simp only [itn] at h ⊢
    cases e : gL L m x with
    | none => rw [e] at h; cases h
    | some z => rw [e] at h; rw [gL_sub e]; exact gL_it h
theorem gL_ends {L : List Int} {m : Nat} (h : Cyc (fL L) m) : Ends (gL L m) m := by
  obtain ⟨p, hp, e⟩ := h
  refine ⟨p, ?_⟩
  cases e2 : itn (gL L m) p m with
  | none => rfl
  | some y =>
    have e3 := gL_it e2
    rw [e] at e3
    injection e3 with e3
    subst e3
    obtain ⟨q, rfl⟩ : ∃ q, p = q + 1 := ⟨p - 1, by omega⟩
    rw [it_last] at e2
    cases e4 : itn (gL L m) q m with
    | none => rw [e4] at e2; cases e2
    | some x =>
      rw [e4] at e2
      have e5 : gL L m x = some m := e2
      have e6 := gL_sub e5
      unfold gL at e5
      rw [if_pos e6] at e5; cases e5
/-- The circle of a list. -/
def CirR (L : List Int) (R : List Nat) : Prop := (R = [] ∧ ∀ i, i < L.length → ¬ Cyc (fL L) i) ∨ ∃ m, Lst L m ∧ Way (gL L m) m R
theorem CirR.uniq {L : List Int} {R S : List Nat} (h : CirR L R) (k : CirR L S) : R = S := by
  rcases h with ⟨h1, h2⟩ | ⟨m, h1, h2⟩ <;> rcases k with ⟨k1, k2⟩ | ⟨m', k1, k2⟩
  · rw [h1, k1]
  · exact absurd k1.cyc (h2 m' k1.lt)
  · exact absurd h1.cyc (k2 m h1.lt)
  · have := h1.uniq k1
    subst this
    exact h2.uniq k2
theorem gL_bd {L : List Int} (h : rlB L = true) (m : Nat) : BD (gL L m) L.length := fun i j hi e => fL_bd h i j hi (gL_sub e)
theorem CirR.len {L : List Int} (hr : rlB L = true) {R : List Nat} (h : CirR L R) : R.length ≤ L.length := by
  rcases h with ⟨h1, _⟩ | ⟨m, h1, h2⟩
  · rw [h1]; simp
  · exact h2.len (gL_bd hr m) h1.lt
/-- A circle leads from each to the next one, and back. -/
theorem CirR.round {L : List Int} (hr : rlB L = true) {R : List Nat} (h : CirR L R) {k : Nat} (hk : k < R.length) : ∃ x : Nat, R[k] = x ∧ R[0]'(by omega) ≤ x ∧ ∃ hx : x < L.length, L[x] = ((R[(k + 1) % R.length]'(Nat.mod_lt _ (by omega)) : Nat) : Int) := by
  rcases h with ⟨h1, _⟩ | ⟨m, h1, h2⟩
  · subst h1; simp at hk
  · have hc : Cyc (fL L) R[k] := cyc_step h1.cyc (gL_it (h2.reach k hk))
    have hx := h2.lt (gL_bd hr m) h1.lt _ (List.getElem_mem hk)
    have h0 : R[0]'(by omega) = m := by
      have := h2.reach 0 (by omega)
      simp only [itn, Option.some.injEq] at this
      exact this.symm
    refine ⟨R[k], rfl, ?_, hx, ?_⟩
    · rw [h0]; exact h1.le _ hx hc
    · have key : ∀ y : Nat, fL L R[k] = some y → L[R[k]] = (y : Int) := fun y hy => by
        rw [fL_at hx] at hy
        have := eO_oI (rlB_at hr hx).1
        rw [hy] at this
        exact this.symm
      by_cases hl : k + 1 < R.length
      · have := gL_sub (h2.link k hl)
        rw [key _ this]
        congr 1
        simp [Nat.mod_eq_of_lt hl]
      · have hlast : gL L m R[k] = none := by
          have hne := h2.ne
          have e : R.getLast hne = R[k] := by rw [List.getLast_eq_getElem]; congr 1; omega
          have := h2.last_none hne
          rw [e] at this; exact this
        have hfm : fL L R[k] = some m := by
          unfold gL at hlast
          split at hlast
          · assumption
          · exact absurd (by rw [it_one]; exact hlast) (cyc_never hc 1)
        rw [key _ hfm]
        have e : (k + 1) % R.length = 0 := by rw [show k + 1 = R.length by omega, Nat.mod_self]
        simp only [e]
        rw [h0]
theorem no_cyc_end {L : List Int} (hr : rlB L = true) (h : ∀ i, i < L.length → ¬ Cyc (fL L) i) {i : Nat} (hi : i < L.length) : itn (fL L) (L.length + 1) i = none := by
  cases e : itn (fL L) (L.length + 1) i with
  | none => rfl
  | some j => exact absurd (pig (fL_bd hr) hi (Nat.le_succ _) e) (h j ((fL_bd hr).steps _ i j hi e))
end Go.Proofs.Ytkhcinpcoabphaa
