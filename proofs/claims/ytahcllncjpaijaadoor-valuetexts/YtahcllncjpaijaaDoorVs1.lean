/- Values, plain: the reference's reading of a text. -/
import Derived.Test.YtahcllncjpaijaaDoorUnq5
import Derived.Test.YtahcllncjpaijaaDoorPlain2
namespace Go.Proofs.YtahcllncjpaijaaDoor
open Go.RowKit

/-- How far a quoted text's end is, behind its first byte. -/
def sq : List UInt8 → Nat
  | [] => 0
  | [c] => if c = 34 then 0 else if c = 92 then 2 else 1
  | c :: d :: r => if c = 34 then 0 else if c = 92 then 2 + sq r else 1 + sq (d :: r)
theorem sq_plain {c : UInt8} {r : List UInt8} (h1 : c ≠ 92) (h2 : c ≠ 34) : sq (c :: r) = 1 + sq r := by
  cases r with
  | nil => simp [sq, h1, h2]
  | cons d r => rw [sq, if_neg h2, if_neg h1]
theorem sq_esc {d : UInt8} {r : List UInt8} : sq (92 :: d :: r) = 2 + sq r := by rw [sq, if_neg (by decide), if_pos rfl]
theorem sq_end (r : List UInt8) : sq (34 :: r) = 0 := by cases r <;> rw [sq, if_pos rfl]
theorem hexD_ok' : ∀ n : Fin 16, hexD n.val ≠ 92 ∧ hexD n.val ≠ 34 := by decide
theorem sq_qB (c : UInt8) (r : List UInt8) : sq (qB c ++ r) = (qB c).length + sq r := by
  have hlt := UInt8.toNat_lt c
  by_cases h1 : (c.toNat : Int) = 34
  · rw [qB_34 h1]; simp only [List.cons_append, List.nil_append, sq_esc]; simp
  · by_cases h2 : (c.toNat : Int) = 92
    · rw [qB_92 h2]; simp only [List.cons_append, List.nil_append, sq_esc]; simp
    · by_cases h3 : (c.toNat : Int) = 10
      · rw [qB_nl h3]; simp only [List.cons_append, List.nil_append, sq_esc]; simp
      · by_cases h4 : 32 ≤ (c.toNat : Int) ∧ (c.toNat : Int) ≤ 126
        · rw [qB_plain h1 h2 h4.1 h4.2]
          have e1 : c ≠ 92 := fun e => h2 (by rw [e]; rfl)
          have e2 : c ≠ 34 := fun e => h1 (by rw [e]; rfl)
          simp only [List.cons_append, List.nil_append, sq_plain e1 e2]; simp
        · rw [qB_hex h3 (by omega)]
          have a := hexD_ok' ⟨c.toNat / 16, by omega⟩
          have b := hexD_ok' ⟨c.toNat % 16, by omega⟩
          simp only at a b
          simp only [List.cons_append, List.nil_append, sq_esc, sq_plain a.1 a.2, sq_plain b.1 b.2]; simp; omega
theorem sq_quo : ∀ (t X : List UInt8), sq (t.flatMap qB ++ 34 :: X) = (t.flatMap qB).length
  | [], X => by simp only [List.flatMap_nil, List.nil_append, List.length_nil]; exact sq_end X
  | c :: t, X => by rw [List.flatMap_cons, List.append_assoc, sq_qB, sq_quo t X, List.length_append]
theorem sq_step {l : List UInt8} {k : Nat} (hk : k < l.length) : sq (l.drop k) = if l[k] = 34 then 0 else if l[k] = 92 then 2 + sq (l.drop (k + 2)) else 1 + sq (l.drop (k + 1)) := by
  rw [List.drop_eq_getElem_cons hk]
  by_cases h2 : k + 1 < l.length
  · rw [List.drop_eq_getElem_cons h2, sq]
  · rw [List.drop_of_length_le (i := k + 1) (by omega), List.drop_of_length_le (i := k + 2) (by omega)]
    simp [sq]
theorem unq_quo (s : List UInt8) : L1.unqT (quo s) = s ∧ L1.unqB (quo s) = true := by
  have hq : L1.qa (quo s) 0 = (s, (quo s).length, true) := by
    have e : (quo s).drop (0 + 1) = s.flatMap qB ++ 34 :: [] := rfl
    unfold L1.qa
    rw [e, L1.uq_quo s []]
    simp [quo]; omega
  have h := L1.unq_t (l := quo s) ⟨rfl, by rw [hq], by rw [hq]⟩
  rw [hq] at h
  exact h
theorem quo_unq {l : List UInt8} (h : L1.unqB l = true) : quo (L1.unqT l) = l := by
  have hc : l.head? = some 34 ∧ (L1.qa l 0).2.2 = true ∧ (L1.qa l 0).2.1 = l.length := by
    by_cases hc : l.head? = some 34 ∧ (L1.qa l 0).2.2 = true ∧ (L1.qa l 0).2.1 = l.length
    · exact hc
    · rw [(L1.unq_f hc).2] at h; cases h
  obtain ⟨h1, h2, h3⟩ := hc
  have ht := (L1.unq_t ⟨h1, h2, h3⟩).1
  cases l with
  | nil => cases h1
  | cons c r =>
    simp at h1
    subst h1
    rw [ht]
    unfold L1.qa at h2 h3 ⊢
    rw [show (34 :: r).drop (0 + 1) = r from rfl] at h2 h3 ⊢
    cases e : L1.uq r with
    | none => rw [e] at h2; cases h2
    | some x =>
      obtain ⟨t, m⟩ := x
      rw [e] at h3
      have h3' : m = r.length := by simp at h3; omega
      have := L1.quo_of_uq r t m e
      rw [h3', List.take_length] at this
      show quo t = _
      rw [this]; simp [quo]
theorem numGo_snoc : ∀ (l : List UInt8) (c : UInt8) (a n : Int), L1.numGo (l ++ [c]) a = some n → ∃ m, L1.numGo l a = some m ∧ 48 ≤ (c.toNat : Int) ∧ (c.toNat : Int) ≤ 57 ∧ n = 10 * m + ((c.toNat : Int) - 48)
  | [], c, a, n, h => by
    rw [List.nil_append] at h
    simp only [L1.numGo] at h
    split at h
    · rename_i hc
      split at h
      · cases h
      · injection h with h
        exact ⟨a, rfl, hc.1, hc.2, h.symm⟩
    · cases h
  | d :: l, c, a, n, h => by
    rw [List.cons_append] at h
    simp only [L1.numGo] at h ⊢
    split at h
    · rename_i hc
      rw [if_pos hc]
      split at h
      · cases h
      · rename_i hb
        rw [if_neg hb]
        exact numGo_snoc l c _ n h
    · cases h
theorem num_dec : ∀ (k : Nat) (l : List UInt8) (n : Int), l.length = k → L1.numBad l = false → L1.numGo l 0 = some n → 0 ≤ n ∧ Lib.decDigits n.toNat = l
  | 0, l, n, hk, hb, _ => by
    have := List.length_eq_zero_iff.1 hk
    subst this
    simp [L1.numBad] at hb
  | k + 1, l, n, hk, hb, hg => by
    have hne : l ≠ [] := by intro e; subst e; simp at hk
    obtain ⟨r, c, rfl⟩ : ∃ r c, l = r ++ [c] := ⟨l.dropLast, l.getLast hne, (List.dropLast_concat_getLast hne).symm⟩
    obtain ⟨m, h1, h2, h3, h4⟩ := numGo_snoc r c 0 n hg
    have hc : UInt8.ofNat (48 + (c.toNat - 48)) = c := by
      have : 48 + (c.toNat - 48) = c.toNat := by omega
      rw [this]; simp
    cases r with
    | nil =>
      simp [L1.numGo] at h1
      subst h1
      refine ⟨by omega, ?_⟩
      have e : n.toNat = c.toNat - 48 := by omega
      rw [e, Lib.decDigits, dif_pos (by omega), hc]
      rfl
    | cons d r =>
      have hd : d ≠ 48 := by
        intro e
        subst e
        cases r <;> simp [L1.numBad] at hb
      have hb' : L1.numBad (d :: r) = false := by
        cases r with
        | nil => rfl
        | cons x r => simp [L1.numBad, hd]
      obtain ⟨m0, m1⟩ := num_dec k (d :: r) m (by simpa using hk) hb' h1
      have hm : 1 ≤ m := by
        rcases Int.lt_or_le m 1 with hlt | hge
        · have : m.toNat = 0 := by omega
          rw [this, Lib.decDigits, dif_pos (by omega)] at m1
          simp at m1
          exact absurd m1.1.symm hd
        · exact hge
      refine ⟨by omega, ?_⟩
      have e1 : n.toNat / 10 = m.toNat := by omega
      have e2 : n.toNat % 10 = c.toNat - 48 := by omega
      rw [Lib.decDigits, dif_neg (by omega), e1, e2, m1, hc]
theorem numB_dec {l : List UInt8} (h : L1.numB l = true) : 0 ≤ L1.numN l ∧ Lib.decDigits (L1.numN l).toNat = l := by
  unfold L1.numB at h
  split at h
  · cases h
  · rename_i hb
    have hb' : L1.numBad l = false := by simpa using hb
    cases e : L1.numGo l 0 with
    | none => rw [e] at h; cases h
    | some n =>
      have hn : L1.numN l = n := by unfold L1.numN; rw [hb', e]; rfl
      rw [hn]
      exact num_dec _ l n rfl hb' e
theorem numB_of (u : Nat) (hu : u ≤ 9007199254740992) : L1.numB (Lib.decDigits u) = true ∧ L1.numN (Lib.decDigits u) = (u : Int) := by
  refine ⟨?_, ?_⟩
  · unfold L1.numB; rw [L1.dec_bad, L1.dec_num u hu]; rfl
  · unfold L1.numN; rw [L1.dec_bad, L1.dec_num u hu]; rfl
/-- A number. -/
def rpN (l : List UInt8) : Option (List Atm × Nat) :=
  if l.head? = some 45 then (if L1.numB ((l.drop 1).take (L1.dLen (l.drop 1))) = true ∧ L1.numN ((l.drop 1).take (L1.dLen (l.drop 1))) ≠ 0 then some ([⟨1, 0, -L1.numN ((l.drop 1).take (L1.dLen (l.drop 1))), ByteArray.empty⟩], 1 + L1.dLen (l.drop 1)) else none)
  else (if L1.numB (l.take (L1.dLen l)) = true then some ([⟨1, 0, L1.numN (l.take (L1.dLen l)), ByteArray.empty⟩], L1.dLen l) else none)
/-- A text. -/
def rpQ (l : List UInt8) : Option (List Atm × Nat) :=
  if sq (l.drop 1) < (l.drop 1).length ∧ L1.unqB (l.take (sq (l.drop 1) + 2)) = true then some ([⟨2, 0, 0, ⟨(L1.unqT (l.take (sq (l.drop 1) + 2))).toArray⟩⟩], sq (l.drop 1) + 2) else none
/-- A list's members, from one on. -/
def rpL (f : List UInt8 → Option (List Atm × Nat)) : Nat → List Atm → Nat → List UInt8 → Nat → Option (List Atm × Nat)
  | 0, _, _, _, _ => none
  | k + 1, out, n, l, u => if out.length < 1024 then (match f l with
      | none => none
      | some (m, x) => if (l.drop x).head? = some 93 then some (out ++ m ++ [⟨3, ((n + 1 : Nat) : Int), 0, ByteArray.empty⟩], u + x + 1) else if (l.drop x).take 2 = [44, 32] then rpL f k (out ++ m) (n + 1) (l.drop (x + 2)) (u + x + 2) else none) else none
/-- A value, so deep at most: its atoms, how long it is. -/
def rpV : Nat → List UInt8 → Option (List Atm × Nat)
  | 0, _ => none
  | d + 1, l => if l = [] then none else if l.head? = some 34 then rpQ l else if l.head? = some 91 then (if (l.drop 1).head? = some 93 then some ([⟨3, 0, 0, ByteArray.empty⟩], 2) else rpL (rpV d) (l.length + 1) [] 0 (l.drop 1) 1) else rpN l
/-- .. its atoms are no more than its bytes. -/
def LenOk (f : List UInt8 → Option (List Atm × Nat)) : Prop := ∀ l m x, f l = some (m, x) → 1 ≤ x ∧ x ≤ l.length ∧ m.length ≤ x ∧ (∀ c ∈ m, c.text.size ≤ l.length)
theorem dLen_le' (l : List UInt8) : L1.dLen l ≤ l.length := L1.dLen_le l
theorem rpL_len {f : List UInt8 → Option (List Atm × Nat)} (hf : LenOk f) : ∀ (k : Nat) (out : List Atm) (n : Nat) (l : List UInt8) (u : Nat) (m : List Atm) (x : Nat), rpL f k out n l u = some (m, x) → u + 2 ≤ x ∧ x ≤ u + l.length ∧ m.length + u ≤ out.length + x ∧ (∀ c ∈ m, c ∈ out ∨ c.text.size ≤ l.length)
  | 0, _, _, _, _, _, _, h => by simp [rpL] at h
  | k + 1, out, n, l, u, m, x, h => by
    rw [rpL] at h
    split at h
    · cases e : f l with
      | none => rw [e] at h; cases h
      | some q =>
        obtain ⟨m0, x0⟩ := q
        rw [e] at h
        simp only at h
        obtain ⟨h1, h2, h3, h4⟩ := hf l m0 x0 e
        split at h
        · rename_i hh
          injection h with h
          injection h with ha hb
          subst ha hb
          have hl : x0 < l.length := by
            rcases Nat.lt_or_ge x0 l.length with hlt | hge
            · exact hlt
            · rw [List.drop_of_length_le hge] at hh; cases hh
          refine ⟨by omega, by omega, by simp; omega, fun c hc => ?_⟩
          rw [List.mem_append, List.mem_append, List.mem_singleton] at hc
          rcases hc with (hc | hc) | rfl
          · exact Or.inl hc
          · exact Or.inr (h4 c hc)
          · exact Or.inr (by simp)
        · split at h
          · rename_i h2'
            have hl : x0 + 2 ≤ l.length := by
              have : ((l.drop x0).take 2).length = 2 := by rw [h2']; rfl
              rw [List.length_take, List.length_drop] at this
              omega
            obtain ⟨i1, i2, i3, i4⟩ := rpL_len hf k _ _ _ _ m x h
            rw [List.length_drop] at i2
            rw [List.length_append] at i3
            refine ⟨by omega, by omega, by omega, fun c hc => ?_⟩
            rcases i4 c hc with i | i
            · rw [List.mem_append] at i
              rcases i with i | i
              · exact Or.inl i
              · exact Or.inr (h4 c i)
            · rw [List.length_drop] at i; exact Or.inr (by omega)
          · cases h
    · cases h
theorem rpV_len : ∀ d, LenOk (rpV d)
  | 0 => fun l m x h => by simp [rpV] at h
  | d + 1 => fun l m x h => by
    rw [rpV] at h
    split at h
    · cases h
    · rename_i hne
      have hpos : 1 ≤ l.length := by
        cases l with
        | nil => exact absurd rfl hne
        | cons c r => simp
      split at h
      · unfold rpQ at h
        split at h
        · rename_i hc
          injection h with h
          injection h with ha hb
          subst ha hb
          rw [List.length_drop] at hc
          refine ⟨by omega, by omega, by simp, fun c hm => ?_⟩
          rw [List.mem_singleton] at hm
          subst hm
          have hq := quo_unq hc.2
          have h1 : (L1.unqT (l.take (sq (l.drop 1) + 2))).length ≤ (quo (L1.unqT (l.take (sq (l.drop 1) + 2)))).length := by
            have h2 : ∀ t : List UInt8, t.length ≤ (t.flatMap qB).length := fun t => by
              induction t with
              | nil => simp
              | cons c t ih =>
                rw [List.flatMap_cons, List.length_append, List.length_cons]
                have : 1 ≤ (qB c).length := by unfold qB; split <;> (try split) <;> (try split) <;> simp
                omega
            have h3 := h2 (L1.unqT (l.take (sq (l.drop 1) + 2)))
            simp only [quo, List.length_cons, List.length_append]
            omega
          rw [hq, List.length_take] at h1
          show (⟨(L1.unqT (l.take (sq (l.drop 1) + 2))).toArray⟩ : ByteArray).size ≤ _
          simp only [ByteArray.size, List.size_toArray]
          omega
        · cases h
      · split at h
        · split at h
          · rename_i hh
            injection h with h
            injection h with ha hb
            subst ha hb
            have hl : 1 < l.length := by
              rcases Nat.lt_or_ge 1 l.length with hlt | hge
              · exact hlt
              · rw [List.drop_of_length_le hge] at hh; cases hh
            refine ⟨by omega, by omega, by simp, fun c hm => ?_⟩
            rw [List.mem_singleton] at hm
            subst hm
            simp
          · obtain ⟨i1, i2, i3, i4⟩ := rpL_len (rpV_len d) _ _ _ _ _ m x h
            rw [List.length_drop] at i2
            rw [List.length_nil] at i3
            refine ⟨by omega, by omega, by omega, fun c hc => ?_⟩
            rcases i4 c hc with i | i
            · cases i
            · rw [List.length_drop] at i; omega
        · have hd0 : L1.numB [] = false := by rfl
          unfold rpN at h
          split at h
          · split at h
            · injection h with h
              injection h with ha hb
              subst ha hb
              have := dLen_le' (l.drop 1)
              rw [List.length_drop] at this
              refine ⟨by omega, by omega, by simp, fun c hm => ?_⟩
              rw [List.mem_singleton] at hm
              subst hm
              simp
            · cases h
          · split at h
            · rename_i hn
              injection h with h
              injection h with ha hb
              subst ha hb
              have h1 := dLen_le' l
              have h2 : 1 ≤ L1.dLen l := by
                rcases Nat.lt_or_ge 0 (L1.dLen l) with hlt | hge
                · exact hlt
                · have : L1.dLen l = 0 := by omega
                  rw [this, List.take_zero, hd0] at hn; cases hn
              refine ⟨by omega, by omega, by simp; omega, fun c hm => ?_⟩
              rw [List.mem_singleton] at hm
              subst hm
              simp
            · cases h
end Go.Proofs.YtahcllncjpaijaaDoor
