/- Failures: there and back, plain. -/
import Derived.Test.YtaleagkhblokgaaDoorKx4
namespace Go.Proofs.YtaleagkhblokgaaDoor
open Go.RowKit

theorem flat_pos (t : Ft) : 1 ≤ (flat t).length := by obtain ⟨k, tx, ps⟩ := t; rw [flat]; simp
mutual
/-- All its cracks may be. -/
def gd : Ft → Prop
  | .nd k tx ps => crB ⟨k, ps.length, tx⟩ = true ∧ gdL ps
def gdL : List Ft → Prop
  | [] => True
  | t :: r => gd t ∧ gdL r
end
mutual
theorem gd_of : ∀ (t : Ft), (∀ c ∈ flat t, crB c = true) → gd t
  | .nd k tx ps, h => by
    rw [flat] at h
    rw [gd]
    exact ⟨h _ (by simp), gdL_of ps (fun c hc => h c (by simp [hc]))⟩
theorem gdL_of : ∀ (ps : List Ft), (∀ c ∈ flatL ps, crB c = true) → gdL ps
  | [], _ => by rw [gdL]; trivial
  | t :: r, h => by
    rw [flatL] at h
    rw [gdL]
    exact ⟨gd_of t (fun c hc => h c (by simp [hc])), gdL_of r (fun c hc => h c (by simp [hc]))⟩
end
mutual
theorem gd_walk : ∀ (t : Ft) (s : Int) (r : List Cr), 0 ≤ s → gd t → walkC s (flat t ++ r) = walkC (s + 1) r
  | .nd k tx ps, s, r, hs, h => by
    rw [gd] at h
    rw [flat, List.append_assoc, gdL_walk ps s _ hs h.2, List.cons_append, List.nil_append, walkC, if_pos ⟨h.1, by show (ps.length : Int) ≤ _; omega⟩]
    congr 1
    show s + ps.length + (1 - (ps.length : Int)) = s + 1
    omega
theorem gdL_walk : ∀ (ps : List Ft) (s : Int) (r : List Cr), 0 ≤ s → gdL ps → walkC s (flatL ps ++ r) = walkC (s + ps.length) r
  | [], s, r, _, _ => by simp [flatL]
  | t :: q, s, r, hs, h => by
    rw [gdL] at h
    rw [flatL, List.append_assoc, gd_walk t s _ hs h.1, gdL_walk q (s + 1) r (by omega) h.2]
    congr 1
    simp; omega
end
theorem gd_chk {t : Ft} (h : gd t) (hl : (flat t).length ≤ 1024) : chk (flat t) = 0 := by
  unfold chk
  rw [if_neg (by omega)]
  have := gd_walk t 0 [] (by omega) h
  rw [List.append_nil] at this
  rw [this, if_pos (by simp [walkC])]
theorem isK_cases {k : Int} (h : isK k = true) : k = 1 ∨ k = 2 ∨ k = 3 ∨ k = 4 ∨ k = 5 ∨ k = 6 ∨ k = 7 ∨ k = 8 ∨ k = 9 ∨ k = 10 ∨ k = 11 := by
  rw [isK_iff] at h; omega
theorem row_facts {k : Int} (h : isK k = true) : kOf (frow k).word.data.toList = k ∧ (∀ c ∈ (frow k).word.data.toList, isPt c = true) ∧ (frow k).least ≤ 1 ∧ 0 ≤ (frow k).least ∧ 0 ≤ (frow k).most ∧ (frow k).most ≤ 1024 ∧ ((frow k).most = 0 → (frow k).least = 0) := by
  rcases isK_cases h with rfl | rfl | rfl | rfl | rfl | rfl | rfl | rfl | rfl | rfl | rfl <;> decide
/-- What may follow a failure in a text. -/
def okX (X : List UInt8) : Prop := X = [] ∨ X.head? = some 59 ∨ X.head? = some 41
theorem okX_pt {X : List UInt8} (h : okX X) : ptLen X = 0 := by
  cases X with
  | nil => rfl
  | cons c r =>
    rcases h with h | h | h
    · cases h
    · injection h with h; subst h; rw [ptLen_cons_neg (by decide)]
    · injection h with h; subst h; rw [ptLen_cons_neg (by decide)]
theorem ptLen_all : ∀ (l Y : List UInt8), (∀ c ∈ l, isPt c = true) → ptLen Y = 0 → ptLen (l ++ Y) = l.length
  | [], Y, _, h => by simpa using h
  | c :: r, Y, h, hY => by
    rw [List.cons_append, ptLen_cons_pos (h c (by simp)), ptLen_all r Y (fun d hd => h d (by simp [hd])) hY]; simp
theorem wLen_pt : ∀ (l : List UInt8), ptLen l = l.length → ∀ c ∈ l, isPt c = true
  | [], _, c, hc => by cases hc
  | d :: r, h, c, hc => by
    rw [ptLen] at h
    split at h
    · rename_i hd
      rcases List.mem_cons.1 hc with rfl | hc
      · exact hd
      · exact wLen_pt r (by simpa using h) c hc
    · simp at h
theorem wordB_pt {l : List UInt8} (h : wordB l = true) : ∀ c ∈ l, isPt c = true := by
  unfold wordB at h
  simp only [decide_eq_true_eq] at h
  obtain ⟨h1, h2⟩ := h
  cases l with
  | nil => exact absurd rfl h1
  | cons d r =>
    rw [wLen] at h2
    split at h2
    · rename_i hd
      intro c hc
      rcases List.mem_cons.1 hc with rfl | hc
      · exact isSm_pt hd
      · exact wLen_pt r (by simpa using h2) c hc
    · simp at h2
theorem nameB_pt {s : ByteArray} (h : nameB s = true) : ∀ c ∈ s.data.toList, isPt c = true := by
  unfold nameB localB at h
  simp only [Bool.and_eq_true] at h
  exact wordB_pt h.1.2
theorem wd_pt : ∀ x ∈ wd, ∀ c ∈ x.data.toList, isPt c = true := by decide
theorem inB_pt {s : ByteArray} (h : inB wd s = true) : ∀ c ∈ s.data.toList, isPt c = true := by
  unfold inB at h
  rw [List.any_eq_true] at h
  obtain ⟨x, hx, he⟩ := h
  have h2 : x.data.toList = s.data.toList := by simpa [ByteArray.toList_eq] using he
  rw [← h2]; exact wd_pt x hx
/-- A quoted text's end. -/
theorem qGo_plain {c : UInt8} {r : List UInt8} (h1 : c ≠ 92) (h2 : c ≠ 34) : qGo (c :: r) = 1 + qGo r := by
  cases r with
  | nil => rw [qGo]; simp [qGo]
  | cons d r => rw [qGo, if_neg h1, if_neg h2]
theorem qGo_esc {d : UInt8} {r : List UInt8} : qGo (92 :: d :: r) = 2 + qGo r := by rw [qGo, if_pos rfl]
theorem hexD_ok (n : Nat) : hexD n ≠ 92 ∧ hexD n ≠ 34 := by
  unfold hexD
  rw [List.getD_eq_getElem?_getD]
  by_cases h : n < hexDig.data.toList.length
  · rw [List.getElem?_eq_getElem h]
    have : ∀ c ∈ hexDig.data.toList, c ≠ 92 ∧ c ≠ 34 := by decide
    exact this _ (List.getElem_mem h)
  · rw [List.getElem?_eq_none (by omega)]; decide
theorem qGo_qB (c : UInt8) (r : List UInt8) : qGo (qB c ++ r) = (qB c).length + qGo r := by
  by_cases h1 : (c.toNat : Int) = 34
  · rw [qB_34 h1]; simp only [List.cons_append, List.nil_append, qGo_esc]; simp
  · by_cases h2 : (c.toNat : Int) = 92
    · rw [qB_92 h2]; simp only [List.cons_append, List.nil_append, qGo_esc]; simp
    · by_cases h3 : (c.toNat : Int) = 10
      · rw [qB_nl h3]; simp only [List.cons_append, List.nil_append, qGo_esc]; simp
      · by_cases h4 : 32 ≤ (c.toNat : Int) ∧ (c.toNat : Int) ≤ 126
        · rw [qB_plain h1 h2 h4.1 h4.2]
          have e1 : c ≠ 92 := fun e => h2 (by rw [e]; rfl)
          have e2 : c ≠ 34 := fun e => h1 (by rw [e]; rfl)
          simp only [List.cons_append, List.nil_append, qGo_plain e1 e2]; simp
        · rw [qB_hex h3 (by omega)]
          have a := hexD_ok (c.toNat / 16)
          have b := hexD_ok (c.toNat % 16)
          simp only [List.cons_append, List.nil_append, qGo_esc, qGo_plain a.1 a.2, qGo_plain b.1 b.2]; simp; omega
theorem qGo_quo : ∀ (t X : List UInt8), qGo (t.flatMap qB ++ 34 :: X) = (t.flatMap qB).length + 1
  | [], X => by
    simp only [List.flatMap_nil, List.nil_append, List.length_nil]
    cases X with
    | nil => rw [qGo]; rfl
    | cons d r => rw [qGo, if_neg (by decide), if_pos rfl]
  | c :: t, X => by
    rw [List.flatMap_cons, List.append_assoc, qGo_qB, qGo_quo t X, List.length_append]; omega
theorem qSize_quo (t X : List UInt8) : qSize (quo t ++ X) = (quo t).length := by
  have e : quo t ++ X = 34 :: (t.flatMap qB ++ 34 :: X) := by unfold quo; simp
  rw [e]
  show 1 + qGo (t.flatMap qB ++ 34 :: X) = _
  rw [qGo_quo]; unfold quo
  simp only [List.length_append, List.length_singleton]; omega
theorem unq_quo (t : List UInt8) : unqB (quo t) = true ∧ unqT (quo t) = t := by
  have e : (quo t).drop (0 + 1) = t.flatMap qB ++ 34 :: [] := by unfold quo; simp
  have hq : qa (quo t) 0 = (t, (quo t).length, true) := by
    unfold qa
    rw [e, uq_quo t []]
    unfold quo
    simp only [List.length_append, List.length_singleton]
    congr 2
  have hh : (quo t).head? = some 34 := by unfold quo; simp
  have := unq_t (l := quo t) ⟨hh, by rw [hq], by rw [hq]⟩
  rw [hq] at this
  exact ⟨this.2, this.1⟩
theorem quo_unq {l : List UInt8} (h : unqB l = true) : l = quo (unqT l) := by
  unfold unqB at h
  simp only [decide_eq_true_eq] at h
  have h0 := h
  obtain ⟨h1, h2, h3⟩ := h
  rw [(unq_t h0).1]
  unfold qa at h2 h3 ⊢
  cases hu : uq (l.drop (0 + 1)) with
  | none => rw [hu] at h2; simp at h2
  | some z =>
    obtain ⟨t, m⟩ := z
    rw [hu] at h3
    simp only at h3 ⊢
    have h4 := quo_of_uq _ _ _ hu
    cases l with
    | nil => simp at h1
    | cons c r =>
      injection h1 with h1
      subst h1
      simp only [Nat.zero_add, List.drop_succ_cons, List.drop_zero, List.length_cons] at h4 h3
      have hm : m = r.length := by omega
      rw [hm, List.take_length] at h4
      rw [h4]; unfold quo; simp
theorem strip_app (p s : List UInt8) : strip p (p ++ s) = some s := by
  unfold strip Lib.hasPrefix
  rw [if_pos (by simp)]; simp
theorem strip_eq {p s r : List UInt8} (h : strip p s = some r) : s = p ++ r := by
  unfold strip Lib.hasPrefix at h
  split at h
  · rename_i hp
    injection h with h
    obtain ⟨q, hq⟩ := List.isPrefixOf_iff_prefix.1 hp
    rw [← hq] at h ⊢
    simp at h; rw [h]
  · cases h
theorem bytes_ext {a b : ByteArray} (h : a.data.toList = b.data.toList) : a = b := by
  obtain ⟨⟨x⟩⟩ := a
  obtain ⟨⟨y⟩⟩ := b
  simp at h; rw [h]
/-- A crack's text is read as it was. -/
theorem rdX_there {k : Int} (hk : isK k = true) {tx : ByteArray} (ht : txT (frow k).text tx = true) (Z : List UInt8) (hZ : (frow k).text = 0 ∨ (frow k).text = 1 ∨ ptLen Z = 0) : rdX k (txtF (frow k).text tx ++ Z) = some (tx, Z) := by
  unfold rdX
  have hx := frow_text k hk
  generalize (frow k).text = x at *
  rcases hx with rfl | rfl | rfl | rfl
  · have h0 : tx = ByteArray.empty := bytes_nil (by unfold txT at ht; simpa using ht)
    subst h0
    simp [txtF]; decide
  · have e : txtF 1 tx ++ Z = [32] ++ (quo tx.data.toList ++ Z) := by simp [txtF]
    rw [e, strip_app]
    have u := unq_quo tx.data.toList
    simp only [Int.one_ne_zero, if_false, if_true, Option.bind_some, qSize_quo, List.take_left, List.drop_left, u.1, u.2]
    rw [if_pos ht]
  · have e : txtF 2 tx ++ Z = [32] ++ (tx.data.toList ++ Z) := by simp [txtF]
    have hz : ptLen Z = 0 := by rcases hZ with h | h | h; omega; omega; exact h
    have hp := ptLen_all tx.data.toList Z (inB_pt (by unfold txT at ht; simpa using ht)) hz
    rw [e, strip_app]
    simp [hp]
    simpa using ht
  · have e : txtF 3 tx ++ Z = [32] ++ (tx.data.toList ++ Z) := by simp [txtF]
    have hz : ptLen Z = 0 := by rcases hZ with h | h | h; omega; omega; exact h
    have hp := ptLen_all tx.data.toList Z (nameB_pt (by unfold txT at ht; simpa using ht)) hz
    rw [e, strip_app]
    simp [hp]
    simpa using ht
/-- What is read as a crack's text stood there. -/
theorem rdX_back {k : Int} (hk : isK k = true) {s : List UInt8} {tx : ByteArray} {r : List UInt8} (h : rdX k s = some (tx, r)) : s = txtF (frow k).text tx ++ r ∧ txT (frow k).text tx = true := by
  unfold rdX at h
  have hx := frow_text k hk
  generalize (frow k).text = x at *
  obtain ⟨q, hq, h⟩ := Option.bind_eq_some_iff.1 h
  split at h
  · rename_i ht
    injection h with h
    subst h
    refine ⟨?_, ht⟩
    by_cases h0 : x = 0
    · rw [if_pos h0] at hq
      injection hq with hq; injection hq with h1 h2
      subst h1 h2 h0
      simp [txtF]
    · rw [if_neg h0] at hq
      obtain ⟨z, hz, hq⟩ := Option.bind_eq_some_iff.1 hq
      have hs := strip_eq hz
      by_cases h1 : x = 1
      · rw [if_pos h1] at hq
        split at hq
        · rename_i hu
          injection hq with hq; injection hq with e1 e2
          have := quo_unq hu
          subst e1 e2 h1
          rw [hs]
          simp only [txtF]
          simp only [Int.one_ne_zero, if_false, if_true, ← this]
          simp
        · cases hq
      · rw [if_neg h1] at hq
        injection hq with hq; injection hq with e1 e2
        subst e1 e2
        rw [hs]
        simp [txtF, h0, h1]
  · cases h
end Go.Proofs.YtaleagkhblokgaaDoor
