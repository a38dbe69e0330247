/- Failures: any two held against each other; a failure's sub-failures as slices; slices.Equal, SameFail, slices.Clone. -/
import Derived.Test.YtaleagkhblokgaaDoorKx4
import Derived.Test.YtaleagkhblokgaaDoorPlain3
namespace Go.Proofs.YtaleagkhblokgaaDoor
open Go.RowKit

theorem flat_pos (t : Ft) : 1 ≤ (flat t).length := by obtain ⟨k, tx, ps⟩ := t; rw [flat]; simp
mutual
/-- All its cracks may be. -/
def gd : Ft → Prop
  | .nd k tx ps => crB ⟨k, ps.length, tx⟩ = true ∧ gdL ps
def gdL : List Ft → Prop
  | [] => True
  | t :: r => gd t ∧ gdL r
end
mutual
theorem gd_of : ∀ (t : Ft), (∀ c ∈ flat t, crB c = true) → gd t
  | .nd k tx ps, h => by
    rw [flat] at h
    rw [gd]
    exact ⟨h _ (by simp), gdL_of ps (fun c hc => h c (by simp [hc]))⟩
theorem gdL_of : ∀ (ps : List Ft), (∀ c ∈ flatL ps, crB c = true) → gdL ps
  | [], _ => by rw [gdL]; trivial
  | t :: r, h => by
    rw [flatL] at h
    rw [gdL]
    exact ⟨gd_of t (fun c hc => h c (by simp [hc])), gdL_of r (fun c hc => h c (by simp [hc]))⟩
end
mutual
theorem gd_walk : ∀ (t : Ft) (s : Int) (r : List Cr), 0 ≤ s → gd t → walkC s (flat t ++ r) = walkC (s + 1) r
  | .nd k tx ps, s, r, hs, h => by
    rw [gd] at h
    rw [flat, List.append_assoc, gdL_walk ps s _ hs h.2, List.cons_append, List.nil_append, walkC, if_pos ⟨h.1, by show (ps.length : Int) ≤ _; omega⟩]
    congr 1
    show s + ps.length + (1 - (ps.length : Int)) = s + 1
    omega
theorem gdL_walk : ∀ (ps : List Ft) (s : Int) (r : List Cr), 0 ≤ s → gdL ps → walkC s (flatL ps ++ r) = walkC (s + ps.length) r
  | [], s, r, _, _ => by simp [flatL]
  | t :: q, s, r, hs, h => by
    rw [gdL] at h
    rw [flatL, List.append_assoc, gd_walk t s _ hs h.1, gdL_walk q (s + 1) r (by omega) h.2]
    congr 1
    simp; omega
end
theorem gd_chk {t : Ft} (h : gd t) (hl : (flat t).length ≤ 1024) : chk (flat t) = 0 := by
  unfold chk
  rw [if_neg (by omega)]
  have := gd_walk t 0 [] (by omega) h
  rw [List.append_nil] at this
  rw [this, if_pos (by simp [walkC])]
theorem isK_cases {k : Int} (h : isK k = true) : k = 1 ∨ k = 2 ∨ k = 3 ∨ k = 4 ∨ k = 5 ∨ k = 6 ∨ k = 7 ∨ k = 8 ∨ k = 9 ∨ k = 10 ∨ k = 11 := by
  rw [isK_iff] at h; omega
theorem row_facts {k : Int} (h : isK k = true) : kOf (frow k).word.data.toList = k ∧ (∀ c ∈ (frow k).word.data.toList, isPt c = true) ∧ (frow k).least ≤ 1 ∧ 0 ≤ (frow k).least ∧ 0 ≤ (frow k).most ∧ (frow k).most ≤ 1024 ∧ ((frow k).most = 0 → (frow k).least = 0) := by
  rcases isK_cases h with rfl | rfl | rfl | rfl | rfl | rfl | rfl | rfl | rfl | rfl | rfl <;> decide
/-- What may follow a failure in a text. -/
def okX (X : List UInt8) : Prop := X = [] ∨ X.head? = some 59 ∨ X.head? = some 41
theorem okX_pt {X : List UInt8} (h : okX X) : ptLen X = 0 := by
  cases X with
  | nil => rfl
  | cons c r =>
    rcases h with h | h | h
    · cases h
    · injection h with h; subst h; rw [ptLen_cons_neg (by decide)]
    · injection h with h; subst h; rw [ptLen_cons_neg (by decide)]
theorem ptLen_all : ∀ (l Y : List UInt8), (∀ c ∈ l, isPt c = true) → ptLen Y = 0 → ptLen (l ++ Y) = l.length
  | [], Y, _, h => by simpa using h
  | c :: r, Y, h, hY => by
    rw [List.cons_append, ptLen_cons_pos (h c (by simp)), ptLen_all r Y (fun d hd => h d (by simp [hd])) hY]; simp
theorem wLen_pt : ∀ (l : List UInt8), ptLen l = l.length → ∀ c ∈ l, isPt c = true
  | [], _, c, hc => by cases hc
  | d :: r, h, c, hc => by
    rw [ptLen] at h
    split at h
    · rename_i hd
      rcases List.mem_cons.1 hc with rfl | hc
      · exact hd
      · exact wLen_pt r (by simpa using h) c hc
    · simp at h
theorem wordB_pt {l : List UInt8} (h : wordB l = true) : ∀ c ∈ l, isPt c = true := by
  unfold wordB at h
  simp only [decide_eq_true_eq] at h
  obtain ⟨h1, h2⟩ := h
  cases l with
  | nil => exact absurd rfl h1
  | cons d r =>
    rw [wLen] at h2
    split at h2
    · rename_i hd
      intro c hc
      rcases List.mem_cons.1 hc with rfl | hc
      · exact isSm_pt hd
      · exact wLen_pt r (by simpa using h2) c hc
    · simp at h2
theorem nameB_pt {s : ByteArray} (h : nameB s = true) : ∀ c ∈ s.data.toList, isPt c = true := by
  unfold nameB localB at h
  simp only [Bool.and_eq_true] at h
  exact wordB_pt h.1.2
theorem wd_pt : ∀ x ∈ wd, ∀ c ∈ x.data.toList, isPt c = true := by decide
theorem inB_pt {s : ByteArray} (h : inB wd s = true) : ∀ c ∈ s.data.toList, isPt c = true := by
  unfold inB at h
  rw [List.any_eq_true] at h
  obtain ⟨x, hx, he⟩ := h
  have h2 : x.data.toList = s.data.toList := by simpa [ByteArray.toList_eq] using he
  rw [← h2]; exact wd_pt x hx
/-- A quoted text's end. -/
theorem qGo_plain {c : UInt8} {r : List UInt8} (h1 : c ≠ 92) (h2 : c ≠ 34) : qGo (c :: r) = 1 + qGo r := by
  cases r with
  | nil => rw [qGo]; simp [qGo]
  | cons d r => rw [qGo, if_neg h1, if_neg h2]
theorem qGo_esc {d : UInt8} {r : List UInt8} : qGo (92 :: d :: r) = 2 + qGo r := by rw [qGo, if_pos rfl]
theorem hexD_ok (n : Nat) : hexD n ≠ 92 ∧ hexD n ≠ 34 := by
  unfold hexD
  rw [List.getD_eq_getElem?_getD]
  by_cases h : n < hexDig.data.toList.length
  · rw [List.getElem?_eq_getElem h]
    have : ∀ c ∈ hexDig.data.toList, c ≠ 92 ∧ c ≠ 34 := by decide
    exact this _ (List.getElem_mem h)
  · rw [List.getElem?_eq_none (by omega)]; decide
theorem qGo_qB (c : UInt8) (r : List UInt8) : qGo (qB c ++ r) = (qB c).length + qGo r := by
  by_cases h1 : (c.toNat : Int) = 34
  · rw [qB_34 h1]; simp only [List.cons_append, List.nil_append, qGo_esc]; simp
  · by_cases h2 : (c.toNat : Int) = 92
    · rw [qB_92 h2]; simp only [List.cons_append, List.nil_append, qGo_esc]; simp
    · by_cases h3 : (c.toNat : Int) = 10
      · rw [qB_nl h3]; simp only [List.cons_append, List.nil_append, qGo_esc]; simp
      · by_cases h4 : 32 ≤ (c.toNat : Int) ∧ (c.toNat : Int) ≤ 126
        · rw [qB_plain h1 h2 h4.1 h4.2]
          have e1 : c ≠ 92 := fun e => h2 (by rw [e]; rfl)
          have e2 : c ≠ 34 := fun e => h1 (by rw [e]; rfl)
          simp only [List.cons_append, List.nil_append, qGo_plain e1 e2]; simp
        · rw [qB_hex h3 (by omega)]
          have a := hexD_ok (c.toNat / 16)
          have b := hexD_ok (c.toNat % 16)
          simp only [List.cons_append, List.nil_append, qGo_esc, qGo_plain a.1 a.2, qGo_plain b.1 b.2]; simp; omega
theorem qGo_quo : ∀ (t X : List UInt8), qGo (t.flatMap qB ++ 34 :: X) = (t.flatMap qB).length + 1
  | [], X => by
    simp only [List.flatMap_nil, List.nil_append, List.length_nil]
    cases X with
    | nil => rw [qGo]; rfl
    | cons d r => rw [qGo, if_neg (by decide), if_pos rfl]
  | c :: t, X => by
    rw [List.flatMap_cons, List.append_assoc, qGo_qB, qGo_quo t X, List.length_append]; omega
theorem qSize_quo (t X : List UInt8) : qSize (quo t ++ X) = (quo t).length := by
  have e : quo t ++ X = 34 :: (t.flatMap qB ++ 34 :: X) := by unfold quo; simp
  rw [e]
  show 1 + qGo (t.flatMap qB ++ 34 :: X) = _
  rw [qGo_quo]; unfold quo
  simp only [List.length_append, List.length_singleton]; omega
theorem unq_quo (t : List UInt8) : unqB (quo t) = true ∧ unqT (quo t) = t := by
  have e : (quo t).drop (0 + 1) = t.flatMap qB ++ 34 :: [] := by unfold quo; simp
  have hq : qa (quo t) 0 = (t, (quo t).length, true) := by
    unfold qa
    rw [e, uq_quo t []]
    unfold quo
    simp only [List.length_append, List.length_singleton]
    congr 2
  have hh : (quo t).head? = some 34 := by unfold quo; simp
  have := unq_t (l := quo t) ⟨hh, by rw [hq], by rw [hq]⟩
  rw [hq] at this
  exact ⟨this.2, this.1⟩
theorem quo_unq {l : List UInt8} (h : unqB l = true) : l = quo (unqT l) := by
  unfold unqB at h
  simp only [decide_eq_true_eq] at h
  have h0 := h
  obtain ⟨h1, h2, h3⟩ := h
  rw [(unq_t h0).1]
  unfold qa at h2 h3 ⊢
  cases hu : uq (l.drop (0 + 1)) with
  | none => rw [hu] at h2; simp at h2
  | some z =>
    obtain ⟨t, m⟩ := z
    rw [hu] at h3
    simp only at h3 ⊢
    have h4 := quo_of_uq _ _ _ hu
    cases l with
    | nil => simp at h1
    | cons c r =>
      injection h1 with h1
      subst h1
      simp only [Nat.zero_add, List.drop_succ_cons, List.drop_zero, List.length_cons] at h4 h3
      have hm : m = r.length := by omega
      rw [hm, List.take_length] at h4
      rw [h4]; unfold quo; simp
theorem strip_app (p s : List UInt8) : strip p (p ++ s) = some s := by
  unfold strip Lib.hasPrefix
  rw [if_pos (by simp)]; simp
theorem strip_eq {p s r : List UInt8} (h : strip p s = some r) : s = p ++ r := by
  unfold strip Lib.hasPrefix at h
  split at h
  · rename_i hp
    injection h with h
    obtain ⟨q, hq⟩ := List.isPrefixOf_iff_prefix.1 hp
    rw [← hq] at h ⊢
    simp at h; rw [h]
  · cases h
theorem bytes_ext {a b : ByteArray} (h : a.data.toList = b.data.toList) : a = b := by
  obtain ⟨⟨x⟩⟩ := a
  obtain ⟨⟨y⟩⟩ := b
  simp at h; rw [h]
/-- A crack's text is read as it was. -/
theorem rdX_there {k : Int} (hk : isK k = true) {tx : ByteArray} (ht : txT (frow k).text tx = true) (Z : List UInt8) (hZ : (frow k).text = 0 ∨ (frow k).text = 1 ∨ ptLen Z = 0) : rdX k (txtF (frow k).text tx ++ Z) = some (tx, Z) := by
  unfold rdX
  have hx := frow_text k hk
  generalize (frow k).text = x at *
  rcases hx with rfl | rfl | rfl | rfl
  · have h0 : tx = ByteArray.empty := bytes_nil (by unfold txT at ht; simpa using ht)
    subst h0
    simp [txtF]; decide
  · have e : txtF 1 tx ++ Z = [32] ++ (quo tx.data.toList ++ Z) := by simp [txtF]
    rw [e, strip_app]
    have u := unq_quo tx.data.toList
    simp only [Int.one_ne_zero, if_false, if_true, Option.bind_some, qSize_quo, List.take_left, List.drop_left, u.1, u.2]
    rw [if_pos ht]
  · have e : txtF 2 tx ++ Z = [32] ++ (tx.data.toList ++ Z) := by simp [txtF]
    have hz : ptLen Z = 0 := by rcases hZ with h | h | h; omega; omega; exact h
    have hp := ptLen_all tx.data.toList Z (inB_pt (by unfold txT at ht; simpa using ht)) hz
    rw [e, strip_app]
    simp [hp]
    simpa using ht
  · have e : txtF 3 tx ++ Z = [32] ++ (tx.data.toList ++ Z) := by simp [txtF]
    have hz : ptLen Z = 0 := by rcases hZ with h | h | h; omega; omega; exact h
    have hp := ptLen_all tx.data.toList Z (nameB_pt (by unfold txT at ht; simpa using ht)) hz
    rw [e, strip_app]
    simp [hp]
    simpa using ht
/-- What is read as a crack's text stood there. -/
theorem rdX_back {k : Int} (hk : isK k = true) {s : List UInt8} {tx : ByteArray} {r : List UInt8} (h : rdX k s = some (tx, r)) : s = txtF (frow k).text tx ++ r ∧ txT (frow k).text tx = true := by
  unfold rdX at h
  have hx := frow_text k hk
  generalize (frow k).text = x at *
  obtain ⟨q, hq, h⟩ := Option.bind_eq_some_iff.1 h
  split at h
  · rename_i ht
    injection h with h
    subst h
    refine ⟨?_, ht⟩
    by_cases h0 : x = 0
    · rw [if_pos h0] at hq
      injection hq with hq; injection hq with h1 h2
      subst h1 h2 h0
      simp [txtF]
    · rw [if_neg h0] at hq
      obtain ⟨z, hz, hq⟩ := Option.bind_eq_some_iff.1 hq
      have hs := strip_eq hz
      by_cases h1 : x = 1
      · rw [if_pos h1] at hq
        split at hq
        · rename_i hu
          injection hq with hq; injection hq with e1 e2
          have := quo_unq hu
          subst e1 e2 h1
          rw [hs]
          simp only [txtF]
          simp only [Int.one_ne_zero, if_false, if_true, ← this]
          simp
        · cases hq
      · rw [if_neg h1] at hq
        injection hq with hq; injection hq with e1 e2
        subst e1 e2
        rw [hs]
        simp [txtF, h0, h1]
  · cases h
end Go.Proofs.YtaleagkhblokgaaDoor
namespace Go.Proofs.YtaleagkhblokgaaDoor
open Go.RowKit

def crE (c d : Cr) : Bool := c.kind == d.kind && (c.n == d.n && (c.text.toList == d.text.toList))
/-- The same cracks? -/
def eqC : List Cr → List Cr → Bool
  | [], [] => true
  | c :: r, d :: s => crE c d && eqC r s
  | [], _ :: _ => false
  | _ :: _, [] => false
theorem eqC_len : ∀ (l m : List Cr), eqC l m = true → l.length = m.length
  | [], [], _ => rfl
  | c :: r, d :: s, h => by rw [eqC, Bool.and_eq_true] at h; simp [eqC_len r s h.2]
  | [], _ :: _, h => by simp [eqC] at h
  | _ :: _, [], h => by simp [eqC] at h
theorem crE_iff (c d : Cr) : crE c d = true ↔ c = d := by
  obtain ⟨k, n, t⟩ := c
  obtain ⟨k', n', t'⟩ := d
  unfold crE
  simp only [Bool.and_eq_true, beq_iff_eq, Cr.mk.injEq, ByteArray.toList_eq]
  constructor
  · rintro ⟨h1, h2, h3⟩
    refine ⟨h1, h2, ?_⟩
    obtain ⟨⟨a⟩⟩ := t
    obtain ⟨⟨b⟩⟩ := t'
    simp at h3
    rw [h3]
  · rintro ⟨h1, h2, h3⟩; rw [h3]; exact ⟨h1, h2, rfl⟩
theorem eqC_iff : ∀ (l m : List Cr), eqC l m = true ↔ l = m
  | [], [] => by simp [eqC]
  | c :: r, d :: s => by rw [eqC, Bool.and_eq_true, crE_iff, eqC_iff r s]; simp
  | [], _ :: _ => by simp [eqC]
  | _ :: _, [] => by simp [eqC]
theorem crE_cases {f g : Cr} (h : crE f g = false) : (f.kind == g.kind) = false ∨ ((f.kind == g.kind) = true ∧ (f.n == g.n) = false) ∨ ((f.kind == g.kind) = true ∧ (f.n == g.n) = true ∧ (f.text.toList == g.text.toList) = false) := by
  unfold crE at h
  cases h1 : (f.kind == g.kind) <;> cases h2 : (f.n == g.n) <;> cases h3 : (f.text.toList == g.text.toList) <;> simp_all
theorem crE_all {f g : Cr} (h : crE f g = true) : (f.kind == g.kind) = true ∧ (f.n == g.n) = true ∧ (f.text.toList == g.text.toList) = true := by
  unfold crE at h
  simpa using h
theorem eqC_step {l m : List Cr} {k : Nat} (h1 : k < l.length) (h2 : k < m.length) : eqC (l.drop k) (m.drop k) = (crE l[k] m[k] && eqC (l.drop (k + 1)) (m.drop (k + 1))) := by
  rw [List.drop_eq_getElem_cons h1, List.drop_eq_getElem_cons h2, eqC]
set_option maxHeartbeats 4000000 in
theorem sameFail_any (w : World) (v1 v2 : Value) (l m : List Cr) (h1 : CS w v1 l) (h2 : CS w v2 m) (hl : l.length ≤ 100000000000000000) :
    Calls Tryd.prog 15 #[v1, v2] w fun e w' => e = .returned (.bool (eqC l m)) ∧ ∃ n, w' = w.drewN n := by
  obtain ⟨p1, c1, rfl⟩ := h1.form
  obtain ⟨p2, c2, rfl⟩ := h2.form
  have A1 : Hid (CS w (.slice p1 l.length c1) l) := h1
  have A2 : Hid (CS w (.slice p2 m.length c2) m) := h2
  clear h1 h2
  by_cases hlm : l.length = m.length
  · have hml : m.length = l.length := hlm.symm
    have E0 : Hid (eqC l m = eqC (l.drop 0) (m.drop 0)) := by show _ = _; simp
    have EE : Hid (∀ k, l.length ≤ k → eqC (l.drop k) (m.drop k) = true) := fun k hk => by rw [List.drop_of_length_le hk, List.drop_of_length_le (by omega)]; rfl
    generalize eqC l m = r at *
    have HM : Hid (m.length = l.length) := hml
    rw [hml] at A2 ⊢
    clear hml hlm
    go_enter Tryd.func15, Tryd.ntmps15
    go_wp2
    go_loopw [5] (fun v5 wr => ∃ (k n : Nat), v5 = .int .i64 k ∧ k ≤ l.length ∧ wr = w.drewN n ∧ Hid (r = eqC (l.drop k) (m.drop k))) (fun v5 _ => l.length - (intOf v5).toNat)
    case atStart => exact ⟨0, 0, rfl, Nat.zero_le _, rfl, E0⟩
    case round =>
      obtain ⟨k, n, rfl, hk, rfl, HR⟩ := hrel
      clear E0
      by_cases hlt : k < l.length
      · obtain ⟨X1, o1, e1, x1, x2, x3⟩ := A1.out.at hlt
        obtain rfl : p1 = some ⟨X1, o1, none⟩ := e1
        obtain ⟨X2, o2, e2, y1, y2, y3⟩ := A2.out.at (k := k) (by rw [HM.out]; exact hlt)
        obtain rfl : p2 = some ⟨X2, o2, none⟩ := e2
        have HS := HR.out
        rw [eqC_step hlt (by rw [HM.out]; exact hlt)] at HS
        obtain ⟨f, hf⟩ : ∃ f, f = l[k] := ⟨_, rfl⟩
        rw [← hf] at x1 x2 x3 HS
        obtain ⟨g, hg⟩ : ∃ g, g = m[k]'(by rw [HM.out]; exact hlt) := ⟨_, rfl⟩
        rw [← hg] at y1 y2 y3 HS
        have HN : Hid (r = (crE f g && eqC (l.drop (k + 1)) (m.drop (k + 1)))) := HS
        clear hf hg HR HS
        cases hc : crE f g with
        | true =>
          obtain ⟨z1, z2, z3⟩ := crE_all hc
          rw [hc] at HN
          clear hc
          go_wp2
          go_quiet (fail)
          go_wp2
          all_goals
            go_roundw
            case rel => exact ⟨k + 1, _, by go_num, by omega, rfl, HN.out.trans (by simp)⟩
            case measure => simp [intOf]; omega
        | false =>
          rw [hc] at HN
          have hr : r = false := HN.out
          subst hr
          rcases crE_cases hc with z1 | ⟨z1, z2⟩ | ⟨z1, z2, z3⟩
          all_goals
            clear hc
            go_wp2
            go_quiet (fail)
            go_wp2
            go_ret
            exact ⟨rfl, n + nq, by simp⟩
      · have hr : r = true := HR.out.trans (EE.out k (by omega))
        subst hr
        clear HR
        go_wp2
        go_ret
        exact ⟨rfl, n, rfl⟩
  · have hr : eqC l m = false := by
      cases h : eqC l m with
      | false => rfl
      | true => exact absurd (eqC_len l m h) hlm
    rw [hr]
    have z1 : ((l.length : Int) == (m.length : Int)) = false := by simp; omega
    have z2 : ((l.length : Int) != (m.length : Int)) = true := by simp; omega
    go_enter Tryd.func15, Tryd.ntmps15
    go_wp2
    go_ret
    exact ⟨rfl, 0, rfl⟩
set_option maxHeartbeats 4000000 in
theorem equal_any (w : World) (v1 v2 : Value) (l m : List Cr) (h1 : CS w v1 l) (h2 : CS w v2 m) (hl : l.length ≤ 100000000000000000) :
    Calls Tryd.prog 39 #[v1, v2] w fun e w' => e = .returned (.bool (eqC l m)) ∧ ∃ n, w' = w.drewN n := by
  obtain ⟨p1, c1, rfl⟩ := h1.form
  obtain ⟨p2, c2, rfl⟩ := h2.form
  have A1 : Hid (CS w (.slice p1 l.length c1) l) := h1
  have A2 : Hid (CS w (.slice p2 m.length c2) m) := h2
  clear h1 h2
  by_cases hlm : l.length = m.length
  · have hml : m.length = l.length := hlm.symm
    have E0 : Hid (eqC l m = eqC (l.drop 0) (m.drop 0)) := by show _ = _; simp
    have EE : Hid (∀ k, l.length ≤ k → eqC (l.drop k) (m.drop k) = true) := fun k hk => by rw [List.drop_of_length_le hk, List.drop_of_length_le (by omega)]; rfl
    generalize eqC l m = r at *
    have HM : Hid (m.length = l.length) := hml
    rw [hml] at A2 ⊢
    clear hml hlm
    go_enter Tryd.func39, Tryd.ntmps39
    go_wp2
    go_loopw [13] (fun v5 wr => ∃ (k n : Nat), v5 = .int .i64 k ∧ k ≤ l.length ∧ wr = w.drewN n ∧ Hid (r = eqC (l.drop k) (m.drop k))) (fun v5 _ => l.length - (intOf v5).toNat)
    case atStart => exact ⟨0, 0, rfl, Nat.zero_le _, rfl, E0⟩
    case round =>
      obtain ⟨k, n, rfl, hk, rfl, HR⟩ := hrel
      clear E0
      by_cases hlt : k < l.length
      · obtain ⟨X1, o1, e1, x1, x2, x3⟩ := A1.out.at hlt
        obtain rfl : p1 = some ⟨X1, o1, none⟩ := e1
        obtain ⟨X2, o2, e2, y1, y2, y3⟩ := A2.out.at (k := k) (by rw [HM.out]; exact hlt)
        obtain rfl : p2 = some ⟨X2, o2, none⟩ := e2
        have HS := HR.out
        rw [eqC_step hlt (by rw [HM.out]; exact hlt)] at HS
        obtain ⟨f, hf⟩ : ∃ f, f = l[k] := ⟨_, rfl⟩
        rw [← hf] at x1 x2 x3 HS
        obtain ⟨g, hg⟩ : ∃ g, g = m[k]'(by rw [HM.out]; exact hlt) := ⟨_, rfl⟩
        rw [← hg] at y1 y2 y3 HS
        have HN : Hid (r = (crE f g && eqC (l.drop (k + 1)) (m.drop (k + 1)))) := HS
        clear hf hg HR HS
        cases hc : crE f g with
        | true =>
          obtain ⟨z1, z2, z3⟩ := crE_all hc
          rw [hc] at HN
          clear hc
          go_wp2
          go_quiet (fail)
          go_wp2
          all_goals
            go_roundw
            case rel => exact ⟨k + 1, _, by go_num, by omega, rfl, HN.out.trans (by simp)⟩
            case measure => simp [intOf]; omega
        | false =>
          rw [hc] at HN
          have hr : r = false := HN.out
          subst hr
          rcases crE_cases hc with z1 | ⟨z1, z2⟩ | ⟨z1, z2, z3⟩
          all_goals
            clear hc
            go_wp2
            go_quiet (fail)
            go_wp2
            go_ret
            exact ⟨rfl, n + nq, by simp⟩
      · have hr : r = true := HR.out.trans (EE.out k (by omega))
        subst hr
        clear HR
        go_wp2
        go_ret
        exact ⟨rfl, n, rfl⟩
  · have hr : eqC l m = false := by
      cases h : eqC l m with
      | false => rfl
      | true => exact absurd (eqC_len l m h) hlm
    rw [hr]
    have z1 : ((l.length : Int) == (m.length : Int)) = false := by simp; omega
    have z2 : ((l.length : Int) != (m.length : Int)) = true := by simp; omega
    go_enter Tryd.func39, Tryd.ntmps39
    go_wp2
    go_ret
    exact ⟨rfl, 0, rfl⟩
/-- Cracks from one place up to another, as a slice of the whole. -/
theorem CS.cut {w : World} {X o n cap : Nat} {l : List Cr} (h : CS w (.slice (some ⟨X, o, none⟩) n cap) l) {a b : Nat} (hab : a < b) (hb : b ≤ l.length) : CS w (.slice (some ⟨X, o + a * 3, none⟩) (b - a) (cap - a)) ((l.drop a).take (b - a)) ∧ l.length ≤ cap ∧ n = l.length := by
  rcases h with ⟨_, rfl⟩ | ⟨X', o', cap', e, hX, hcp, hc⟩
  · simp at hb; omega
  · injection e with e1 e2 e3
    injection e1 with e1
    injection e1 with e4 e5 _
    subst e2 e3 e4 e5
    have hl : ((l.drop a).take (b - a)).length = b - a := by simp; omega
    refine ⟨Or.inr ⟨X, o + a * 3, cap - a, by rw [hl], hX, by omega, fun k hk => ?_⟩, hcp, rfl⟩
    rw [hl] at hk
    obtain ⟨c1, c2, c3⟩ := hc (a + k) (by omega)
    have e : ((l.drop a).take (b - a))[k]'(by rw [hl]; exact hk) = l[a + k]'(by omega) := by simp
    rw [e, show o + a * 3 + k * 3 = o + (a + k) * 3 by omega]
    exact ⟨c1, c2, c3⟩
set_option maxHeartbeats 4000000 in
set_option maxRecDepth 100000 in
theorem cloneF_any (w : World) (v : Value) (l : List Cr) (h : CS w v l) (hl : l.length ≤ 10000) :
    Calls Tryd.prog 44 #[v] w fun e w' => ∃ p cap, e = .returned (.slice p l.length cap) ∧ OwnC w' w.heap.size (.slice p l.length cap) l ∧ Below w.heap.size w w' := by
  have h0 := h
  have EQ : ∀ a l c w, Sem.run Tryd.prog (binOp .eql 23 (.slice a l c) (.slice none 0 0)) w = .ok (.bool a.isNone) w := fun a l c w => by
    simp only [binOp]
    simp [run_equal_slice_nil w 23 _ a l c Tryd.underlying23]
  obtain ⟨p, cap, rfl⟩ := h.form
  cases p with
  | none =>
    have : l = [] := by
      rcases h with ⟨_, e⟩ | ⟨X, o, c, e, _⟩
      · exact e
      · cases e
    subst this
    clear h0 h
    go_enter Tryd.func44, Tryd.ntmps44
    go_wp2
    go_ret
    exact ⟨none, 0, rfl, World.ownsRow_nil _ _ _ _, Below.refl _ _⟩
  | some a =>
    have H0 : Hid (CS (w.alloc (.cells #[] 55)) (.slice (some a) l.length cap) l) := h0.below ((Below.refl _ _).alloc (Nat.le_refl _) _)
    have E0 : Hid (OwnC (w.alloc (.cells #[] 55)) w.heap.size (.slice (some ⟨w.heap.size, 0, none⟩) 0 0) []) := ownC_empty w
    have HL : Hid ((([] : List Cr).length + l.length) * 32 ≤ 140737488355328) := by show (([] : List Cr).length + l.length) * 32 ≤ 140737488355328; simp; omega
    clear h0 h
    go_enter Tryd.func44, Tryd.ntmps44
    go_wp2_with (at_builtin; refine append_crs rfl (.tmp 5) (.tmp 6) 23 rfl w.heap.size Tryd.underlying23 info_cr _ _ (.slice (some a) l.length cap) [] l rfl rfl E0.out H0.out HL.out (by simp) ?_; intro v8 w8 ho8 hb8)
    go_ret
    rw [List.nil_append] at ho8
    obtain ⟨p, cap2, rfl⟩ := ho8.form
    exact ⟨p, cap2, rfl, ho8, ((Below.refl _ _).alloc (Nat.le_refl _) _).trans hb8⟩
end Go.Proofs.YtaleagkhblokgaaDoor
