/- Failures as trees, plain: what they are as lists of cracks, what their texts are. -/
import Derived.Test.YtaleagkhblokgaaDoorHx2
import Derived.Test.YtaleagkhblokgaaDoorBytes
namespace Go.Proofs.YtaleagkhblokgaaDoor
open Go.RowKit

/-- What the wholes say: where each begins, where its parts end. -/
structure TR (n : Nat) (f : Int → Int) (D : Int → List Int) : Prop where
  b : ∀ x : Int, 0 ≤ x → x < n → 0 ≤ f x ∧ f x ≤ x
  p : ∀ x : Int, 0 ≤ x → x < n → ∀ y ∈ D x, 0 ≤ y ∧ y < x
  c : ∀ x : Int, 0 ≤ x → x < n → CHN f (D x) x
  z : ∀ x : Int, 0 ≤ x → x < n → f x = if 0 < (D x).length then f ((D x).getD 0 0) else x
theorem TR.rise {n : Nat} {f : Int → Int} {D : Int → List Int} (h : TR n f D) {x : Int} (h0 : 0 ≤ x) (hx : x < n) : ∀ j, j < (D x).length → f x ≤ f ((D x).getD j 0)
  | 0, hj => by have := h.z x h0 hx; rw [if_pos hj] at this; omega
  | j + 1, hj => by
    have ih := h.rise h0 hx j (by omega)
    have h1 := (h.c x h0 hx).1 j hj
    have h2 := h.p x h0 hx _ (getD_mem (D := D x) (j := j) (by omega))
    have h3 := h.b _ h2.1 (by omega)
    omega
theorem TR.within {n : Nat} {f : Int → Int} {D : Int → List Int} (h : TR n f D) {x F : Int} (h0 : 0 ≤ x) (hx : x < n) (h1 : f x ≤ F) : ∀ i, i < (D x).length → F ≤ (D x).getD i 0 → ∃ j, j < (D x).length ∧ f ((D x).getD j 0) ≤ F ∧ F ≤ (D x).getD j 0
  | 0, hi, hF => ⟨0, hi, by have := h.z x h0 hx; rw [if_pos hi] at this; omega, hF⟩
  | i + 1, hi, hF => by
    by_cases hc : f ((D x).getD (i + 1) 0) ≤ F
    · exact ⟨i + 1, hi, hc, hF⟩
    · have := (h.c x h0 hx).1 i hi
      exact h.within h0 hx h1 i (by omega) (by omega)
theorem TR.part {n : Nat} {f : Int → Int} {D : Int → List Int} (h : TR n f D) {x F : Int} (h0 : 0 ≤ x) (hx : x < n) (h1 : f x ≤ F) (h2 : F < x) : ∃ j, j < (D x).length ∧ f ((D x).getD j 0) ≤ F ∧ F ≤ (D x).getD j 0 := by
  have hz := h.z x h0 hx
  have hl : 0 < (D x).length := by
    by_cases hl : 0 < (D x).length
    · exact hl
    · rw [if_neg hl] at hz; omega
  have hc := (h.c x h0 hx).2 hl
  exact h.within h0 hx h1 ((D x).length - 1) (by omega) (by omega)
/-- What is in a whole begins in it. -/
theorem TR.lam {n : Nat} {f : Int → Int} {D : Int → List Int} (h : TR n f D) {F : Int} : ∀ (m : Nat) (x : Int), x.toNat < m → 0 ≤ x → x < n → f x ≤ F → F ≤ x → f x ≤ f F
  | 0, x, hm, _, _, _, _ => by omega
  | m + 1, x, hm, h0, hx, h1, h2 => by
    by_cases e : F = x
    · subst e; exact Int.le_refl _
    · obtain ⟨j, hj, h3, h4⟩ := h.part h0 hx h1 (by omega)
      have h5 := h.p x h0 hx _ (getD_mem (D := D x) hj)
      have h6 := h.lam (F := F) m _ (by omega) h5.1 (by omega) h3 h4
      have h7 := h.rise h0 hx j hj
      omega
/-- The first of a kind: a whole ahead of its parts. -/
structure FST (n : Nat) (f : Int → Int) (K : Int → Prop) (F : Int) : Prop where
  r : 0 ≤ F ∧ F < n
  k : K F
  m : ∀ x : Int, 0 ≤ x → x < n → K x → f F < f x ∨ (f F = f x ∧ x ≤ F)
/-- The places still to look at, the next one last; the first one is in one of them. -/
structure DF (n : Nat) (f : Int → Int) (F : Int) (T : List Int) : Prop where
  m : ∀ t ∈ T, 0 ≤ t ∧ t < n
  s : T.Pairwise (fun a b => b < f a)
  c : ∃ t ∈ T, f t ≤ F ∧ F ≤ t
theorem DF.hit {n : Nat} {f : Int → Int} {D : Int → List Int} {K : Int → Prop} {F a : Int} {T : List Int} (h : TR n f D) (hF : FST n f K F) (d : DF n f F (T ++ [a])) (hk : K a) : a = F := by
  have ha := d.m a (by simp)
  have hm := hF.m a ha.1 ha.2 hk
  obtain ⟨t, ht, h1, h2⟩ := d.c
  rw [List.mem_append, List.mem_singleton] at ht
  rcases ht with ht | rfl
  · have hs := (List.pairwise_append.1 d.s).2.2 t ht a (by simp)
    have htb := d.m t (by simp [ht])
    have hl := h.lam (F := F) (t.toNat + 1) t (by omega) htb.1 htb.2 h1 h2
    have hb := h.b a ha.1 ha.2
    omega
  · have hl := h.lam (F := F) (t.toNat + 1) t (by omega) ha.1 ha.2 h1 h2
    omega
theorem pair_rev {f : Int → Int} {D : List Int} {e : Int} (h : CHN f D e) (hb : ∀ x ∈ D, f x ≤ x) : D.Pairwise (fun a b => a < f b) := by
  rw [List.pairwise_iff_getElem]
  intro i j hi hj hij
  have key : ∀ d, i + 1 + d < D.length → D.getD i 0 < f (D.getD (i + 1 + d) 0) := by
    intro d
    induction d with
    | zero => intro hd; have := h.1 i hd; rw [Nat.add_zero]; omega
    | succ d ih =>
      intro hd
      have h1 := ih (by omega)
      have h2 := h.1 (i + 1 + d) (by omega)
      have h3 := hb _ (getD_mem (D := D) (j := i + 1 + d) (by omega))
      rw [show i + 1 + (d + 1) = i + 1 + d + 1 by omega]; omega
  have := key (j - i - 1) (by omega)
  rw [show i + 1 + (j - i - 1) = j by omega] at this
  simpa [List.getD, hi, hj] using this
theorem DF.miss {n : Nat} {f : Int → Int} {D : Int → List Int} {F a : Int} {T : List Int} (h : TR n f D) (d : DF n f F (T ++ [a])) (ha : a ≠ F) : DF n f F (T ++ (D a).reverse) := by
  have hab := d.m a (by simp)
  have hp := h.p a hab.1 hab.2
  refine ⟨fun t ht => ?_, ?_, ?_⟩
  · rw [List.mem_append, List.mem_reverse] at ht
    rcases ht with ht | ht
    · exact d.m t (by simp [ht])
    · have := hp t ht; omega
  · have hs := List.pairwise_append.1 d.s
    rw [List.pairwise_append]
    refine ⟨hs.1, ?_, fun x hx y hy => ?_⟩
    · rw [List.pairwise_reverse]
      exact pair_rev (h.c a hab.1 hab.2) (fun x hx => (h.b x (hp x hx).1 (by have := hp x hx; omega)).2)
    · have h1 := hs.2.2 x hx a (by simp)
      have h2 := hp y (List.mem_reverse.1 hy)
      omega
  · obtain ⟨t, ht, h1, h2⟩ := d.c
    rw [List.mem_append, List.mem_singleton] at ht
    rcases ht with ht | rfl
    · exact ⟨t, by simp [ht], h1, h2⟩
    · obtain ⟨j, hj, h3, h4⟩ := h.part hab.1 hab.2 h1 (by omega)
      exact ⟨_, by rw [List.mem_append, List.mem_reverse]; exact Or.inr (getD_mem hj), h3, h4⟩
/-- How much is still to do. -/
def muT (f : Int → Int) (T : List Int) : Nat := match T.reverse with | [] => 0 | a :: _ => ((1024 - f a) * 2000 + a + 1).toNat
theorem DF.less {n : Nat} {f : Int → Int} {D : Int → List Int} {F a : Int} {T : List Int} (hn : n ≤ 1024) (h : TR n f D) (d : DF n f F (T ++ [a])) : muT f (T ++ (D a).reverse) < muT f (T ++ [a]) := by
  have hab := d.m a (by simp)
  have hb := h.b a hab.1 hab.2
  have e1 : muT f (T ++ [a]) = ((1024 - f a) * 2000 + a + 1).toNat := by unfold muT; simp
  rw [e1]
  have hz := h.z a hab.1 hab.2
  cases hD : D a with
  | cons y r =>
    rw [hD] at hz
    have hy := h.p a hab.1 hab.2 y (by rw [hD]; simp)
    have hyb := h.b y hy.1 (by omega)
    have e2 : muT f (T ++ (y :: r).reverse) = ((1024 - f y) * 2000 + y + 1).toNat := by unfold muT; simp
    rw [e2]
    simp at hz
    omega
  | nil =>
    rw [List.reverse_nil, List.append_nil]
    unfold muT
    cases hT : T.reverse with
    | nil => simp; omega
    | cons t r =>
      have htm : t ∈ T := by rw [← List.mem_reverse, hT]; simp
      have hs := (List.pairwise_append.1 d.s).2.2 t htm a (by simp)
      have htb := d.m t (by simp [htm])
      have := h.b t htb.1 htb.2
      simp only
      omega
theorem DF.begin {n : Nat} {f : Int → Int} {F : Int} (hF : 0 ≤ F ∧ F < n) (h0 : f ((n : Int) - 1) = 0) : DF n f F [(n : Int) - 1] :=
  ⟨fun t ht => by simp at ht; omega, by simp, ⟨_, List.mem_singleton.2 rfl, by omega, by omega⟩⟩
/-- Where a whole begins: where its first part does. -/
def FR (A : List (Int × List Int)) : Prop := ∀ j, j < A.length → (A.getD j (0, [])).1 = if 0 < (A.getD j (0, [])).2.length then frA A ((A.getD j (0, [])).2.getD 0 0) else j
theorem whS_FR : ∀ (r : List Cr) (i : Nat) (E : List Int) (A : List (Int × List Int)) (t : Int), A.length = i → (∀ x ∈ E, 0 ≤ x ∧ x < i) → (∀ j, j < A.length → ∀ x ∈ (A.getD j (0, [])).2, 0 ≤ x ∧ x < j) → FR A → walkC E.length r = some t → FR (whS i E A r)
  | [], i, E, A, t, _, _, _, h, _ => by rw [whS]; exact h
  | c :: r, i, E, A, t, hA, hE, hP, h, hw => by
    obtain ⟨⟨hcb, hcn⟩, hwn⟩ := walk_step hw
    obtain ⟨hn0, hn1⟩ := crB_n hcb
    rw [whS]
    obtain ⟨J, hJ⟩ : ∃ J, J = E.length - c.n.toNat := ⟨_, rfl⟩
    rw [← hJ]
    obtain ⟨b, hb⟩ : ∃ b, b = (if 0 < c.n then (A.getD (E.getD J 0).toNat (0, [])).1 else (i : Int)) := ⟨_, rfl⟩
    rw [← hb]
    have hEd : ∀ x ∈ E.drop J, 0 ≤ x ∧ x < i := fun x hx => hE x (List.mem_of_mem_drop hx)
    have ha2 : ∀ x ∈ E.drop J, x.toNat < A.length := fun x hx => by have := hEd x hx; omega
    refine whS_FR r (i + 1) _ _ t (by simp [hA]) (fun x hx => ?_) ?_ ?_ ?_
    · rw [List.mem_append, List.mem_singleton] at hx
      rcases hx with hx | hx
      · have := hE x (List.mem_of_mem_take hx); omega
      · omega
    · intro j hj
      by_cases hji : j < A.length
      · rw [getD_old hji]; exact hP j hji
      · have : j = A.length := by simp at hj; omega
        subst this
        rw [show (A ++ [(b, E.drop J)]).getD A.length (0, []) = (b, E.drop J) by simp [List.getD], hA]
        exact hEd
    · intro j hj
      by_cases hji : j < A.length
      · rw [getD_old hji, h j hji]
        split
        · rename_i hl
          rw [frA_old]
          have := hP j hji _ (getD_mem hl); omega
        · rfl
      · have : j = A.length := by simp at hj; omega
        subst this
        rw [show (A ++ [(b, E.drop J)]).getD A.length (0, []) = (b, E.drop J) by simp [List.getD]]
        show b = if 0 < (E.drop J).length then frA (A ++ [(b, E.drop J)]) ((E.drop J).getD 0 0) else (A.length : Int)
        by_cases hp : 0 < c.n
        · have hl : 0 < (E.drop J).length := by simp; omega
          rw [if_pos hl, frA_old (ha2 _ (getD_mem hl)), hb, if_pos hp]
          unfold frA; simp [List.getD]
        · have hl : ¬ 0 < (E.drop J).length := by simp; omega
          rw [if_neg hl, hb, if_neg hp, hA]
    · rw [← hwn]; congr 1; simp; omega
theorem whA_FR {l : List Cr} (h : chk l = 0) : FR (whA l) := by
  obtain ⟨_, hw⟩ := chk_ok h
  exact whS_FR l 0 [] [] 1 rfl (fun x hx => by simp at hx) (fun j hj => by simp at hj) (fun j hj => by simp at hj) hw
def ptA (A : List (Int × List Int)) (x : Int) : List Int := (A.getD x.toNat (0, [])).2
theorem whA_TR {l : List Cr} (h : chk l = 0) : TR l.length (frA (whA l)) (ptA (whA l)) := by
  obtain ⟨E', PJ⟩ := whA_PI h
  have hF := whA_FR h
  have hl := whA_len l
  refine ⟨fun x h0 hx => ?_, fun x h0 hx => ?_, fun x h0 hx => ?_, fun x h0 hx => ?_⟩
  · have := whA_fb (l := l) (j := x.toNat) (by omega)
    rw [show ((x.toNat : Nat) : Int) = x by omega] at this; exact this
  · obtain ⟨c, _, _, _, h4⟩ := PJ.pa x.toNat (by omega)
    rw [show ((x.toNat : Nat) : Int) = x by omega] at h4; exact h4
  · obtain ⟨c, _, _, h3, _⟩ := PJ.pa x.toNat (by omega)
    rw [show ((x.toNat : Nat) : Int) = x by omega] at h3; exact h3
  · have := hF x.toNat (by omega)
    rw [show ((x.toNat : Nat) : Int) = x by omega] at this; exact this
theorem whS_zero : ∀ (r : List Cr) (i : Nat) (E : List Int) (A : List (Int × List Int)) (t : Int), A.length = i → (∀ x ∈ E, 0 ≤ x ∧ x < i) → (E = [] → i = 0) → (E ≠ [] → frA A (E.getD 0 0) = 0) → walkC E.length r = some t → endE i E r ≠ [] → frA (whS i E A r) ((endE i E r).getD 0 0) = 0
  | [], i, E, A, t, _, _, _, h, _, hn => by rw [whS]; exact h hn
  | c :: r, i, E, A, t, hA, hE, h0, h, hw, hn => by
    obtain ⟨⟨hcb, hcn⟩, hwn⟩ := walk_step hw
    obtain ⟨hn0, hn1⟩ := crB_n hcb
    rw [endE] at hn ⊢
    rw [whS]
    obtain ⟨J, hJ⟩ : ∃ J, J = E.length - c.n.toNat := ⟨_, rfl⟩
    rw [← hJ] at hn ⊢
    obtain ⟨b, hb⟩ : ∃ b, b = (if 0 < c.n then (A.getD (E.getD J 0).toNat (0, [])).1 else (i : Int)) := ⟨_, rfl⟩
    rw [← hb]
    refine whS_zero r (i + 1) _ _ t (by simp [hA]) (fun x hx => ?_) (fun e => by simp at e) (fun _ => ?_) ?_ hn
    · rw [List.mem_append, List.mem_singleton] at hx
      rcases hx with hx | hx
      · have := hE x (List.mem_of_mem_take hx); omega
      · omega
    · by_cases hJ0 : J = 0
      · subst hJ0
        have e1 : (E.take 0 ++ [(i : Int)]).getD 0 0 = i := by simp
        have e2 : frA (A ++ [(b, E.drop 0)]) (i : Int) = b := by unfold frA; simp [List.getD, ← hA]
        rw [e1, e2, hb]
        by_cases hp : 0 < c.n
        · rw [if_pos hp]
          exact h (fun e => by rw [e] at hcn; simp at hcn; omega)
        · rw [if_neg hp]
          have : E = [] := List.length_eq_zero_iff.1 (by omega)
          rw [h0 this]; rfl
      · have hl : 0 < E.length := by omega
        have e1 : (E.take J ++ [(i : Int)]).getD 0 0 = E.getD 0 0 := by
          rw [List.getD_eq_getElem?_getD, List.getD_eq_getElem?_getD, List.getElem?_append_left (by simp; omega), List.getElem?_take_of_lt (by omega)]
        have hm := hE _ (getD_mem hl)
        rw [e1, frA_old (by omega)]
        exact h (fun e => by rw [e] at hl; simp at hl)
    · rw [← hwn]; congr 1; simp; omega
/-- The whole begins at the front. -/
theorem whA_all {l : List Cr} (h : chk l = 0) : 0 < l.length ∧ frA (whA l) ((l.length : Int) - 1) = 0 := by
  obtain ⟨_, hw⟩ := chk_ok h
  have hne : l ≠ [] := fun e => by subst e; simp [walkC] at hw
  have hl : 0 < l.length := List.length_pos_iff.2 hne
  refine ⟨hl, ?_⟩
  have h2 := endE_len l 0 [] 1 hw
  obtain ⟨E0, h3⟩ := endE_last l 0 [] hne
  have h1 := whS_zero l 0 [] [] 1 rfl (fun x hx => by simp at hx) (fun _ => rfl) (fun e => absurd rfl e) hw (by rw [h3]; simp)
  rw [h3, List.length_append] at h2
  have h4 : E0 = [] := List.length_eq_zero_iff.1 (by simp at h2; omega)
  rw [h3, h4, List.nil_append] at h1
  unfold whA
  rw [show (l.length : Int) - 1 = ((0 + l.length - 1 : Nat) : Int) by omega]
  exact h1
end Go.Proofs.YtaleagkhblokgaaDoor
namespace Go.Proofs.YtaleagkhblokgaaDoor

def hexDig : ByteArray := ⟨#[48, 49, 50, 51, 52, 53, 54, 55, 56, 57, 97, 98, 99, 100, 101, 102]⟩
/-- The digit to the base 16. -/
def hexD (n : Nat) : UInt8 := hexDig.data.toList.getD n 0
/-- A byte as it is written within quotes. -/
def qB (c : UInt8) : List UInt8 :=
  if c = 34 ∨ c = 92 then [92, c] else if c = 10 then [92, 110] else if 32 ≤ c.toNat ∧ c.toNat ≤ 126 then [c] else [92, 120, hexD (c.toNat / 16), hexD (c.toNat % 16)]
def quo (l : List UInt8) : List UInt8 := [34] ++ l.flatMap qB ++ [34]
theorem qB_len (c : UInt8) : (qB c).length ≤ 4 := by unfold qB; split; simp; split; simp; split <;> simp
theorem qB_len1 (c : UInt8) : 1 ≤ (qB c).length := by unfold qB; split; simp; split; simp; split <;> simp
theorem qBs_len : ∀ l : List UInt8, (l.flatMap qB).length ≤ 4 * l.length
  | [] => by simp
  | c :: r => by have := qBs_len r; have := qB_len c; rw [List.flatMap_cons, List.length_append, List.length_cons]; omega
theorem take_snoc (s : ByteArray) (k : Nat) (h : k < s.size) : s.data.toList.take (k + 1) = s.data.toList.take k ++ [s[k]] := by
  rw [List.take_succ_eq_append_getElem (by simpa using h)]; rfl
theorem qBs_snoc (s : ByteArray) (k : Nat) (h : k < s.size) : (s.data.toList.take (k + 1)).flatMap qB = (s.data.toList.take k).flatMap qB ++ qB s[k] := by
  rw [take_snoc s k h, List.flatMap_append]; simp
theorem qB_esc {c : UInt8} (h : (c.toNat : Int) = 34 ∨ (c.toNat : Int) = 92) : qB c = [92, c] := by
  have : c = 34 ∨ c = 92 := by rcases h with h | h; left; apply UInt8.toNat_inj.1; simp; omega; right; apply UInt8.toNat_inj.1; simp; omega
  unfold qB; rw [if_pos this]
theorem qB_34 {c : UInt8} (h : (c.toNat : Int) = 34) : qB c = [92] ++ [34] := by
  have : c = 34 := by apply UInt8.toNat_inj.1; simp; omega
  subst this; rfl
theorem qB_92 {c : UInt8} (h : (c.toNat : Int) = 92) : qB c = [92] ++ [92] := by
  have : c = 92 := by apply UInt8.toNat_inj.1; simp; omega
  subst this; rfl
theorem toNat_ne {c : UInt8} {n : Nat} (hn : n < 256) (h : ¬ (c.toNat : Int) = n) : ¬ c = UInt8.ofNat n := by
  intro e; apply h; rw [e]; simp; omega
theorem qB_nl {c : UInt8} (h : (c.toNat : Int) = 10) : qB c = [92, 110] := by
  have : c = 10 := by apply UInt8.toNat_inj.1; simp; omega
  subst this; rfl
theorem qB_plain {c : UInt8} (h1 : ¬ (c.toNat : Int) = 34) (h2 : ¬ (c.toNat : Int) = 92) (h3 : 32 ≤ (c.toNat : Int)) (h4 : (c.toNat : Int) ≤ 126) : qB c = [c] := by
  unfold qB
  rw [if_neg (by rintro (e | e) <;> subst e <;> simp at h1 h2), if_neg (by intro e; subst e; simp at h3), if_pos (by omega)]
theorem qB_hex {c : UInt8} (h1 : ¬ (c.toNat : Int) = 10) (h2 : (c.toNat : Int) < 32 ∨ 126 < (c.toNat : Int)) : qB c = [92, 120, hexD (c.toNat / 16), hexD (c.toNat % 16)] := by
  unfold qB
  rw [if_neg (by rintro (e | e) <;> subst e <;> simp at h2), if_neg (by intro e; subst e; simp at h1), if_neg (by omega)]
theorem hexAt (j n : Nat) (hj : j = n) (h : j < hexDig.size) : ((hexDig[j]'h).toNat : Int) = ((hexD n).toNat : Int) := by
  subst hj
  have : hexDig[j] = hexD j := by
    have h' : j < hexDig.data.toList.length := h
    simp only [hexD, List.getD_eq_getElem?_getD, List.getElem?_eq_getElem h', Option.getD_some]; rfl
  rw [this]
theorem cells4 {a b : Int} {x y : UInt8} (ha : a = (x.toNat : Int)) (hb : b = (y.toNat : Int)) : (#[.int .u8 92, .int .u8 120, .int .u8 a, .int .u8 b] : Array Value).toList = [92, 120, x, y].map byteV := by
  subst ha hb; rfl
theorem wrap_u8 (n : Int) (h0 : 0 ≤ n) (h1 : n ≤ 255) : IntKind.u8.wrap n = n := by simp [IntKind.wrap, IntKind.signed, IntKind.bits]; omega
theorem and15 (c : UInt8) : bits BinOp.and IntKind.u8 (c.toNat : Int) 15 = (c.toNat : Int) % 16 := by
  have h : ∀ n : Fin 256, bits BinOp.and IntKind.u8 (n.val : Int) 15 = (n.val : Int) % 16 := by decide +kernel
  exact h ⟨c.toNat, UInt8.toNat_lt c⟩
end Go.Proofs.YtaleagkhblokgaaDoor
namespace Go.Proofs.YtaleagkhblokgaaDoor
open Go.RowKit

/-- A failure as a tree. -/
inductive Ft where
  | nd (k : Int) (tx : ByteArray) (ps : List Ft)
mutual
/-- Its cracks, each behind its parts. -/
def flat : Ft → List Cr
  | .nd k tx ps => flatL ps ++ [⟨k, ps.length, tx⟩]
def flatL : List Ft → List Cr
  | [] => []
  | t :: r => flat t ++ flatL r
end
theorem flatL_app : ∀ (a b : List Ft), flatL (a ++ b) = flatL a ++ flatL b
  | [], b => by simp [flatL]
  | t :: r, b => by rw [List.cons_append, flatL, flatL, flatL_app r b, List.append_assoc]
theorem flatL_one (t : Ft) : flatL [t] = flat t := by rw [flatL, flatL, List.append_nil]
/-- The trees of a list of cracks: a stack. -/
def build : List Ft → List Cr → List Ft
  | S, [] => S
  | S, c :: r => build (S.take (S.length - c.n.toNat) ++ [.nd c.kind c.text (S.drop (S.length - c.n.toNat))]) r
def treeOf (l : List Cr) : Ft := (build [] l).headD (.nd 0 ByteArray.empty [])
theorem build_flat : ∀ (r : List Cr) (S : List Ft) (t : Int), walkC S.length r = some t → flatL (build S r) = flatL S ++ r
  | [], S, t, _ => by rw [build, List.append_nil]
  | c :: r, S, t, h => by
    obtain ⟨⟨hcb, hcn⟩, hwn⟩ := walk_step h
    obtain ⟨hn0, hn1⟩ := crB_n hcb
    rw [build, build_flat r _ t (by rw [← hwn]; congr 1; simp; omega)]
    rw [flatL_app, flatL_one, flat]
    have hl : (S.drop (S.length - c.n.toNat)).length = c.n.toNat := by simp; omega
    have hc : (⟨c.kind, ((S.drop (S.length - c.n.toNat)).length : Nat), c.text⟩ : Cr) = c := by
      rw [hl, show ((c.n.toNat : Nat) : Int) = c.n by omega]
    rw [hc]
    have := flatL_app (S.take (S.length - c.n.toNat)) (S.drop (S.length - c.n.toNat))
    rw [List.take_append_drop] at this
    rw [this]; simp
theorem build_len : ∀ (r : List Cr) (S : List Ft) (t : Int), walkC S.length r = some t → ((build S r).length : Int) = t
  | [], S, t, h => by rw [walkC] at h; injection h
  | c :: r, S, t, h => by
    obtain ⟨⟨hcb, hcn⟩, hwn⟩ := walk_step h
    obtain ⟨hn0, hn1⟩ := crB_n hcb
    rw [build]
    exact build_len r _ t (by rw [← hwn]; congr 1; simp; omega)
theorem build_one {l : List Cr} (h : chk l = 0) : build [] l = [treeOf l] := by
  obtain ⟨_, hw⟩ := chk_ok h
  have := build_len l [] 1 hw
  unfold treeOf
  match hb : build [] l, this with
  | [t], _ => rfl
  | [], e => simp at e
  | a :: b :: r, e => simp at e; omega
theorem flat_tree {l : List Cr} (h : chk l = 0) : flat (treeOf l) = l := by
  obtain ⟨_, hw⟩ := chk_ok h
  have := build_flat l [] 1 hw
  rw [build_one h, flatL_one] at this
  rw [this]; simp [flatL]
mutual
theorem build_tree : ∀ (t : Ft) (S : List Ft) (r : List Cr), build S (flat t ++ r) = build (S ++ [t]) r
  | .nd k tx ps, S, r => by
    rw [flat, List.append_assoc, build_trees ps S _, List.cons_append, List.nil_append, build]
    have e : ((ps.length : Nat) : Int).toNat = ps.length := by simp
    simp only [e]
    have h1 : (S ++ ps).take ((S ++ ps).length - ps.length) = S := by simp
    have h2 : (S ++ ps).drop ((S ++ ps).length - ps.length) = ps := by simp
    rw [h1, h2]
theorem build_trees : ∀ (ps : List Ft) (S : List Ft) (r : List Cr), build S (flatL ps ++ r) = build (S ++ ps) r
  | [], S, r => by simp [flatL]
  | t :: q, S, r => by
    rw [flatL, List.append_assoc, build_tree t S _, build_trees q _ r]; simp
end
theorem tree_flat (t : Ft) : treeOf (flat t) = t := by
  have := build_tree t [] []
  rw [List.append_nil] at this
  unfold treeOf
  rw [this, build]; rfl
/-- What stands behind a crack's word. -/
def txtF (x : Int) (t : ByteArray) : List UInt8 := if x = 0 then [] else if x = 1 then 32 :: quo t.data.toList else 32 :: t.data.toList
mutual
/-- The text of a failure. -/
def prF : Ft → List UInt8
  | .nd k tx ps => (frow k).word.data.toList ++ (txtF (frow k).text tx ++ (if ps.length = 0 then [] else (frow k).op.data.toList ++ (prL (frow k).bt true ps ++ (frow k).en.data.toList)))
/-- Texts of parts, from the first, or from a later one, on. -/
def prL (b : ByteArray) : Bool → List Ft → List UInt8
  | _, [] => []
  | first, t :: r => (if first then [] else b.data.toList) ++ (prF t ++ prL b false r)
end
mutual
/-- The tree stands at a place, by the wholes. -/
def AtT (l : List Cr) (A : List (Int × List Int)) : Ft → Nat → Prop
  | .nd k tx ps, j => j < A.length ∧ l[j]? = some ⟨k, ps.length, tx⟩ ∧ AtL l A ps (A.getD j (0, [])).2
def AtL (l : List Cr) (A : List (Int × List Int)) : List Ft → List Int → Prop
  | [], D => D = []
  | t :: r, D => ∃ (x : Nat) (D' : List Int), D = (x : Int) :: D' ∧ AtT l A t x ∧ AtL l A r D'
end
mutual
theorem AtT.more {l : List Cr} {A : List (Int × List Int)} (a : Int × List Int) : ∀ (t : Ft) (j : Nat), AtT l A t j → AtT l (A ++ [a]) t j
  | .nd k tx ps, j, h => by
    rw [AtT] at h ⊢
    rw [getD_old h.1]
    exact ⟨by simp; omega, h.2.1, AtL.more a ps _ h.2.2⟩
theorem AtL.more {l : List Cr} {A : List (Int × List Int)} (a : Int × List Int) : ∀ (ps : List Ft) (D : List Int), AtL l A ps D → AtL l (A ++ [a]) ps D
  | [], D, h => by rw [AtL] at h ⊢; exact h
  | t :: r, D, h => by
    rw [AtL] at h ⊢
    obtain ⟨x, D', e, h1, h2⟩ := h
    exact ⟨x, D', e, AtT.more a t x h1, AtL.more a r D' h2⟩
end
theorem AtL.len {l : List Cr} {A : List (Int × List Int)} : ∀ (ps : List Ft) (D : List Int), AtL l A ps D → ps.length = D.length
  | [], D, h => by rw [AtL] at h; subst h; rfl
  | t :: r, D, h => by
    rw [AtL] at h
    obtain ⟨x, D', e, _, h2⟩ := h
    subst e; simp [AtL.len r D' h2]
theorem AtL.drop {l : List Cr} {A : List (Int × List Int)} : ∀ (m : Nat) (ps : List Ft) (D : List Int), AtL l A ps D → AtL l A (ps.drop m) (D.drop m)
  | 0, ps, D, h => by simpa using h
  | m + 1, [], D, h => by rw [AtL] at h; subst h; simp [AtL]
  | m + 1, t :: r, D, h => by
    rw [AtL] at h
    obtain ⟨x, D', e, _, h2⟩ := h
    subst e
    simpa using AtL.drop m r D' h2
theorem AtL.take {l : List Cr} {A : List (Int × List Int)} : ∀ (m : Nat) (ps : List Ft) (D : List Int), AtL l A ps D → AtL l A (ps.take m) (D.take m)
  | 0, ps, D, h => by simp [AtL]
  | m + 1, [], D, h => by rw [AtL] at h; subst h; simp [AtL]
  | m + 1, t :: r, D, h => by
    rw [AtL] at h
    obtain ⟨x, D', e, h1, h2⟩ := h
    subst e
    rw [List.take_succ_cons, List.take_succ_cons, AtL]
    exact ⟨x, _, rfl, h1, AtL.take m r D' h2⟩
theorem AtL.snoc {l : List Cr} {A : List (Int × List Int)} {t : Ft} {x : Nat} (ht : AtT l A t x) : ∀ (ps : List Ft) (D : List Int), AtL l A ps D → AtL l A (ps ++ [t]) (D ++ [(x : Int)])
  | [], D, h => by
    rw [AtL] at h; subst h
    rw [List.nil_append, List.nil_append, AtL]
    exact ⟨x, [], rfl, ht, by rw [AtL]⟩
  | u :: r, D, h => by
    rw [AtL] at h
    obtain ⟨y, D', e, h1, h2⟩ := h
    subst e
    rw [List.cons_append, List.cons_append, AtL]
    exact ⟨y, _, rfl, h1, AtL.snoc ht r D' h2⟩
theorem AtL.get {l : List Cr} {A : List (Int × List Int)} : ∀ (ps : List Ft) (D : List Int) (i : Nat), AtL l A ps D → (hi : i < ps.length) → ∃ x : Nat, D.getD i 0 = (x : Int) ∧ AtT l A ps[i] x
  | [], D, i, h, hi => by simp at hi
  | t :: r, D, 0, h, hi => by
    rw [AtL] at h
    obtain ⟨x, D', e, h1, _⟩ := h
    subst e
    exact ⟨x, rfl, h1⟩
  | t :: r, D, i + 1, h, hi => by
    rw [AtL] at h
    obtain ⟨x, D', e, _, h2⟩ := h
    subst e
    obtain ⟨y, e1, e2⟩ := AtL.get r D' i h2 (by simpa using hi)
    exact ⟨y, by simpa using e1, e2⟩
theorem whS_at : ∀ (r : List Cr) (l0 : List Cr) (i : Nat) (E : List Int) (A : List (Int × List Int)) (S : List Ft) (t : Int), A.length = i → AtL l0 A S E → l0.drop i = r → walkC E.length r = some t → AtL l0 (whS i E A r) (build S r) (endE i E r)
  | [], l0, i, E, A, S, t, _, h, _, _ => by rw [whS, build, endE]; exact h
  | c :: r, l0, i, E, A, S, t, hA, h, hr, hw => by
    obtain ⟨⟨hcb, hcn⟩, hwn⟩ := walk_step hw
    obtain ⟨hn0, hn1⟩ := crB_n hcb
    have hl := AtL.len S E h
    have hc : l0[i]? = some c := by
      have := congrArg (·[0]?) hr
      simpa using this
    rw [whS, build, endE, hl]
    obtain ⟨J, hJ⟩ : ∃ J, J = E.length - c.n.toNat := ⟨_, rfl⟩
    rw [← hJ]
    obtain ⟨b, hb⟩ : ∃ b, b = (if 0 < c.n then (A.getD (E.getD J 0).toNat (0, [])).1 else (i : Int)) := ⟨_, rfl⟩
    rw [← hb]
    refine whS_at r l0 (i + 1) _ _ _ t (by simp [hA]) ?_ (by rw [← List.drop_drop, hr]; rfl) (by rw [← hwn]; congr 1; simp; omega)
    refine AtL.snoc ?_ _ _ (AtL.more _ _ _ (AtL.take J S E h))
    rw [AtT]
    refine ⟨by simp [hA], ?_, ?_⟩
    · rw [hc]
      have e : (((S.drop J).length : Nat) : Int) = c.n := by simp; omega
      rw [e]
    · have e : (A ++ [(b, E.drop J)]).getD i (0, []) = (b, E.drop J) := by simp [List.getD, ← hA]
      rw [e]
      exact AtL.more _ _ _ (AtL.drop J S E h)
theorem tree_at {l : List Cr} (h : chk l = 0) : AtT l (whA l) (treeOf l) (l.length - 1) := by
  obtain ⟨_, hw⟩ := chk_ok h
  have hne : l ≠ [] := fun e => by subst e; simp [walkC] at hw
  have h2 := endE_len l 0 [] 1 hw
  obtain ⟨E0, h3⟩ := endE_last l 0 [] hne
  have h1 := whS_at l l 0 [] [] [] 1 rfl (by rw [AtL]) (by simp) hw
  rw [h3, List.length_append] at h2
  have h4 : E0 = [] := List.length_eq_zero_iff.1 (by simp at h2; omega)
  rw [h3, h4, build_one h, List.nil_append, AtL] at h1
  obtain ⟨x, D', e, h5, _⟩ := h1
  have hx : x = l.length - 1 := by
    have := (List.cons.inj e).1
    omega
  rw [← hx]; exact h5
end Go.Proofs.YtaleagkhblokgaaDoor
