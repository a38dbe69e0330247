/- Retry: breakers, plain: what Ask and Tell answer and leave. -/
import Derived.Test.YtddnagoljdhnlaaXa1
namespace Go.Proofs.Ytddnagoljdhnlaa
open Go.RowKit

/-- A breaker: ways: of each try on its way its number, and the state that it is of. -/
structure Bk where
  lim : Int
  rst : Int
  st : Int
  row : Int
  unt : Int
  trn : Int
  lst : Int
  trs : Int
  ways : List (Int × Int)
def lkp : List (Int × Int) → Int → Option Int
  | [], _ => none
  | x :: r, s => if x.1 = s then some x.2 else lkp r s
def rmv (l : List (Int × Int)) (s : Int) : List (Int × Int) := l.filter (fun x => !decide (x.1 = s))
def DK (l : List (Int × Int)) : Prop := l.Pairwise (fun x y => x.1 ≠ y.1)
theorem lkp_app (l : List (Int × Int)) (s v x : Int) (h : lkp l s = none) : lkp (l ++ [(s, v)]) x = if x = s then some v else lkp l x := by
  induction l with
  | nil => simp only [List.nil_append, lkp]; by_cases e : x = s
           · rw [if_pos e.symm, if_pos e]
           · rw [if_neg (fun q => e q.symm), if_neg e]
  | cons y r ih =>
    rw [lkp] at h
    by_cases e : y.1 = s
    · rw [if_pos e] at h; cases h
    · rw [if_neg e] at h
      rw [List.cons_append, lkp, lkp, ih h]
      by_cases e2 : y.1 = x
      · rw [if_pos e2, if_pos e2, if_neg (fun q => e (e2.trans q))]
      · rw [if_neg e2, if_neg e2]
theorem lkp_rmv (l : List (Int × Int)) (s x : Int) : lkp (rmv l s) x = if x = s then none else lkp l x := by
  induction l with
  | nil => simp [rmv, lkp]
  | cons y r ih =>
    unfold rmv at ih ⊢
    by_cases e : y.1 = s
    · rw [List.filter_cons_of_neg (by simp [e]), ih, lkp]
      by_cases e2 : x = s
      · rw [if_pos e2, if_pos e2]
      · rw [if_neg e2, if_neg e2, if_neg (fun q => e2 (q.symm.trans e))]
    · rw [List.filter_cons_of_pos (by simp [e]), lkp, lkp, ih]
      by_cases e2 : x = s
      · rw [if_pos e2, if_pos e2, if_neg (fun q => e (q.trans e2))]
      · rw [if_neg e2, if_neg e2]
theorem lkp_none {l : List (Int × Int)} {s : Int} (h : ∀ x ∈ l, x.1 ≠ s) : lkp l s = none := by
  induction l with
  | nil => rfl
  | cons y r ih => rw [lkp, if_neg (h y (by simp)), ih (fun x hx => h x (by simp [hx]))]
theorem lkp_mem {l : List (Int × Int)} {s v : Int} (h : lkp l s = some v) : (s, v) ∈ l := by
  induction l with
  | nil => cases h
  | cons y r ih =>
    rw [lkp] at h
    by_cases e : y.1 = s
    · rw [if_pos e] at h; injection h with h; subst e h; simp
    · rw [if_neg e] at h; exact List.mem_cons_of_mem _ (ih h)
theorem lkp_no {l : List (Int × Int)} {s : Int} (h : lkp l s = none) : ∀ x ∈ l, x.1 ≠ s := by
  induction l with
  | nil => simp
  | cons y r ih =>
    rw [lkp] at h
    by_cases e : y.1 = s
    · rw [if_pos e] at h; cases h
    · rw [if_neg e] at h
      intro x hx
      rcases List.mem_cons.1 hx with rfl | hx
      · exact e
      · exact ih h x hx
theorem rmv_none {l : List (Int × Int)} {s : Int} (h : ∀ x ∈ l, x.1 ≠ s) : rmv l s = l := by
  unfold rmv
  rw [List.filter_eq_self]
  intro x hx
  simp [h x hx]
theorem rmv_len {l : List (Int × Int)} {s v : Int} (hd : DK l) (h : lkp l s = some v) : (rmv l s).length + 1 = l.length := by
  induction l with
  | nil => cases h
  | cons y r ih =>
    rw [lkp] at h
    obtain ⟨h1, h2⟩ := List.pairwise_cons.1 hd
    by_cases e : y.1 = s
    · have : rmv (y :: r) s = r := by
        have q := rmv_none (l := r) (s := s) (fun x hx => fun q => h1 x hx (e.trans q.symm))
        unfold rmv at q ⊢
        rw [List.filter_cons_of_neg (by simp [e]), q]
      rw [this]; rfl
    · rw [if_neg e] at h
      have q := ih h2 h
      unfold rmv at q ⊢
      rw [List.filter_cons_of_pos (by simp [e])]
      simp [q]
theorem rmv_dk {l : List (Int × Int)} (s : Int) (h : DK l) : DK (rmv l s) := List.Pairwise.filter _ h
theorem rmv_sub {l : List (Int × Int)} {s : Int} {x : Int × Int} (h : x ∈ rmv l s) : x ∈ l := (List.mem_filter.1 h).1
/-- Into another state. -/
def Bk.turn (k : Bk) (s u : Int) : Bk := { k with st := s, row := 0, unt := u, trn := k.trn + 1 }
def tdE (k : Bk) (a : Int) : Int := if timB a = false then 1 else if a < k.lst then 7 else 0
def letB (k : Bk) (a : Int) : Bool := decide (k.st = 1) || (decide (k.st = 2) && decide (k.unt ≤ a))
def askE (k : Bk) (a : Int) : Int := if tdE k a ≠ 0 then tdE k a else if letB k a = true ∧ k.ways.length = 1024 then 3 else 0
def askB (k : Bk) (a : Int) : Bool := decide (askE k a = 0) && letB k a
def askN (k : Bk) (a : Int) : Int := if askB k a then k.trs + 1 else 0
def hlf (k : Bk) : Bk := if k.st = 2 then k.turn 3 0 else k
def lettry (k : Bk) : Bk := { k with trs := k.trs + 1, ways := k.ways ++ [(k.trs + 1, k.trn)] }
def askX (k : Bk) (a : Int) : Bk := if askE k a ≠ 0 then k else if letB k a then lettry (hlf { k with lst := a }) else { k with lst := a }
def telE (k : Bk) (t a : Int) : Int := if lkp k.ways t = none then 4 else tdE k a
def hdX (k : Bk) (fine : Bool) : Bk := if fine then (if k.st = 1 then { k with row := 0 } else k.turn 1 0) else if k.st = 1 ∧ k.row + 1 < k.lim then { k with row := k.row + 1 } else k.turn 2 (min (k.lst + k.rst) 1099511627776)
def telX (k : Bk) (t : Int) (fine : Bool) (a : Int) : Bk := if telE k t a ≠ 0 then k else if lkp k.ways t = some k.trn then hdX { k with lst := a, ways := rmv k.ways t } fine else { k with lst := a, ways := rmv k.ways t }
def newK (l r : Int) : Bk := ⟨l, r, 1, 0, 0, 0, 0, 0, []⟩
def nwkB (l r : Int) : Bool := decide (1 ≤ l ∧ l ≤ 1000) && decide (1 ≤ r ∧ r ≤ 1099511627776)
/-- What every breaker keeps to, behind at most C calls. -/
structure KI2 (C : Int) (k : Bk) : Prop where
  lim : 1 ≤ k.lim ∧ k.lim ≤ 1000
  rst : 1 ≤ k.rst ∧ k.rst ≤ 1099511627776
  st : 1 ≤ k.st ∧ k.st ≤ 3
  row : 0 ≤ k.row ∧ k.row < k.lim
  unt : 0 ≤ k.unt ∧ k.unt ≤ 1099511627776
  trn : 0 ≤ k.trn ∧ k.trn ≤ C
  lst : 0 ≤ k.lst ∧ k.lst ≤ 1099511627776
  trs : 0 ≤ k.trs ∧ k.trs ≤ C
  len : k.ways.length ≤ 1024
  dk : DK k.ways
  num : ∀ x ∈ k.ways, (1 ≤ x.1 ∧ x.1 ≤ k.trs) ∧ (0 ≤ x.2 ∧ x.2 ≤ k.trn)
  opn : k.st = 2 → ∀ x ∈ k.ways, x.2 < k.trn
theorem KI2.mono {C D : Int} {k : Bk} (h : KI2 C k) (hc : C ≤ D) : KI2 D k := { h with trn := ⟨h.trn.1, by have := h.trn.2; omega⟩, trs := ⟨h.trs.1, by have := h.trs.2; omega⟩ }
theorem new_ki {l r : Int} (h : nwkB l r = true) : KI2 0 (newK l r) := by
  unfold nwkB at h
  simp at h
  exact ⟨h.1, h.2, by simp [newK], by simp [newK]; omega, by simp [newK], by simp [newK], by simp [newK], by simp [newK], by simp [newK], by simp [newK, DK], by simp [newK], by simp [newK]⟩
theorem turn_ki {C : Int} {k : Bk} (h : KI2 C k) {s u : Int} (hs : 1 ≤ s ∧ s ≤ 3) (hu : 0 ≤ u ∧ u ≤ 1099511627776) : KI2 (C + 1) (k.turn s u) := by
  have h1 := h.trn
  have h2 := h.trs
  have h3 := h.lim
  refine ⟨h.lim, h.rst, hs, ⟨by show (0 : Int) ≤ 0; omega, by show (0 : Int) < k.lim; omega⟩, hu, ⟨by show 0 ≤ k.trn + 1; omega, by show k.trn + 1 ≤ C + 1; omega⟩, h.lst, ⟨h2.1, by show k.trs ≤ C + 1; omega⟩, h.len, h.dk, fun x hx => ?_, fun _ x hx => ?_⟩
  · obtain ⟨a, b, c⟩ := h.num x hx; exact ⟨a, b, by show x.2 ≤ k.trn + 1; omega⟩
  · obtain ⟨a, b, c⟩ := h.num x hx; show x.2 < k.trn + 1; omega
theorem lst_ki {C : Int} {k : Bk} (h : KI2 C k) {a : Int} (ha : 0 ≤ a ∧ a ≤ 1099511627776) : KI2 C { k with lst := a } := { h with lst := ha }
theorem rmv_ki {C : Int} {k : Bk} (h : KI2 C k) (t : Int) : KI2 C { k with ways := rmv k.ways t } :=
  { h with len := Nat.le_trans (List.length_filter_le _ _) h.len, dk := rmv_dk t h.dk, num := fun x hx => h.num x (rmv_sub hx), opn := fun e x hx => h.opn e x (rmv_sub hx) }
theorem let_ki {C : Int} {k : Bk} (h : KI2 C k) (hl : k.ways.length < 1024) (hs : k.st ≠ 2) : KI2 (C + 1) (lettry k) := by
  have h1 := h.trn
  have h2 := h.trs
  refine ⟨h.lim, h.rst, h.st, h.row, h.unt, ⟨h1.1, by show k.trn ≤ C + 1; omega⟩, h.lst, ⟨by show 0 ≤ k.trs + 1; omega, by show k.trs + 1 ≤ C + 1; omega⟩, by show (k.ways ++ [_]).length ≤ 1024; simp; omega, ?_, ?_, fun e => absurd e hs⟩
  · show DK (k.ways ++ [_])
    unfold DK
    rw [List.pairwise_append]
    refine ⟨h.dk, by simp, fun x hx y hy => ?_⟩
    simp at hy
    subst hy
    have := (h.num x hx).1.2
    show x.1 ≠ k.trs + 1
    omega
  · intro x hx
    rcases List.mem_append.1 hx with hx | hx
    · obtain ⟨⟨a, b⟩, c⟩ := h.num x hx; exact ⟨⟨a, by show x.1 ≤ k.trs + 1; omega⟩, c⟩
    · simp at hx; subst hx; exact ⟨⟨by show 1 ≤ k.trs + 1; omega, by show k.trs + 1 ≤ k.trs + 1; omega⟩, ⟨h1.1, Int.le_refl _⟩⟩
theorem tdE_ok {k : Bk} {a : Int} (h : tdE k a = 0) : (0 ≤ a ∧ a ≤ 1099511627776) ∧ k.lst ≤ a := by
  unfold tdE at h
  split at h
  · cases h
  · rename_i ht
    have ht2 : timB a = true := by simpa using ht
    unfold timB at ht2
    simp at ht2
    split at h
    · cases h
    · exact ⟨ht2, by omega⟩
theorem askE_ok {k : Bk} {a : Int} (h : askE k a = 0) : tdE k a = 0 ∧ ¬ (letB k a = true ∧ k.ways.length = 1024) := by
  unfold askE at h
  split at h
  · rename_i h2; exact absurd h h2
  · rename_i h2
    split at h
    · cases h
    · rename_i h3; exact ⟨by simpa using h2, h3⟩
theorem ask_ki {C : Int} {k : Bk} (h : KI2 C k) (a : Int) : KI2 (C + 2) (askX k a) := by
  unfold askX
  split
  · exact h.mono (by omega)
  · rename_i h0
    have h0 : askE k a = 0 := by simpa using h0
    obtain ⟨e1, e2⟩ := askE_ok h0
    obtain ⟨e3, e4⟩ := tdE_ok e1
    have hk := lst_ki h e3
    split
    · rename_i hb
      have hl : k.ways.length < 1024 := by have := h.len; by_cases q : k.ways.length = 1024; exact absurd ⟨hb, q⟩ e2; omega
      unfold hlf
      split
      · have := let_ki (turn_ki hk (s := 3) (u := 0) (by decide) (by decide)) hl (by show (3 : Int) ≠ 2; decide)
        exact this.mono (by omega)
      · rename_i hs
        exact (let_ki hk hl hs).mono (by omega)
    · exact hk.mono (by omega)
theorem hd_ki {C : Int} {k : Bk} (h : KI2 C k) (f : Bool) : KI2 (C + 1) (hdX k f) := by
  have h1 := h.lst
  have h2 := h.rst
  have h3 := h.row
  have h4 := h.lim
  unfold hdX
  split
  · split
    · exact KI2.mono { h with row := ⟨by show (0 : Int) ≤ 0; omega, by show (0 : Int) < k.lim; omega⟩ } (by omega)
    · exact turn_ki h (by decide) (by decide)
  · split
    · rename_i q; exact KI2.mono { h with row := ⟨by show (0 : Int) ≤ k.row + 1; omega, q.2⟩ } (by omega)
    · exact turn_ki h (by decide) (by omega)
theorem tel_ki {C : Int} {k : Bk} (h : KI2 C k) (t : Int) (f : Bool) (a : Int) : KI2 (C + 2) (telX k t f a) := by
  unfold telX
  split
  · exact h.mono (by omega)
  · rename_i h0
    have h0 : telE k t a = 0 := by simpa using h0
    have h1 : tdE k a = 0 := by
      unfold telE at h0
      split at h0
      · cases h0
      · exact h0
    have hk := rmv_ki (lst_ki h (tdE_ok h1).1) t
    split
    · exact (hd_ki hk f).mono (by omega)
    · exact hk.mono (by omega)
end Go.Proofs.Ytddnagoljdhnlaa
