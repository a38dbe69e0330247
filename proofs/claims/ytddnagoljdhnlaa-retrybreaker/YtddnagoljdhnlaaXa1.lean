/- Retry: rows of numbers; policies and their waits, plain. -/
import Derived.Test.YtddnagoljdhnlaaProg
import Derived.Test.YtddnagoljdhnlaaGr1
import Derived.Deep.RegionHeld3
import Derived.Laws.StructEq
import Derived.Laws.EntriesVeiled
import Derived.Handy
namespace Go.Proofs.Ytddnagoljdhnlaa
open Go.RowKit

theorem hid {p : Prop} (h : p) : Hid p := h
theorem ret_bool {a b : Bool} (h : a = b) : Ending.returned (.bool a) = .returned (.bool b) := by rw [h]
theorem ret_int {k : IntKind} {a b : Int} (h : a = b) : Ending.returned (.int k a) = .returned (.int k b) := by rw [h]
theorem ret_two {a b c d : Int} (h : a = b) (k : c = d) : Ending.returned (.tuple #[.int .i64 a, .int .i64 c]) = .returned (.tuple #[.int .i64 b, .int .i64 d]) := by rw [h, k]
theorem ret_bi {a b : Bool} {c d : Int} (h : a = b) (k : c = d) : Ending.returned (.tuple #[.bool a, .int .i64 c]) = .returned (.tuple #[.bool b, .int .i64 d]) := by rw [h, k]
theorem lt_of_heap {w : World} {b : Nat} {o : Obj} (h : w.heap[b]? = some o) : b < w.heap.size := (Array.getElem?_eq_some_iff.1 h).1
theorem drew_below (w : World) (n : Nat) : Below w.heap.size w (w.drewN n) := ⟨rfl, rfl, rfl, Nat.le_refl _, fun _ _ => rfl⟩
theorem bl2 {w w1 : World} {ob : Obj} (h : Below (w.alloc ob).heap.size (w.alloc ob) w1) : Below w.heap.size w w1 := ((Below.refl _ _).alloc (Nat.le_refl _) ob).trans (h.mono (by simp))
theorem bl3 {w w1 w2 : World} (h : Below w.heap.size w w1) (k : Below w1.heap.size w1 w2) : Below w.heap.size w w2 := h.trans (k.mono h.size)
theorem info_parts' {P : Program} {t : TypeId} {z : Value} {n m : Nat} (h : (P.info? t).map (fun i => (i.zero, i.size, i.bytes)) = some (some z, n, m)) : ∃ i, P.info? t = some i ∧ i.zero = some z ∧ i.size = n ∧ i.bytes = m := by
  obtain ⟨i, h1, h2⟩ := Option.map_eq_some_iff.1 h
  simp only [Prod.mk.injEq] at h2
  exact ⟨i, h1, h2.1, h2.2.1, h2.2.2⟩
def KI : RK Int := ⟨3, 1, 8, .int .i64 0, fun x => [.int .i64 x]⟩
theorem KI_ok : KI.Ok Try.prog :=
  ⟨fun _ => rfl, fun x u hu => by simp [KI] at hu; subst hu; rfl, rfl, by decide, by decide, info_parts' (by kernel_rfl)⟩
abbrev IS (w : World) (v : Value) (l : List Int) : Prop := GS KI w v l
theorem GS.atI {w : World} {p : Option Addr} {n cap k : Nat} {l : List Int} (h : GS KI w (.slice p n cap) l) (hk : k < l.length) : ∃ X o, p = some ⟨X, o, none⟩ ∧ w.cell? ⟨X, o + k, none⟩ = some (.int .i64 l[k]) := by
  obtain ⟨X, o, h1, _, h2⟩ := GS.at h hk
  have := h2 0 _ rfl
  rw [show KI.W = 1 from rfl, Nat.mul_one] at this
  exact ⟨X, o, h1, this⟩
theorem own_int {w : World} {base g n cap : Nat} {S : List Int} (h : OwnG KI w base (.slice (some ⟨g, 0, none⟩) n cap) S) (hn : n = S.length) {j : Nat} (hj : j < S.length) : w.cell? ⟨g, j, none⟩ = some (.int .i64 (S.getD j 0)) := by
  subst hn
  obtain ⟨X, o, e, hc⟩ := (h.gs KI_ok.len).atI hj
  injection e with e
  injection e with e1 e2 _
  subst e1 e2
  rw [Nat.zero_add] at hc
  rw [hc]; simp [List.getD, List.getElem?_eq_getElem hj]
structure Pol where
  t : Int
  b : Int
  f : Int
  c : Int
def polV (p : Pol) : Value := .agg #[.int .i64 p.t, .int .i64 p.b, .int .i64 p.f, .int .i64 p.c]
def polB (p : Pol) : Bool := decide (p.t = 0 ∧ p.b = 0 ∧ p.f = 0 ∧ p.c = 0) || (decide (1 ≤ p.t ∧ p.t ≤ 64) && decide (0 ≤ p.b ∧ p.b ≤ 1073741824) && decide (1 ≤ p.f ∧ p.f ≤ 16) && decide (p.b ≤ p.c ∧ p.c ≤ 1099511627776))
theorem polB_iff (p : Pol) : polB p = true ↔ (p.t = 0 ∧ p.b = 0 ∧ p.f = 0 ∧ p.c = 0) ∨ (1 ≤ p.t ∧ p.t ≤ 64 ∧ 0 ≤ p.b ∧ p.b ≤ 1073741824 ∧ 1 ≤ p.f ∧ p.f ≤ 16 ∧ p.b ≤ p.c ∧ p.c ≤ 1099511627776) := by
  unfold polB
  simp [and_assoc]
theorem pol_bd {p : Pol} (h : polB p = true) : 0 ≤ p.t ∧ p.t ≤ 64 ∧ 0 ≤ p.b ∧ p.b ≤ 1073741824 ∧ 0 ≤ p.f ∧ p.f ≤ 16 ∧ p.b ≤ p.c ∧ p.c ≤ 1099511627776 := by
  rw [polB_iff] at h
  omega
theorem mul_bd {x y : Int} (hx : 0 ≤ x) (hx2 : x ≤ 1099511627776) (hy : 0 ≤ y) (hy2 : y ≤ 16) : 0 ≤ x * y ∧ x * y ≤ 17592186044416 := by
  refine ⟨Int.mul_nonneg hx hy, ?_⟩
  have := Int.mul_le_mul hx2 hy2 hy (by decide)
  omega
/-- The wait behind the failure number k + 1. -/
def wtP (p : Pol) : Nat → Int
  | 0 => p.b
  | k + 1 => min (wtP p k * p.f) p.c
theorem wt_bd {p : Pol} (h : polB p = true) : ∀ k, 0 ≤ wtP p k ∧ wtP p k ≤ p.c
  | 0 => by have := pol_bd h; rw [wtP]; omega
  | k + 1 => by
    have ih := wt_bd h k
    have b := pol_bd h
    have := mul_bd ih.1 (by omega) b.2.2.2.2.1 b.2.2.2.2.2.1
    rw [wtP]; omega
theorem wt_cap {p : Pol} (h : polB p = true) {k : Nat} (hk : wtP p k = p.c) : ∀ j, wtP p (k + j) = p.c
  | 0 => hk
  | j + 1 => by
    have ih := wt_cap h hk j
    have hb := (polB_iff p).1 h
    rw [← Nat.add_assoc, wtP, ih]
    rcases hb with ⟨_, _, _, h4⟩ | ⟨_, _, h3, _, h5, _, h7, _⟩
    · rw [h4]; simp
    · have : p.c ≤ p.c * p.f := by
        have h0 : 0 ≤ p.c := by omega
        have := Int.mul_le_mul_of_nonneg_left h5 h0
        omega
      omega
theorem wt_step {p : Pol} {k : Nat} {u : Int} (hu : min u p.c = wtP p k) (hlt : u ≤ p.c) : min (u * p.f) p.c = wtP p (k + 1) := by
  have : u = wtP p k := by omega
  rw [wtP, ← this]
/-- Waits do not fall. -/
theorem wt_up {p : Pol} (h : polB p = true) (h1 : 1 ≤ p.t) (k : Nat) : wtP p k ≤ wtP p (k + 1) := by
  have hb := wt_bd h k
  have hp := (polB_iff p).1 h
  rw [wtP]
  have : wtP p k ≤ wtP p k * p.f := by
    have h5 : 1 ≤ p.f := by omega
    have := Int.mul_le_mul_of_nonneg_left h5 hb.1
    omega
  omega
/-- How many waits there are; all of them. -/
def nwt (p : Pol) : Nat := (p.t - 1).toNat
def wts (p : Pol) : List Int := (List.range (nwt p)).map (wtP p)
theorem wts_len (p : Pol) : (wts p).length = nwt p := by simp [wts]
theorem wts_at (p : Pol) (k : Nat) (h : k < (wts p).length) : (wts p)[k] = wtP p k := by simp [wts]
def chkE (p : Pol) : Int := if polB p then 0 else 50
def timB (n : Int) : Bool := decide (0 ≤ n ∧ n ≤ 1099511627776)
def watE (p : Pol) (k : Int) : Int := if polB p = false then 50 else if k < 1 then 1 else if (nwt p : Int) < k then 4 else 0
def watN (p : Pol) (k : Int) : Int := if watE p k = 0 then wtP p (k - 1).toNat else 0
def dueE (p : Pol) (k a : Int) : Int := if watE p k ≠ 0 then watE p k else if timB a = false then 1 else if 1099511627776 < a + watN p k then 3 else 0
def dueN (p : Pol) (k a : Int) : Int := if dueE p k a = 0 then a + watN p k else 0
def mayE (p : Pol) (k a n : Int) : Int := if dueE p k a ≠ 0 then dueE p k a else if timB n = false then 1 else 0
def mayB (p : Pol) (k a n : Int) : Bool := decide (mayE p k a n = 0 ∧ dueN p k a ≤ n)
/-- The times behind the first one. -/
def tmL (a : Int) : List Int → List Int
  | [] => []
  | x :: r => if 1099511627776 < a + x then [] else (a + x) :: tmL (a + x) r
def timE (p : Pol) (a : Int) : Int := if polB p = false then 50 else if timB a = false then 1 else 0
def timL (p : Pol) (a : Int) : List Int := if timE p a = 0 then a :: tmL a (wts p) else []
def totN (p : Pol) : Int := if polB p then (wts p).sum else 0
theorem wat_bd {p : Pol} (k : Int) : 0 ≤ watN p k ∧ watN p k ≤ 1099511627776 := by
  unfold watN
  split
  · rename_i h
    have hb : polB p = true := by
      cases e : polB p
      · simp [watE, e] at h
      · rfl
    have := wt_bd hb (k - 1).toNat
    have := pol_bd hb
    omega
  · omega
theorem due_bd {p : Pol} (k a : Int) : 0 ≤ dueN p k a ∧ dueN p k a ≤ 1099511627776 := by
  have := wat_bd (p := p) k
  unfold dueN
  split
  · rename_i h
    unfold dueE at h
    split at h
    · rename_i h2; exact absurd h h2
    · split at h
      · cases h
      · rename_i ht
        have : timB a = true := by simpa using ht
        unfold timB at this
        simp at this
        split at h
        · cases h
        · omega
  · omega
theorem tmL_len (a : Int) (l : List Int) : (tmL a l).length ≤ l.length := by
  induction l generalizing a with
  | nil => simp [tmL]
  | cons x r ih => rw [tmL]; split
                   · simp
                   · have := ih (a + x); simp; omega
/-- Time by time. -/
theorem tmL_at (a : Int) (l : List Int) (k : Nat) (h : k < (a :: tmL a l).length) (hk : k < l.length) :
    (1099511627776 < (a :: tmL a l)[k] + l[k] → (tmL a l).length = k) ∧ (¬ 1099511627776 < (a :: tmL a l)[k] + l[k] → ∃ h2 : k + 1 < (a :: tmL a l).length, (a :: tmL a l)[k + 1] = (a :: tmL a l)[k] + l[k]) := by
  induction l generalizing a k with
  | nil => simp at hk
  | cons x r ih =>
    cases k with
    | zero =>
      constructor
      · intro q
        have q2 : 1099511627776 < a + x := q
        rw [tmL, if_pos q2]; rfl
      · intro q
        have q2 : ¬ 1099511627776 < a + x := q
        have e : tmL a (x :: r) = (a + x) :: tmL (a + x) r := by rw [tmL, if_neg q2]
        refine ⟨by rw [e]; simp, ?_⟩
        simp [e]
    | succ k =>
      by_cases q2 : 1099511627776 < a + x
      · rw [tmL, if_pos q2] at h; simp at h
      · have e : tmL a (x :: r) = (a + x) :: tmL (a + x) r := by rw [tmL, if_neg q2]
        have h' : k < ((a + x) :: tmL (a + x) r).length := by rw [e] at h; simpa using h
        have hk' : k < r.length := by simpa using hk
        obtain ⟨i1, i2⟩ := ih (a + x) k h' hk'
        have g1 : (a :: tmL a (x :: r))[k + 1] = ((a + x) :: tmL (a + x) r)[k] := by simp [e]
        have g2 : (x :: r)[k + 1] = r[k] := by simp
        rw [g1, g2]
        constructor
        · intro q; rw [e]; simp [i1 q]
        · intro q
          obtain ⟨h2, e2⟩ := i2 q
          refine ⟨by rw [e]; simpa using h2, ?_⟩
          simpa [e] using e2
theorem sum_take_succ (l : List Int) (k : Nat) (h : k < l.length) : (l.take (k + 1)).sum = (l.take k).sum + l[k] := by
  rw [List.take_add_one, List.getElem?_eq_getElem h, List.sum_append]; simp
theorem tmL_drop (a : Int) (l : List Int) (k : Nat) (h : k < l.length) : (1099511627776 < a + l[k] → tmL a (l.drop k) = []) ∧ (¬ 1099511627776 < a + l[k] → tmL a (l.drop k) = (a + l[k]) :: tmL (a + l[k]) (l.drop (k + 1))) := by
  rw [List.drop_eq_getElem_cons h]
  exact ⟨fun q => by rw [tmL, if_pos q], fun q => by rw [tmL, if_neg q]⟩
theorem wts_bd {p : Pol} (h : polB p = true) (k : Nat) (hk : k < (wts p).length) : 0 ≤ (wts p)[k] ∧ (wts p)[k] ≤ 1099511627776 := by
  rw [wts_at]
  have := wt_bd h k
  have := pol_bd h
  omega
theorem sum_bd {p : Pol} (h : polB p = true) (k : Nat) : 0 ≤ ((wts p).take k).sum ∧ ((wts p).take k).sum ≤ 1099511627776 * k := by
  induction k with
  | zero => simp
  | succ k ih =>
    by_cases hk : k < (wts p).length
    · rw [sum_take_succ _ _ hk]
      have := wts_bd h k hk
      omega
    · rw [List.take_of_length_le (by omega)]
      rw [List.take_of_length_le (by omega)] at ih
      omega
end Go.Proofs.Ytddnagoljdhnlaa
