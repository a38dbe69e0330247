/- Cells, plain: what a cell is, what its calls answer and leave. -/
import Derived.Test.YtbgeihgenckihaaDoorCp1
namespace Go.Proofs.YtbgeihgenckihaaDoor
open Go.RowKit

theorem hid {p : Prop} (h : p) : Hid p := h
/-- The wait behind k failures more than one. -/
def wtP (p : Pol) : Nat → Int
  | 0 => p.b
  | k + 1 => min (wtP p k * p.f) p.c
/-- An outcome. -/
structure Oc where
  kind : Int
  val : List Atm
  fl : List Cr
def oc0 : Oc := ⟨0, [], []⟩
/-- A cell. -/
structure Ce where
  again : Bool
  p : Pol
  st : Int
  tk : Int
  gen : Int
  fails : Int
  last : Int
  out : Oc
def dueB (c : Ce) : Bool := decide (c.st = 4) && decide (c.out.kind = 2) && decide (c.fails < c.p.t)
def nextC (c : Ce) : Int := min (c.last + wtP c.p (c.fails - 1).toNat) 1099511627776
def askC (c : Ce) (at_ : Int) : Int :=
  if ¬ (0 ≤ at_ ∧ at_ ≤ 1099511627776) then 0 else if c.st = 1 then 1 else if c.st = 2 then 2 else if c.st = 3 then 3
  else if c.st = 4 then (if dueB c = true ∧ nextC c ≤ at_ then 1 else 3) else 4
/-- The last crack is a panic's. -/
def lpB (l : List Cr) : Bool := match l.getLast? with | some c => decide (c.kind = 2) | none => false
def outB (o : Oc) : Bool :=
  if o.kind = 1 then decide (chkV o.val = 0) && decide (o.fl.length = 0)
  else if o.kind = 2 then decide (chk o.fl = 0) && decide (o.val.length = 0)
  else if o.kind = 3 then decide (chk o.fl = 0) && decide (o.val.length = 0) && lpB o.fl else false
def nowB (c : Ce) (at_ : Int) : Bool := decide (c.last ≤ at_ ∧ at_ ≤ 1099511627776)
def tskB (tk : Int) : Bool := decide (0 ≤ tk ∧ tk ≤ 127)
def begE (c : Ce) (tk at_ : Int) : Int := if tskB tk = false ∨ nowB c at_ = false then 1 else if askC c at_ ≠ 1 then 7 else if c.gen = 1048576 then 111 else 0
def begC (c : Ce) (tk at_ : Int) : Ce := { c with st := 2, tk := tk, out := oc0, last := at_, gen := c.gen + 1 }
def endE (c : Ce) (tk : Int) (o : Oc) (at_ : Int) : Int := if tskB tk = false then 1 else if ¬ (c.st = 2 ∧ c.tk = tk) then 7 else if outB o = false then 110 else if nowB c at_ = false then 1 else 0
def endC (c : Ce) (o : Oc) (at_ : Int) : Ce := { c with st := if o.kind = 1 then 3 else 4, tk := 0, fails := if o.kind = 1 then c.fails else c.fails + 1, out := o, last := at_ }
def resE (c : Ce) (at_ : Int) : Int := if nowB c at_ = false then 1 else if c.st = 2 ∨ c.st = 5 ∨ c.again = false then 7 else 0
def resC (c : Ce) (at_ : Int) : Ce := { c with st := 1, tk := 0, out := oc0, fails := 0, last := at_ }
def cloE (c : Ce) : Int := if c.st = 2 ∨ c.st = 5 then 7 else 0
def cloC (c : Ce) : Ce := { c with st := 5, tk := 0 }
def newC (again : Bool) (p : Pol) : Ce := ⟨again, p, 1, 0, 0, 0, 0, oc0⟩
/-- What each cell keeps to. -/
structure CI (c : Ce) : Prop where
  pol : polB c.p = true
  st : 1 ≤ c.st ∧ c.st ≤ 5
  tk : 0 ≤ c.tk ∧ c.tk ≤ 127
  tk0 : c.st ≠ 2 → c.tk = 0
  gen : 0 ≤ c.gen ∧ c.gen ≤ 1048576
  fl0 : 0 ≤ c.fails ∧ c.fails ≤ max 1 c.p.t
  run : c.st ≤ 3 → c.fails < max 1 c.p.t
  f1 : c.st = 4 → 1 ≤ c.fails
  last : 0 ≤ c.last ∧ c.last ≤ 1099511627776
  out : c.out = oc0 ∨ outB c.out = true
  idl : c.st = 1 ∨ c.st = 2 → c.out = oc0
  rdy : c.st = 3 → c.out.kind = 1
  fld : c.st = 4 → c.out.kind = 2 ∨ c.out.kind = 3
theorem polB_iff (p : Pol) : polB p = true ↔ (p.t = 0 ∧ p.b = 0 ∧ p.f = 0 ∧ p.c = 0) ∨ (1 ≤ p.t ∧ p.t ≤ 64 ∧ 0 ≤ p.b ∧ p.b ≤ 1073741824 ∧ 1 ≤ p.f ∧ p.f ≤ 16 ∧ p.b ≤ p.c ∧ p.c ≤ 1099511627776) := by
  unfold polB
  simp [and_assoc]
theorem pol_bd {p : Pol} (h : polB p = true) : 0 ≤ p.t ∧ p.t ≤ 64 ∧ 0 ≤ p.b ∧ p.b ≤ 1073741824 ∧ 0 ≤ p.f ∧ p.f ≤ 16 ∧ p.b ≤ p.c ∧ p.c ≤ 1099511627776 := by
  rw [polB_iff] at h
  omega
theorem mul_bd {x y : Int} (hx : 0 ≤ x) (hx2 : x ≤ 1099511627776) (hy : 0 ≤ y) (hy2 : y ≤ 16) : 0 ≤ x * y ∧ x * y ≤ 17592186044416 := by
  refine ⟨Int.mul_nonneg hx hy, ?_⟩
  have := Int.mul_le_mul hx2 hy2 hy (by decide)
  omega
theorem wt_bd {p : Pol} (h : polB p = true) : ∀ k, 0 ≤ wtP p k ∧ wtP p k ≤ p.c
  | 0 => by have := pol_bd h; rw [wtP]; omega
  | k + 1 => by
    have ih := wt_bd h k
    have b := pol_bd h
    have := mul_bd ih.1 (by omega) b.2.2.2.2.1 b.2.2.2.2.2.1
    rw [wtP]; omega
theorem next_bd {c : Ce} (h : CI c) : c.last ≤ nextC c ∧ nextC c ≤ 1099511627776 ∧ nextC c ≤ c.last + c.p.c := by
  have := wt_bd h.pol (c.fails - 1).toNat
  have := h.last
  unfold nextC
  omega
theorem ask_bd (c : Ce) (a : Int) : 0 ≤ askC c a ∧ askC c a ≤ 4 := by unfold askC; repeat' split <;> try decide
theorem new_ci {again : Bool} {p : Pol} (h : polB p = true) : CI (newC again p) := by
  have := pol_bd h
  refine ⟨h, ⟨by show (1 : Int) ≤ 1; decide, by show (1 : Int) ≤ 5; decide⟩, ⟨by show (0 : Int) ≤ 0; decide, by show (0 : Int) ≤ 127; decide⟩, fun _ => rfl, ⟨by show (0 : Int) ≤ 0; decide, by show (0 : Int) ≤ 1048576; decide⟩, ?_, fun _ => ?_, fun e => absurd e (by intro q; cases q), ⟨by show (0 : Int) ≤ 0; decide, by show (0 : Int) ≤ 1099511627776; decide⟩, Or.inl rfl, fun _ => rfl, fun e => absurd e (by intro q; cases q), fun e => absurd e (by intro q; cases q)⟩
  · show (0 : Int) ≤ 0 ∧ 0 ≤ max 1 p.t; omega
  · show (0 : Int) < max 1 p.t; omega
theorem begE_ok {c : Ce} {tk a : Int} (h : begE c tk a = 0) : (0 ≤ tk ∧ tk ≤ 127) ∧ (c.last ≤ a ∧ a ≤ 1099511627776) ∧ askC c a = 1 ∧ c.gen ≠ 1048576 := by
  unfold begE at h
  split at h
  · cases h
  · rename_i h1
    split at h
    · cases h
    · split at h
      · cases h
      · unfold tskB nowB at h1; simp at h1; refine ⟨h1.1, h1.2, by omega, by assumption⟩
theorem ask_one {c : Ce} {a : Int} (h : askC c a = 1) : c.st = 1 ∨ (c.st = 4 ∧ dueB c = true ∧ nextC c ≤ a) := by
  unfold askC at h
  split at h
  · cases h
  · split at h
    · exact Or.inl (by assumption)
    · split at h
      · cases h
      · split at h
        · cases h
        · split at h
          · split at h
            · rename_i h4 h5; exact Or.inr ⟨h4, h5.1, h5.2⟩
            · cases h
          · cases h
theorem due_iff (c : Ce) : dueB c = true ↔ c.st = 4 ∧ c.out.kind = 2 ∧ c.fails < c.p.t := by unfold dueB; simp [and_assoc]
theorem beg_ci {c : Ce} {tk a : Int} (h : CI c) (he : begE c tk a = 0) : CI (begC c tk a) := by
  obtain ⟨h1, h2, h3, h4⟩ := begE_ok he
  have hg := h.gen
  have hl := h.last
  have hf := h.fl0
  refine ⟨h.pol, by show (1 : Int) ≤ 2 ∧ (2 : Int) ≤ 5; decide, h1, fun e => absurd rfl e, ?_, h.fl0, fun _ => ?_, fun e => absurd e (by intro q; cases q), ?_, Or.inl rfl, fun _ => rfl, fun e => absurd e (by intro q; cases q), fun e => absurd e (by intro q; cases q)⟩
  · show 0 ≤ c.gen + 1 ∧ c.gen + 1 ≤ 1048576; omega
  · show c.fails < max 1 c.p.t
    rcases ask_one h3 with e | ⟨e, d, _⟩
    · exact h.run (by omega)
    · have := ((due_iff c).1 d).2.2; omega
  · show 0 ≤ a ∧ a ≤ 1099511627776; omega
theorem endE_ok {c : Ce} {tk : Int} {o : Oc} {a : Int} (h : endE c tk o a = 0) : c.st = 2 ∧ c.tk = tk ∧ outB o = true ∧ c.last ≤ a ∧ a ≤ 1099511627776 := by
  unfold endE at h
  split at h
  · cases h
  · split at h
    · cases h
    · rename_i h2
      split at h
      · cases h
      · rename_i h3
        split at h
        · cases h
        · rename_i h4
          unfold nowB at h4
          simp at h3 h4
          have h2 := Classical.not_not.1 h2
          exact ⟨h2.1, h2.2, h3, h4.1, h4.2⟩
theorem outB_kind {o : Oc} (h : outB o = true) : o.kind = 1 ∨ o.kind = 2 ∨ o.kind = 3 := by
  unfold outB at h
  split at h
  · omega
  · split at h
    · omega
    · split at h
      · omega
      · cases h
theorem end_ci {c : Ce} {tk : Int} {o : Oc} {a : Int} (h : CI c) (he : endE c tk o a = 0) : CI (endC c o a) := by
  obtain ⟨h1, h2, h3, h4, h5⟩ := endE_ok he
  have hk := outB_kind h3
  have hl := h.last
  have hf := h.fl0
  have hr := h.run (by omega)
  refine ⟨h.pol, ?_, by show (0 : Int) ≤ 0 ∧ (0 : Int) ≤ 127; decide, fun _ => rfl, h.gen, ?_, ?_, ?_, ?_, Or.inr h3, ?_, ?_, ?_⟩
  · show 1 ≤ (if o.kind = 1 then (3 : Int) else 4) ∧ (if o.kind = 1 then (3 : Int) else 4) ≤ 5; split <;> decide
  · show 0 ≤ (if o.kind = 1 then c.fails else c.fails + 1) ∧ (if o.kind = 1 then c.fails else c.fails + 1) ≤ max 1 c.p.t; split <;> omega
  · show (if o.kind = 1 then (3 : Int) else 4) ≤ 3 → (if o.kind = 1 then c.fails else c.fails + 1) < max 1 c.p.t; split <;> omega
  · show (if o.kind = 1 then (3 : Int) else 4) = 4 → 1 ≤ (if o.kind = 1 then c.fails else c.fails + 1); split <;> omega
  · show 0 ≤ a ∧ a ≤ 1099511627776; omega
  · show (if o.kind = 1 then (3 : Int) else 4) = 1 ∨ (if o.kind = 1 then (3 : Int) else 4) = 2 → o = oc0; split <;> (intro q; exfalso; omega)
  · show (if o.kind = 1 then (3 : Int) else 4) = 3 → o.kind = 1; split <;> omega
  · show (if o.kind = 1 then (3 : Int) else 4) = 4 → o.kind = 2 ∨ o.kind = 3; split <;> omega
theorem resE_ok {c : Ce} {a : Int} (h : resE c a = 0) : (c.last ≤ a ∧ a ≤ 1099511627776) ∧ c.st ≠ 2 ∧ c.st ≠ 5 ∧ c.again = true := by
  unfold resE at h
  split at h
  · cases h
  · rename_i h1
    split at h
    · cases h
    · rename_i h2
      unfold nowB at h1
      simp at h1 h2
      exact ⟨h1, h2.1, h2.2.1, h2.2.2⟩
theorem res_ci {c : Ce} {a : Int} (h : CI c) (he : resE c a = 0) : CI (resC c a) := by
  obtain ⟨h1, _⟩ := resE_ok he
  have hl := h.last
  have hp := pol_bd h.pol
  refine ⟨h.pol, by show (1 : Int) ≤ 1 ∧ (1 : Int) ≤ 5; decide, by show (0 : Int) ≤ 0 ∧ (0 : Int) ≤ 127; decide, fun _ => rfl, h.gen, ?_, fun _ => ?_, fun e => absurd e (by intro q; cases q), ?_, Or.inl rfl, fun _ => rfl, fun e => absurd e (by intro q; cases q), fun e => absurd e (by intro q; cases q)⟩
  · show (0 : Int) ≤ 0 ∧ 0 ≤ max 1 c.p.t; omega
  · show (0 : Int) < max 1 c.p.t; omega
  · show 0 ≤ a ∧ a ≤ 1099511627776; omega
theorem clo_ci {c : Ce} (h : CI c) : CI (cloC c) := by
  refine ⟨h.pol, by show (1 : Int) ≤ 5 ∧ (5 : Int) ≤ 5; decide, by show (0 : Int) ≤ 0 ∧ (0 : Int) ≤ 127; decide, fun _ => rfl, h.gen, h.fl0, fun e => ?_, fun e => absurd e (by intro q; cases q), h.last, h.out, fun e => ?_, fun e => absurd e (by intro q; cases q), fun e => absurd e (by intro q; cases q)⟩
  · exact absurd e (by show ¬ (5 : Int) ≤ 3; decide)
  · exact absurd e (by show ¬ ((5 : Int) = 1 ∨ (5 : Int) = 2); decide)
/-- What a cell tells of when it is due. -/
def tnx (c : Ce) : Int := if dueB c = true then nextC c else 0
end Go.Proofs.YtbgeihgenckihaaDoor
