/- Plain mathematics of words: how many bytes of a word begin somewhere. No condition. -/
import Derived.Test.YtofdfofpdfaimaaPlain1
namespace Go.Proofs.Ytofdfofpdfaimaa

def isSm (c : UInt8) : Bool := decide (97 ≤ (c.toNat : Int) ∧ (c.toNat : Int) ≤ 122)
def isDg (c : UInt8) : Bool := decide (48 ≤ (c.toNat : Int) ∧ (c.toNat : Int) ≤ 57)
def isPt (c : UInt8) : Bool := decide ((97 ≤ (c.toNat : Int) ∧ (c.toNat : Int) ≤ 122) ∨ (48 ≤ (c.toNat : Int) ∧ (c.toNat : Int) ≤ 57) ∨ (c.toNat : Int) = 95)
/-- How many bytes from here on may stand in a word, behind its first one. -/
def ptLen : List UInt8 → Nat
  | [] => 0
  | c :: r => if isPt c then ptLen r + 1 else 0
/-- How many bytes of a word begin here. -/
def wLen : List UInt8 → Nat
  | [] => 0
  | c :: r => if isSm c then ptLen r + 1 else 0
def wordB (l : List UInt8) : Bool := decide (l ≠ [] ∧ wLen l = l.length)

theorem isSm_pt {c : UInt8} (h : isSm c = true) : isPt c = true := by
  simp only [isSm, isPt, decide_eq_true_eq] at h ⊢; exact Or.inl h
theorem ptLen_le : ∀ l : List UInt8, ptLen l ≤ l.length
  | [] => Nat.le_refl _
  | c :: r => by simp only [ptLen]; split <;> simp <;> have := ptLen_le r <;> omega
theorem wLen_le (l : List UInt8) : wLen l ≤ l.length := by
  cases l with
  | nil => exact Nat.le_refl _
  | cons c r => simp only [wLen]; split <;> simp <;> have := ptLen_le r <;> omega
theorem ptLen_cons_pos {c : UInt8} {r : List UInt8} (h : isPt c = true) : ptLen (c :: r) = ptLen r + 1 := by simp [ptLen, h]
theorem ptLen_cons_neg {c : UInt8} {r : List UInt8} (h : isPt c = false) : ptLen (c :: r) = 0 := by simp [ptLen, h]
theorem wLen_cons_pos {c : UInt8} {r : List UInt8} (h : isSm c = true) : wLen (c :: r) = ptLen r + 1 := by simp [wLen, h]
theorem wLen_cons_neg {c : UInt8} {r : List UInt8} (h : isSm c = false) : wLen (c :: r) = 0 := by simp [wLen, h]
theorem isSm_t {c : UInt8} (h1 : 97 ≤ (c.toNat : Int)) (h2 : (c.toNat : Int) ≤ 122) : isSm c = true := by simp only [isSm, decide_eq_true_eq]; exact ⟨h1, h2⟩
theorem isSm_f {c : UInt8} (h : ¬ (97 ≤ (c.toNat : Int) ∧ (c.toNat : Int) ≤ 122)) : isSm c = false := by simp only [isSm, decide_eq_false_iff_not]; exact h
theorem isPt_t {c : UInt8} (h : (97 ≤ (c.toNat : Int) ∧ (c.toNat : Int) ≤ 122) ∨ (48 ≤ (c.toNat : Int) ∧ (c.toNat : Int) ≤ 57) ∨ (c.toNat : Int) = 95) : isPt c = true := by simp only [isPt, decide_eq_true_eq]; exact h
theorem isPt_f {c : UInt8} (h : ¬ ((97 ≤ (c.toNat : Int) ∧ (c.toNat : Int) ≤ 122) ∨ (48 ≤ (c.toNat : Int) ∧ (c.toNat : Int) ≤ 57) ∨ (c.toNat : Int) = 95)) : isPt c = false := by simp only [isPt, decide_eq_false_iff_not]; exact h
end Go.Proofs.Ytofdfofpdfaimaa
