/- The walks of lex.Number and of its reference: both give what 'numN' and 'numB' say, for every text. -/
import Derived.WalkKit
import Derived.Test.YtffabehipcomfaaDoorProg
import Derived.WalkSpells
import Derived.WalkLawsBesides
namespace Go.Proofs.YtffabehipcomfaaDoor

/-- The number that digits make behind a number; none where a byte is no digit, or the number passes 2^53. -/
def numGo : List UInt8 → Int → Option Int
  | [], n => some n
  | c :: r, n => if 48 ≤ (c.toNat : Int) ∧ (c.toNat : Int) ≤ 57 then (if 10 * n + ((c.toNat : Int) - 48) > 9007199254740992 then none else numGo r (10 * n + ((c.toNat : Int) - 48))) else none
/-- Is it a text that can be no number at sight? -/
def numBad (l : List UInt8) : Bool := match l with
  | [] => true
  | [_] => false
  | c :: _ => c == 48
def numN (l : List UInt8) : Int := if numBad l then 0 else (numGo l 0).getD 0
def numB (l : List UInt8) : Bool := if numBad l then false else (numGo l 0).isSome

theorem drop_cons (s : ByteArray) (k : Nat) (h : k < s.size) : s.data.toList.drop k = s[k] :: s.data.toList.drop (k + 1) := by
  rw [List.drop_eq_getElem_cons (by simpa using h)]; rfl
theorem drop_end (s : ByteArray) (k : Nat) (h : s.size ≤ k) : s.data.toList.drop k = [] := by
  rw [List.drop_eq_nil_iff]; simpa using h

theorem numGo_ge : ∀ (l : List UInt8) (n m : Int), 0 ≤ n → numGo l n = some m → n * 10 ^ l.length ≤ m
  | [], n, m, _, h => by simp [numGo] at h; simp [h]
  | c :: r, n, m, h0, h => by
    simp only [numGo] at h
    split at h
    · split at h
      · cases h
      · rename_i hc hb
        have := numGo_ge r _ m (by omega) h
        have e : n * 10 ^ (c :: r).length = (10 * n) * 10 ^ r.length := by rw [List.length_cons, Int.pow_succ]; rw [← Int.mul_assoc, Int.mul_comm 10 n, Int.mul_assoc, Int.mul_assoc, Int.mul_comm 10]
        rw [e]
        refine Int.le_trans (Int.mul_le_mul_of_nonneg_right (by omega) ?_) this
        exact Int.le_of_lt (Int.pow_pos (by omega))
    · cases h
theorem numGo_le : ∀ (l : List UInt8) (n m : Int), n ≤ 9007199254740992 → numGo l n = some m → m ≤ 9007199254740992
  | [], n, m, h0, h => by simp [numGo] at h; omega
  | c :: r, n, m, h0, h => by
    simp only [numGo] at h
    split at h
    · split at h
      · cases h
      · exact numGo_le r _ m (by omega) h
    · cases h
/-- Twenty digits, the first no zero, are too many. -/
theorem numGo_long (l : List UInt8) (hb : numBad l = false) (h : 19 < l.length) : numGo l 0 = none := by
  match l, hb, h with
  | c :: d :: r, hb, h =>
    simp [numBad] at hb
    cases e : numGo (c :: d :: r) 0 with
    | none => rfl
    | some m =>
      have hle := numGo_le _ _ _ (by omega) e
      simp only [numGo] at e
      split at e
      · split at e
        · cases e
        · rename_i hc hbb
          have hne : c.toNat ≠ 48 := fun h' => hb (by apply UInt8.toNat_inj.1; simpa using h')
          have := numGo_ge (d :: r) (10 * 0 + ((c.toNat : Int) - 48)) m (by omega) (by simpa only [numGo] using e)
          have h1 : (1 : Int) * 10 ^ 19 ≤ (10 * 0 + ((c.toNat : Int) - 48)) * 10 ^ (d :: r).length := by
            refine Int.le_trans ?_ (Int.mul_le_mul_of_nonneg_right (show (1 : Int) ≤ 10 * 0 + ((c.toNat : Int) - 48) by omega) (Int.le_of_lt (Int.pow_pos (by omega))))
            rw [Int.one_mul, Int.one_mul]
            exact_mod_cast Nat.pow_le_pow_right (by omega : 0 < 10) (show 19 ≤ (d :: r).length by simp at h ⊢; omega)
          omega
      · cases e
end Go.Proofs.YtffabehipcomfaaDoor
namespace Go.Proofs.YtffabehipcomfaaDoor

def isSm (c : UInt8) : Bool := decide (97 ≤ (c.toNat : Int) ∧ (c.toNat : Int) ≤ 122)
def isDg (c : UInt8) : Bool := decide (48 ≤ (c.toNat : Int) ∧ (c.toNat : Int) ≤ 57)
def isPt (c : UInt8) : Bool := decide ((97 ≤ (c.toNat : Int) ∧ (c.toNat : Int) ≤ 122) ∨ (48 ≤ (c.toNat : Int) ∧ (c.toNat : Int) ≤ 57) ∨ (c.toNat : Int) = 95)
/-- How many bytes from here on may stand in a word, behind its first one. -/
def ptLen : List UInt8 → Nat
  | [] => 0
  | c :: r => if isPt c then ptLen r + 1 else 0
/-- How many bytes of a word begin here. -/
def wLen : List UInt8 → Nat
  | [] => 0
  | c :: r => if isSm c then ptLen r + 1 else 0
def wordB (l : List UInt8) : Bool := decide (l ≠ [] ∧ wLen l = l.length)

theorem isSm_pt {c : UInt8} (h : isSm c = true) : isPt c = true := by
  simp only [isSm, isPt, decide_eq_true_eq] at h ⊢; exact Or.inl h
theorem ptLen_le : ∀ l : List UInt8, ptLen l ≤ l.length
  | [] => Nat.le_refl _
  | c :: r => by simp only [ptLen]; split <;> simp <;> have := ptLen_le r <;> omega
theorem wLen_le (l : List UInt8) : wLen l ≤ l.length := by
  cases l with
  | nil => exact Nat.le_refl _
  | cons c r => simp only [wLen]; split <;> simp <;> have := ptLen_le r <;> omega
theorem ptLen_cons_pos {c : UInt8} {r : List UInt8} (h : isPt c = true) : ptLen (c :: r) = ptLen r + 1 := by simp [ptLen, h]
theorem ptLen_cons_neg {c : UInt8} {r : List UInt8} (h : isPt c = false) : ptLen (c :: r) = 0 := by simp [ptLen, h]
theorem wLen_cons_pos {c : UInt8} {r : List UInt8} (h : isSm c = true) : wLen (c :: r) = ptLen r + 1 := by simp [wLen, h]
theorem wLen_cons_neg {c : UInt8} {r : List UInt8} (h : isSm c = false) : wLen (c :: r) = 0 := by simp [wLen, h]
theorem isSm_t {c : UInt8} (h1 : 97 ≤ (c.toNat : Int)) (h2 : (c.toNat : Int) ≤ 122) : isSm c = true := by simp only [isSm, decide_eq_true_eq]; exact ⟨h1, h2⟩
theorem isSm_f {c : UInt8} (h : ¬ (97 ≤ (c.toNat : Int) ∧ (c.toNat : Int) ≤ 122)) : isSm c = false := by simp only [isSm, decide_eq_false_iff_not]; exact h
theorem isPt_t {c : UInt8} (h : (97 ≤ (c.toNat : Int) ∧ (c.toNat : Int) ≤ 122) ∨ (48 ≤ (c.toNat : Int) ∧ (c.toNat : Int) ≤ 57) ∨ (c.toNat : Int) = 95) : isPt c = true := by simp only [isPt, decide_eq_true_eq]; exact h
theorem isPt_f {c : UInt8} (h : ¬ ((97 ≤ (c.toNat : Int) ∧ (c.toNat : Int) ≤ 122) ∨ (48 ≤ (c.toNat : Int) ∧ (c.toNat : Int) ≤ 57) ∨ (c.toNat : Int) = 95)) : isPt c = false := by simp only [isPt, decide_eq_false_iff_not]; exact h
end Go.Proofs.YtffabehipcomfaaDoor
namespace Go.Proofs.YtffabehipcomfaaDoor
open Go.RowKit

theorem ret_tuple2 {k : IntKind} {a b : Int} {p q : Bool} (h : a = b) (h2 : p = q) : Ending.returned (.tuple #[.int k a, .bool p]) = .returned (.tuple #[.int k b, .bool q]) := by rw [h, h2]
theorem bytes_nil {s : ByteArray} (h : s.size = 0) : s = ByteArray.empty := by
  have : s.data = #[] := Array.eq_empty_of_size_eq_zero h
  cases s; simp at this; subst this; rfl
theorem bytes_ne {s : ByteArray} (h : 0 < s.size) : ¬ s.toList = [] ∧ s.toList.isEmpty = false := by
  have e : ¬ s.toList = [] := by
    rw [ByteArray.toList_eq]; intro e
    have : s.data.toList.length = 0 := by rw [e]; rfl
    have h2 : s.data.toList.length = s.size := by simp
    omega
  exact ⟨e, by cases h : s.toList with | nil => exact absurd h e | cons => rfl⟩
theorem bytes_cons {s : ByteArray} (h : 0 < s.size) : s.data.toList = s[0] :: s.data.toList.drop 1 := by
  have := drop_cons s 0 h; simpa using this
theorem numBad_zero {s : ByteArray} (h : 0 < s.size) (hz : (s[0].toNat : Int) = 48) (h1 : 1 < s.size) : numBad s.data.toList = true := by
  have hl : (s.data.toList.drop 1).length = s.size - 1 := by simp
  rw [bytes_cons h]
  match e : s.data.toList.drop 1, hl with
  | [], hl => simp at hl; omega
  | d :: r, _ => simp [numBad]; apply UInt8.toNat_inj.1; simp; omega
theorem numBad_not {s : ByteArray} (h : 0 < s.size) (hz : ¬ ((s[0].toNat : Int) = 48 ∧ 1 < s.size)) : numBad s.data.toList = false := by
  have hl : (s.data.toList.drop 1).length = s.size - 1 := by simp
  rw [bytes_cons h]
  match e : s.data.toList.drop 1, hl with
  | [], hl => simp [numBad]
  | d :: r, hl => 
    simp [numBad]; intro hc; apply hz; rw [hc]; refine ⟨rfl, ?_⟩; simp at hl; omega

end Go.Proofs.YtffabehipcomfaaDoor
