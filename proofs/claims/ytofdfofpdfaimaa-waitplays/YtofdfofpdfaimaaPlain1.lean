/- Plain mathematics of numbers as text: what a run of digits stands for. No condition. -/
import Derived.WalkKit
namespace Go.Proofs.Ytofdfofpdfaimaa

/-- The number that digits make behind a number; none where a byte is no digit, or the number passes 2^53. -/
def numGo : List UInt8 → Int → Option Int
  | [], n => some n
  | c :: r, n => if 48 ≤ (c.toNat : Int) ∧ (c.toNat : Int) ≤ 57 then (if 10 * n + ((c.toNat : Int) - 48) > 9007199254740992 then none else numGo r (10 * n + ((c.toNat : Int) - 48))) else none
/-- Is it a text that can be no number at sight? -/
def numBad (l : List UInt8) : Bool := match l with
  | [] => true
  | [_] => false
  | c :: _ => c == 48
def numN (l : List UInt8) : Int := if numBad l then 0 else (numGo l 0).getD 0
def numB (l : List UInt8) : Bool := if numBad l then false else (numGo l 0).isSome

theorem drop_cons (s : ByteArray) (k : Nat) (h : k < s.size) : s.data.toList.drop k = s[k] :: s.data.toList.drop (k + 1) := by
  rw [List.drop_eq_getElem_cons (by simpa using h)]; rfl
theorem drop_end (s : ByteArray) (k : Nat) (h : s.size ≤ k) : s.data.toList.drop k = [] := by
  rw [List.drop_eq_nil_iff]; simpa using h

theorem numGo_ge : ∀ (l : List UInt8) (n m : Int), 0 ≤ n → numGo l n = some m → n * 10 ^ l.length ≤ m
  | [], n, m, _, h => by simp [numGo] at h; simp [h]
  | c :: r, n, m, h0, h => by
    simp only [numGo] at h
    split at h
    · split at h
      · cases h
      · rename_i hc hb
        have := numGo_ge r _ m (by omega) h
        have e : n * 10 ^ (c :: r).length = (10 * n) * 10 ^ r.length := by rw [List.length_cons, Int.pow_succ]; rw [← Int.mul_assoc, Int.mul_comm 10 n, Int.mul_assoc, Int.mul_assoc, Int.mul_comm 10]
        rw [e]
        refine Int.le_trans (Int.mul_le_mul_of_nonneg_right (by omega) ?_) this
        exact Int.le_of_lt (Int.pow_pos (by omega))
    · cases h
theorem numGo_le : ∀ (l : List UInt8) (n m : Int), n ≤ 9007199254740992 → numGo l n = some m → m ≤ 9007199254740992
  | [], n, m, h0, h => by simp [numGo] at h; omega
  | c :: r, n, m, h0, h => by
    simp only [numGo] at h
    split at h
    · split at h
      · cases h
      · exact numGo_le r _ m (by omega) h
    · cases h
/-- Twenty digits, the first no zero, are too many. -/
theorem numGo_long (l : List UInt8) (hb : numBad l = false) (h : 19 < l.length) : numGo l 0 = none := by
  match l, hb, h with
  | c :: d :: r, hb, h =>
    simp [numBad] at hb
    cases e : numGo (c :: d :: r) 0 with
    | none => rfl
    | some m =>
      have hle := numGo_le _ _ _ (by omega) e
      simp only [numGo] at e
      split at e
      · split at e
        · cases e
        · rename_i hc hbb
          have hne : c.toNat ≠ 48 := fun h' => hb (by apply UInt8.toNat_inj.1; simpa using h')
          have := numGo_ge (d :: r) (10 * 0 + ((c.toNat : Int) - 48)) m (by omega) (by simpa only [numGo] using e)
          have h1 : (1 : Int) * 10 ^ 19 ≤ (10 * 0 + ((c.toNat : Int) - 48)) * 10 ^ (d :: r).length := by
            refine Int.le_trans ?_ (Int.mul_le_mul_of_nonneg_right (show (1 : Int) ≤ 10 * 0 + ((c.toNat : Int) - 48) by omega) (Int.le_of_lt (Int.pow_pos (by omega))))
            rw [Int.one_mul, Int.one_mul]
            exact_mod_cast Nat.pow_le_pow_right (by omega : 0 < 10) (show 19 ≤ (d :: r).length by simp at h ⊢; omega)
          omega
      · cases e
end Go.Proofs.Ytofdfofpdfaimaa
