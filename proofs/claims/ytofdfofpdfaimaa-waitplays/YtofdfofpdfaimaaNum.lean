/- The walks of lex.Number and of its reference: both give what 'numN' and 'numB' say, for every text. -/
import Derived.Test.YtofdfofpdfaimaaProg
import Derived.Test.YtofdfofpdfaimaaPlain1
import Derived.WalkKit
import Derived.WalkSpells
import Derived.WalkLawsBesides
namespace Go.Proofs.Ytofdfofpdfaimaa
open Go.RowKit

theorem ret_tuple2 {k : IntKind} {a b : Int} {p q : Bool} (h : a = b) (h2 : p = q) : Ending.returned (.tuple #[.int k a, .bool p]) = .returned (.tuple #[.int k b, .bool q]) := by rw [h, h2]
theorem bytes_nil {s : ByteArray} (h : s.size = 0) : s = ByteArray.empty := by
  have : s.data = #[] := Array.eq_empty_of_size_eq_zero h
  cases s; simp at this; subst this; rfl
theorem bytes_ne {s : ByteArray} (h : 0 < s.size) : ¬ s.toList = [] ∧ s.toList.isEmpty = false := by
  have e : ¬ s.toList = [] := by
    rw [ByteArray.toList_eq]; intro e
    have : s.data.toList.length = 0 := by rw [e]; rfl
    have h2 : s.data.toList.length = s.size := by simp
    omega
  exact ⟨e, by cases h : s.toList with | nil => exact absurd h e | cons => rfl⟩
theorem bytes_cons {s : ByteArray} (h : 0 < s.size) : s.data.toList = s[0] :: s.data.toList.drop 1 := by
  have := drop_cons s 0 h; simpa using this
theorem numBad_zero {s : ByteArray} (h : 0 < s.size) (hz : (s[0].toNat : Int) = 48) (h1 : 1 < s.size) : numBad s.data.toList = true := by
  have hl : (s.data.toList.drop 1).length = s.size - 1 := by simp
  rw [bytes_cons h]
  match e : s.data.toList.drop 1, hl with
  | [], hl => simp at hl; omega
  | d :: r, _ => simp [numBad]; apply UInt8.toNat_inj.1; simp; omega
theorem numBad_not {s : ByteArray} (h : 0 < s.size) (hz : ¬ ((s[0].toNat : Int) = 48 ∧ 1 < s.size)) : numBad s.data.toList = false := by
  have hl : (s.data.toList.drop 1).length = s.size - 1 := by simp
  rw [bytes_cons h]
  match e : s.data.toList.drop 1, hl with
  | [], hl => simp [numBad]
  | d :: r, hl => 
    simp [numBad]; intro hc; apply hz; rw [hc]; refine ⟨rfl, ?_⟩; simp at hl; omega

end Go.Proofs.Ytofdfofpdfaimaa
