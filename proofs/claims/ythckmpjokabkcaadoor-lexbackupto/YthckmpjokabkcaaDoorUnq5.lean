/- The walk of lex.Unquote. Asked: the texts have room in memory. -/
import Derived.Test.YthckmpjokabkcaaDoorUnq4
namespace Go.Proofs.YthckmpjokabkcaaDoor
open Go.RowKit

/-- What a quoted text stands for, if it is one and nothing else. -/
def unqT (l : List UInt8) : List UInt8 := if (l.head? = some 34 ∧ (qa l 0).2.2 = true ∧ (qa l 0).2.1 = l.length) then (qa l 0).1 else []
def unqB (l : List UInt8) : Bool := decide (l.head? = some 34 ∧ (qa l 0).2.2 = true ∧ (qa l 0).2.1 = l.length)
theorem unq_f {l : List UInt8} (h : ¬ (l.head? = some 34 ∧ (qa l 0).2.2 = true ∧ (qa l 0).2.1 = l.length)) : unqT l = [] ∧ unqB l = false := ⟨by simp only [unqT, if_neg h], by simp only [unqB, h, decide_false]⟩
theorem unq_t {l : List UInt8} (h : l.head? = some 34 ∧ (qa l 0).2.2 = true ∧ (qa l 0).2.1 = l.length) : unqT l = (qa l 0).1 ∧ unqB l = true := ⟨by simp only [unqT, if_pos h], by simp only [unqB, h, true_and, decide_true]⟩
theorem ret_unq {a b : List UInt8} {p q : Bool} (h : a = b) (h3 : p = q) : Ending.returned (.tuple #[.string ⟨a.toArray⟩, .bool p]) = .returned (.tuple #[.string ⟨b.toArray⟩, .bool q]) := by rw [h, h3]
theorem empty_of {s : ByteArray} (h : s.size = 0) : s = ByteArray.empty := by
  have : s.data = #[] := Array.eq_empty_of_size_eq_zero h
  cases s; simp at this; subst this; rfl
theorem head_of {s : ByteArray} (h : 0 < s.size) : s.data.toList.head? = some s[0] := by rw [bytes1 h]; rfl
theorem ne_of {s : ByteArray} (h : 0 < s.size) : ¬ s.toList = [] ∧ s.toList.isEmpty = false := by
  have e : ¬ s.toList = [] := by
    rw [ByteArray.toList_eq, bytes1 h]; simp
  exact ⟨e, by cases h : s.toList with | nil => exact absurd h e | cons => rfl⟩

set_option maxHeartbeats 1000000 in
theorem unquote_any (s : ByteArray) (w : World) (hs : s.size ≤ 140737488351232) :
    Calls Tryd.prog 21 #[.string s] w fun e w' => e = .returned (.tuple #[.string ⟨(unqT s.data.toList).toArray⟩, .bool (unqB s.data.toList)]) ∧ Below w.heap.size w w' := by
  by_cases hz : s.size = 0
  · obtain rfl := empty_of hz
    go_enter Tryd.func21, Tryd.ntmps21
    go_wp2
    go_ret2
    have := unq_f (l := ByteArray.empty.data.toList) (by simp)
    exact ⟨ret_unq this.1.symm this.2.symm, Below.refl _ _⟩
  have h0 : 0 < s.size := by omega
  obtain ⟨hn1, hn2⟩ := ne_of h0
  by_cases hq : (s[0].toNat : Int) = 34
  · have QA := quotedAt_any s 0 w hs h0
    have hh : s.data.toList.head? = some 34 := by rw [head_of h0, u8_eq (n := 34) (by omega) hq]; rfl
    by_cases hok : (qa s.data.toList 0).2.2 = true
    · by_cases hend : (qa s.data.toList 0).2.1 = s.size
      · have HU : Hid _ := unq_t (l := s.data.toList) ⟨hh, hok, by rw [hend]; simp⟩
        rw [hok, hend] at QA
        clear hh hok hend
        go_enter Tryd.func21, Tryd.ntmps21
        go_wp2_with (go_at_call 37; refine QA.mono ?_; rintro e w' ⟨rfl, hb⟩)
        go_ret2
        exact ⟨ret_unq HU.out.1.symm HU.out.2.symm, hb⟩
      · have HU : Hid _ := unq_f (l := s.data.toList) (fun h => hend (by rw [h.2.2]; simp))
        rw [hok] at QA
        have hend' : (((qa s.data.toList 0).2.1 : Int) == (s.size : Int)) = false := by simp; omega
        have hend2 : (((qa s.data.toList 0).2.1 : Int) != (s.size : Int)) = true := by simp; omega
        generalize (qa s.data.toList 0).2.1 = E at *
        generalize (qa s.data.toList 0).1 = T at *
        clear hh hok
        go_enter Tryd.func21, Tryd.ntmps21
        go_wp2_with (go_at_call 37; refine QA.mono ?_; rintro e w' ⟨rfl, hb⟩)
        go_ret2
        exact ⟨ret_unq HU.out.1.symm HU.out.2.symm, hb⟩
    · have HU : Hid _ := unq_f (l := s.data.toList) (fun h => hok h.2.1)
      have hok' : (qa s.data.toList 0).2.2 = false := by simpa using hok
      rw [hok'] at QA
      generalize (qa s.data.toList 0).2.1 = E at *
      generalize (qa s.data.toList 0).1 = T at *
      clear hh hok hok'
      go_enter Tryd.func21, Tryd.ntmps21
      go_wp2_with (go_at_call 37; refine QA.mono ?_; rintro e w' ⟨rfl, hb⟩)
      go_ret2
      exact ⟨ret_unq HU.out.1.symm HU.out.2.symm, hb⟩
  · have HU : Hid _ := unq_f (l := s.data.toList) (fun h => by
      have := h.1; rw [head_of h0] at this; exact toNat_ne (n := 34) (by omega) hq (by simpa using this))
    have hq1 : ((s[0].toNat : Int) != 34) = true := by simpa using hq
    have hq2 : ((s[0].toNat : Int) == 34) = false := by simpa using hq
    go_enter Tryd.func21, Tryd.ntmps21
    go_wp2
    go_ret2
    exact ⟨ret_unq HU.out.1.symm HU.out.2.symm, Below.refl _ _⟩

end Go.Proofs.YthckmpjokabkcaaDoor
