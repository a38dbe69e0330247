/- The walk of the reference's Unquote. Asked: the text has room in memory. -/
import Derived.Test.YtaleagkhblokgaaDoorQback
namespace Go.Proofs.YtaleagkhblokgaaDoor
open Go.RowKit

set_option maxHeartbeats 1000000 in
theorem quoted_none (s : ByteArray) (n : Nat) (w : World) (h : s.size ≤ n ∨ ∃ h : n < s.size, ¬ (s[n].toNat : Int) = 34) :
    Calls Tryd.prog 94 #[.string s, .int .i64 n] w fun e w' => e = .returned (.tuple #[.int .i64 0, .string ⟨([] : List UInt8).toArray⟩, .bool false]) ∧ Below w.heap.size w w' := by
  rcases h with h | ⟨hlt, h⟩
  · go_enter Tryd.func94, Tryd.ntmps94
    go_wp2
    go_ret3
    exact ⟨rfl, Below.refl _ _⟩
  · have hq1 : ((s[n].toNat : Int) != 34) = true := by simpa using h
    have hq2 : ((s[n].toNat : Int) == 34) = false := by simpa using h
    have hnn : ¬ s.size ≤ n := by omega
    go_enter Tryd.func94, Tryd.ntmps94
    go_wp2
    go_ret3
    exact ⟨rfl, Below.refl _ _⟩

set_option maxHeartbeats 1000000 in
theorem refUnquote_any (s : ByteArray) (w : World) (hs : s.size ≤ 140737488351232) :
    Calls Tryd.prog 83 #[.string s] w fun e w' => e = .returned (.tuple #[.string ⟨(unqT s.data.toList).toArray⟩, .bool (unqB s.data.toList)]) ∧ Below w.heap.size w w' := by
  by_cases hq : ∃ h0 : 0 < s.size, (s[0].toNat : Int) = 34
  · obtain ⟨h0, hq⟩ := hq
    have QA := quoted_any s 0 w hs h0 hq
    have hh : s.data.toList.head? = some 34 := by rw [head_of h0, u8_eq (n := 34) (by omega) hq]; rfl
    by_cases hok : (qa s.data.toList 0).2.2 = true
    · by_cases hend : (qa s.data.toList 0).2.1 = s.size
      · have HU : Hid _ := unq_t (l := s.data.toList) ⟨hh, hok, by rw [hend]; simp⟩
        rw [hok, hend] at QA
        clear hh hok hend
        go_enter Tryd.func83, Tryd.ntmps83
        go_wp2_with (go_at_call 94; refine QA.mono ?_; rintro e w' ⟨rfl, hb⟩)
        go_ret2
        exact ⟨ret_unq HU.out.1.symm HU.out.2.symm, hb⟩
      · have HU : Hid _ := unq_f (l := s.data.toList) (fun h => hend (by rw [h.2.2]; simp))
        rw [hok] at QA
        have hend' : (((qa s.data.toList 0).2.1 : Int) == (s.size : Int)) = false := by simp; omega
        have hend2 : (((qa s.data.toList 0).2.1 : Int) != (s.size : Int)) = true := by simp; omega
        generalize (qa s.data.toList 0).2.1 = E at *
        generalize (qa s.data.toList 0).1 = T at *
        clear hh hok
        go_enter Tryd.func83, Tryd.ntmps83
        go_wp2_with (go_at_call 94; refine QA.mono ?_; rintro e w' ⟨rfl, hb⟩)
        go_ret2
        exact ⟨ret_unq HU.out.1.symm HU.out.2.symm, hb⟩
    · have HU : Hid _ := unq_f (l := s.data.toList) (fun h => hok h.2.1)
      have hok' : (qa s.data.toList 0).2.2 = false := by simpa using hok
      rw [hok'] at QA
      generalize (qa s.data.toList 0).2.1 = E at *
      generalize (qa s.data.toList 0).1 = T at *
      clear hh hok hok'
      go_enter Tryd.func83, Tryd.ntmps83
      go_wp2_with (go_at_call 94; refine QA.mono ?_; rintro e w' ⟨rfl, hb⟩)
      go_ret2
      exact ⟨ret_unq HU.out.1.symm HU.out.2.symm, hb⟩
  · have QA := quoted_none s 0 w (by
      by_cases h0 : 0 < s.size
      · exact Or.inr ⟨h0, fun h => hq ⟨h0, h⟩⟩
      · exact Or.inl (by omega))
    have HU : Hid _ := unq_f (l := s.data.toList) (fun h => by
      by_cases h0 : 0 < s.size
      · have := h.1; rw [head_of h0] at this
        exact toNat_ne (n := 34) (c := s[0]) (by omega) (fun e => hq ⟨h0, e⟩) (by simpa using this)
      · obtain rfl := empty_of (s := s) (by omega)
        have := h.1; simp at this)
    clear hq
    go_enter Tryd.func83, Tryd.ntmps83
    go_wp2_with (go_at_call 94; refine QA.mono ?_; rintro e w' ⟨rfl, hb⟩)
    go_ret2
    exact ⟨ret_unq HU.out.1.symm HU.out.2.symm, hb⟩
end Go.Proofs.YtaleagkhblokgaaDoor
