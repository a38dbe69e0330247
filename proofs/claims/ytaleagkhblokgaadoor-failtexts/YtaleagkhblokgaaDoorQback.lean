/- Texts quoted, and what quoted texts stand for: there and back, plain. -/
import Derived.Test.YtaleagkhblokgaaDoorUnq4
import Derived.Test.YtaleagkhblokgaaDoorUnq
namespace Go.Proofs.YtaleagkhblokgaaDoor
open Go.RowKit

/-- What a quoted text stands for, if it is one and nothing else. -/
def unqT (l : List UInt8) : List UInt8 := if (l.head? = some 34 ∧ (qa l 0).2.2 = true ∧ (qa l 0).2.1 = l.length) then (qa l 0).1 else []
def unqB (l : List UInt8) : Bool := decide (l.head? = some 34 ∧ (qa l 0).2.2 = true ∧ (qa l 0).2.1 = l.length)
theorem unq_f {l : List UInt8} (h : ¬ (l.head? = some 34 ∧ (qa l 0).2.2 = true ∧ (qa l 0).2.1 = l.length)) : unqT l = [] ∧ unqB l = false := ⟨by simp only [unqT, if_neg h], by simp only [unqB, h, decide_false]⟩
theorem unq_t {l : List UInt8} (h : l.head? = some 34 ∧ (qa l 0).2.2 = true ∧ (qa l 0).2.1 = l.length) : unqT l = (qa l 0).1 ∧ unqB l = true := ⟨by simp only [unqT, if_pos h], by simp only [unqB, h, true_and, decide_true]⟩
theorem ret_unq {a b : List UInt8} {p q : Bool} (h : a = b) (h3 : p = q) : Ending.returned (.tuple #[.string ⟨a.toArray⟩, .bool p]) = .returned (.tuple #[.string ⟨b.toArray⟩, .bool q]) := by rw [h, h3]
theorem empty_of {s : ByteArray} (h : s.size = 0) : s = ByteArray.empty := by
  have : s.data = #[] := Array.eq_empty_of_size_eq_zero h
  cases s; simp at this; subst this; rfl
theorem head_of {s : ByteArray} (h : 0 < s.size) : s.data.toList.head? = some s[0] := by rw [bytes1 h]; rfl
theorem ne_of {s : ByteArray} (h : 0 < s.size) : ¬ s.toList = [] ∧ s.toList.isEmpty = false := by
  have e : ¬ s.toList = [] := by
    rw [ByteArray.toList_eq, bytes1 h]; simp
  exact ⟨e, by cases h : s.toList with | nil => exact absurd h e | cons => rfl⟩

set_option maxHeartbeats 1000000 in
theorem unquote_any (s : ByteArray) (w : World) (hs : s.size ≤ 140737488351232) :
    Calls Tryd.prog 90 #[.string s] w fun e w' => e = .returned (.tuple #[.string ⟨(unqT s.data.toList).toArray⟩, .bool (unqB s.data.toList)]) ∧ Below w.heap.size w w' := by
  by_cases hz : s.size = 0
  · obtain rfl := empty_of hz
    go_enter Tryd.func90, Tryd.ntmps90
    go_wp2
    go_ret2
    have := unq_f (l := ByteArray.empty.data.toList) (by simp)
    exact ⟨ret_unq this.1.symm this.2.symm, Below.refl _ _⟩
  have h0 : 0 < s.size := by omega
  obtain ⟨hn1, hn2⟩ := ne_of h0
  by_cases hq : (s[0].toNat : Int) = 34
  · have QA := quotedAt_any s 0 w hs h0
    have hh : s.data.toList.head? = some 34 := by rw [head_of h0, u8_eq (n := 34) (by omega) hq]; rfl
    by_cases hok : (qa s.data.toList 0).2.2 = true
    · by_cases hend : (qa s.data.toList 0).2.1 = s.size
      · have HU : Hid _ := unq_t (l := s.data.toList) ⟨hh, hok, by rw [hend]; simp⟩
        rw [hok, hend] at QA
        clear hh hok hend
        go_enter Tryd.func90, Tryd.ntmps90
        go_wp2_with (go_at_call 98; refine QA.mono ?_; rintro e w' ⟨rfl, hb⟩)
        go_ret2
        exact ⟨ret_unq HU.out.1.symm HU.out.2.symm, hb⟩
      · have HU : Hid _ := unq_f (l := s.data.toList) (fun h => hend (by rw [h.2.2]; simp))
        rw [hok] at QA
        have hend' : (((qa s.data.toList 0).2.1 : Int) == (s.size : Int)) = false := by simp; omega
        have hend2 : (((qa s.data.toList 0).2.1 : Int) != (s.size : Int)) = true := by simp; omega
        generalize (qa s.data.toList 0).2.1 = E at *
        generalize (qa s.data.toList 0).1 = T at *
        clear hh hok
        go_enter Tryd.func90, Tryd.ntmps90
        go_wp2_with (go_at_call 98; refine QA.mono ?_; rintro e w' ⟨rfl, hb⟩)
        go_ret2
        exact ⟨ret_unq HU.out.1.symm HU.out.2.symm, hb⟩
    · have HU : Hid _ := unq_f (l := s.data.toList) (fun h => hok h.2.1)
      have hok' : (qa s.data.toList 0).2.2 = false := by simpa using hok
      rw [hok'] at QA
      generalize (qa s.data.toList 0).2.1 = E at *
      generalize (qa s.data.toList 0).1 = T at *
      clear hh hok hok'
      go_enter Tryd.func90, Tryd.ntmps90
      go_wp2_with (go_at_call 98; refine QA.mono ?_; rintro e w' ⟨rfl, hb⟩)
      go_ret2
      exact ⟨ret_unq HU.out.1.symm HU.out.2.symm, hb⟩
  · have HU : Hid _ := unq_f (l := s.data.toList) (fun h => by
      have := h.1; rw [head_of h0] at this; exact toNat_ne (n := 34) (by omega) hq (by simpa using this))
    have hq1 : ((s[0].toNat : Int) != 34) = true := by simpa using hq
    have hq2 : ((s[0].toNat : Int) == 34) = false := by simpa using hq
    go_enter Tryd.func90, Tryd.ntmps90
    go_wp2
    go_ret2
    exact ⟨ret_unq HU.out.1.symm HU.out.2.symm, Below.refl _ _⟩

end Go.Proofs.YtaleagkhblokgaaDoor
namespace Go.Proofs.YtaleagkhblokgaaDoor
open Go.RowKit

theorem ub_app {l : List UInt8} {b : UInt8} {n : Nat} (Y : List UInt8) (h : ub l = some (b, n)) : ub (l ++ Y) = some (b, n) := by
  match l, h with
  | c :: r, h =>
    rw [List.cons_append]
    simp only [ub] at h ⊢
    by_cases hp : plU c = true
    · rw [if_pos hp] at h ⊢; exact h
    · rw [if_neg hp] at h ⊢
      by_cases h92 : c ≠ 92
      · rw [if_pos h92] at h; cases h
      · rw [if_neg h92] at h ⊢
        match r, h with
        | d :: r2, h =>
          rw [List.cons_append]
          simp only at h ⊢
          by_cases hd : d = 34 ∨ d = 92
          · rw [if_pos hd] at h ⊢; exact h
          · rw [if_neg hd] at h ⊢
            by_cases hn' : d = 110
            · rw [if_pos hn'] at h ⊢; exact h
            · rw [if_neg hn'] at h ⊢
              by_cases hx : d = 120
              · rw [if_pos hx] at h ⊢
                match r2, h with
                | e :: f :: r3, h => exact h
                | [], h => simp at h
                | [_], h => simp at h
              · rw [if_neg hx] at h; cases h
        | [], h => simp at h
  | [], h => simp [ub] at h
theorem uq_app : ∀ (l : List UInt8) (Y : List UInt8) (t : List UInt8) (m : Nat), uq l = some (t, m) → uq (l ++ Y) = some (t, m)
  | [], Y, t, m, h => by rw [uq_nil] at h; cases h
  | c :: r, Y, t, m, h => by
    by_cases hc : c = 34
    · subst hc; rw [uq_quote] at h; rw [List.cons_append, uq_quote]; exact h
    · cases hu : ub (c :: r) with
      | none => rw [uq_none hc hu] at h; cases h
      | some x =>
        obtain ⟨b, n⟩ := x
        have hn := ub_len _ _ _ hu
        rw [uq_some hc hu, Option.map_eq_some_iff] at h
        obtain ⟨⟨t2, m2⟩, h2, h3⟩ := h
        simp only [Prod.mk.injEq] at h3
        have hu2 := ub_app Y hu
        have ih := uq_app ((c :: r).drop n) Y t2 m2 h2
        rw [List.cons_append] at hu2 ⊢
        rw [uq_some hc hu2, Option.map_eq_some_iff]
        refine ⟨(t2, m2), ?_, by simp only [Prod.mk.injEq]; exact h3⟩
        rw [← List.cons_append, List.drop_append_of_le_length hn.2]; exact ih
termination_by l => l.length
decreasing_by
  rw [List.length_drop]; have := (ub_len _ _ _ hu).1; simp only [List.length_cons]; omega
theorem hex_there : ∀ n : Fin 256, (n.val < 32 ∨ 126 < n.val) → n.val ≠ 10 → hexB (hexD (n.val / 16)) (hexD (n.val % 16)) = some (UInt8.ofNat n.val) := by decide +kernel
theorem ub_qB (c : UInt8) (r : List UInt8) : ub (qB c ++ r) = some (c, (qB c).length) := by
  have p92 : plU 92 = false := by decide
  have hlt := UInt8.toNat_lt c
  unfold qB
  split
  · rename_i h
    simp only [List.cons_append, List.nil_append, ub]
    rw [if_neg (by rw [p92]; simp), if_neg (by simp)]
    rw [if_pos h]; rfl
  · rename_i h
    split
    · rename_i h10
      subst h10
      simp only [List.cons_append, List.nil_append, ub]
      rw [if_neg (by rw [p92]; simp), if_neg (by simp)]
      rw [if_neg (by decide), if_pos (by trivial)]; rfl
    · rename_i h10
      split
      · rename_i hp
        simp only [List.cons_append, List.nil_append, ub]
        have : plU c = true := by
          simp only [plU, plB, decide_eq_true_eq]
          refine ⟨by omega, by omega, ?_, ?_⟩
          · intro e; apply h; left; apply UInt8.toNat_inj.1; simp; omega
          · intro e; apply h; right; apply UInt8.toNat_inj.1; simp; omega
        rw [if_pos this]; rfl
      · rename_i hp
        have h10' : c.toNat ≠ 10 := by intro e; apply h10; apply UInt8.toNat_inj.1; simp; omega
        have hx := hex_there ⟨c.toNat, hlt⟩ (by simp; omega) h10'
        simp only [List.cons_append, List.nil_append, ub]
        rw [if_neg (by rw [p92]; simp), if_neg (by simp)]
        rw [if_neg (by decide), if_neg (by decide), if_pos (by trivial), hx]
        simp
theorem qB_head (c : UInt8) : ∃ x r, qB c = x :: r ∧ x ≠ 34 := by
  unfold qB
  split
  · exact ⟨92, _, rfl, by decide⟩
  · rename_i h
    split
    · exact ⟨92, _, rfl, by decide⟩
    · split
      · exact ⟨c, _, rfl, fun e => h (Or.inl e)⟩
      · exact ⟨92, _, rfl, by decide⟩
theorem uq_quo : ∀ (t X : List UInt8), uq (t.flatMap qB ++ 34 :: X) = some (t, (t.flatMap qB).length + 1)
  | [], X => by rw [List.flatMap_nil, List.nil_append, uq_quote]; rfl
  | c :: t, X => by
    obtain ⟨x, r, e, hx⟩ := qB_head c
    have hu := ub_qB c (t.flatMap qB ++ 34 :: X)
    have ih := uq_quo t X
    rw [List.flatMap_cons, List.append_assoc]
    rw [e, List.cons_append] at hu ⊢
    rw [uq_some hx hu]
    have e2 : (x :: (r ++ (t.flatMap qB ++ 34 :: X))).drop (x :: r).length = t.flatMap qB ++ 34 :: X := by
      rw [← List.cons_append, List.drop_append_of_le_length (by omega), List.drop_length, List.nil_append]
    rw [e2, ih]
    simp; omega
theorem hexV_back : ∀ n : Fin 256, 0 ≤ hexV (UInt8.ofNat n.val) → hexD (hexV (UInt8.ofNat n.val)).toNat = UInt8.ofNat n.val ∧ hexV (UInt8.ofNat n.val) < 16 := by decide +kernel
theorem hexV_back' (e : UInt8) (h : 0 ≤ hexV e) : hexD (hexV e).toNat = e ∧ hexV e < 16 := by
  have := hexV_back ⟨e.toNat, UInt8.toNat_lt e⟩
  simp only [UInt8.ofNat_toNat] at this
  exact this h
theorem qB_of_hexB {e f b : UInt8} (h : hexB e f = some b) : qB b = [92, 120, e, f] := by
  rw [hexB_def] at h
  split at h
  · rename_i hv
    obtain ⟨a1, a2⟩ := hexV_back' e hv.1
    obtain ⟨b1, b2⟩ := hexV_back' f hv.2
    split at h
    · cases h
    · rename_i hn
      simp only [Option.some.injEq] at h
      obtain ⟨x, hx⟩ : ∃ x : Nat, hexV e = (x : Int) := ⟨(hexV e).toNat, by omega⟩
      obtain ⟨y, hy⟩ : ∃ y : Nat, hexV f = (y : Int) := ⟨(hexV f).toNat, by omega⟩
      rw [hx, hy] at h hn
      rw [hx] at a1 a2
      rw [hy] at b1 b2
      have hb : b.toNat = 16 * x + y := by
        rw [← h]
        have : (16 * (x : Int) + (y : Int)).toNat = 16 * x + y := by omega
        rw [this]; simp; omega
      simp only [Int.toNat_natCast] at a1 b1
      rw [qB_hex (by omega) (by omega), hb, show (16 * x + y) / 16 = x by omega, show (16 * x + y) % 16 = y by omega, a1, b1]
  · cases h
theorem qB_of_ub {l : List UInt8} {b : UInt8} {n : Nat} (h : ub l = some (b, n)) : l.take n = qB b := by
  match l, h with
  | c :: r, h =>
    simp only [ub] at h
    by_cases hp : plU c = true
    · rw [if_pos hp] at h
      cases h
      simp only [plU, plB, decide_eq_true_eq] at hp
      rw [qB_plain hp.2.2.1 hp.2.2.2 hp.1 hp.2.1]; rfl
    · rw [if_neg hp] at h
      by_cases h92 : c ≠ 92
      · rw [if_pos h92] at h; cases h
      · rw [if_neg h92] at h
        have hc : c = 92 := by simpa using h92
        subst hc
        match r, h with
        | d :: r2, h =>
          simp only at h
          by_cases hd : d = 34 ∨ d = 92
          · rw [if_pos hd] at h
            cases h
            unfold qB; rw [if_pos hd]; rfl
          · rw [if_neg hd] at h
            by_cases hn' : d = 110
            · rw [if_pos hn'] at h
              cases h
              subst hn'; rfl
            · rw [if_neg hn'] at h
              by_cases hx : d = 120
              · rw [if_pos hx] at h
                match r2, h with
                | e :: f :: r3, h =>
                  simp only at h
                  rw [Option.map_eq_some_iff] at h
                  obtain ⟨x, hxb, hx2⟩ := h
                  cases hx2
                  subst hx
                  rw [qB_of_hexB hxb]; rfl
                | [], h => simp at h
                | [_], h => simp at h
              · rw [if_neg hx] at h; cases h
        | [], h => simp at h
  | [], h => simp [ub] at h
theorem quo_of_uq : ∀ (l t : List UInt8) (m : Nat), uq l = some (t, m) → l.take m = t.flatMap qB ++ [34]
  | [], t, m, h => by rw [uq_nil] at h; cases h
  | c :: r, t, m, h => by
    by_cases hc : c = 34
    · subst hc; rw [uq_quote] at h; cases h; rfl
    · cases hu : ub (c :: r) with
      | none => rw [uq_none hc hu] at h; cases h
      | some x =>
        obtain ⟨b, n⟩ := x
        have hn := ub_len _ _ _ hu
        rw [uq_some hc hu, Option.map_eq_some_iff] at h
        obtain ⟨⟨t2, m2⟩, h2, h3⟩ := h
        simp only [Prod.mk.injEq] at h3
        obtain ⟨rfl, rfl⟩ := h3
        have ih := quo_of_uq ((c :: r).drop n) t2 m2 h2
        rw [Nat.add_comm m2 n, List.take_add, qB_of_ub hu, ih, List.flatMap_cons, List.append_assoc]
termination_by l => l.length
decreasing_by
  rw [List.length_drop]; have := (ub_len _ _ _ hu).1; simp only [List.length_cons]; omega
end Go.Proofs.YtaleagkhblokgaaDoor
