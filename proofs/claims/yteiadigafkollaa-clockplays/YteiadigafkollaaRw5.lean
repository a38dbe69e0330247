/- The queue's Pop; heap.Push, Remove, Fix. -/
import Derived.Test.YteiadigafkollaaRw4
namespace Go.Proofs.Yteiadigafkollaa
open Go.RowKit Go.Sort Go.Shelf

theorem Row.pop {w : World} {X cap : Nat} {d : Array Tm} (h : Row w X cap d) : Row w X cap d.pop := by
  obtain ⟨h0, h | ⟨g, c, cur, e1, e2, e0, e3, e4, e5, e6⟩⟩ := h
  · cases h.1
  · cases e1
    have hl : d.pop.toList = d.toList.take (d.size - 1) := by rw [Array.toList_pop, List.dropLast_eq_take]; simp
    refine ⟨by rw [tmC_len]; simp, Or.inr ⟨X, cap, cur, rfl, e2, e0, by simp; omega, e4, e5, ?_⟩⟩
    have e7 : cur.toList.take ((d.size - 1) * 3) = (d.toList.flatMap tmC).take ((d.size - 1) * 3) := by
      rw [← e6, List.take_take]; congr 1; omega
    rw [Array.size_pop, e7, hl]
    have := List.take_append_drop (d.size - 1) d.toList
    conv => lhs; rw [← this]
    rw [List.flatMap_append, List.take_append_of_le_length (by rw [tmC_len]; simp), List.take_of_length_le (by rw [tmC_len]; simp)]
set_option maxHeartbeats 2000000 in
set_option maxRecDepth 100000 in
theorem pop_any (w : World) (qb qo X cap : Nat) (d : Array Tm) (h : QAt w qb qo X cap d) (n : Nat) (hn : d.size = n + 1) :
    Calls Try.prog 94 #[.pointer (some ⟨qb, qo, none⟩)] w fun e w' => (∃ v, e = .returned v) ∧ QAt w' qb qo X cap d.pop ∧ KeepQ qb qo X w w' := by
  obtain ⟨c1, c2, c3⟩ := h.row.cells (i := n) (by omega)
  have hc := h.head
  have hf := h.free
  have hb := h.row.bound
  unfold maxLen at hb
  have hb1 := hb.1
  have hb2 := hb.2
  have hlt := h.lt
  have hxl := h.row.lt
  rw [hn] at hc hb1
  have END : Hid (∀ o, QAt ((w.setCell ⟨qb, qo, none⟩ (.slice (some ⟨X, 0, none⟩) n cap)).alloc o) qb qo X cap d.pop ∧ KeepQ qb qo X w ((w.setCell ⟨qb, qo, none⟩ (.slice (some ⟨X, 0, none⟩) n cap)).alloc o)) := by
    intro o
    obtain ⟨w2, hw2⟩ : ∃ w2, w2 = w.setCell ⟨qb, qo, none⟩ (.slice (some ⟨X, 0, none⟩) n cap) := ⟨_, rfl⟩
    have hs2 : w2.heap.size = w.heap.size := by rw [hw2]; simp [World.setCell]
    have hb2 : ∀ k, k ≠ qb → w2.heap[k]? = w.heap[k]? := fun k hk => by rw [hw2]; exact Below.heap_setCell _ _ _ _ hk
    have al : ∀ k, k < w.heap.size → (w2.alloc o).heap[k]? = w2.heap[k]? := fun k hk => Below.heap_alloc w2 o k (by omega)
    rw [← hw2]
    refine ⟨⟨?_, ?_, h.row.pop.keep (by rw [al X hxl, hb2 X (fun e => h.ne e.symm)]), h.ne, ?_⟩, ⟨?_, ?_, ?_, ?_, ?_, ?_, ?_⟩⟩
    · rw [Array.size_pop, hn, World.cell?_of_block (w := w2) (al qb hlt), hw2]; exact head_set hc
    · rw [World.frozen?_of_block (w := w2) (al qb hlt), hw2, World.frozen?_setCell]; exact hf
    · show qb < (w2.heap.push o).size; simp; omega
    · rw [hw2]; rfl
    · rw [hw2]; rfl
    · rw [hw2]; rfl
    · show w.heap.size ≤ (w2.heap.push o).size; simp; omega
    · intro k hk1 hk2 hk3
      rw [al k hk1, hb2 k hk2]
    · intro o' ho'
      rw [World.cell?_of_block (w := w2) (al qb hlt), hw2, other_set ho']
    · intro o'
      rw [World.frozen?_of_block (w := w2) (al qb hlt), hw2, World.frozen?_setCell]
  generalize d[n]! = t at *
  generalize d.pop = D at *
  clear h hb
  go_enter Try.func94, Try.ntmps94
  go_wp2
  go_ret
  exact ⟨⟨_, rfl⟩, END.out _⟩

/-- What heap.Fix makes of a row. -/
def hFix (n i : Nat) (d : Array Tm) : Array Tm := if i < (hDown tlt n i d).1 then (hDown tlt n i d).2 else hUp tlt i (hDown tlt n i d).2
theorem hFix_size (n i : Nat) (d : Array Tm) (hn : n ≤ d.size) : (hFix n i d).size = d.size := by
  have := (hDown_all (lt := tlt) (n - i) n i d (Nat.le_refl _) hn).1
  unfold hFix; split
  · exact this
  · rw [hUp_size]; exact this
/-- What heap.Remove leaves of a row. -/
def hRem (i : Nat) (d : Array Tm) : Array Tm := if i = d.size - 1 then d.pop else (hFix (d.size - 1) i (swp d i (d.size - 1))).pop

set_option maxHeartbeats 2000000 in
set_option maxRecDepth 100000 in
theorem fix_any (w : World) (qb qo X cap : Nat) (d : Array Tm) (h : QAt w qb qo X cap d) (hm : d.size ≤ 1000000000000) (i : Nat) (hi : i < d.size) (x : Int) (hx : x = i) :
    Calls Try.prog 53 #[.iface 74 (.pointer (some ⟨qb, qo, none⟩)), .int .i64 x] w fun e w' => e = .returned (.tuple #[]) ∧ QAt w' qb qo X cap (hFix d.size i d) ∧ Keep X w w' := by
  subst hx
  have eN := ent_len
  have mN := inv_len h.head
  have hsz := (hDown_all (lt := tlt) (d.size - i) d.size i d (Nat.le_refl _) (Nat.le_refl _)).1
  have D := down_any w qb qo X cap d h i d.size (Nat.le_refl _) (by omega) hm i d.size rfl rfl
  have HF : Hid (hFix d.size i d = if i < (hDown tlt d.size i d).1 then (hDown tlt d.size i d).2 else hUp tlt i (hDown tlt d.size i d).2) := rfl
  have HQ : Hid _ := h
  clear h
  by_cases hb : i < (hDown tlt d.size i d).1
  · have hd : decide (i < (hDown tlt d.size i d).1) = true := by simpa using hb
    rw [hd] at D
    go_enter Try.func53, Try.ntmps53
    go_wp2_with (first | (go_at_fn 91; refine (len_any _ _ _ _).mono ?_; rintro e w' ⟨rfl, rfl⟩) | (go_at_call 66; refine D.mono ?_; rintro e w' ⟨rfl, hq, hk⟩))
    go_end0
    rw [HF.out, if_pos hb]
    exact ⟨rfl, hq, hk⟩
  · have hd : decide (i < (hDown tlt d.size i d).1) = false := by simpa using hb
    rw [hd] at D
    go_enter Try.func53, Try.ntmps53
    go_wp2_with (first | (go_at_fn 91; refine (len_any _ _ _ _).mono ?_; rintro e w' ⟨rfl, rfl⟩) | (go_at_call 66; refine D.mono ?_; rintro e w' ⟨rfl, hq, hk⟩) | (go_at_call 67; refine (up_any _ _ _ _ _ _ hq i (by rw [hsz]; exact hi) (by unfold maxLen; omega) _ rfl).mono ?_; rintro e w' ⟨rfl, hq2, hk2⟩))
    go_end0
    rw [HF.out, if_neg hb]
    exact ⟨rfl, hq2, hk.trans hk2⟩

set_option maxHeartbeats 4000000 in
set_option maxRecDepth 100000 in
theorem remove_any (w : World) (qb qo X cap : Nat) (d : Array Tm) (h : QAt w qb qo X cap d) (hm : d.size ≤ 1000000000000) (i : Nat) (hi : i < d.size) (x : Int) (hx : x = i) :
    Calls Try.prog 52 #[.iface 74 (.pointer (some ⟨qb, qo, none⟩)), .int .i64 x] w fun e w' => (∃ v, e = .returned v) ∧ QAt w' qb qo X cap (hRem i d) ∧ KeepQ qb qo X w w' := by
  subst hx
  have eN := ent_len
  have mN := inv_len h.head
  have eS := ent_swap
  have mS := inv_swap h.head
  have eP := ent_pop
  have mP := inv_pop
  have hne := h.ne
  have hlt := h.lt
  obtain ⟨n, hn⟩ : ∃ n, d.size = n + 1 := ⟨d.size - 1, by omega⟩
  have HQ : Hid _ := h
  clear h
  rw [hn] at mN mS
  by_cases hb : i = n
  · have hnb : (((n : Int) + 1 - 1) != (i : Int)) = false := by simp; omega
    have hnb2 : ((n : Int) != (i : Int)) = false := by simp; omega
    go_enter Try.func52, Try.ntmps52
    go_wp2_with (first | (go_at_fn 91; refine (len_any _ _ _ _).mono ?_; rintro e w' ⟨rfl, rfl⟩) | (go_at_fn 94; refine (pop_any _ _ _ _ _ _ HQ.out n hn).mono ?_; rintro e w' ⟨⟨v, rfl⟩, hq, hk⟩))
    go_ret
    refine ⟨⟨_, rfl⟩, ?_, hk⟩
    unfold hRem; rw [if_pos (by omega)]; exact hq
  · have hnb : (((n : Int) + 1 - 1) != (i : Int)) = true := by simp; omega
    have hnb2 : ((n : Int) != (i : Int)) = true := by simp; omega
    have hsz := (hDown_all (lt := tlt) (n - i) n i (swp d i n) (Nat.le_refl _) (by rw [size_swp]; omega)).1
    rw [size_swp] at hsz
    have S := HQ.out.swapC hn i n (by omega) (by omega) (x := i) (y := n) rfl rfl
    have D := fun w' (hq : QAt w' qb qo X cap (swp d i n)) => down_any w' qb qo X cap (swp d i n) hq i n (by rw [size_swp]; omega) (by omega) (by rw [size_swp]; omega) i n rfl rfl
    have HR : Hid (hRem i d = (if i < (hDown tlt n i (swp d i n)).1 then (hDown tlt n i (swp d i n)).2 else hUp tlt i (hDown tlt n i (swp d i n)).2).pop) := by
      show _ = _
      unfold hRem; rw [if_neg (by omega), show d.size - 1 = n by omega]; rfl
    cases hd : decide (i < (hDown tlt n i (swp d i n)).1) with
    | true =>
      rw [hd] at D
      go_enter Try.func52, Try.ntmps52
      go_wp2_with (first | (go_at_fn 91; refine (len_any _ _ _ _).mono ?_; rintro e w' ⟨rfl, rfl⟩) | (go_at_fn 93; refine S.mono ?_; rintro e w' ⟨rfl, hq1, hk1⟩) | (go_at_call 66; refine (D _ hq1).mono ?_; rintro e w' ⟨rfl, hq2, hk2⟩) | (go_at_fn 94; refine (pop_any _ _ _ _ _ _ hq2 n (by omega)).mono ?_; rintro e w' ⟨⟨v, rfl⟩, hq, hk⟩))
      go_ret
      rw [HR.out, if_pos (by simpa using hd)]
      exact ⟨⟨_, rfl⟩, hq, ((hk1.trans hk2).q hne hlt).trans hk (Or.inl rfl)⟩
    | false =>
      rw [hd] at D
      go_enter Try.func52, Try.ntmps52
      go_wp2_with (first | (go_at_fn 91; refine (len_any _ _ _ _).mono ?_; rintro e w' ⟨rfl, rfl⟩) | (go_at_fn 93; refine S.mono ?_; rintro e w' ⟨rfl, hq1, hk1⟩) | (go_at_call 66; refine (D _ hq1).mono ?_; rintro e w' ⟨rfl, hq2, hk2⟩) | (go_at_call 67; refine (up_any _ _ _ _ _ _ hq2 i (by omega) (by unfold maxLen; omega) _ rfl).mono ?_; rintro e w' ⟨rfl, hq3, hk3⟩) | (go_at_fn 94; refine (pop_any _ _ _ _ _ _ hq3 n (by rw [hUp_size]; omega)).mono ?_; rintro e w' ⟨⟨v, rfl⟩, hq, hk⟩))
      go_ret
      rw [HR.out, if_neg (by simpa using hd)]
      exact ⟨⟨_, rfl⟩, hq, (((hk1.trans hk2).trans hk3).q hne hlt).trans hk (Or.inl rfl)⟩

set_option maxHeartbeats 2000000 in
set_option maxRecDepth 100000 in
theorem heapPush_any (w : World) (qb qo X : Nat) (d : Array Tm) (v : Value) (hc : w.cell? ⟨qb, qo, none⟩ = some v) (hf : w.frozen? ⟨qb, qo, none⟩ = false) (hlt : qb < w.heap.size) (hne : qb ≠ X) (hX : X ≤ w.heap.size) (hsv : SV w X v d) (t : Tm) (hl : d.size ≤ 100000) :
    Calls Try.prog 65 #[.iface 74 (.pointer (some ⟨qb, qo, none⟩)), .iface 47 (.agg #[.int .i64 t.num, .int .i64 t.tm, .int .i64 t.ev])] w fun e w' => e = .returned (.tuple #[]) ∧ ∃ g cap, QAt w' qb qo g cap (hUp tlt d.size (d.push t)) ∧ (g = X ∨ w.heap.size ≤ g) ∧ KeepQ qb qo X w w' := by
  have eN := ent_len
  have eP := ent_push
  have mP := inv_push
  have P1 := push_any w qb qo X d v hc hf hlt hne hX hsv t hl
  go_enter Try.func65, Try.ntmps65
  go_wp2_with (first | (go_at_fn 91; refine (len_any _ _ _ _).mono ?_; rintro e w' ⟨rfl, rfl⟩) | (go_at_fn 95; refine P1.mono ?_; rintro e w1 ⟨rfl, g, cap, hq1, hg, hk1⟩; have mN := inv_len hq1.head; rw [Array.size_push] at mN) | (go_at_call 67; refine (up_any _ _ _ _ _ _ hq1 d.size (by simp) (by unfold maxLen; simp; omega) _ (by omega)).mono ?_; rintro e w' ⟨rfl, hq3, hk3⟩))
  go_end0
  exact ⟨rfl, g, cap, hq3, hg, hk1.trans (hk3.q hq1.ne hq1.lt) hg⟩
end Go.Proofs.Yteiadigafkollaa
