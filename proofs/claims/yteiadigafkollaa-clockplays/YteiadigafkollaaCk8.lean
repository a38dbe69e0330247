/- How much is due; one timer fires. -/
import Derived.Test.YteiadigafkollaaCk6
import Derived.Test.YteiadigafkollaaPl1
namespace Go.Proofs.Yteiadigafkollaa
open Go.RowKit Go.Sort Go.Shelf

set_option maxHeartbeats 2000000 in
theorem firings_any (w : World) (t : Tm) (u : Int) (h1 : 0 ≤ t.tm) (h2 : t.tm ≤ 1099511627776) (h3 : 0 ≤ t.ev) (h4 : 0 ≤ u) (h5 : u ≤ 1099511627776) :
    Calls Try.prog 46 #[.agg #[.int .i64 t.num, .int .i64 t.tm, .int .i64 t.ev], .int .i64 u] w fun e w' => e = .returned (.int .i64 (fir u t)) ∧ Below w.heap.size w w' := by
  have HB : Hid (∀ o, Below w.heap.size w (w.alloc o)) := fun o => (Below.refl _ _).alloc (Nat.le_refl _) o
  by_cases a1 : u < t.tm
  · have HF : Hid (fir u t = 0) := by show _ = _; unfold fir; rw [if_pos a1]
    go_enter Try.func46, Try.ntmps46
    go_wp2
    go_ret
    exact ⟨ret_int HF.out.symm, HB.out _⟩
  · by_cases a2 : t.ev = 0
    · have HF : Hid (fir u t = 1) := by show _ = _; unfold fir; rw [if_neg a1, if_pos a2]
      go_enter Try.func46, Try.ntmps46
      go_wp2
      go_ret
      exact ⟨ret_int HF.out.symm, HB.out _⟩
    · have a2b : (t.ev == 0) = false := by simpa using a2
      have HF : Hid (fir u t = (u - t.tm) / t.ev + 1) := by show _ = _; unfold fir; rw [if_neg a1, if_neg a2]
      have a3 : 1 ≤ t.ev := by omega
      have q0 : 0 ≤ (u - t.tm) / t.ev := Int.ediv_nonneg (by omega) (by omega)
      have q1 : (u - t.tm) / t.ev ≤ u - t.tm := Int.ediv_le_self _ (by omega)
      go_enter Try.func46, Try.ntmps46
      go_wp2
      go_ret
      exact ⟨ret_int HF.out.symm, HB.out _⟩
/-- A sum that stops above the limit. -/
def dueGo (u : Int) : List Tm → Int → Int
  | [], s => s
  | t :: r, s => if 4096 < s then s else dueGo u r (s + fir u t)
theorem dueGo_spec (u : Int) : ∀ (l : List Tm) (s : Int), (∀ t ∈ l, 0 ≤ t.ev) → (s + dueL u l ≤ 4096 → dueGo u l s = s + dueL u l) ∧ (4096 < s + dueL u l → 4096 < dueGo u l s)
  | [], s, _ => ⟨fun _ => by simp [dueGo, dueL], fun h => by simpa [dueGo, dueL] using h⟩
  | t :: r, s, h => by
    have hn := due_nn u r (fun x hx => h x (List.mem_cons_of_mem _ hx))
    have hf := fir_nn u t (h t (List.mem_cons_self ..))
    have ih := dueGo_spec u r (s + fir u t) (fun x hx => h x (List.mem_cons_of_mem _ hx))
    rw [due_cons, dueGo]
    by_cases hs : 4096 < s
    · rw [if_pos hs]; exact ⟨fun h => by omega, fun _ => hs⟩
    · rw [if_neg hs]; exact ⟨fun h => by rw [ih.1 (by omega)]; omega, fun h => ih.2 (by omega)⟩
set_option maxHeartbeats 4000000 in
theorem due_any (w : World) (v : Value) (d : Array Tm) (h : SL w v d) (u : Int) (h4 : 0 ≤ u) (h5 : u ≤ 1099511627776) (hr : ∀ t ∈ d.toList, (0 ≤ t.tm ∧ t.tm ≤ 1099511627776) ∧ 0 ≤ t.ev) :
    Calls Try.prog 35 #[v, .int .i64 u] w fun e w' => e = .returned (.int .i64 (dueGo u d.toList 0)) ∧ Below w.heap.size w w' := by
  obtain ⟨p, cap, rfl, hm, hX⟩ := h.form
  unfold maxLen at hm
  have HS : Hid (SL w (.slice p d.size cap) d) := h
  have HR : Hid _ := hr
  clear h hr
  go_enter Try.func35, Try.ntmps35
  go_wp2
  go_loopw [5, 10] (fun v5 v10 wr => ∃ (k : Nat) (s : Int), v10 = .int .i64 k ∧ v5 = .int .i64 s ∧ k ≤ d.size ∧ 0 ≤ s ∧ s ≤ 1099511640000 ∧ Hid (Below w.heap.size w wr) ∧ Hid (dueGo u (d.toList.drop k) s = dueGo u d.toList 0)) (fun _ v10 _ => d.size - (intOf v10).toNat)
  case atStart => exact ⟨0, 0, rfl, rfl, Nat.zero_le _, by omega, by omega, Below.refl _ _, rfl⟩
  case round =>
    obtain ⟨k, s, rfl, rfl, hk, hs0, hs1, HB, HE⟩ := hrel
    rename_i wr
    by_cases hkl : k < d.size
    · obtain ⟨X, rfl, hXl⟩ := hX k hkl
      have hrow := (HS.out.below HB.out).row.1
      obtain ⟨c1, c2, c3⟩ := hrow.cells hkl
      have hl : k < d.toList.length := by simpa using hkl
      have e1 := get!_list d k hkl
      have hmem := HR.out d[k]! (get_mem hkl)
      obtain ⟨t, ht⟩ : ∃ t, t = d[k]! := ⟨_, rfl⟩
      rw [← ht] at c1 c2 c3 e1 hmem
      have HD : Hid (d.toList.drop k = t :: d.toList.drop (k + 1)) := by show _ = _; rw [e1]; exact drop_cons hl
      have f0 := fir_nn u t hmem.2
      have f1 := fir_le u t hmem.2 h5 hmem.1.1
      have F := fun w' => firings_any w' t u hmem.1.1 hmem.1.2 hmem.2 h4 h5
      clear hrow ht e1 hmem
      by_cases hbig : 4096 < s
      · go_wp2
        go_ret
        exact ⟨ret_int (by rw [← HE.out, HD.out, dueGo, if_pos (by omega)]), HB.out.alloc (by have := HB.out.size; omega) _⟩
      · go_wp2_with (go_at_call 46; refine (F _).mono ?_; rintro e w' ⟨rfl, hb2⟩)
        go_roundw
        case rel => exact ⟨k + 1, s + fir u t, by go_num, rfl, by omega, by omega, by omega, (HB.out.alloc (by have := HB.out.size; omega) _).trans (hb2.mono (by have := HB.out.size; simp; omega)), by show _ = _; rw [← HE.out, HD.out, dueGo, if_neg (by omega)]⟩
        case measure => simp [intOf]; omega
    · go_wp2
      go_ret
      exact ⟨ret_int (by rw [← HE.out, List.drop_of_length_le (by simp; omega)]; rfl), HB.out⟩
end Go.Proofs.Yteiadigafkollaa
