/- slices.IndexFunc and the queue's place; slices.Clone. -/
import Derived.Test.YteiadigafkollaaCk2
namespace Go.Proofs.Yteiadigafkollaa
open Go.RowKit Go.Sort Go.Shelf

/-- The cells of a slice's timers, wherever it lies. -/
def SL (w : World) (v : Value) (d : Array Tm) : Prop := (v = .slice none 0 0 ∧ d = #[]) ∨ ∃ X cap, v = .slice (some ⟨X, 0, none⟩) d.size cap ∧ Row w X cap d
theorem SL.below {w w' : World} {v : Value} {d : Array Tm} (h : SL w v d) (k : Below w.heap.size w w') : SL w' v d := by
  rcases h with h | ⟨X, cap, hv, hr⟩
  · exact Or.inl h
  · exact Or.inr ⟨X, cap, hv, hr.keep (k.block X hr.lt)⟩
theorem SL.form {w : World} {v : Value} {d : Array Tm} (h : SL w v d) : ∃ p cap, v = .slice p d.size cap ∧ d.size ≤ maxLen ∧ (∀ k, k < d.size → ∃ X, p = some ⟨X, 0, none⟩ ∧ X < w.heap.size) := by
  rcases h with ⟨rfl, rfl⟩ | ⟨X, cap, rfl, hr⟩
  · exact ⟨none, 0, rfl, by simp [maxLen], fun k hk => by simp at hk⟩
  · exact ⟨_, cap, rfl, Nat.le_trans hr.bound.1 hr.bound.2, fun k hk => ⟨X, rfl, hr.lt⟩⟩
theorem SL.row {w : World} {d : Array Tm} {X n cap : Nat} (h : SL w (.slice (some ⟨X, 0, none⟩) n cap) d) : Row w X cap d ∧ n = d.size := by
  rcases h with ⟨h, _⟩ | ⟨X', cap', hv, hr⟩
  · cases h
  · cases hv; exact ⟨hr, rfl⟩
theorem plc_go {n : Int} {l : List Tm} {k : Nat} (h : k < l.length) (hn : l[k].num ≠ n) : plc n k (l.drop k) = plc n (k + 1) (l.drop (k + 1)) := by
  rw [drop_cons h, plc, if_neg hn]
theorem plc_hit {n : Int} {l : List Tm} {k : Nat} (h : k < l.length) (hn : l[k].num = n) : plc n k (l.drop k) = k := by
  rw [drop_cons h, plc, if_pos hn]
theorem plc_end {n : Int} {l : List Tm} {k : Nat} (h : l.length ≤ k) : plc n k (l.drop k) = -1 := by
  rw [List.drop_of_length_le h]; rfl

set_option maxHeartbeats 4000000 in
theorem index_any (w : World) (v : Value) (d : Array Tm) (h : SL w v d) (n : Int) (b : Nat) (hb : w.cell? ⟨b, 0, none⟩ = some (.int .i64 n)) (hlt : b < w.heap.size) :
    Calls Try.prog 50 #[v, .func (.func 51) #[] #[.pointer (some ⟨b, 0, none⟩)]] w fun e w' => e = .returned (.int .i64 (plc n 0 d.toList)) ∧ Below w.heap.size w w' := by
  obtain ⟨p, cap, rfl, hm, hX⟩ := h.form
  unfold maxLen at hm
  have HS : Hid (SL w (.slice p d.size cap) d) := h
  clear h
  go_enter Try.func50, Try.ntmps50
  go_wp2
  go_loopw [8] (fun v8 wr => ∃ (k : Nat), v8 = .int .i64 k ∧ k ≤ d.size ∧ Hid (Below w.heap.size w wr) ∧ Hid (plc n k (d.toList.drop k) = plc n 0 d.toList)) (fun v8 _ => d.size - (intOf v8).toNat)
  case atStart => exact ⟨0, rfl, Nat.zero_le _, Below.refl _ _, rfl⟩
  case round =>
    obtain ⟨k, rfl, hk, HB, HE⟩ := hrel
    rename_i wr
    by_cases hkl : k < d.size
    · obtain ⟨X, rfl, hXl⟩ := hX k hkl
      have hr := (HS.out.below HB.out).row.1
      obtain ⟨c1, c2, c3⟩ := hr.cells hkl
      have hl : k < d.toList.length := by simpa using hkl
      have e1 := get!_list d k hkl
      have P := place1_any d[k]! n b wr ((HB.out.cell (p := ⟨b, 0, none⟩) hlt).trans hb) (Nat.lt_of_lt_of_le hlt HB.out.size)
      obtain ⟨t, ht⟩ : ∃ t, t = d[k]! := ⟨_, rfl⟩
      rw [← ht] at c1 c2 c3 e1 P
      clear hr ht
      by_cases hn : t.num = n
      · have hnb : (t.num == n) = true := by simpa using hn
        rw [hnb] at P
        have HF : Hid (plc n 0 d.toList = k) := by show _ = _; rw [← HE.out]; exact plc_hit hl (by rw [← e1]; exact hn)
        clear hn hnb
        clear e1
        go_wp2_with (go_at_call 51; refine P.mono ?_; rintro e w' ⟨rfl, hb2⟩)
        go_ret
        exact ⟨ret_int HF.out.symm, HB.out.trans (hb2.mono HB.out.size)⟩
      · have hnb : (t.num == n) = false := by simpa using hn
        rw [hnb] at P
        have HF : Hid (plc n (k + 1) (d.toList.drop (k + 1)) = plc n 0 d.toList) := by show _ = _; rw [← HE.out]; exact (plc_go hl (by rw [← e1]; exact hn)).symm
        clear e1
        go_wp2_with (go_at_call 51; refine P.mono ?_; rintro e w' ⟨rfl, hb2⟩)
        go_roundw
        case rel => exact ⟨k + 1, by go_num, by omega, HB.out.trans (hb2.mono HB.out.size), HF⟩
        case measure => simp [intOf]; omega
    · go_wp2
      go_ret
      exact ⟨ret_int (by rw [← HE.out]; exact (plc_end (by simp; omega)).symm), HB.out⟩
set_option maxHeartbeats 2000000 in
theorem place_any (w : World) (v : Value) (d : Array Tm) (h : SL w v d) (n : Int) :
    Calls Try.prog 39 #[v, .int .i64 n] w fun e w' => e = .returned (.int .i64 (plc n 0 d.toList)) ∧ Below w.heap.size w w' := by
  have hb0 : Below w.heap.size w (w.alloc (.cells #[.int .i64 n] 3)) := (Below.refl _ _).alloc (Nat.le_refl _) _
  have hs : (w.alloc (.cells #[.int .i64 n] 3)).heap.size = w.heap.size + 1 := by show (w.heap.push _).size = _; simp
  have I := index_any (w.alloc (.cells #[.int .i64 n] 3)) v d (h.below hb0) n w.heap.size (by rw [cell_of_row _ _ _ _ _ _ (heap_alloc_new w _)]; rfl) (by omega)
  have HB : Hid (∀ w', Below (w.alloc (.cells #[.int .i64 n] 3)).heap.size (w.alloc (.cells #[.int .i64 n] 3)) w' → Below w.heap.size w w') := fun w' hb => hb0.trans (hb.mono (by omega))
  obtain ⟨p, cap, rfl, hm, hX⟩ := h.form
  clear h hb0 hs
  go_enter Try.func39, Try.ntmps39
  go_wp2_with (go_at_call 50; refine I.mono ?_; rintro e w' ⟨rfl, hb2⟩)
  go_ret
  exact ⟨rfl, HB.out _ hb2⟩
/-- What the append to a new empty slice makes of a row. -/
theorem append_row {P : Program} {ops : Array Oper} {rest : List Oper} {o : Oper} {a : Act} {Q : Exit → Act → World → Prop} (hgd : o.guard = none) (s x : Operand) (t : TypeId)
    (ho : o.op = .call { callee := .builtin .append, args := #[s, x], argTypes := #[t, t] })
    (ht : P.underlying t = some (.slice 47)) (hi : (P.info? 47).map (fun i => (i.zero, i.size, i.bytes)) = some (some (.agg #[.int .i64 0, .int .i64 0, .int .i64 0]), 3, 24))
    (w0 : World) (d : Array Tm) (X cap : Nat) (hs : a.eval s = .slice (some ⟨w0.heap.size, 0, none⟩) 0 0)
    (hx : a.eval x = .slice (some ⟨X, 0, none⟩) d.size cap) (hr : Row w0 X cap d) (hlen : d.size ≤ 100000)
    (h : ∀ g c w', Row w' g c d → w0.heap.size ≤ g → Below w0.heap.size w0 w' → wpList P ops Q rest (a.put o.dst (.slice (some ⟨g, 0, none⟩) d.size c)) w') : wpList P ops Q (o :: rest) a (w0.alloc (.cells #[] 47)) := by
  obtain ⟨i0, hi0, hz0, hz1, hz2⟩ := info_parts hi
  have hb0 : Below w0.heap.size w0 (w0.alloc (.cells #[] 47)) := (Below.refl _ _).alloc (Nat.le_refl _) _
  have hr2 : Row (w0.alloc (.cells #[] 47)) X cap d := hr.keep (hb0.block X hr.lt)
  have hown : (w0.alloc (.cells #[] 47)).ownsRow w0.heap.size 47 3 (.slice (some ⟨w0.heap.size, 0, none⟩) 0 0) 0 [] := by
    refine ⟨rfl, Or.inr ⟨w0.heap.size, 0, #[], rfl, Nat.le_refl _, heap_alloc_new w0 _, Nat.le_refl _, by unfold maxLen; omega, rfl, rfl⟩⟩
  have hnews : ∀ j u, (d.toList.flatMap tmC)[j]? = some u → (w0.alloc (.cells #[] 47)).cell? ((⟨X, 0, none⟩ : Addr).add j) = some u := by
    intro j u hj
    have hadd : (⟨X, 0, none⟩ : Addr).add j = ⟨X, j, none⟩ := by unfold Addr.add; split <;> simp_all
    have hl : j < d.size * 3 := by
      have e3 := tmC_len d.toList
      have e4 : d.toList.length = d.size := Array.length_toList
      by_cases hh : j < (d.toList.flatMap tmC).length
      · omega
      · rw [List.getElem?_eq_none (by omega)] at hj; cases hj
    rw [hadd, World.ownsRow.cellAt hr2 j hl]; exact hj
  refine wpList_append_own _ hgd s x t ho w0.heap.size 47 i0 (.agg #[.int .i64 0, .int .i64 0, .int .i64 0]) 3 24 ht hi0 hz0 hz1 hz2 rfl (by decide) _ 0 [] hs hown ⟨X, 0, none⟩ d.size cap (d.toList.flatMap tmC) hx (by rw [tmC_len]; simp) hnews (tmC_one _)
    (by unfold maxLen; omega) (by omega) (by simp) ?_
  intro v' w' ho' hgr hv'
  have hb2 := hb0.grown hgr (by simp) (fun q hq => (hown.lt q hq).1)
  rw [List.nil_append, Nat.zero_add] at ho'
  rcases ho'.2 with ⟨e, _⟩ | ⟨g, c, cur, e, hg, _⟩
  · exfalso
    have := hv'.1 e
    cases this.1
  · subst e
    exact h g c w' (row_of_owns ho').1 hg hb2
set_option maxHeartbeats 2000000 in
set_option maxRecDepth 100000 in
theorem clone_any (w : World) (v : Value) (d : Array Tm) (h : SL w v d) (hl : d.size ≤ 100000) :
    Calls Try.prog 33 #[v] w fun e w' => ∃ v', e = .returned v' ∧ Below w.heap.size w w' ∧ ((v' = .slice none 0 0 ∧ d = #[]) ∨ ∃ g c, v' = .slice (some ⟨g, 0, none⟩) d.size c ∧ w.heap.size ≤ g ∧ Row w' g c d) := by
  have EQ : ∀ a l c w, Sem.run Try.prog (binOp .eql 58 (.slice a l c) (.slice none 0 0)) w = .ok (.bool a.isNone) w := fun a l c w => by
    simp only [binOp]
    simp [run_equal_slice_nil w 58 _ a l c Try.underlying58]
  rcases h with ⟨rfl, rfl⟩ | ⟨X, cap, rfl, hr⟩
  · go_enter Try.func33, Try.ntmps33
    go_wp2
    go_ret
    exact ⟨_, rfl, Below.refl _ _, Or.inl ⟨rfl, by simp⟩⟩
  · have HR : Hid _ := hr
    clear hr
    go_enter Try.func33, Try.ntmps33
    go_wp2_with (at_builtin; refine append_row rfl (.tmp 5) (.tmp 6) 58 rfl Try.underlying58 info_tm _ d X cap rfl rfl HR.out hl ?_; intro g c w' hr' hg hb)
    go_ret
    exact ⟨_, rfl, hb, Or.inr ⟨g, c, rfl, hg, hr'⟩⟩
end Go.Proofs.Yteiadigafkollaa
