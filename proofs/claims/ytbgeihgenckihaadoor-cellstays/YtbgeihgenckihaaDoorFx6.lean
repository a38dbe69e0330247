/- Failures: the reference's Check; copies. -/
import Derived.Test.YtbgeihgenckihaaDoorFx5
namespace Go.Proofs.YtbgeihgenckihaaDoor
open Go.RowKit

set_option maxHeartbeats 2000000 in
theorem rcheck_any (v : Value) (l : List Cr) (w : World) (h : CS w v l) (ht : ∀ c ∈ l, c.text.size ≤ maxLen) (hlm : l.length ≤ 1000000000000000) :
    Calls Tryd.prog 62 #[v] w fun e w' => e = .returned (.int .i64 (chk l)) ∧ Below w.heap.size w w' := by
  obtain ⟨p, cap, rfl⟩ := h.form
  by_cases hl : 1024 < l.length
  · have hl2 : (l.length : Int) > 1024 := by omega
    have HC : Hid (chk l = 3) := by show chk l = 3; unfold chk; rw [if_pos hl]
    generalize chk l = r at *
    clear h ht
    go_enter Tryd.func62, Tryd.ntmps62
    go_wp2
    go_ret
    exact ⟨ret_int HC.out.symm, Below.refl _ _⟩
  · have hl2 : ¬ (l.length : Int) > 1024 := by omega
    have BG := begins_any _ l w h ht (by omega)
    have HC : Hid (chk l = match begS 0 [] l with | some q => if q.2.length = 1 then 0 else 5 | none => 5) := chk_beg l (by omega)
    generalize chk l = r at *
    clear h ht
    go_enter Tryd.func62, Tryd.ntmps62
    go_wp2_with fail
    refine BG.mono ?_
    rintro e w5 ⟨hb5, ⟨hn, rfl⟩ | ⟨q, p5, c5, hq, rfl, _⟩⟩
    · have HR : Hid (r = 5) := by show r = 5; rw [HC.out, hn]
      go_wp2
      go_ret
      exact ⟨ret_int HR.out.symm, hb5⟩
    · by_cases h1 : q.2.length = 1
      · have HR : Hid (r = 0) := by show r = 0; rw [HC.out, hq]; simp [h1]
        rw [decide_eq_true h1]
        clear HC hq BG
        go_wp2
        go_ret
        exact ⟨ret_int HR.out.symm, hb5⟩
      · have HR : Hid (r = 5) := by show r = 5; rw [HC.out, hq]; simp [h1]
        rw [decide_eq_false h1]
        clear HC hq BG
        go_wp2
        go_ret
        exact ⟨ret_int HR.out.symm, hb5⟩
def crC (c : Cr) : List Value := [.int .i64 c.kind, .int .i64 c.n, .string c.text]
theorem crC_len (l : List Cr) : (l.flatMap crC).length = l.length * 3 := by
  induction l with
  | nil => rfl
  | cons t r ih => rw [List.flatMap_cons, List.length_append, ih]; simp [crC]; omega
theorem crC_at (l : List Cr) (k i : Nat) (hk : k < l.length) (hi : i < 3) : (l.flatMap crC)[k * 3 + i]? = (crC l[k])[i]? := by
  induction l generalizing k with
  | nil => simp at hk
  | cons t r ih =>
    rw [List.flatMap_cons]
    cases k with
    | zero => rw [List.getElem?_append_left (by simp [crC]; omega)]; simp
    | succ k =>
      rw [List.getElem?_append_right (by simp [crC]; omega)]
      have := ih k (by simpa using hk)
      rw [show (k + 1) * 3 + i - (crC t).length = k * 3 + i by simp [crC]; omega, this]
      simp
theorem info_cr : (Tryd.prog.info? 79).map (fun i => (i.zero, i.size, i.bytes)) = some (some (.agg #[.int .i64 0, .int .i64 0, .string ByteArray.empty]), 3, 32) := by kernel_rfl
/-- The slice owns these cracks. -/
def OwnC (w : World) (base : Nat) (v : Value) (l : List Cr) : Prop := w.ownsRow base 79 3 v l.length (l.flatMap crC)
theorem OwnC.below {w : World} {base : Nat} {v : Value} {l : List Cr} (h : OwnC w base v l) {w' : World} (k : Below w.heap.size w w') : OwnC w' base v l := by
  have h0 := h
  obtain ⟨h1, h2⟩ := h
  refine ⟨h1, ?_⟩
  rcases h2 with h2 | ⟨g, cap, cur, e1, e2, e3, e4⟩
  · exact Or.inl h2
  · exact Or.inr ⟨g, cap, cur, e1, e2, by rw [k.block g (World.ownsRow.lt h0 g (by rw [e1]; rfl)).2]; exact e3, e4⟩
theorem OwnC.cs {w : World} {base : Nat} {v : Value} {l : List Cr} (h : OwnC w base v l) : CS w v l := by
  have h0 := h
  rcases h.2 with ⟨rfl, e⟩ | ⟨g, cap, cur, rfl, hb, hg, hcp, _⟩
  · exact Or.inl ⟨Or.inl rfl, List.length_eq_zero_iff.1 e⟩
  · refine Or.inr ⟨g, 0, cap, rfl, (World.ownsRow.lt h0 g rfl).2, hcp, fun k hk => ⟨?_, ?_, ?_⟩⟩
    · rw [Nat.zero_add]; exact (World.ownsRow.cellAt h0 (k * 3) (by omega)).trans (by have := crC_at l k 0 hk (by omega); simpa [crC] using this)
    · rw [Nat.zero_add]; exact (World.ownsRow.cellAt h0 (k * 3 + 1) (by omega)).trans (by have := crC_at l k 1 hk (by omega); simpa [crC] using this)
    · rw [Nat.zero_add]; exact (World.ownsRow.cellAt h0 (k * 3 + 2) (by omega)).trans (by have := crC_at l k 2 hk (by omega); simpa [crC] using this)
theorem ownC_empty (w : World) : OwnC (w.alloc (.cells #[] 79)) w.heap.size (.slice (some ⟨w.heap.size, 0, none⟩) 0 0) [] :=
  ⟨rfl, Or.inr ⟨w.heap.size, 0, #[], rfl, Nat.le_refl _, heap_alloc_new w _, Nat.le_refl _, Nat.zero_le _, rfl, rfl⟩⟩
theorem CS.news {w : World} {X o n cap : Nat} {l : List Cr} (h : CS w (.slice (some ⟨X, o, none⟩) n cap) l) : ∀ j u, (l.flatMap crC)[j]? = some u → w.cell? ((⟨X, o, none⟩ : Addr).add j) = some u := by
  rcases h with ⟨_, rfl⟩ | ⟨X', o', cap', e, hX, _, hc⟩
  · intro j u hj; simp at hj
  · injection e with e1 _ _
    injection e1 with e1
    injection e1 with e1 e2 _
    subst e1 e2
    intro j u hj
    have hjl : j < (l.flatMap crC).length := by
      by_cases hlt : j < (l.flatMap crC).length
      · exact hlt
      · rw [List.getElem?_eq_none (by omega)] at hj; cases hj
    rw [crC_len] at hjl
    have hadd : (⟨X, o, none⟩ : Addr).add j = ⟨X, o + j, none⟩ := by
      unfold Addr.add; split
      · rename_i hz; rw [show o + j = o by omega]
      · rfl
    obtain ⟨c1, c2, c3⟩ := hc (j / 3) (by omega)
    have hm : j = j / 3 * 3 + 0 ∨ j = j / 3 * 3 + 1 ∨ j = j / 3 * 3 + 2 := by omega
    rcases hm with e | e | e
    · have h3 := crC_at l (j / 3) 0 (by omega) (by omega)
      rw [← e, hj] at h3
      rw [hadd, show o + j = o + j / 3 * 3 by omega, c1, h3]; rfl
    · have h3 := crC_at l (j / 3) 1 (by omega) (by omega)
      rw [← e, hj] at h3
      rw [hadd, show o + j = o + j / 3 * 3 + 1 by omega, c2, h3]; rfl
    · have h3 := crC_at l (j / 3) 2 (by omega) (by omega)
      rw [← e, hj] at h3
      rw [hadd, show o + j = o + j / 3 * 3 + 2 by omega, c3, h3]; rfl
end Go.Proofs.YtbgeihgenckihaaDoor
