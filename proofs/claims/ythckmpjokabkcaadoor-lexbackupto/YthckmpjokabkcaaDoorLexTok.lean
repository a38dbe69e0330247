/- The walk of the law LexTokens: it answers true for every text, the keywords and the marks lying in their variables. -/
import Derived.Test.YthckmpjokabkcaaDoorTokEq
namespace Go.Proofs.YthckmpjokabkcaaDoor
open Go.RowKit

theorem flat_at : ∀ (l : List Tok) (k i : Nat) (h : k < l.length), i < 4 → (l.flatMap tokC)[k * 4 + i]? = (tokC l[k])[i]?
  | [], _, _, h, _ => by simp at h
  | t :: r, 0, i, _, hi => by
    rw [List.flatMap_cons, Nat.zero_mul, Nat.zero_add, List.getElem?_append_left (by simp [tokC]; omega)]; rfl
  | t :: r, k + 1, i, h, hi => by
    rw [List.flatMap_cons, List.getElem?_append_right (by simp [tokC]; omega)]
    have e : (k + 1) * 4 + i - (tokC t).length = k * 4 + i := by simp [tokC]; omega
    rw [e, flat_at r k i (by simpa using h) hi]; simp
theorem OwnT.at {w : World} {base g cap : Nat} {l : List Tok} (h : OwnT w base (.slice (some ⟨g, 0, none⟩) l.length cap) l) : TokAt w g 0 l := by
  intro k hk
  have hc : ∀ i, i < 4 → w.cell? ⟨g, k * 4 + i, none⟩ = (tokC l[k])[i]? := fun i hi => by
    rw [World.ownsRow.cellAt h (k * 4 + i) (by omega), flat_at l k i hk hi]
  rw [Nat.zero_add]
  exact ⟨hc 0 (by omega), hc 1 (by omega), hc 2 (by omega), hc 3 (by omega)⟩
theorem TokAt.below {w w' : World} {g o : Nat} {l : List Tok} (h : TokAt w g o l) (hb : Below w.heap.size w w') (hg : g < w.heap.size) : TokAt w' g o l := by
  intro k hk
  obtain ⟨a, b, c, d⟩ := h k hk
  refine ⟨?_, ?_, ?_, ?_⟩
  · rw [hb.cell (p := ⟨g, _, none⟩) hg]; exact a
  · rw [hb.cell (p := ⟨g, _, none⟩) hg]; exact b
  · rw [hb.cell (p := ⟨g, _, none⟩) hg]; exact c
  · rw [hb.cell (p := ⟨g, _, none⟩) hg]; exact d
theorem TokAt.setCell {w : World} {g o : Nat} {l : List Tok} (h : TokAt w g o l) {a : Addr} (ha : a.block ≠ g) (u : Value) : TokAt (w.setCell a u) g o l := by
  have hc : ∀ x, (w.setCell a u).cell? ⟨g, x, none⟩ = w.cell? ⟨g, x, none⟩ := fun x => World.cell?_of_block (heap_setCell_other w a g u (fun e => ha e.symm))
  intro k hk
  rw [hc, hc, hc, hc]; exact h k hk
theorem OwnT.block {w : World} {base : Nat} {v : Value} {l : List Tok} (h : OwnT w base v l) (hn : l ≠ []) : ∃ g cap, v = .slice (some ⟨g, 0, none⟩) l.length cap ∧ base ≤ g ∧ g < w.heap.size := by
  rcases h.2 with ⟨_, h0⟩ | ⟨g, cap, cur, hv, hb, hc, _⟩
  · exact absurd (List.length_eq_zero_iff.1 h0) hn
  · refine ⟨g, cap, hv, hb, ?_⟩
    by_cases hlt : g < w.heap.size
    · exact hlt
    · rw [Array.getElem?_eq_none (by omega)] at hc; cases hc

theorem tokensNil_any (ao bo : Option Addr) (ca cb : Nat) (w : World) :
    Calls Tryd.prog 10 #[.slice ao 0 ca, .slice bo 0 cb] w fun e w' => e = .returned (.bool true) ∧ w' = w := by
  go_enter Tryd.func10, Tryd.ntmps10
  go_wp2
  refine wp_loop_rounds 1 ?_
  rw [rounds_succ]
  go_wp2
  go_ret
  exact ⟨rfl, rfl⟩
theorem tkRes_cnt : ∀ (l : List UInt8) (f p c : Nat), c ≤ 8192 → (tkGo l f p c).1.length + c ≤ 8192 := by
  intro l f
  induction f with
  | zero => intro p c h; simp [tkGo]; exact h
  | succ f ih =>
    intro p c h
    simp only [tkGo]
    split
    · split
      · simp; exact h
      · split
        · simp; exact h
        · rename_i h1 h2 h3
          have := ih (p + (rt (l.drop p)).len + pbGo false (l.drop (p + (rt (l.drop p)).len))) (c + 1) (by omega)
          simp; omega
    · simp; exact h
theorem tkRes_len (l : List UInt8) : (tkRes l).1.length ≤ 8192 := by
  unfold tkRes
  split
  · simp
  · split
    · simp
    · have := tkRes_cnt l (l.length + 1) (pbGo false l) 0 (by omega); simpa using this
end Go.Proofs.YthckmpjokabkcaaDoor
