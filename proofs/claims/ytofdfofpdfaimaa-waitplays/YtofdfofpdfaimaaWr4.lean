/- Waiting, the document's side: without. -/
import Derived.Test.YtofdfofpdfaimaaWr3
import Derived.Deep.RegionLaw
namespace Go.Proofs.Ytofdfofpdfaimaa
open Go.RowKit Go.Maps

theorem GS.take {α : Type} {K : RK α} {w : World} {X o n cap m : Nat} {l : List α} (h : GS K w (.slice (some ⟨X, o, none⟩) n cap) l) (hm : m ≤ l.length) : GS K w (.slice (some ⟨X, o, none⟩) m cap) (l.take m) := by
  rcases h with ⟨_, rfl⟩ | ⟨X', o', cap', e, hX, hc, hcl⟩
  · simp at hm; subst hm; exact Or.inl ⟨Or.inr ⟨_, _, rfl⟩, by simp⟩
  · injection e with e1 e2 e3
    injection e1 with e1
    injection e1 with e1 e4 _
    subst e1 e4 e3
    have hl : (l.take m).length = m := by simp; omega
    refine Or.inr ⟨X, o, cap, by rw [hl], hX, by omega, fun k hk j u hu => hcl k (by omega) j u ?_⟩
    rw [List.getElem_take] at hu
    exact hu
theorem GS.sub {α : Type} {K : RK α} {w : World} {X o n c : Nat} {l : List α} (h : GS K w (.slice (some ⟨X, o, none⟩) n c) l) {j m c' : Nat} (hj : j + m ≤ l.length) (hm : 0 < m) (hc' : m ≤ c') : GS K w (.slice (some ⟨X, o + j * K.W, none⟩) m c') ((l.drop j).take m) := by
  have hl : ((l.drop j).take m).length = m := by rw [List.length_take, List.length_drop]; omega
  obtain ⟨X', o', e, hX, hc⟩ : ∃ X' o', (some (⟨X, o, none⟩ : Addr)) = some ⟨X', o', none⟩ ∧ X' < w.heap.size ∧ ∀ k (hk : k < l.length) i u, (K.f l[k])[i]? = some u → w.cell? ⟨X', o' + k * K.W + i, none⟩ = some u := by
    rcases h with ⟨_, rfl⟩ | ⟨X', o', cap', e, hX, _, hc⟩
    · simp at hj; omega
    · injection e with e1 _ _
      exact ⟨X', o', e1, hX, hc⟩
  injection e with e
  injection e with e1 e2 _
  subst e1 e2
  refine Or.inr ⟨X, o + j * K.W, c', by rw [hl], hX, by rw [hl]; exact hc', fun k hk i u hu => ?_⟩
  have hk' : j + k < l.length := by omega
  have eg : ((l.drop j).take m)[k] = l[j + k] := by simp
  rw [eg] at hu
  have := hc (j + k) hk' i u hu
  rw [Nat.add_mul] at this
  rw [← this]
  congr 2
  omega
set_option maxHeartbeats 4000000 in
theorem rwithout_any (v : Value) (M : List Wt) (i : Nat) (w : World) (h : GS KW w v M) (hi : i < M.length) (hl : M.length ≤ 1000000) : Calls Try.prog 53 #[v, .int .i64 i] w fun e w' => ∃ p c, e = .returned (.slice p (M.length - 1) c) ∧ OwnG KW w' w.heap.size (.slice p (M.length - 1) c) (M.take i ++ M.drop (i + 1)) ∧ Below w.heap.size w w' := by
  obtain ⟨p, cap, rfl⟩ := h.form
  have hcap := h.cap
  have HS := hid h
  obtain ⟨X, o, e1, _⟩ := GS.at h hi
  obtain rfl : p = some ⟨X, o, none⟩ := e1
  obtain ⟨n, hn⟩ : ∃ n, n = M.length := ⟨_, rfl⟩
  have HN := hid hn
  rw [← hn] at HS hcap hi hl
  rw [← hn]
  have h1 : (i : Int) ≤ (cap : Int) := by omega
  have h2 : (i : Int) + 1 ≤ (n : Int) := by omega
  have h3 : (i : Int) ≤ (n : Int) := by omega
  have G1 : Hid (∀ W, Below w.heap.size w W → GS KW W (.slice (some ⟨X, o, none⟩) i cap) (M.take i)) := fun W hb => (HS.out.below hb).take (by have := HN.out; omega)
  have T1 : Hid ((M.take i).length = i) := by show _ = _; rw [List.length_take]; have := HN.out; omega
  have D1 : Hid ((M.drop (i + 1)).length = n - (i + 1)) := by show _ = _; rw [List.length_drop]; have := HN.out; omega
  have AP0 := hid (ap_of KW w (.cells #[] 30) (.slice (some ⟨X, o, none⟩) i cap) (M.take i) (G1.out _ (Below.refl _ _)))
  have L1 : Hid ((([] : List Wt).length + (M.take i).length) * KW.B ≤ 140737488355328) := by
    have := T1.out
    show (0 + (M.take i).length) * 48 ≤ _
    omega
  have L2 : Hid (((M.take i).length + (M.drop (i + 1)).length) * KW.B ≤ 140737488355328) := by
    have := T1.out
    have := D1.out
    show ((M.take i).length + (M.drop (i + 1)).length) * 48 ≤ _
    omega
  obtain ⟨i1, hi1⟩ : ∃ i1, i1 = i + 1 := ⟨_, rfl⟩
  have I1 := hid hi1
  rw [← hi1] at D1 L2
  rw [← hi1]
  have WR : IntKind.i64.wrap ((i : Int) + 1) = (i1 : Int) := by
    rw [IntKind.wrap_i64]; omega
  have h4 : (i1 : Int) ≤ (n : Int) := by omega
  have h5 : (i1 : Int) ≤ (cap : Int) := by omega
  have h6 : i1 ≤ n := by omega
  have h7 : n ≤ cap := by omega
  have G2 : Hid (∀ W, Below w.heap.size w W → GS KW W (.slice (if cap = i1 then some ⟨X, o, none⟩ else some ⟨X, o + i1 * 4, none⟩) (n - i1) (cap - i1)) (M.drop i1)) := fun W hb => by
    by_cases z : n - i1 = 0
    · have e : M.drop i1 = [] := List.eq_nil_of_length_eq_zero (by rw [D1.out]; exact z)
      rw [z, e]
      by_cases q : cap = i1
      · rw [if_pos q]; exact Or.inl ⟨Or.inr ⟨_, _, rfl⟩, rfl⟩
      · rw [if_neg q]; exact Or.inl ⟨Or.inr ⟨_, _, rfl⟩, rfl⟩
    · rw [if_neg (show ¬ cap = i1 by omega)]
      have := (HS.out.below hb).sub (j := i1) (m := n - i1) (c' := cap - i1) (by have := HN.out; omega) (by omega) (by omega)
      rw [List.take_of_length_le (by rw [List.length_drop]; have := HN.out; omega)] at this
      exact this
  generalize hVD : (Value.slice (if cap = i1 then some ⟨X, o, none⟩ else some ⟨X, o + i1 * 4, none⟩) (n - i1) (cap - i1)) = VD at G2
  have VE := hid hVD
  clear h hn h2 hi1 hVD
  go_enter Try.func53, Try.ntmps53
  go_wp2_with fail
  go_region_law (first
     | (refine step_append_any KW KW_ok (by rfl) (.tmp 5) (.tmp 8) 25 (by rfl) w.heap.size Try.underlying25 _ (.slice (some ⟨w.heap.size, 0, none⟩) 0 0) (.slice (some ⟨X, o, none⟩) i cap) [] (M.take i) (by rfl) AP0.out.a1.1 (by rfl) AP0.out.a1.2.1 L1.out AP0.out.a1.2.2.2 ?_; intro v8 w8 o8 b8 q8; rw [List.nil_append] at o8; have O8 := hid o8; have B8 : Hid (Below w.heap.size w w8) := AP0.out.a1.2.2.1.trans b8; clear o8 b8 q8)
     | (refine step_append_any KW KW_ok (by rfl) (.tmp 9) (.tmp 13) 25 (by rfl) w.heap.size Try.underlying25 _ v8 VD (M.take i) (M.drop i1) (by rfl) O8.out VE.out (G2.out _ B8.out) L2.out B8.out.size ?_; intro v9 w9 o9 b9 q9; have O9 := hid o9; have B9 : Hid (Below w.heap.size w w9) := B8.out.trans b9; clear o9 b9 q9))
  all_goals
    have LE : Hid ((M.take i ++ M.drop i1).length = n - 1) := by show _ = _; rw [List.length_append, T1.out, D1.out]; have := I1.out; omega
    obtain ⟨p9, c9, hv9, _⟩ := O9.out.form
    subst hv9
    rw [LE.out] at O9 ⊢
    go_wp2_with fail
    all_goals
      go_ret
      exact ⟨p9, c9, rfl, O9.out, B9.out⟩
end Go.Proofs.Ytofdfofpdfaimaa
