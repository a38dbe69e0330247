/- Graph, plain: the document's sums, node by node from the last one on. -/
import Derived.Test.YthhjknpfaghfbaaYk1
namespace Go.Proofs.Ythhjknpfaghfbaa
open Go.RowKit

theorem HV.same {F : Nat → Int} {l m : List Nat} {p : Int × Int} (h : HV F l p) (hm : ∀ y, y ∈ l ↔ y ∈ m) : HV F m p := by
  rcases h with ⟨e, h⟩ | ⟨w, e, q1, q2, q3⟩
  · exact Or.inl ⟨e, fun y hy => h y ((hm y).2 hy)⟩
  · exact Or.inr ⟨w, e, (hm w).1 q1, q2, fun y hy => q3 y ((hm y).2 hy)⟩
theorem rh_take {E : List (Nat × Nat)} {k : Nat} (hk : k < E.length) (n : Nat) (F : Nat → Int) : rhP F (tg (E.take (k + 1)) n) = if n = E[k].1 then (if (rhP F (tg (E.take k) n)).1 < F E[k].2 ∨ (F E[k].2 = (rhP F (tg (E.take k) n)).1 ∧ 0 ≤ (rhP F (tg (E.take k) n)).2 ∧ (E[k].2 : Int) < (rhP F (tg (E.take k) n)).2) then (F E[k].2, (E[k].2 : Int)) else rhP F (tg (E.take k) n)) else rhP F (tg (E.take k) n) := by
  rw [List.take_succ_eq_append_getElem hk, tg_snoc]
  split
  · rw [rhP_snoc]
  · rfl
theorem rh_step {N : Nat} {E : List (Nat × Nat)} (hg : GOK N E) {D : List Nat} (h : KO N E D) (hl : D.length = N) {W F G : Nat → Int} {i : Nat} (hi : i < D.length) (hLG : LG (nx N E) W F G (D.drop (i + 1))) : LG (nx N E) W (upF F D[i] (W D[i] + (rhP F (tg E D[i])).1)) (upF G D[i] (rhP F (tg E D[i])).2) (D.drop i) := by
  have e : D.drop i = D[i] :: D.drop (i + 1) := List.drop_eq_getElem_cons hi
  have e2 : D = D.take i ++ D[i] :: D.drop (i + 1) := by rw [← e, List.take_append_drop]
  obtain ⟨hx, hy⟩ := h.behind hg hl e2
  have hE : ∀ y, y ∈ tg E D[i] ↔ y ∈ nx N E D[i] := fun y => by rw [nx_mem hg, tg_mem]
  rw [e]
  have hne : ∀ z ∈ D.drop (i + 1), z ≠ D[i] := fun z hz q => hx (by rw [← q]; exact hz)
  refine LG.cons (b := (rhP F (tg E D[i])).1) (hLG.congr fun z hz => ⟨upF_far _ _ _ (hne z hz), upF_far _ _ _ (hne z hz)⟩) hy ?_ ?_
  · rw [upF_at]
    exact ((rhP_HV F (tg E D[i])).same hE).congr fun z hz => upF_far _ _ _ (hne z (hy z hz))
  · rw [upF_at]
theorem rh_bd {N : Nat} {E : List (Nat × Nat)} (hg : GOK N E) {D : List Nat} (h : KO N E D) (hl : D.length = N) {W F G : Nat → Int} (hW : WOK N W) {i : Nat} (hi : i < D.length) (hLG : LG (nx N E) W F G (D.drop (i + 1))) : 0 ≤ (rhP F (tg E D[i])).1 ∧ (rhP F (tg E D[i])).1 ≤ 4096 * 1099511627776 := by
  have e : D.drop i = D[i] :: D.drop (i + 1) := List.drop_eq_getElem_cons hi
  have e2 : D = D.take i ++ D[i] :: D.drop (i + 1) := by rw [← e, List.take_append_drop]
  obtain ⟨hx, hy⟩ := h.behind hg hl e2
  have hE : ∀ y, y ∈ tg E D[i] → y ∈ nx N E D[i] := fun y q => by rw [nx_mem hg]; exact tg_mem.1 q
  have hv := rhP_HV F (tg E D[i])
  refine ⟨hv.lo, ?_⟩
  rcases hv with ⟨e, _⟩ | ⟨v, e, q1, _⟩
  · rw [e]; decide
  · rw [e]
    have bd := hLG.bd (M := 1099511627776) (by decide) (fun z hz => hW z (h.lt z (List.mem_of_mem_drop hz)))
    have := (bd v (hy v (hE v q1))).2.1
    have hn := hg.n
    have h3 : ((D.drop (i + 1)).length : Int) * 1099511627776 ≤ 4096 * 1099511627776 := by rw [List.length_drop]; omega
    show F v ≤ _
    omega
theorem lo_fin {N : Nat} {E : List (Nat × Nat)} (hg : GOK N E) (hr : rnL N E = []) {W F G : Nat → Int} (hW : WOK N W) (h : LG (nx N E) W F G (orL N E)) : (∀ x, x < N → F x = (loF N E W).1 x) ∧ ∀ x, x < N → G x = (loF N E W).2 x := by
  have k := LG.one (fun _ _ => Iff.rfl) h (loF_LG hg hr hW)
  exact ⟨fun x hx => (k x (orL_all hg hr x hx)).1, fun x hx => (k x (orL_all hg hr x hx)).2⟩
theorem lo_next {N : Nat} {E : List (Nat × Nat)} (hg : GOK N E) (hr : rnL N E = []) {W : Nat → Int} (hW : WOK N W) : ∀ y, y < N → (loF N E W).2 y = -1 ∨ ∃ z : Nat, (loF N E W).2 y = z ∧ z < N := fun y hy => by
  obtain ⟨h1, h2⟩ := orL_ko hg hr
  have bd := (loF_LG hg hr hW).bd (M := 1099511627776) (by decide) (fun z hz => hW z (h1.lt z hz))
  rcases (bd y (orL_all hg hr y hy)).2.2.2 with e | ⟨z, e, hz⟩
  · exact Or.inl e
  · exact Or.inr ⟨z, e, h1.lt z hz⟩
/-- How the way stands behind k steps. -/
theorem lo_way {N : Nat} {E : List (Nat × Nat)} (hg : GOK N E) (hr : rnL N E = []) {W : Nat → Int} (hW : WOK N W) (k : Nat) : (gw (loF N E W).2 k (mxF (loF N E W).1 N)).2 = -1 ∧ (gw (loF N E W).2 k (mxF (loF N E W).1 N)).1 = loW N E W ∨ ∃ y : Nat, (gw (loF N E W).2 k (mxF (loF N E W).1 N)).2 = y ∧ y < N ∧ k < N ∧ (gw (loF N E W).2 k (mxF (loF N E W).1 N)).1.length = k := by
  obtain ⟨h1, h2⟩ := orL_ko hg hr
  have hR : ∀ x, x ∈ orL N E ↔ x < N := fun x => ⟨h1.lt x, orL_all hg hr x⟩
  have hv : mxF (loF N E W).1 N = -1 ∨ ∃ y : Nat, mxF (loF N E W).1 N = y ∧ y < N := by
    rcases mx_cases (loF N E W).1 N with ⟨_, e⟩ | h
    · exact Or.inl e
    · exact Or.inr h
  have hN := gw_in h1.nodup h2 (loF_LG hg hr hW) hR hv N
  have eN : (gw (loF N E W).2 N (mxF (loF N E W).1 N)).2 = -1 := by
    rcases hN with e | ⟨_, _, _, q, _⟩
    · exact e
    · omega
  rcases gw_in h1.nodup h2 (loF_LG hg hr hW) hR hv k with e | h
  · refine Or.inl ⟨e, ?_⟩
    unfold loW
    rw [gw_one (by rw [e]; decide) (by rw [eN]; decide)]
  · exact Or.inr h
theorem gw_step {G : Nat → Int} {k y : Nat} {v : Int} {L : List Nat} (h : gw G k v = (L, (y : Int))) : gw G (k + 1) v = (L ++ [y], G y) := by
  rw [gw, h, if_neg (by show ¬ (y : Int) < 0; omega)]
  simp
theorem lo_bd {N : Nat} {E : List (Nat × Nat)} (hg : GOK N E) (hr : rnL N E = []) {W : Nat → Int} (hW : WOK N W) : ∀ y, y < N → 0 ≤ (loF N E W).1 y := fun y hy => by
  obtain ⟨h1, h2⟩ := orL_ko hg hr
  exact ((loF_LG hg hr hW).bd (M := 1099511627776) (by decide) (fun z hz => hW z (h1.lt z hz)) y (orL_all hg hr y hy)).1
theorem loW_len {N : Nat} {E : List (Nat × Nat)} {W : Nat → Int} : (loW N E W).length ≤ N := gw_len _ _ _
end Go.Proofs.Ythhjknpfaghfbaa
