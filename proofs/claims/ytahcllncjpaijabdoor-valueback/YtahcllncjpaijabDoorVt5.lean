/- Values: the reference's Sort of right values. -/
import Derived.Test.YtahcllncjpaijabDoorVt3
import Derived.Test.YtahcllncjpaijabDoorVc9
import Derived.Deep.Cut
import Derived.Deep.CutRange
import Derived.Deep.DeepCutAuto
namespace Go.Proofs.YtahcllncjpaijabDoor
open Go.RowKit

theorem srt_ins {S : List Vt} {x : Vt} {a : Nat} (h : Srt S) (h1 : ∀ t ∈ S.take a, cmpV t x ≤ 0) (h2 : ∀ t ∈ S.drop a, cmpV x t ≤ 0) : Srt (S.take a ++ x :: S.drop a) := by
  have h3 : Srt (S.take a ++ S.drop a) := by rw [List.take_append_drop]; exact h
  obtain ⟨p1, p2, p3⟩ := List.pairwise_append.1 h3
  refine List.pairwise_append.2 ⟨p1, List.pairwise_cons.2 ⟨h2, p2⟩, fun s hs t ht => ?_⟩
  rcases List.mem_cons.1 ht with rfl | ht
  · exact h1 s hs
  · exact p3 s hs t ht
theorem srt_low {S : List Vt} {x : Vt} {a : Nat} (h : Srt S) (hw : ∀ t ∈ S, wfV t) (hx : wfV x) (ha : a < S.length) (hc : cmpV S[a] x ≤ 0) : ∀ t ∈ S.take (a + 1), cmpV t x ≤ 0 := by
  intro t ht
  obtain ⟨i, hi, e⟩ := List.mem_iff_getElem.1 ht
  rw [List.length_take] at hi
  rw [List.getElem_take] at e
  by_cases hia : i = a
  · subst hia; rw [← e]; exact hc
  · have := List.pairwise_iff_getElem.1 h i a (by omega) ha (by omega)
    rw [e] at this
    refine (cmpV_three (hw t (List.mem_of_mem_take ht)) (hw _ (List.getElem_mem _)) hx).1 this hc
theorem ins_perm {S : List Vt} {x : Vt} {a : Nat} {U : List Vt} (h : S.Perm U) : (S.take a ++ x :: S.drop a).Perm (U ++ [x]) := by
  have e : S = S.take a ++ S.drop a := (List.take_append_drop a S).symm
  refine List.perm_middle.trans ?_
  rw [← e]
  exact (h.cons x).trans (List.perm_append_singleton x U).symm
theorem shift_set {α : Type} (M : List α) (y : α) {k : Nat} (hk : 0 < k) (hl : k ≤ M.length) : (M.take k ++ y :: M.drop k).set k (M[k - 1]'(by omega)) = M.take (k - 1) ++ (M[k - 1]'(by omega)) :: M.drop (k - 1) := by
  have e1 : (M.take k).length = k := by rw [List.length_take]; omega
  rw [List.set_append_right _ _ (by omega), e1, Nat.sub_self, List.set_cons_zero]
  obtain ⟨j, rfl⟩ : ∃ j, k = j + 1 := ⟨k - 1, by omega⟩
  have e2 : M.take (j + 1) = M.take j ++ [M[j]] := by rw [List.take_add_one, List.getElem?_eq_getElem (by omega)]; rfl
  have e3 : M.drop j = M[j] :: M.drop (j + 1) := List.drop_eq_getElem_cons (by omega)
  simp only [Nat.add_sub_cancel]
  rw [← e3, e2, List.append_assoc]
  rfl
theorem shift_end {α : Type} (M : List α) (y x : α) {k : Nat} (hl : k ≤ M.length) : (M.take k ++ y :: M.drop k).set k x = M.take k ++ x :: M.drop k := by
  have e1 : (M.take k).length = k := by rw [List.length_take]; omega
  rw [List.set_append_right _ _ (by omega), e1, Nat.sub_self, List.set_cons_zero]
/-- Where the reference's Sort stands. -/
structure S3 (w wk : World) (vs : Value) (T S : List Vt) (M : List Vx) (i : Nat) : Prop where
  ow : OwnG KV wk w.heap.size vs M
  eq : aL M = S.map flV
  ea : ∀ x ∈ M, OwnG KA wk w.heap.size x.v x.a
  pm : S.Perm (T.take i)
  sr : Srt S
  bl : Below w.heap.size w wk
theorem S3.len {w wk : World} {vs : Value} {T S : List Vt} {M : List Vx} {i : Nat} (h : S3 w wk vs T S M i) : M.length = S.length := by rw [← aL_len M, h.eq, List.length_map]
theorem S3.below {w wk w' : World} {vs : Value} {T S : List Vt} {M : List Vx} {i : Nat} (h : S3 w wk vs T S M i) (b : Below wk.heap.size wk w') : S3 w w' vs T S M i := ⟨h.ow.below b, h.eq, fun x hx => (h.ea x hx).below b, h.pm, h.sr, h.bl.trans (b.mono h.bl.size)⟩
theorem S3.tree {w wk : World} {vs : Value} {T S : List Vt} {M : List Vx} {i : Nat} (h : S3 w wk vs T S M i) {k : Nat} (hk : k < M.length) (hk2 : k < S.length) : M[k].a = flV S[k] := by
  have e1 := aL_at hk
  rw [← e1]
  simp [h.eq]
/-- While a place is made. -/
structure S4 (w wk : World) (g n c : Nat) (M : List Vx) (k : Nat) : Prop where
  ow : ∃ y, OwnG KV wk w.heap.size (.slice (some ⟨g, 0, none⟩) n c) (M.take k ++ y :: M.drop k)
  ea : ∀ x ∈ M, OwnG KA wk w.heap.size x.v x.a
  bl : Below w.heap.size w wk
theorem S4.far {w wk : World} {g n c : Nat} {M : List Vx} {k : Nat} (h : S4 w wk g n c M k) {x : Value} {l : List Atm} (hx : OwnG KA wk w.heap.size x l) (o : Nat) (u : Value) : OwnG KA (wk.setCell ⟨g, o, none⟩ u) w.heap.size x l := by
  obtain ⟨y, hy⟩ := h.ow
  exact hx.far (fun b hb => Below.heap_setCell _ _ _ _ (fun e => hx.apart hy (by decide) (g := g) rfl (by rw [hb, e])))
theorem S4.at {w wk : World} {g n c : Nat} {M : List Vx} {k : Nat} (h : S4 w wk g n c M k) (hk : k ≤ M.length) : (∃ u, wk.cell? ⟨g, k, none⟩ = some u) ∧ (∀ o, wk.frozen? ⟨g, o, none⟩ = false) ∧ ∀ j (hm : j < M.length), j < k → wk.cell? ⟨g, j, none⟩ = some (.slice M[j].q M[j].a.length M[j].c) := by
  obtain ⟨y, hy⟩ := h.ow
  have e1 : (M.take k).length = k := by rw [List.length_take]; omega
  refine ⟨?_, own_frozen hy, fun j hm hj => ?_⟩
  · obtain ⟨X, o, e, z⟩ := (hy.gs KV_ok.len).atV (k := k) (by simp; omega)
    injection e with e
    injection e with a1 a2 _
    subst a1 a2
    rw [Nat.zero_add] at z
    exact ⟨_, z⟩
  · obtain ⟨X, o, e, z⟩ := (hy.gs KV_ok.len).atV (k := j) (by simp; omega)
    injection e with e
    injection e with a1 a2 _
    subst a1 a2
    rw [Nat.zero_add] at z
    have e2 : (M.take k ++ y :: M.drop k)[j]'(by simp; omega) = M[j] := by
      rw [List.getElem_append_left (by omega), List.getElem_take]
    rw [e2] at z
    exact z
theorem S4.next {w wk : World} {g n c : Nat} {M : List Vx} {k : Nat} (h : S4 w wk g n c M k) (hk : 0 < k) (hl : k ≤ M.length) : S4 w (wk.setCell ⟨g, k, none⟩ (.slice (M[k - 1]'(by omega)).q (M[k - 1]'(by omega)).a.length (M[k - 1]'(by omega)).c)) g n c M (k - 1) := by
  obtain ⟨y, hy⟩ := h.ow
  have o1 := hy.set1 (k := k) rfl KV_ok.len (M[k - 1]'(by omega)) _ rfl
  rw [shift_set M y hk hl] at o1
  exact ⟨⟨_, o1⟩, fun x hx => h.far (h.ea x hx) _ _, h.bl.setCell (show w.heap.size ≤ g from (hy.lt rfl).1) _⟩
theorem S4.below {w wk w' : World} {g n c : Nat} {M : List Vx} {k : Nat} (h : S4 w wk g n c M k) (b : Below wk.heap.size wk w') : S4 w w' g n c M k := by
  obtain ⟨y, hy⟩ := h.ow
  exact ⟨⟨y, hy.below b⟩, fun x hx => (h.ea x hx).below b, h.bl.trans (b.mono h.bl.size)⟩
theorem S4.start {w wk w8 : World} {vs : Value} {T S : List Vt} {M : List Vx} {i g c : Nat} (h : S3 w wk vs T S M i) (o : OwnG KV w8 w.heap.size (.slice (some ⟨g, 0, none⟩) (M.length + 1) c) (M ++ [zVx])) (b : Below w.heap.size wk w8) (k : ∀ j, j < wk.heap.size → some j ≠ vs.ownBlock → w8.heap[j]? = wk.heap[j]?) : S4 w w8 g (M.length + 1) c M M.length := by
  refine ⟨⟨zVx, by rw [List.take_length, List.drop_length]; exact o⟩, fun x hx => ?_, h.bl.trans b⟩
  exact (h.ea x hx).far (fun b hb => k b ((h.ea x hx).lt hb).2 (fun e => (h.ea x hx).apart h.ow (by decide) e.symm hb))
theorem S4.fin {w wk w9 : World} {vs : Value} {T S : List Vt} {M : List Vx} {i g n c a : Nat} {t : Vt} (h : S4 w w9 g n c M a) (h3 : S3 w wk vs T S M i) (ha : a ≤ M.length) {p : Option Addr} {pc : Nat} (ho : OwnG KA w9 w.heap.size (.slice p (flV t).length pc) (flV t)) (hT : T.take (i + 1) = T.take i ++ [t]) (l1 : ∀ u ∈ S.take a, cmpV u t ≤ 0) (l2 : ∀ j (hj : j < S.length), a ≤ j → 0 < cmpV S[j] t) :
    S3 w (w9.setCell ⟨g, a, none⟩ (.slice p (flV t).length pc)) (.slice (some ⟨g, 0, none⟩) n c) T (S.take a ++ t :: S.drop a) (M.take a ++ ⟨flV t, p, pc⟩ :: M.drop a) (i + 1) := by
  obtain ⟨y, hy⟩ := h.ow
  have o1 := hy.set1 (k := a) rfl KV_ok.len (⟨flV t, p, pc⟩ : Vx) _ rfl
  rw [shift_end M y _ ha] at o1
  refine ⟨o1, ?_, fun x hx => ?_, by rw [hT]; exact ins_perm h3.pm, srt_ins h3.sr l1 (fun u hu => ?_), h.bl.setCell (show w.heap.size ≤ g from (hy.lt rfl).1) _⟩
  · have e := h3.eq
    unfold aL at e ⊢
    rw [List.map_append, List.map_append, List.map_cons, List.map_cons, List.map_take, List.map_drop, List.map_take, List.map_drop, e]
  · rcases List.mem_append.1 hx with hx | hx
    · exact h.far (h.ea x (List.mem_of_mem_take hx)) _ _
    · rcases List.mem_cons.1 hx with rfl | hx
      · exact h.far ho _ _
      · exact h.far (h.ea x (List.mem_of_mem_drop hx)) _ _
  · obtain ⟨j, hj, e⟩ := List.mem_iff_getElem.1 hu
    rw [List.length_drop] at hj
    rw [List.getElem_drop] at e
    have := l2 (a + j) (by omega) (by omega)
    rw [e] at this
    have := cmpV_anti t u
    omega
end Go.Proofs.YtahcllncjpaijabDoor
namespace Go.Proofs.YtahcllncjpaijabDoor
open Go.RowKit

end Go.Proofs.YtahcllncjpaijabDoor
