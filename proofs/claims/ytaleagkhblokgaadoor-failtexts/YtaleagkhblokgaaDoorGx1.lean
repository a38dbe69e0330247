/- Failures: rows of failures; a failure written over. -/
import Derived.Test.YtaleagkhblokgaaDoorFx16
import Derived.Test.YtaleagkhblokgaaDoorFx10
namespace Go.Proofs.YtaleagkhblokgaaDoor
open Go.RowKit

def frA (A : List (Int × List Int)) (x : Int) : Int := (A.getD x.toNat (0, [])).1
/-- Each ends right ahead of where the next one begins, the last one right ahead of e. -/
def CHN (f : Int → Int) (D : List Int) (e : Int) : Prop := (∀ j, j + 1 < D.length → D.getD j 0 = f (D.getD (j + 1) 0) - 1) ∧ (0 < D.length → D.getD (D.length - 1) 0 = e - 1)
theorem getD_mem {D : List Int} {j : Nat} (h : j < D.length) : D.getD j 0 ∈ D := mem_getD h
theorem CHN.congr {f g : Int → Int} {D : List Int} {e : Int} (h : CHN f D e) (k : ∀ x ∈ D, f x = g x) : CHN g D e :=
  ⟨fun j hj => by rw [h.1 j hj, k _ (getD_mem hj)], h.2⟩
theorem CHN.drop {f : Int → Int} {D : List Int} {e : Int} (h : CHN f D e) (J : Nat) : CHN f (D.drop J) e := by
  refine ⟨fun j hj => ?_, fun hj => ?_⟩
  · rw [List.length_drop] at hj
    have e1 : (D.drop J).getD j 0 = D.getD (J + j) 0 := by simp [List.getD]
    have e2 : (D.drop J).getD (j + 1) 0 = D.getD (J + j + 1) 0 := by simp [List.getD, Nat.add_assoc]
    rw [e1, e2]; exact h.1 (J + j) (by omega)
  · rw [List.length_drop] at hj ⊢
    have e1 : (D.drop J).getD (D.length - J - 1) 0 = D.getD (J + (D.length - J - 1)) 0 := by simp [List.getD]
    rw [e1, show J + (D.length - J - 1) = D.length - 1 by omega]; exact h.2 (by omega)
theorem CHN.push {f : Int → Int} {D : List Int} {e i : Int} (h : CHN f D e) {J : Nat} (hJ : J ≤ D.length) (hf : 0 < J → D.getD (J - 1) 0 = f i - 1) : CHN f (D.take J ++ [i]) (i + 1) := by
  have hl : (D.take J).length = J := by rw [List.length_take]; omega
  have ge : ∀ j, j < J → (D.take J ++ [i]).getD j 0 = D.getD j 0 := fun j hj => by
    rw [List.getD_eq_getElem?_getD, List.getD_eq_getElem?_getD, List.getElem?_append_left (by omega), List.getElem?_take_of_lt hj]
  have gl : (D.take J ++ [i]).getD J 0 = i := by
    rw [List.getD_eq_getElem?_getD, List.getElem?_append_right (by omega)]; simp [hl]
  refine ⟨fun j hj => ?_, fun _ => ?_⟩
  · rw [List.length_append, hl, List.length_singleton] at hj
    by_cases hj2 : j + 1 < J
    · rw [ge j (by omega), ge (j + 1) hj2]; exact h.1 j (by omega)
    · have : J = j + 1 := by omega
      subst this
      rw [ge j (by omega), gl]; exact hf (by omega)
  · rw [List.length_append, hl, List.length_singleton, Nat.add_sub_cancel, gl]; omega
structure PI (l0 : List Cr) (i : Nat) (E : List Int) (A : List (Int × List Int)) : Prop where
  la : A.length = i
  me : ∀ x ∈ E, 0 ≤ x ∧ x < i
  ce : CHN (frA A) E i
  pa : ∀ j, j < i → ∃ c, l0[j]? = some c ∧ ((A.getD j (0, [])).2.length : Int) = c.n ∧ CHN (frA A) (A.getD j (0, [])).2 j ∧ ∀ x ∈ (A.getD j (0, [])).2, 0 ≤ x ∧ x < j
theorem frA_old {A : List (Int × List Int)} {a : Int × List Int} {x : Int} (h : x.toNat < A.length) : frA (A ++ [a]) x = frA A x := by
  unfold frA; simp [List.getD, List.getElem?_append_left h]
theorem getD_old {A : List (Int × List Int)} {a : Int × List Int} {j : Nat} (h : j < A.length) : (A ++ [a]).getD j (0, []) = A.getD j (0, []) := by
  simp [List.getD, List.getElem?_append_left h]
theorem PI.next {l0 : List Cr} {i : Nat} {E : List Int} {A : List (Int × List Int)} {c : Cr} (h : PI l0 i E A) (hc : l0[i]? = some c) (hn : 0 ≤ c.n) (hE : c.n ≤ E.length) :
    PI l0 (i + 1) (E.take (E.length - c.n.toNat) ++ [(i : Int)]) (A ++ [(if 0 < c.n then (A.getD (E.getD (E.length - c.n.toNat) 0).toNat (0, [])).1 else (i : Int), E.drop (E.length - c.n.toNat))]) := by
  obtain ⟨b, hb⟩ : ∃ b, b = (if 0 < c.n then (A.getD (E.getD (E.length - c.n.toNat) 0).toNat (0, [])).1 else (i : Int)) := ⟨_, rfl⟩
  rw [← hb]
  obtain ⟨J, hJ⟩ : ∃ J, J = E.length - c.n.toNat := ⟨_, rfl⟩
  rw [← hJ] at hb ⊢
  have old : ∀ x ∈ E, frA (A ++ [(b, E.drop J)]) x = frA A x := fun x hx => frA_old (by have := h.me x hx; have := h.la; omega)
  have new : frA (A ++ [(b, E.drop J)]) (i : Int) = b := by unfold frA; simp [List.getD, ← h.la]
  refine ⟨by simp [h.la], fun x hx => ?_, ?_, fun j hj => ?_⟩
  · rw [List.mem_append, List.mem_singleton] at hx
    rcases hx with hx | hx
    · have := h.me x (List.mem_of_mem_take hx); omega
    · omega
  · have := (h.ce.congr (fun x hx => (old x hx).symm)).push (i := (i : Int)) (J := J) (by omega) (fun hJ0 => by
      rw [new, hb]
      by_cases hp : 0 < c.n
      · rw [if_pos hp]
        have := h.ce.1 (J - 1) (by omega)
        rw [show J - 1 + 1 = J by omega] at this
        exact this
      · rw [if_neg hp]
        have : J = E.length := by omega
        rw [this]; exact h.ce.2 (by omega))
    simpa using this
  · by_cases hji : j < i
    · rw [getD_old (by rw [h.la]; exact hji)]
      obtain ⟨c', h1, h2, h3, h4⟩ := h.pa j hji
      exact ⟨c', h1, h2, h3.congr (fun x hx => (frA_old (by have := h4 x hx; have := h.la; omega)).symm), h4⟩
    · have : j = i := by omega
      subst this
      have e : (A ++ [(b, E.drop J)]).getD j (0, []) = (b, E.drop J) := by simp [List.getD, ← h.la]
      rw [e]
      refine ⟨c, hc, by simp; omega, (h.ce.drop J).congr (fun x hx => (old x (List.mem_of_mem_drop hx)).symm), fun x hx => h.me x (List.mem_of_mem_drop hx)⟩
theorem whS_PI : ∀ (r : List Cr) (l0 : List Cr) (i : Nat) (E : List Int) (A : List (Int × List Int)) (t : Int), PI l0 i E A → l0.drop i = r → walkC E.length r = some t → ∃ E', PI l0 l0.length E' (whS i E A r)
  | [], l0, i, E, A, t, h, hr, _ => by
    have : i = l0.length ∨ l0.length < i := by have := List.drop_eq_nil_iff.1 hr; omega
    rcases this with e | e
    · subst e; exact ⟨E, by rw [whS]; exact h⟩
    · obtain ⟨c, h1, _⟩ := h.pa l0.length e
      simp at h1
  | c :: r, l0, i, E, A, t, h, hr, hw => by
    obtain ⟨⟨hcb, hcn⟩, hwn⟩ := walk_step hw
    obtain ⟨hn0, hn1⟩ := crB_n hcb
    have hc : l0[i]? = some c := by
      have := congrArg (·[0]?) hr
      simpa using this
    rw [whS]
    refine whS_PI r l0 (i + 1) _ _ t (h.next hc hn0 hcn) ?_ ?_
    · rw [← List.drop_drop, hr]; rfl
    · rw [← hwn]; congr 1; simp; omega
theorem whA_PI {l : List Cr} (h : chk l = 0) : ∃ E', PI l l.length E' (whA l) := by
  obtain ⟨_, hw⟩ := chk_ok h
  exact whS_PI l l 0 [] [] 1 ⟨rfl, fun x hx => by simp at hx, ⟨fun j hj => by simp at hj, fun hj => by simp at hj⟩, fun j hj => by omega⟩ (by simp) hw
theorem beg_wh : ∀ (r : List Cr) (i : Nat) (S E : List Int) (A : List (Int × List Int)) (q : List Int × List Int), A.length = i → (∀ x ∈ E, 0 ≤ x ∧ x < i) → S = E.map (frA A) → begS i S r = some q → (whS i E A r).map (·.1) = A.map (·.1) ++ q.1
  | [], i, S, E, A, q, _, _, _, h => by
    rw [begS] at h; injection h with h; subst h; rw [whS]; simp
  | c :: r, i, S, E, A, q, hA, hE, hS, h => by
    rw [begS] at h
    split at h
    · rename_i hc
      obtain ⟨q', hq', rfl⟩ := Option.map_eq_some_iff.1 h
      have hn := crR_n hc.1
      have hl : S.length = E.length := by rw [hS]; simp
      obtain ⟨b, hb⟩ : ∃ b, b = (if 0 < c.n then (A.getD (E.getD (E.length - c.n.toNat) 0).toNat (0, [])).1 else (i : Int)) := ⟨_, rfl⟩
      have hb2 : (if 0 < c.n then S.getD (S.length - c.n.toNat) 0 else (i : Int)) = b := by
        rw [hb, hl]
        by_cases hp : 0 < c.n
        · rw [if_pos hp, if_pos hp, hS]
          have hlt : E.length - c.n.toNat < E.length := by have := hc.2; omega
          simp [List.getD, frA, List.getElem?_eq_getElem hlt]
        · rw [if_neg hp, if_neg hp]
      rw [whS, ← hb]
      rw [hb2] at hq'
      have ih := beg_wh r (i + 1) (S.take (S.length - c.n.toNat) ++ [b]) (E.take (E.length - c.n.toNat) ++ [(i : Int)]) (A ++ [(b, E.drop (E.length - c.n.toNat))]) q' (by simp [hA]) (fun x hx => by
        rw [List.mem_append, List.mem_singleton] at hx
        rcases hx with hx | hx
        · have := hE x (List.mem_of_mem_take hx); omega
        · omega) (by
        rw [hl, hS, List.map_append, ← List.map_take, List.map_singleton]
        congr 1
        · refine List.map_congr_left (fun x hx => (frA_old ?_).symm)
          have := hE x (List.mem_of_mem_take hx); omega
        · unfold frA; simp [List.getD, ← hA]) hq'
      rw [ih, hb2]; simp
    · cases h
/-- Where each whole begins, by the reference's count, is where the wholes say. -/
theorem beg_whA {l : List Cr} {q : List Int × List Int} (h : begS 0 [] l = some q) : q.1 = (whA l).map (·.1) := by
  have := beg_wh l 0 [] [] [] q rfl (fun x hx => by simp at hx) rfl h
  unfold whA; rw [this]; simp
end Go.Proofs.YtaleagkhblokgaaDoor
namespace Go.Proofs.YtaleagkhblokgaaDoor
open Go.RowKit

theorem CS.blk {w w' : World} {v : Value} {l : List Cr} (h : CS w v l) (hs : w.heap.size ≤ w'.heap.size) (k : ∀ x, v.ownBlock = some x → x < w.heap.size → w'.heap[x]? = w.heap[x]?) : CS w' v l := by
  rcases h with h | ⟨X, o, cap, rfl, hX, hcp, hc⟩
  · exact Or.inl h
  · have kb : w'.heap[X]? = w.heap[X]? := k X rfl hX
    refine Or.inr ⟨X, o, cap, rfl, by omega, hcp, fun i hi => ?_⟩
    obtain ⟨c1, c2, c3⟩ := hc i hi
    exact ⟨(World.cell?_of_block (w := w) (a := ⟨X, _, none⟩) kb).trans c1, (World.cell?_of_block (w := w) (a := ⟨X, _, none⟩) kb).trans c2, (World.cell?_of_block (w := w) (a := ⟨X, _, none⟩) kb).trans c3⟩
/-- The slice reads as these failures. -/
def FS (w : World) (v : Value) (ll : List (List Cr)) : Prop := ∃ p cap, v = .slice p ll.length cap ∧ ll.length ≤ cap ∧ ∀ k (h : k < ll.length), ∃ X o u, p = some ⟨X, o, none⟩ ∧ X < w.heap.size ∧ w.cell? ⟨X, o + k, none⟩ = some u ∧ CS w u ll[k]
theorem FS.form {w : World} {v : Value} {ll : List (List Cr)} (h : FS w v ll) : ∃ p cap, v = .slice p ll.length cap := by
  obtain ⟨p, cap, rfl, _⟩ := h; exact ⟨p, cap, rfl⟩
theorem FS.below {w w' : World} {v : Value} {ll : List (List Cr)} (h : FS w v ll) (b : Below w.heap.size w w') : FS w' v ll := by
  obtain ⟨p, cap, rfl, hcp, h⟩ := h
  refine ⟨p, cap, rfl, hcp, fun k hk => ?_⟩
  obtain ⟨X, o, u, e, hX, hc, hs⟩ := h k hk
  exact ⟨X, o, u, e, Nat.lt_of_lt_of_le hX b.size, (b.cell (p := ⟨X, o + k, none⟩) hX).trans hc, hs.below b⟩
theorem FS.at {w : World} {p : Option Addr} {n cap : Nat} {ll : List (List Cr)} (h : FS w (.slice p n cap) ll) {k : Nat} (hk : k < ll.length) : ∃ X o pu cu, p = some ⟨X, o, none⟩ ∧ X < w.heap.size ∧ w.cell? ⟨X, o + k, none⟩ = some (.slice pu ll[k].length cu) ∧ CS w (.slice pu ll[k].length cu) ll[k] := by
  obtain ⟨p', cap', e, _, h⟩ := h
  injection e with e1 _ _
  subst e1
  obtain ⟨X, o, u, e, hX, hc, hs⟩ := h k hk
  obtain ⟨pu, cu, rfl⟩ := hs.form
  exact ⟨X, o, pu, cu, e, hX, hc, hs⟩
theorem info_fl : (Tryd.prog.info? 23).map (fun i => (i.zero, i.size, i.bytes)) = some (some (.slice none 0 0), 1, 24) := by kernel_rfl
/-- The slice owns a row of these slices. -/
def OwnS (w : World) (base : Nat) (v : Value) (us : List Value) : Prop := w.ownsRow base 23 1 v us.length us
theorem OwnS.far {w w' : World} {base : Nat} {v : Value} {l : List Value} (h : OwnS w base v l) (k : ∀ g, v.ownBlock = some g → w'.heap[g]? = w.heap[g]?) : OwnS w' base v l := by
  obtain ⟨h1, h2⟩ := h
  refine ⟨h1, ?_⟩
  rcases h2 with h2 | ⟨g, cap, cur, e1, e2, e3, e4⟩
  · exact Or.inl h2
  · exact Or.inr ⟨g, cap, cur, e1, e2, by rw [k g (by rw [e1]; rfl)]; exact e3, e4⟩
theorem OwnS.below {w : World} {base : Nat} {v : Value} {l : List Value} (h : OwnS w base v l) {w' : World} (k : Below w.heap.size w w') : OwnS w' base v l :=
  h.far (fun g hg => k.block g (World.ownsRow.lt h g hg).2)
theorem OwnS.low {w : World} {base base' : Nat} {v : Value} {l : List Value} (h : OwnS w base v l) (hb : base' ≤ base) : OwnS w base' v l := by
  obtain ⟨h1, h2⟩ := h
  refine ⟨h1, ?_⟩
  rcases h2 with h2 | ⟨g, cap, cur, e1, e2, e3⟩
  · exact Or.inl h2
  · exact Or.inr ⟨g, cap, cur, e1, Nat.le_trans hb e2, e3⟩
theorem ownS_empty (w : World) : OwnS (w.alloc (.cells #[] 23)) w.heap.size (.slice (some ⟨w.heap.size, 0, none⟩) 0 0) [] :=
  ⟨rfl, Or.inr ⟨w.heap.size, 0, #[], rfl, Nat.le_refl _, heap_alloc_new w _, Nat.le_refl _, Nat.zero_le _, rfl, rfl⟩⟩
theorem OwnS.form {w : World} {base : Nat} {v : Value} {l : List Value} (h : OwnS w base v l) : ∃ p cap, v = .slice p l.length cap ∧ l.length ≤ cap := by
  rcases h.2 with ⟨e, e2⟩ | ⟨g, cap, cur, e, _, _, hcp, _⟩
  · exact ⟨none, 0, by rw [e2]; exact e, by omega⟩
  · exact ⟨_, cap, e, hcp⟩
/-- A row whose members read as failures is a row of these failures. -/
theorem OwnS.fs {w : World} {base : Nat} {v : Value} {us : List Value} {ll : List (List Cr)} (h : OwnS w base v us) (hl : us.length = ll.length) (hc : ∀ k (h1 : k < us.length) (h2 : k < ll.length), CS w us[k] ll[k]) : FS w v ll := by
  have h0 := h
  rcases h.2 with ⟨e, e2⟩ | ⟨g, cap, cur, e, _, _, hcp, _⟩
  · refine ⟨none, 0, by rw [← hl, e2]; exact e, by omega, fun k hk => by omega⟩
  · subst e
    refine ⟨_, cap, by rw [hl], by omega, fun k hk => ⟨g, 0, us[k], rfl, (World.ownsRow.lt h0 g rfl).2, ?_, hc k (by omega) hk⟩⟩
    rw [Nat.zero_add]
    exact (World.ownsRow.cellAt h0 k (by omega)).trans (List.getElem?_eq_getElem (by omega))
theorem append_sv {P : Program} {ops : Array Oper} {rest : List Oper} {o : Oper} {a : Act} {Q : Exit → Act → World → Prop} (hgd : o.guard = none) (s x : Operand) (t : TypeId)
    (ho : o.op = .call { callee := .builtin .append, args := #[s, x], argTypes := #[t, t] })
    (base : Nat) (ht : P.underlying t = some (.slice 23)) (hi : (P.info? 23).map (fun i => (i.zero, i.size, i.bytes)) = some (some (.slice none 0 0), 1, 24))
    (w0 : World) (cells : Array Value) (tc : TypeId) (v : Value) (l : List Value) (pu : Option Addr) (nu cu : Nat) (c : Nat) (hs : a.eval s = v) (hown : OwnS w0 base v l) (b : Nat) (hb : w0.heap.size = b)
    (hx : a.eval x = .slice (some ⟨b, 0, none⟩) 1 c) (hc : cells.toList = [.slice pu nu cu])
    (hlen : (l.length + 1) * 24 ≤ 140737488355328) (hbase : base ≤ w0.heap.size)
    (h : ∀ g cap w', OwnS w' base (.slice (some ⟨g, 0, none⟩) (l.length + 1) cap) (l ++ [.slice pu nu cu]) → Below base w0 w' → (∀ k, k < w0.heap.size → some k ≠ v.ownBlock → w'.heap[k]? = w0.heap[k]?) → (v.ownBlock = some g ∨ w0.heap.size ≤ g) → wpList P ops Q rest (a.put o.dst (.slice (some ⟨g, 0, none⟩) (l.length + 1) cap)) w') : wpList P ops Q (o :: rest) a (w0.alloc (.cells cells tc)) := by
  subst hb
  obtain ⟨i0, hi0, hz0, hz1, hz2⟩ := info_parts hi
  have hown2 : (w0.alloc (.cells cells tc)).ownsRow base 23 1 v l.length l := World.ownsRow.alloc hown _
  have one : ∀ u ∈ [Value.slice pu nu cu], u.oneCell' = true := fun u hu => by simp at hu; subst hu; rfl
  refine wpList_append_lies _ hgd s x t ho base 23 i0 (.slice none 0 0) 1 24 ht hi0 hz0 hz1 hz2 rfl (by decide) v l.length l hs hown2 ⟨w0.heap.size, 0, none⟩ 1 c [.slice pu nu cu] hx rfl (news_at w0 cells tc _ hc) one
    (by decide) (by unfold maxLen; omega) (by omega) (by simp; omega) _ rfl ?_
  intro g cap w' ho' hg hgg _
  have hgb : Below base w0 w' := ((Below.refl base w0).alloc hbase _).grown hg (by simp; omega) (fun q hq => (hown2.lt q hq).1)
  refine h g cap w' ?_ hgb ?_ ?_
  · unfold OwnS
    rw [List.length_append]
    simpa using ho'
  · intro k hk hne
    rw [hg.block k (by simp; omega) hne]
    exact Below.heap_alloc w0 _ k hk
  · rcases hgg with hgg | hgg
    · exact Or.inl hgg
    · right; rw [hgg]; simp
/-- A block of n cracks. -/
def RB (w : World) (g n : Nat) : Prop := ∃ cur, w.heap[g]? = some (.cells cur 55) ∧ cur.size = n * 3
theorem RB.cell {w : World} {g n : Nat} (h : RB w g n) {o : Nat} (ho : o < n * 3) : ∃ v, w.cell? ⟨g, o, none⟩ = some v := by
  obtain ⟨cur, h1, h2⟩ := h
  exact ⟨cur[o]'(by omega), cell_of_row _ _ _ _ _ _ h1 |>.trans (by simp [h2, ho])⟩
theorem RB.frozen {w : World} {g n : Nat} (h : RB w g n) (o : Nat) : w.frozen? ⟨g, o, none⟩ = false := by
  obtain ⟨cur, h1, h2⟩ := h
  simp [World.frozen?, h1]
theorem RB.set {w : World} {g n : Nat} (h : RB w g n) (o : Nat) (v : Value) : RB (w.setCell ⟨g, o, none⟩ v) g n := by
  obtain ⟨cur, h1, h2⟩ := h
  exact ⟨cur.setIfInBounds o v, heap_setCell_same w g o cur _ v h1, by simpa using h2⟩
/-- All but one block as it was. -/
structure KB (g : Option Nat) (a b : World) : Prop where
  os : b.os = a.os
  tape : b.tape = a.tape
  output : b.output = a.output
  size : b.heap.size = a.heap.size
  block : ∀ j, some j ≠ g → b.heap[j]? = a.heap[j]?
theorem KB.refl (g : Option Nat) (a : World) : KB g a a := ⟨rfl, rfl, rfl, rfl, fun _ _ => rfl⟩
theorem KB.set {g : Nat} {a b : World} (h : KB (some g) a b) (o : Nat) (v : Value) : KB (some g) a (b.setCell ⟨g, o, none⟩ v) :=
  ⟨h.os, h.tape, h.output, by simpa [World.setCell] using h.size, fun j hj => (Below.heap_setCell _ _ _ _ (fun e => hj (by rw [e]))).trans (h.block j hj)⟩
theorem KB.below {g : Option Nat} {a b : World} (h : KB g a b) {N : Nat} (hN : ∀ x, g = some x → N ≤ x) : Below N a b :=
  ⟨h.os, h.tape, h.output, by rw [h.size]; exact Nat.le_refl _, fun j hj => h.block j (fun e => by have := hN j e.symm; omega)⟩
theorem KB.trans {g : Option Nat} {a b c : World} (h : KB g a b) (k : KB g b c) : KB g a c :=
  ⟨k.os.trans h.os, k.tape.trans h.tape, k.output.trans h.output, k.size.trans h.size, fun j hj => (k.block j hj).trans (h.block j hj)⟩
set_option maxHeartbeats 4000000 in
set_option maxRecDepth 100000 in
theorem spoil_own (w : World) (base : Nat) (v : Value) (l : List Cr) (h : OwnC w base v l) :
    Calls Tryd.prog 16 #[v] w fun e w' => e = .returned (.tuple #[]) ∧ KB v.ownBlock w w' := by
  rcases h.2 with ⟨rfl, e⟩ | ⟨g, cap, cur, rfl, hb, hg, hcp, hmx, hcs, _⟩
  · clear h
    go_enter Tryd.func16, Tryd.ntmps16
    go_wp2
    go_loop [2] (fun a => a = .int .i64 0) (fun _ => 0)
    case atStart => exact rfl
    case round =>
      obtain rfl := hrel
      go_wp2
      go_end0
      exact ⟨rfl, KB.refl _ _⟩
  · have R0 : Hid (RB w g cap) := ⟨cur, hg, hcs⟩
    have hmx2 : cap ≤ 9223372036854775807 := by unfold maxLen at hmx; omega
    clear h hg hcs hmx
    go_enter Tryd.func16, Tryd.ntmps16
    go_wp2
    go_loopw [2] (fun v2 wr => ∃ (k : Nat) (wk : World), v2 = .int .i64 k ∧ wk = wr ∧ k ≤ cap ∧ Hid (RB wk g cap) ∧ Hid (KB (some g) w wk)) (fun v2 _ => cap - (intOf v2).toNat)
    case atStart => exact ⟨0, _, rfl, rfl, Nat.zero_le _, R0, KB.refl _ _⟩
    case round =>
      obtain ⟨k, wr, rfl, rfl, hk, HR, HK⟩ := hrel
      clear R0
      by_cases hlt : k < cap
      · obtain ⟨z0, hz0⟩ := HR.out.cell (o := k * 3) (by omega)
        obtain ⟨z1, hz1⟩ := HR.out.cell (o := k * 3 + 1) (by omega)
        obtain ⟨z2, hz2⟩ := HR.out.cell (o := k * 3 + 2) (by omega)
        have f0 := HR.out.frozen (k * 3)
        have f1 := HR.out.frozen (k * 3 + 1)
        have f2 := HR.out.frozen (k * 3 + 2)
        have hz1' : ∀ v, (wr.setCell ⟨g, k * 3, none⟩ v).cell? ⟨g, k * 3 + 1, none⟩ = some z1 := fun v => (World.cell?_setCell_other _ _ _ _ (by intro e; injection e with _ e2 _; omega)).trans hz1
        have hz2' : ∀ v u, ((wr.setCell ⟨g, k * 3, none⟩ v).setCell ⟨g, k * 3 + 1, none⟩ u).cell? ⟨g, k * 3 + 2, none⟩ = some z2 := fun v u => (World.cell?_setCell_other _ _ _ _ (by intro e; injection e with _ e2 _; omega)).trans ((World.cell?_setCell_other _ _ _ _ (by intro e; injection e with _ e2 _; omega)).trans hz2)
        have f1' : ∀ v, (wr.setCell ⟨g, k * 3, none⟩ v).frozen? ⟨g, k * 3 + 1, none⟩ = false := fun v => (HR.out.set _ v).frozen _
        have f2' : ∀ v u, ((wr.setCell ⟨g, k * 3, none⟩ v).setCell ⟨g, k * 3 + 1, none⟩ u).frozen? ⟨g, k * 3 + 2, none⟩ = false := fun v u => ((HR.out.set _ v).set _ u).frozen _
        have NX : Hid (∀ x y z, RB (((wr.setCell ⟨g, k * 3, none⟩ x).setCell ⟨g, k * 3 + 1, none⟩ y).setCell ⟨g, k * 3 + 2, none⟩ z) g cap ∧ KB (some g) w (((wr.setCell ⟨g, k * 3, none⟩ x).setCell ⟨g, k * 3 + 1, none⟩ y).setCell ⟨g, k * 3 + 2, none⟩ z)) := fun x y z => ⟨((HR.out.set _ x).set _ y).set _ z, ((HK.out.set _ x).set _ y).set _ z⟩
        go_wp2
        go_roundw
        case rel => exact ⟨k + 1, _, by go_num, rfl, by omega, (NX.out _ _ _).1, (NX.out _ _ _).2⟩
        case measure => simp [intOf]; omega
      · go_wp2
        go_end0
        exact ⟨rfl, HK.out⟩
end Go.Proofs.YtaleagkhblokgaaDoor
