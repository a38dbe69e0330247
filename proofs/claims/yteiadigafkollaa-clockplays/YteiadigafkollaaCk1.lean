/- Plain: what the queue's calls do to the timers, as a list in order. -/
import Derived.Test.YteiadigafkollaaRw5
namespace Go.Proofs.Yteiadigafkollaa
open Go.Sort

theorem tlt_total {a b : Tm} (hn : a.num ≠ b.num) (h : tlt a b = false) : tlt b a = true := by
  rw [tlt_niff] at h; rw [tlt_iff]; omega
theorem tlt_trans {a b c : Tm} (h : tlt a b = true) (k : tlt b c = true) : tlt a c = true := tlt_swo.trans _ _ _ h k

/-- With a timer in its place. -/
def ins (t : Tm) : List Tm → List Tm
  | [] => [t]
  | x :: r => if tlt t x then t :: x :: r else x :: ins t r
/-- But for the one of a number. -/
def del (n : Int) (l : List Tm) : List Tm := l.filter fun x => decide (x.num ≠ n)
theorem ins_perm (t : Tm) : ∀ l, (ins t l).Perm (t :: l)
  | [] => List.Perm.refl _
  | x :: r => by
    rw [ins]; split
    · exact List.Perm.refl _
    · exact ((ins_perm t r).cons x).trans (List.Perm.swap t x r)
theorem ins_len (t : Tm) (l : List Tm) : (ins t l).length = l.length + 1 := by rw [(ins_perm t l).length_eq]; rfl
theorem mem_ins {t x : Tm} {l : List Tm} : x ∈ ins t l ↔ x = t ∨ x ∈ l := by rw [(ins_perm t l).mem_iff]; simp
/-- In order, and no number twice. -/
structure Srt (l : List Tm) : Prop where
  ord : l.Pairwise fun a b => tlt a b = true
  num : l.Pairwise fun a b => a.num ≠ b.num
theorem Srt.nil : Srt [] := ⟨List.Pairwise.nil, List.Pairwise.nil⟩
theorem Srt.tail {x : Tm} {l : List Tm} (h : Srt (x :: l)) : Srt l := ⟨(List.pairwise_cons.1 h.ord).2, (List.pairwise_cons.1 h.num).2⟩
theorem num_perm {l m : List Tm} (h : l.Perm m) (hl : l.Pairwise fun a b => a.num ≠ b.num) : m.Pairwise fun a b => a.num ≠ b.num :=
  (h.pairwise_iff (fun {_ _} h => h.symm)).1 hl
theorem Srt.ins {t : Tm} {l : List Tm} (h : Srt l) (hn : ∀ x ∈ l, x.num ≠ t.num) : Srt (ins t l) := by
  refine ⟨?_, num_perm (ins_perm t l).symm (List.pairwise_cons.2 ⟨fun x hx => (hn x hx).symm, h.num⟩)⟩
  have ho := h.ord
  clear h
  induction l with
  | nil => exact List.pairwise_singleton _ _
  | cons x r ih =>
    obtain ⟨h1, h2⟩ := List.pairwise_cons.1 ho
    rw [Go.Proofs.Yteiadigafkollaa.ins]
    cases hx : tlt t x with
    | true =>
      rw [if_pos rfl]
      refine List.pairwise_cons.2 ⟨fun y hy => ?_, ho⟩
      rcases List.mem_cons.1 hy with rfl | hy
      · exact hx
      · exact tlt_trans hx (h1 y hy)
    | false =>
      rw [if_neg (by simp)]
      refine List.pairwise_cons.2 ⟨fun y hy => ?_, ih (fun y hy => hn y (List.mem_cons_of_mem _ hy)) h2⟩
      rcases mem_ins.1 hy with rfl | hy
      · exact tlt_total (hn x (List.mem_cons_self ..)).symm hx
      · exact h1 y hy
theorem Srt.del {n : Int} {l : List Tm} (h : Srt l) : Srt (del n l) := ⟨h.ord.filter _, h.num.filter _⟩
/-- There is one order. -/
theorem sorted_one : ∀ (l m : List Tm), l.Perm m → (l.Pairwise fun a b => tlt a b = true) → (m.Pairwise fun a b => tlt a b = true) → l = m
  | [], m, h, _, _ => by have := h.length_eq; exact (List.length_eq_zero_iff.1 this.symm).symm
  | x :: l, [], h, _, _ => by have := h.length_eq; simp at this
  | x :: l, y :: m, h, h1, h2 => by
    obtain ⟨a1, a2⟩ := List.pairwise_cons.1 h1
    obtain ⟨b1, b2⟩ := List.pairwise_cons.1 h2
    have e : x = y := by
      have hx : x ∈ y :: m := h.mem_iff.1 (List.mem_cons_self ..)
      have hy : y ∈ x :: l := h.mem_iff.2 (List.mem_cons_self ..)
      rcases List.mem_cons.1 hx with e | hx
      · exact e
      · rcases List.mem_cons.1 hy with e | hy
        · exact e.symm
        · have := tlt_trans (b1 x hx) (a1 y hy)
          rw [tlt_swo.irrefl] at this; cases this
    subst e
    rw [sorted_one l m (List.perm_cons x |>.1 h) a2 b2]
theorem del_of {x : Tm} {l r : List Tm} (hl : l.Pairwise fun a b => a.num ≠ b.num) (h : l.Perm (x :: r)) : r.Perm (del x.num l) := by
  have h1 := num_perm h hl
  obtain ⟨c1, c2⟩ := List.pairwise_cons.1 h1
  have h2 : (del x.num l).Perm (del x.num (x :: r)) := h.filter _
  have h3 : del x.num (x :: r) = r := by
    unfold del
    rw [List.filter_cons, if_neg (by simp)]
    exact List.filter_eq_self.2 fun y hy => by have := c1 y hy; simp; exact fun e => this e.symm
  rw [h3] at h2
  exact h2.symm
theorem get_mem {d : Array Tm} {i : Nat} (h : i < d.size) : d[i]! ∈ d.toList := by rw [getElem!_pos d i h]; exact Array.getElem_mem_toList h

theorem cons_erase_perm {α : Type} : ∀ {l : List α} {n : Nat} (h : n < l.length), (l[n] :: l.eraseIdx n).Perm l
  | [], n, h => by simp at h
  | x :: l, 0, h => List.Perm.refl _
  | x :: l, n + 1, h => by
    have := cons_erase_perm (l := l) (n := n) (by simpa using h)
    simp only [List.getElem_cons_succ, List.eraseIdx_cons_succ]
    exact (List.Perm.swap _ _ _).trans (this.cons x)
/-! What the heap's calls do. -/
theorem push_get {d : Array Tm} {t : Tm} {k : Nat} (h : k < d.size) : (d.push t)[k]! = d[k]! := by
  rw [getElem!_pos _ k (by simp; omega), getElem!_pos d k h, Array.getElem_push_lt h]
theorem add_ok {d : Array Tm} (h : Heap tlt d.size d) (t : Tm) : Heap tlt (hUp tlt d.size (d.push t)).size (hUp tlt d.size (d.push t)) ∧ (hUp tlt d.size (d.push t)).toList.Perm (t :: d.toList) := by
  have hs : (hUp tlt d.size (d.push t)).size = d.size + 1 := by rw [hUp_size]; simp
  constructor
  · rw [hs]
    refine heap_up tlt_swo (d.size + 1) d.size (d.push t) (by omega) (by simp) ⟨fun k hk hkn hne => ?_, fun k hk hkn he h0 => by omega⟩
    rw [push_get (by omega), push_get (by omega)]
    exact h k hk (by omega)
  · refine (hUp_perm d.size (d.push t) (by simp)).trans ?_
    rw [Array.toList_push]
    exact List.perm_append_singleton _ _
theorem hFix_ok {n i : Nat} {d : Array Tm} (hi : i < n) (hn : n ≤ d.size) (h : HeapDn tlt n d i) : Heap tlt n (hFix n i d) ∧ (hFix n i d).toList.Perm d.toList ∧ ∀ k, n ≤ k → (hFix n i d)[k]! = d[k]! := by
  have h1 := heap_fix tlt_swo n i d hi hn h
  obtain ⟨a, b, c, _, _⟩ := hDown_all (lt := tlt) (n - i) n i d (Nat.le_refl _) hn
  refine ⟨h1, ?_, ?_⟩
  · unfold hFix; split
    · exact b
    · exact (hUp_perm _ _ (by omega)).trans b
  · intro k hk
    unfold hFix; split
    · exact c k hk
    · rw [hUp_above _ _ (by omega) _ (by omega)]; exact c k hk
theorem mov_ok {d : Array Tm} {i : Nat} (h : Heap tlt d.size d) (hi : i < d.size) (t : Tm) : Heap tlt (hFix d.size i (d.setIfInBounds i t)).size (hFix d.size i (d.setIfInBounds i t)) ∧ ∃ r, d.toList.Perm (d[i]! :: r) ∧ (hFix d.size i (d.setIfInBounds i t)).toList.Perm (t :: r) := by
  have g : ∀ k, k ≠ i → (d.setIfInBounds i t)[k]! = d[k]! := fun k hk => by
    simp only [getElem!_def, Array.getElem?_setIfInBounds]; rw [if_neg (fun e => hk e.symm)]
  have hd : HeapDn tlt d.size (d.setIfInBounds i t) i := by
    refine ⟨fun k hk hkn e1 e2 => ?_, fun k hk hkn e1 h0 => ?_⟩
    · rw [g k e2, g _ e1]; exact h k hk hkn
    · rw [g k (by omega), g _ (by omega)]
      have e2 := h k hk hkn
      rw [e1] at e2
      exact tlt_swo.ntrans _ _ _ e2 (h i h0 hi)
  obtain ⟨f1, f2, _⟩ := hFix_ok (n := d.size) hi (by simp) hd
  have hs : (hFix d.size i (d.setIfInBounds i t)).size = d.size := by rw [hFix_size _ _ _ (by simp)]; simp
  refine ⟨by rw [hs]; exact f1, d.toList.eraseIdx i, ?_, f2.trans ?_⟩
  · rw [get!_list d i hi]
    have := cons_erase_perm (l := d.toList) (n := i) (by simpa using hi)
    exact this.symm
  · rw [Array.toList_setIfInBounds]
    have hl : i < d.toList.length := by simpa using hi
    have := cons_erase_perm (l := d.toList.set i t) (n := i) (by simpa using hi)
    rw [List.getElem_set_self, List.eraseIdx_set_eq] at this
    exact this.symm
theorem rem_ok {d : Array Tm} {i : Nat} (h : Heap tlt d.size d) (hi : i < d.size) : Heap tlt (hRem i d).size (hRem i d) ∧ d.toList.Perm (d[i]! :: (hRem i d).toList) := by
  have popg : ∀ (e : Array Tm) k, k < e.size - 1 → e.pop[k]! = e[k]! := fun e k hk => by
    rw [getElem!_pos e.pop k (by simpa using hk), getElem!_pos e k (by omega)]; simp
  have popp : ∀ (e : Array Tm), 0 < e.size → e.toList.Perm (e[e.size - 1]! :: e.pop.toList) := fun e he => by
    have e1 : e.toList = e.pop.toList ++ [e[e.size - 1]!] := by
      rw [Array.toList_pop, getElem!_pos e _ (by omega)]
      have hne : e.toList ≠ [] := by intro h; have h2 := congrArg List.length h; rw [Array.length_toList, List.length_nil] at h2; omega
      have := List.dropLast_concat_getLast hne
      rw [List.getLast_eq_getElem] at this
      simpa using this.symm
    conv => lhs; rw [e1]
    exact List.perm_append_singleton _ _
  unfold hRem
  split
  · rename_i he
    refine ⟨fun k hk hkn => ?_, by rw [he]; exact popp d (by omega)⟩
    have hkn' : k < d.size - 1 := by simpa using hkn
    rw [popg d k hkn', popg d _ (by omega)]; exact h k hk (by omega)
  · rename_i he
    have hs : (swp d i (d.size - 1)).size = d.size := size_swp _ _ _
    have g := swp_get d (i := i) (j := d.size - 1) hi (by omega)
    have hd : HeapDn tlt (d.size - 1) (swp d i (d.size - 1)) i := by
      refine ⟨fun k hk hkn e1 e2 => ?_, fun k hk hkn e1 h0 => ?_⟩
      · rw [g k, g ((k - 1) / 2), if_neg (by omega), if_neg e2, if_neg (by omega), if_neg e1]; exact h k hk (by omega)
      · rw [g k, g ((i - 1) / 2), if_neg (by omega), if_neg (by omega), if_neg (by omega), if_neg (by omega)]
        have e2 := h k hk (by omega)
        rw [e1] at e2
        exact tlt_swo.ntrans _ _ _ e2 (h i h0 hi)
    obtain ⟨f1, f2, f3⟩ := hFix_ok (n := d.size - 1) (by omega) (by omega) hd
    have hfs : (hFix (d.size - 1) i (swp d i (d.size - 1))).size = d.size := by rw [hFix_size _ _ _ (by omega), hs]
    refine ⟨fun k hk hkn => ?_, ?_⟩
    · have hkn' : k < d.size - 1 := by simpa [hfs] using hkn
      rw [popg _ k (by omega), popg _ _ (by omega)]; exact f1 k hk hkn'
    · have e1 := popp (hFix (d.size - 1) i (swp d i (d.size - 1))) (by omega)
      rw [hfs, f3 _ (Nat.le_refl _), g, if_pos rfl] at e1
      exact ((swp_perm d hi (by omega)).symm.trans f2.symm).trans e1
end Go.Proofs.Yteiadigafkollaa
