/- Tokens, plain: a tree of tokens, and what its calls do. -/
import Derived.Test.YtkebflllbphkkaaDoorGx5
namespace Go.Proofs.YtkebflllbphkkaaDoor

/-- A token: its name, the words of the places that it hangs on, its deadline, who took it along, why. -/
structure TN where
  name : ByteArray
  ab : Nat → Nat
  til : Int
  bw : Nat
  why : List Cr
def TN0 : TN := ⟨ByteArray.empty, fun _ => 0, 0, 0, []⟩
def hasW (ab : Nat → Nat) (p : Nat) : Bool := (ab (p / 64)).testBit (p % 64)
structure Tr where
  now : Int
  ns : List TN
  od : List Nat
def Tr.n (T : Tr) (p : Nat) : TN := T.ns.getD p TN0
/-- It hangs on that. -/
def Tr.up (T : Tr) (p q : Nat) : Bool := hasW (T.n p).ab q
/-- The place in the order of those that are cancelled. -/
def rkOf (od : List Nat) (p : Nat) : Nat := if p ∈ od then od.idxOf p else 256
theorem rkOf_in {od : List Nat} {p : Nat} (h : p ∈ od) : rkOf od p = od.idxOf p := by unfold rkOf; rw [if_pos h]
theorem rkOf_out {od : List Nat} {p : Nat} (h : p ∉ od) : rkOf od p = 256 := by unfold rkOf; rw [if_neg h]
theorem rkOf_lt {od : List Nat} {p : Nat} (h : p ∈ od) : rkOf od p < od.length := by rw [rkOf_in h]; exact List.idxOf_lt_length_of_mem h
theorem rkOf_at {od : List Nat} {p : Nat} (h : p ∈ od) : od[rkOf od p]? = some p := by
  rw [rkOf_in h, List.getElem?_eq_getElem (List.idxOf_lt_length_of_mem h), List.getElem_idxOf]
theorem rkOf_snoc {od : List Nat} {q : Nat} (h : q ∉ od) (p : Nat) : rkOf (od ++ [q]) p = if p = q then od.length else rkOf od p := by
  by_cases e : p = q
  · subst e
    rw [if_pos rfl, rkOf_in (by simp), List.idxOf_append, if_neg h]; simp
  · rw [if_neg e]
    by_cases hp : p ∈ od
    · rw [rkOf_in (by simp [hp]), rkOf_in hp, List.idxOf_append, if_pos hp]
    · rw [rkOf_out hp, rkOf_out (by simp [hp, e])]
/-- One is put behind all that are cancelled. -/
def endT (T : Tr) (p q : Nat) : Tr := { T with ns := T.ns.set p { T.n p with bw := q }, od := T.od ++ [p] }
def whyT (T : Tr) (p : Nat) (y : List Cr) : Tr := { T with ns := T.ns.set p { T.n p with why := y } }
def benT (T : Tr) (p : Nat) : List Nat → Tr
  | [] => T
  | a :: r => benT (if T.up a p = true ∧ a ∉ T.od then endT T a p else T) p r
def cancelT (T : Tr) (p : Nat) (y : List Cr) : Tr := if p ∈ T.od then T else benT (endT (whyT T p y) p p) p (List.range' (p + 1) (T.ns.length - (p + 1)))
/-- The failure of a deadline. -/
def dlC : List Cr := [⟨1, 0, ⟨#[100, 101, 97, 100, 108, 105, 110, 101]⟩⟩]
def expT (T : Tr) : List Nat → Tr
  | [] => T
  | p :: r => expT (cancelT T p (tokL (T.n p).name dlC)) r
theorem n_set {T : Tr} {p : Nat} (hp : p < T.ns.length) (x : TN) (a : Nat) : (T.ns.set p x).getD a TN0 = if a = p then x else T.n a := by
  unfold Tr.n
  by_cases e : a = p
  · subst e; simp [List.getD, hp]
  · simp [List.getD, e, Ne.symm e]
theorem endT_n {T : Tr} {p : Nat} (hp : p < T.ns.length) (q a : Nat) : (endT T p q).n a = if a = p then { T.n p with bw := q } else T.n a := n_set hp _ a
theorem whyT_n {T : Tr} {p : Nat} (hp : p < T.ns.length) (y : List Cr) (a : Nat) : (whyT T p y).n a = if a = p then { T.n p with why := y } else T.n a := n_set hp _ a
theorem endT_len (T : Tr) (p q : Nat) : (endT T p q).ns.length = T.ns.length := by simp [endT]
theorem whyT_len (T : Tr) (p : Nat) (y : List Cr) : (whyT T p y).ns.length = T.ns.length := by simp [whyT]
/-- What a cancelling leaves as it was. -/
structure Cn (T U : Tr) : Prop where
  now : U.now = T.now
  len : U.ns.length = T.ns.length
  name : ∀ a, (U.n a).name = (T.n a).name
  ab : ∀ a, (U.n a).ab = (T.n a).ab
  til : ∀ a, (U.n a).til = (T.n a).til
  od : T.od <+: U.od
  bw : ∀ a ∈ T.od, (U.n a).bw = (T.n a).bw
  why : ∀ a ∈ T.od, (U.n a).why = (T.n a).why
theorem Cn.refl (T : Tr) : Cn T T := ⟨rfl, rfl, fun _ => rfl, fun _ => rfl, fun _ => rfl, List.prefix_refl _, fun _ _ => rfl, fun _ _ => rfl⟩
theorem Cn.trans {T U V : Tr} (h : Cn T U) (k : Cn U V) : Cn T V :=
  ⟨k.now.trans h.now, k.len.trans h.len, fun a => (k.name a).trans (h.name a), fun a => (k.ab a).trans (h.ab a), fun a => (k.til a).trans (h.til a), h.od.trans k.od,
    fun a ha => (k.bw a (h.od.subset ha)).trans (h.bw a ha), fun a ha => (k.why a (h.od.subset ha)).trans (h.why a ha)⟩
theorem Cn.up {T U : Tr} (h : Cn T U) (a q : Nat) : U.up a q = T.up a q := by unfold Tr.up; rw [h.ab]
theorem endT_cn {T : Tr} {p : Nat} (hp : p < T.ns.length) (hn : p ∉ T.od) (q : Nat) : Cn T (endT T p q) := by
  have e := endT_n hp q
  refine ⟨rfl, endT_len _ _ _, fun a => ?_, fun a => ?_, fun a => ?_, List.prefix_append _ _, fun a ha => ?_, fun a ha => ?_⟩
  · rw [e]; split
    · rename_i h; rw [h]
    · rfl
  · rw [e]; split
    · rename_i h; rw [h]
    · rfl
  · rw [e]; split
    · rename_i h; rw [h]
    · rfl
  · rw [e, if_neg (by rintro rfl; exact hn ha)]
  · rw [e, if_neg (by rintro rfl; exact hn ha)]
theorem whyT_cn {T : Tr} {p : Nat} (hp : p < T.ns.length) (hn : p ∉ T.od) (y : List Cr) : Cn T (whyT T p y) := by
  have e := whyT_n hp y
  refine ⟨rfl, whyT_len _ _ _, fun a => ?_, fun a => ?_, fun a => ?_, List.prefix_refl _, fun a ha => ?_, fun a ha => ?_⟩
  · rw [e]; split
    · rename_i h; rw [h]
    · rfl
  · rw [e]; split
    · rename_i h; rw [h]
    · rfl
  · rw [e]; split
    · rename_i h; rw [h]
    · rfl
  · rw [e, if_neg (by rintro rfl; exact hn ha)]
  · rw [e, if_neg (by rintro rfl; exact hn ha)]
/-- What hands over all that hang on one does: the order, who took whom along. -/
theorem benT_all (p : Nat) : ∀ (L : List Nat) (T : Tr), L.Nodup → (∀ a ∈ L, a < T.ns.length) → Cn T (benT T p L) ∧ (benT T p L).od = T.od ++ L.filter (fun a => T.up a p && !decide (a ∈ T.od)) ∧ (∀ a, ((benT T p L).n a).why = (T.n a).why) ∧ ∀ a, ((benT T p L).n a).bw = if a ∈ L ∧ T.up a p = true ∧ a ∉ T.od then p else (T.n a).bw
  | [], T, _, _ => ⟨Cn.refl T, by simp [benT], fun _ => rfl, fun a => by simp [benT]⟩
  | x :: r, T, hnd, hlt => by
    obtain ⟨hx, hr⟩ := List.nodup_cons.1 hnd
    have hxl := hlt x (List.mem_cons_self ..)
    rw [benT]
    by_cases hc : T.up x p = true ∧ x ∉ T.od
    · rw [if_pos hc]
      have c1 := endT_cn hxl hc.2 p
      obtain ⟨i1, i2, i4, i3⟩ := benT_all p r (endT T x p) hr (fun a ha => by rw [endT_len]; exact hlt a (List.mem_cons_of_mem _ ha))
      have eo : (endT T x p).od = T.od ++ [x] := rfl
      refine ⟨c1.trans i1, ?_, fun a => ?_, fun a => ?_⟩
      · rw [i2, eo, List.append_assoc, List.filter_cons_of_pos (by simp [hc.1, hc.2])]
        congr 1
        show x :: _ = x :: _
        congr 1
        refine List.filter_congr (fun a ha => ?_)
        rw [c1.up]
        have : a ≠ x := fun e => hx (e ▸ ha)
        simp [this]
      · rw [i4, endT_n hxl]; split
        · rename_i h; rw [h]
        · rfl
      · rw [i3, eo, c1.up, endT_n hxl]
        by_cases e : a = x
        · subst e
          rw [if_neg (fun h => h.2.2 (by simp)), if_pos rfl, if_pos ⟨List.mem_cons_self .., hc⟩]
        · simp [e]
    · rw [if_neg hc]
      obtain ⟨i1, i2, i4, i3⟩ := benT_all p r T hr (fun a ha => hlt a (List.mem_cons_of_mem _ ha))
      refine ⟨i1, ?_, i4, fun a => ?_⟩
      · rw [i2, List.filter_cons_of_neg (by simpa using hc)]
      · rw [i3]
        by_cases e : a = x
        · subst e
          rw [if_neg (fun h => hx h.1), if_neg (fun h => hc h.2)]
        · simp [e]
/-- A tree that calls have made. -/
structure Inv (T : Tr) : Prop where
  len : T.ns.length ≤ 256
  nd : T.od.Nodup
  lt : ∀ p ∈ T.od, p < T.ns.length
  nm : ∀ p q, p < T.ns.length → q < T.ns.length → (T.n p).name = (T.n q).name → p = q
  nk : ∀ p, p < T.ns.length → (T.n p).name.size ≤ 64
  bw : ∀ p ∈ T.od, (T.n p).bw ∈ T.od
  why : ∀ p ∈ T.od, (T.n (T.n p).bw).why ≠ []
  up : ∀ p q, p < T.ns.length → T.up p q = true → q < p
  tr : ∀ p q r, p < T.ns.length → T.up p q = true → T.up q r = true → T.up p r = true
  cl : ∀ p q, p < T.ns.length → T.up p q = true → q ∈ T.od → p ∈ T.od
  tm : 0 ≤ T.now ∧ T.now ≤ 1099511627776
  til : ∀ p, p < T.ns.length → 0 ≤ (T.n p).til ∧ (T.n p).til ≤ 1099511627777
  wl : ∀ p, p < T.ns.length → (T.n p).why.length ≤ 1024
  wd : ∀ p k, p < T.ns.length → (T.n p).ab k < 18446744073709551616
theorem range_mem {p n a : Nat} : a ∈ List.range' (p + 1) (n - (p + 1)) ↔ p < a ∧ a < n := by
  rw [List.mem_range'_1]; omega
/-- A cancelling. -/
theorem cancelT_all {T : Tr} (h : Inv T) {p : Nat} (hp : p < T.ns.length) (y : List Cr) : Cn T (cancelT T p y) ∧ (∀ a, a ∈ (cancelT T p y).od ↔ a ∈ T.od ∨ a = p ∨ (a < T.ns.length ∧ T.up a p = true)) ∧ (y ≠ [] → y.length ≤ 1024 → Inv (cancelT T p y)) ∧ (p ∉ T.od → ∃ F, (cancelT T p y).od = T.od ++ p :: F ∧ F = (List.range' (p + 1) (T.ns.length - (p + 1))).filter (fun a => T.up a p && !decide (a ∈ T.od)) ∧ (∀ a, ((cancelT T p y).n a).bw = if a = p ∨ a ∈ F then p else (T.n a).bw) ∧ ∀ a, ((cancelT T p y).n a).why = if a = p then y else (T.n a).why) := by
  unfold cancelT
  by_cases hd : p ∈ T.od
  · rw [if_pos hd]
    refine ⟨Cn.refl T, fun a => ⟨Or.inl, fun q => ?_⟩, fun _ _ => h, fun q => absurd hd q⟩
    rcases q with q | q | q
    · exact q
    · subst q; exact hd
    · exact h.cl a p q.1 q.2 hd
  · rw [if_neg hd]
    have c1 := whyT_cn hp hd y
    have hp1 : p < (whyT T p y).ns.length := by rw [whyT_len]; exact hp
    have c2 := endT_cn hp1 (show p ∉ (whyT T p y).od from hd) p
    have c12 := c1.trans c2
    obtain ⟨i1, i2, i4, i3⟩ := benT_all p (List.range' (p + 1) (T.ns.length - (p + 1))) (endT (whyT T p y) p p) (List.nodup_range' ..) (fun a ha => by rw [c12.len]; exact (range_mem.1 ha).2)
    have eo : (endT (whyT T p y) p p).od = T.od ++ [p] := rfl
    generalize hU : benT (endT (whyT T p y) p p) p (List.range' (p + 1) (T.ns.length - (p + 1))) = U at *
    have cn := c12.trans i1
    have fe : (List.range' (p + 1) (T.ns.length - (p + 1))).filter (fun a => (endT (whyT T p y) p p).up a p && !decide (a ∈ (endT (whyT T p y) p p).od)) = (List.range' (p + 1) (T.ns.length - (p + 1))).filter (fun a => T.up a p && !decide (a ∈ T.od)) := by
      refine List.filter_congr (fun a ha => ?_)
      rw [c12.up, eo]
      have : a ≠ p := by have := (range_mem.1 ha).1; omega
      simp [this]
    have o1 : U.od = T.od ++ p :: (List.range' (p + 1) (T.ns.length - (p + 1))).filter (fun a => T.up a p && !decide (a ∈ T.od)) := by
      rw [i2, fe, eo, List.append_assoc]; rfl
    generalize hF : (List.range' (p + 1) (T.ns.length - (p + 1))).filter (fun a => T.up a p && !decide (a ∈ T.od)) = F at *
    have mF : ∀ a, a ∈ F ↔ (p < a ∧ a < T.ns.length) ∧ T.up a p = true ∧ a ∉ T.od := fun a => by
      rw [← hF, List.mem_filter, range_mem]; simp
    have mo : ∀ a, a ∈ U.od ↔ a ∈ T.od ∨ a = p ∨ (a < T.ns.length ∧ T.up a p = true) := fun a => by
      rw [o1]
      simp only [List.mem_append, List.mem_cons, mF]
      constructor
      · rintro (q | q | q)
        · exact Or.inl q
        · exact Or.inr (Or.inl q)
        · exact Or.inr (Or.inr ⟨q.1.2, q.2.1⟩)
      · rintro (q | q | q)
        · exact Or.inl q
        · exact Or.inr (Or.inl q)
        · by_cases hq : a ∈ T.od
          · exact Or.inl hq
          · exact Or.inr (Or.inr ⟨⟨h.up a p q.1 q.2, q.1⟩, q.2, hq⟩)
    have eb : ∀ a, (U.n a).bw = if a = p ∨ a ∈ F then p else (T.n a).bw := fun a => by
      rw [i3, c12.up, eo, endT_n hp1, whyT_n hp]
      by_cases e : a = p
      · subst e
        have : ¬ (a ∈ List.range' (a + 1) (T.ns.length - (a + 1))) := fun q => by have := (range_mem.1 q).1; omega
        rw [if_neg (fun q => this q.1), if_pos rfl, if_pos (Or.inl rfl)]
      · by_cases hf : a ∈ F
        · rw [if_pos (Or.inr hf), if_pos]
          have := (mF a).1 hf
          exact ⟨range_mem.2 this.1, this.2.1, by simp [e, this.2.2]⟩
        · have ne : ¬ (a ∈ List.range' (p + 1) (T.ns.length - (p + 1)) ∧ T.up a p = true ∧ a ∉ T.od ++ [p]) := by
            rintro ⟨q1, q2, q3⟩
            exact hf ((mF a).2 ⟨range_mem.1 q1, q2, fun q => q3 (List.mem_append_left _ q)⟩)
          rw [if_neg ne, if_neg e, whyT_n hp, if_neg e, if_neg]
          rintro (q | q)
          · exact e q
          · exact hf q
    have ew : ∀ a, (U.n a).why = if a = p then y else (T.n a).why := fun a => by
      rw [i4, endT_n hp1, whyT_n hp]
      by_cases e : a = p
      · subst e; simp
      · rw [if_neg e, whyT_n hp, if_neg e, if_neg e]
    have hbw : ∀ a ∈ U.od, (a ∈ T.od ∧ (U.n a).bw = (T.n a).bw) ∨ (U.n a).bw = p := fun a ha => by
      by_cases hq : a ∈ T.od
      · exact Or.inl ⟨hq, cn.bw a hq⟩
      · right
        rw [eb]
        rcases (mo a).1 ha with q | q | q
        · exact absurd q hq
        · rw [if_pos (Or.inl q)]
        · rw [if_pos (Or.inr ((mF a).2 ⟨⟨h.up a p q.1 q.2, q.1⟩, q.2, hq⟩))]
    refine ⟨cn, mo, fun hy hyl => ?_, fun _ => ⟨F, o1, rfl, eb, ew⟩⟩
    refine ⟨by rw [cn.len]; exact h.len, ?_, fun a ha => ?_, fun a b ha hb => ?_, fun a ha => ?_, fun a ha => ?_, fun a ha => ?_, fun a q ha => ?_, fun a q r ha => ?_, fun a q ha hu hq => ?_, by rw [cn.now]; exact h.tm, fun a ha => ?_, fun a ha => ?_, fun a k ha => ?_⟩
    · rw [o1]
      refine List.nodup_append.2 ⟨h.nd, List.nodup_cons.2 ⟨fun q => by have := ((mF p).1 q).1.1; omega, by rw [← hF]; exact (List.nodup_range' ..).filter _⟩, ?_⟩
      intro a ha b hb e
      subst e
      rcases List.mem_cons.1 hb with q | q
      · subst q; exact hd ha
      · exact ((mF a).1 q).2.2 ha
    · rw [cn.len]
      rcases (mo a).1 ha with q | q | q
      · exact h.lt a q
      · subst q; exact hp
      · exact q.1
    · rw [cn.name, cn.name]; rw [cn.len] at ha hb; exact h.nm a b ha hb
    · rw [cn.name]; rw [cn.len] at ha; exact h.nk a ha
    · rcases hbw a ha with ⟨q, e⟩ | e
      · rw [e]; exact (mo _).2 (Or.inl (h.bw a q))
      · rw [e]; exact (mo _).2 (Or.inr (Or.inl rfl))
    · rcases hbw a ha with ⟨q, e⟩ | e
      · rw [e, cn.why _ (h.bw a q)]; exact h.why a q
      · rw [e, ew, if_pos rfl]; exact hy
    · rw [cn.up]; rw [cn.len] at ha; exact h.up a q ha
    · rw [cn.up, cn.up, cn.up]; rw [cn.len] at ha; exact h.tr a q r ha
    · rw [cn.up] at hu
      rw [cn.len] at ha
      rcases (mo q).1 hq with k | k | k
      · exact (mo a).2 (Or.inl (h.cl a q ha hu k))
      · subst k; exact (mo a).2 (Or.inr (Or.inr ⟨ha, hu⟩))
      · exact (mo a).2 (Or.inr (Or.inr ⟨ha, h.tr a q p ha hu k.2⟩))
    · rw [cn.til]; rw [cn.len] at ha; exact h.til a ha
    · rw [ew]; rw [cn.len] at ha
      split
      · exact hyl
      · exact h.wl a ha
    · rw [cn.ab]; rw [cn.len] at ha; exact h.wd a k ha
end Go.Proofs.YtkebflllbphkkaaDoor
