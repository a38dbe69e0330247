/- Graph: the base's SameInts, CopyInts, Has; told. -/
import Derived.Test.YtghkhceplpjegaaYb1
import Derived.Test.YtghkhceplpjegaaShelf
import Derived.Deep.RegionLaw
namespace Go.Proofs.Ytghkhceplpjegaa
open Go.RowKit

theorem set_far {w : World} {x q o : Nat} {u : Value} (h : x ≠ q) : (w.setCell ⟨q, o, none⟩ u).heap[x]? = w.heap[x]? := Below.heap_setCell _ _ _ _ h
theorem step_append_g {α : Type} {P : Program} (K : RK α) (hk : K.Ok P) {ops : Array Oper} {o : Oper} {a : Act} {C : Act → World → Prop} {Q : Exit → Act → World → Prop} {E : Prop} (hgd : o.guard = none) (s x : Operand) (t : TypeId)
    (ho : o.op = .call { callee := .builtin .append, args := #[s, x], argTypes := #[t, t] })
    (base : Nat) (ht : P.underlying t = some (.slice K.ty))
    (w1 : World) (b : Nat) (cells : Array Value) (tc : TypeId) (hblk : w1.heap[b]? = some (.cells cells tc)) (v : Value) (l : List α) (f : α) (c : Nat) (hs : a.eval s = v) (hown : OwnG K w1 base v l)
    (hx : a.eval x = .slice (some ⟨b, 0, none⟩) 1 c) (hc : cells.toList = K.f f)
    (hlen : (l.length + 1) * K.B ≤ 140737488355328) (hbase : base ≤ w1.heap.size)
    (h : ∀ g cap w', OwnG K w' base (.slice (some ⟨g, 0, none⟩) (l.length + 1) cap) (l ++ [f]) → Below base w1 w' → (∀ k, k < w1.heap.size → some k ≠ v.ownBlock → w'.heap[k]? = w1.heap[k]?) → (v.ownBlock = some g ∨ w1.heap.size ≤ g) → C (a.put o.dst (.slice (some ⟨g, 0, none⟩) (l.length + 1) cap)) w') :
    if Region.wanted o (yielded ops a.tmps) = true then Oper.wp P o a w1 C Q else E := by
  obtain ⟨i0, hi0, hz0, hz1, hz2⟩ := hk.info
  have hpb := hk.posB
  have hn : l.length + 1 ≤ 140737488355328 := Nat.le_trans (Nat.le_mul_of_pos_right _ hpb) hlen
  refine step_append_lies _ hgd s x t ho base K.ty i0 K.z K.W K.B ht hi0 hz0 hz1 hz2 hk.zs hk.pos v l.length (l.flatMap K.f) hs hown ⟨b, 0, none⟩ 1 c (K.f f) hx (by rw [hk.len]; omega) (by rw [← hc]; exact World.news_of_block hblk) (hk.one f)
    (by decide) (by unfold maxLen; omega) hlen hbase _ rfl ?_
  intro g cap w' ho' hg hgg _
  refine h g cap w' ?_ ((Below.refl base w1).grown hg hbase (fun q hq => (hown.lt hq).1)) (fun k hk hne => hg.block k hk hne) ?_
  · unfold OwnG
    rw [List.length_append, List.flatMap_append]
    simpa using ho'
  · rcases hgg with hgg | hgg
    · exact Or.inl hgg
    · right; rw [hgg]; exact Nat.le_refl _
theorem KI_flat (l : List Int) : l.flatMap KI.f = l.map fun i => Value.int .i64 i := by
  induction l with
  | nil => rfl
  | cons a l ih => rw [List.map_cons, List.flatMap_cons, ih]; rfl
/-- A row laid over another one. -/
theorem own_put {w : World} {base g n cap : Nat} {l l' : List Int} (h : OwnG KI w base (.slice (some ⟨g, 0, none⟩) n cap) l) (hl : l'.length = l.length) (m : Nat) (os : Array Obj) : OwnG KI (Go.Sort.grow (Go.Sort.putRow (Value.int .i64) (Go.Sort.ahead w m) g 0 l'.toArray) os) base (.slice (some ⟨g, 0, none⟩) n cap) l' ∧ But (fun x => x = g) w (Go.Sort.grow (Go.Sort.putRow (Value.int .i64) (Go.Sort.ahead w m) g 0 l'.toArray) os) := by
  obtain ⟨h1, h2⟩ := h
  rcases h2 with ⟨h2, _⟩ | ⟨g', cp, cur, e1, e2, e3, e4, e5, e6, e7⟩
  · cases h2
  · injection e1 with e1 e8 e9
    injection e1 with e1
    injection e1 with e1 _ _
    subst e1 e9
    have hg : g < w.heap.size := lt_of_heap e3
    have e6' : cur.size = cap := by rw [e6]; exact Nat.mul_one _
    refine ⟨⟨by rw [RK.flat_len KI_ok.len], Or.inr ⟨g, cap, Go.Sort.putCells (Value.int .i64) 0 l'.toArray cur, by rw [hl, e8], e2, ?_, by rw [hl]; exact e4, e5, by unfold Go.Sort.putCells; rw [Array.size_mapIdx]; exact e6, ?_⟩⟩, ?_⟩
    · rw [Go.Sort.heap_grow_old _ _ (by rw [Go.Sort.size_putRow]; exact hg)]
      show (w.heap.modify g (Go.Sort.onCells (Go.Sort.putCells (Value.int .i64) 0 l'.toArray)))[g]? = _
      rw [Array.getElem?_modify, if_pos rfl, e3]
      rfl
    · rw [KI_flat]
      apply List.ext_getElem?
      intro k
      show (List.take (l'.length * 1) _)[k]? = _
      rw [Nat.mul_one]
      by_cases hk : k < l'.length
      · rw [List.getElem?_take_of_lt hk]
        unfold Go.Sort.putCells
        have hkc : k < cur.size := by omega
        have hkd : k < l'.toArray.size := by simpa using hk
        rw [Array.getElem?_toList, Array.getElem?_mapIdx, Array.getElem?_eq_getElem hkc]
        simp only [Option.map_some, Nat.zero_le, Nat.zero_add, true_and, Nat.sub_zero]
        rw [if_pos hkd, getElem!_pos l'.toArray k hkd]
        simp [hk]
      · rw [List.getElem?_eq_none (by simp; omega), List.getElem?_eq_none (by simp; omega)]
    · refine ⟨rfl, rfl, rfl, ?_, fun k hk hne => ?_⟩
      · rw [Go.Sort.size_grow, Go.Sort.size_putRow]
        show w.heap.size ≤ w.heap.size + _
        omega
      · rw [Go.Sort.heap_grow_old _ _ (by rw [Go.Sort.size_putRow]; exact hk)]
        have : g ≠ k := fun e => hne e.symm
        simp [Go.Sort.putRow, Go.Sort.mapBlock, Go.Sort.ahead, Array.getElem?_modify, this]
theorem own_holds {w : World} {base g n cap : Nat} {l : List Int} (h : OwnG KI w base (.slice (some ⟨g, 0, none⟩) n cap) l) : Go.Sort.Holds (Value.int .i64) w g 0 l.toArray := fun j hj => by
  have hj : j < l.length := by simpa using hj
  refine ⟨?_, by rw [Nat.zero_add]; exact own_frozen h j⟩
  obtain ⟨Y, o, e1, hc⟩ := (h.gs KI_ok.len).atI hj
  injection e1 with e1
  injection e1 with e1 e2 _
  subst e1 e2
  rw [hc]
  simp [hj]
theorem own_len {α : Type} {K : RK α} {w : World} {base g n cap : Nat} {l : List α} (h : OwnG K w base (.slice (some ⟨g, 0, none⟩) n cap) l) : n = l.length ∧ g < w.heap.size ∧ base ≤ g ∧ l.length ≤ cap := by
  have h1 := h.lt (g := g) rfl
  obtain ⟨p, c, e, hc⟩ := h.form
  injection e with _ e e2
  exact ⟨e, h1.2, h1.1, by omega⟩
/-- slices.Sort of a row. -/
theorem sortI_any {w : World} {base : Nat} {v : Value} {l : List Int} (h : OwnG KI w base v l) (hl : l.length ≤ 1000000) : Calls Try.prog 53 #[v] w fun e w' => e = .returned (.tuple #[]) ∧ OwnG KI w' base v (l.mergeSort fun x y => decide (x ≤ y)) ∧ But (fun x => v.ownBlock = some x) w w' := by
  obtain ⟨p, c, e, hc⟩ := h.form
  by_cases h0 : l.length = 0
  · have el : l = [] := List.length_eq_zero_iff.1 h0
    subst el
    rw [e]
    refine (Try.slices_Sort_int_none p c w).mono ?_
    rintro e' w' ⟨rfl, hw⟩
    rw [hw, ← e]
    exact ⟨rfl, by simpa using h, But.refl _ _⟩
  · have hn : v.ownBlock ≠ none := by
      intro e2
      rcases h.2 with ⟨_, e3⟩ | ⟨g, cap, cur, e3, _⟩
      · exact h0 e3
      · rw [e3] at e2; cases e2
    obtain ⟨g, cap, e3, hcap⟩ := h.place hn
    subst e3
    have hg := own_len h
    refine (Try.slices_Sort_int g 0 cap l w (own_holds h) hg.2.1 (by omega)).mono ?_
    rintro e' w' ⟨rfl, n, os, hw⟩
    have := own_put h (l' := l.mergeSort fun x y => decide (x ≤ y)) (List.length_mergeSort _) n os
    rw [hw]
    refine ⟨rfl, this.1, ?_⟩
    have k := this.2
    exact ⟨k.os, k.tape, k.output, k.size, fun x hx hne => k.block x hx fun e => hne (by rw [e]; rfl)⟩
theorem cpt_len (l : List Int) : (Go.Lib.compact l).length ≤ l.length := by
  unfold Go.Lib.compact Go.Lib.compactUpTo
  rw [List.length_map]
  have := List.length_filter_le (Go.Lib.keeps l.toArray) (List.range l.length)
  simpa using this
/-- slices.Compact of a row. -/
theorem compI_any {w : World} {base : Nat} {v : Value} {l : List Int} (h : OwnG KI w base v l) (hl : l.length ≤ 1000000) : Calls Try.prog 58 #[v] w fun e w' => ∃ p c, e = .returned (.slice p (Go.Lib.compact l).length c) ∧ OwnG KI w' base (.slice p (Go.Lib.compact l).length c) (Go.Lib.compact l) ∧ (Value.slice p (Go.Lib.compact l).length c).ownBlock = v.ownBlock ∧ But (fun x => v.ownBlock = some x) w w' := by
  obtain ⟨p, c, e, hc⟩ := h.form
  by_cases h0 : l.length = 0
  · have el : l = [] := List.length_eq_zero_iff.1 h0
    subst el
    rw [e]
    refine (Try.slices_Compact_int_empty p c w).mono ?_
    rintro e' w' ⟨rfl, hw⟩
    rw [hw]
    exact ⟨p, c, rfl, (by have h2 := h; rw [e] at h2; exact h2), rfl, But.refl _ _⟩
  · have hn : v.ownBlock ≠ none := by
      intro e2
      rcases h.2 with ⟨_, e3⟩ | ⟨g, cap, cur, e3, _⟩
      · exact h0 e3
      · rw [e3] at e2; cases e2
    obtain ⟨g, cap, e3, hcap⟩ := h.place hn
    subst e3
    have hg := own_len h
    refine (Try.slices_Compact_int g 0 cap l w (own_holds h) (by omega) hcap).mono ?_
    rintro e' w' ⟨rfl, q, hw⟩
    have hle := cpt_len l
    have := own_put h (l' := Go.Lib.compact l ++ List.replicate (l.length - (Go.Lib.compact l).length) 0) (by simp; omega) q #[]
    rw [Go.Sort.grow_empty, ← hw] at this
    have o2 := this.1.cut KI_ok.len (Go.Lib.compact l).length (by simp)
    rw [List.take_left] at o2
    refine ⟨_, _, rfl, o2, rfl, ?_⟩
    have k := this.2
    exact ⟨k.os, k.tape, k.output, k.size, fun x hx hne => k.block x hx fun e => hne (by rw [e]; rfl)⟩

/-- A slice, as three numbers. -/
abbrev Sl := Option Addr × Nat × Nat
def slV (s : Sl) : Value := .slice s.1 s.2.1 s.2.2
def sl0 : Sl := (none, 0, 0)
def KS : RK Sl := ⟨25, 1, 24, .slice none 0 0, fun x => [.slice x.1 x.2.1 x.2.2]⟩
theorem KS_ok : KS.Ok Try.prog :=
  ⟨fun _ => rfl, fun x u hu => by simp [KS] at hu; subst hu; rfl, rfl, by decide, by decide, info_parts' (by kernel_rfl)⟩
theorem GS.atS {w : World} {p : Option Addr} {n cap k : Nat} {l : List Sl} (h : GS KS w (.slice p n cap) l) (hk : k < l.length) : ∃ X o, p = some ⟨X, o, none⟩ ∧ w.cell? ⟨X, o + k, none⟩ = some (slV l[k]) := by
  obtain ⟨X, o, h1, _, h2⟩ := GS.at h hk
  have := h2 0 _ rfl
  rw [show KS.W = 1 from rfl, Nat.mul_one] at this
  exact ⟨X, o, h1, this⟩
/-- A row of rows of a call's own. -/
structure LZ (w : World) (base b N : Nat) (vs : List Sl) (R : Nat → List Int) : Prop where
  len : vs.length = N
  out : OwnG KS w base (.slice (some ⟨b, 0, none⟩) N N) vs
  row : ∀ i, i < N → OwnG KI w base (slV (vs.getD i sl0)) (R i)
  ap : ∀ i j g, i < N → j < N → i ≠ j → (slV (vs.getD i sl0)).ownBlock = some g → (slV (vs.getD j sl0)).ownBlock ≠ some g
theorem LZ.blk {w w' : World} {base b N : Nat} {vs : List Sl} {R : Nat → List Int} (h : LZ w base b N vs R) (k : ∀ x, base ≤ x → x < w.heap.size → w'.heap[x]? = w.heap[x]?) : LZ w' base b N vs R :=
  ⟨h.len, h.out.far fun g hg => k g (h.out.lt hg).1 (h.out.lt hg).2, fun i hi => (h.row i hi).far fun g hg => k g ((h.row i hi).lt hg).1 ((h.row i hi).lt hg).2, h.ap⟩
theorem LZ.below {w w' : World} {base b N : Nat} {vs : List Sl} {R : Nat → List Int} (h : LZ w base b N vs R) (k : Below w.heap.size w w') : LZ w' base b N vs R := h.blk fun x _ hx => k.block x hx
theorem LZ.bb {w : World} {base b N : Nat} {vs : List Sl} {R : Nat → List Int} (h : LZ w base b N vs R) : base ≤ b ∧ b < w.heap.size := h.out.lt rfl
theorem LZ.at {w : World} {base b N : Nat} {vs : List Sl} {R : Nat → List Int} (h : LZ w base b N vs R) {i : Nat} (hi : i < N) : ∃ p c, w.cell? ⟨b, i, none⟩ = some (.slice p (R i).length c) ∧ slV (vs.getD i sl0) = .slice p (R i).length c ∧ OwnG KI w base (.slice p (R i).length c) (R i) := by
  have h1 := h.row i hi
  obtain ⟨p, c, e, _⟩ := h1.form
  obtain ⟨X, o, e1, hc⟩ := (h.out.gs KS_ok.len).atS (k := i) (by rw [h.len]; exact hi)
  injection e1 with e1
  injection e1 with e1 e2 _
  subst e1 e2
  rw [Nat.zero_add] at hc
  have e3 : vs.getD i sl0 = vs[i]'(by rw [h.len]; exact hi) := by simp [List.getD, h.len, hi]
  rw [e3] at e
  rw [e] at hc
  exact ⟨p, c, hc, by rw [e3]; exact e, by rw [← e, ← e3]; exact h1⟩
theorem LZ.fz {w : World} {base b N : Nat} {vs : List Sl} {R : Nat → List Int} (h : LZ w base b N vs R) : ∀ o, w.frozen? ⟨b, o, none⟩ = false := own_frozen h.out
theorem getD_set {α : Type} (l : List α) (i j : Nat) (x d : α) (hi : i < l.length) : (l.set i x).getD j d = if j = i then x else l.getD j d := by
  simp only [List.getD]
  rw [List.getElem?_set]
  by_cases h : i = j
  · subst h; simp [hi]
  · rw [if_neg h, if_neg (fun e => h e.symm)]
/-- One row anew. -/
theorem LZ.put {w w8 : World} {base b N : Nat} {vs : List Sl} {R : Nat → List Int} (h : LZ w base b N vs R) {i : Nat} (hi : i < N) (s : Sl) (r : List Int) (ho : OwnG KI w8 base (slV s) r) (hb : ∀ k, k < w.heap.size → (slV (vs.getD i sl0)).ownBlock ≠ some k → w8.heap[k]? = w.heap[k]?) (hg : ∀ g, (slV s).ownBlock = some g → (slV (vs.getD i sl0)).ownBlock = some g ∨ w.heap.size ≤ g) :
    LZ (w8.setCell ⟨b, i, none⟩ (slV s)) base b N (vs.set i s) (fun j => if j = i then r else R j) ∧ w8.frozen? ⟨b, i, none⟩ = false ∧ (∃ u, w8.cell? ⟨b, i, none⟩ = some u) ∧ (∀ k, k < w.heap.size → k ≠ b → (slV (vs.getD i sl0)).ownBlock ≠ some k → (w8.setCell ⟨b, i, none⟩ (slV s)).heap[k]? = w.heap[k]?) := by
  have hbb := h.bb
  have bne : ∀ j, j < N → (slV (vs.getD j sl0)).ownBlock ≠ some b := fun j hj => (h.row j hj).apart h.out (by decide) rfl
  have hb8 : w8.heap[b]? = w.heap[b]? := hb b hbb.2 (bne i hi)
  have out8 : OwnG KS w8 base (.slice (some ⟨b, 0, none⟩) N N) vs := h.out.far fun g hg2 => by
    injection hg2 with hg2
    rw [← hg2]; exact hb8
  obtain ⟨p, c, hc, _⟩ := h.at hi
  have rne : ∀ g, (slV s).ownBlock = some g → g ≠ b := fun g h1 e => by
    subst e
    rcases hg _ h1 with e | e
    · exact bne i hi e
    · have := hbb.2
      exact absurd this (by omega)
  refine ⟨⟨by rw [List.length_set]; exact h.len, out8.set1 (k := i) rfl KS_ok.len s _ rfl, fun j hj => ?_, fun j k g hj hk hne hg1 => ?_⟩, own_frozen out8 i, ⟨_, (World.cell?_of_block (w := w) (a := ⟨b, i, none⟩) hb8).trans hc⟩, fun k hk hkb hkn => by rw [set_far hkb]; exact hb k hk hkn⟩
  · rw [getD_set _ _ _ _ _ (by rw [h.len]; exact hi)]
    by_cases e : j = i
    · rw [if_pos e, if_pos e]
      exact ho.far fun g hg1 => set_far (rne g hg1)
    · rw [if_neg e, if_neg e]
      refine (h.row j hj).far fun g hg1 => ?_
      have hl := (h.row j hj).lt hg1
      rw [set_far (fun e2 => bne j hj (by rw [← e2]; exact hg1))]
      exact hb g hl.2 (h.ap j i g hj hi e hg1)
  · rw [getD_set _ _ _ _ _ (by rw [h.len]; exact hi)] at hg1 ⊢
    by_cases e : j = i
    · subst e
      rw [if_pos rfl] at hg1
      rw [if_neg (fun e => hne e.symm)]
      intro hg2
      rcases hg g hg1 with e2 | e2
      · exact h.ap j k g hj hk hne e2 hg2
      · have := ((h.row k hk).lt hg2).2; omega
    · rw [if_neg e] at hg1
      by_cases e2 : k = i
      · subst e2
        rw [if_pos rfl]
        intro hg2
        rcases hg g hg2 with e3 | e3
        · exact h.ap j k g hj hk hne hg1 e3
        · have := ((h.row j hj).lt hg1).2; omega
      · rw [if_neg e2]; exact h.ap j k g hj hk hne hg1
end Go.Proofs.Ytghkhceplpjegaa
namespace Go.Proofs.Ytghkhceplpjegaa
open Go.RowKit

set_option maxHeartbeats 2000000 in
theorem sameInts_any (w : World) (v u : Value) (l k : List Int) (hv : GS KI w v l) (hu : GS KI w u k) (HL : l.length ≤ 140737488355328) : Calls Try.prog 13 #[v, u] w fun e w' => e = .returned (.bool (decide (l = k))) ∧ Below w.heap.size w w' := by
  obtain ⟨p, c, rfl⟩ := hv.form
  obtain ⟨q, d, rfl⟩ := hu.form
  have BR : Hid (Below w.heap.size w w) := Below.refl _ _
  by_cases hlen : l.length = k.length
  · have A1 := hid (fun w' (hb : Below w.heap.size w w') j (hj : j < l.length) => GS.atI (hv.below hb) hj)
    have A2 := hid (fun w' (hb : Below w.heap.size w w') j (hj : j < k.length) => GS.atI (hu.below hb) hj)
    obtain ⟨m, hm⟩ : ∃ m, m = l.length := ⟨_, rfl⟩
    rw [← hlen, ← hm]
    rw [← hm] at HL
    have M1 : Hid (l.length = m) := hm.symm
    have M2 : Hid (k.length = m) := by show _ = _; omega
    clear hm hlen hv hu
    go_enter Try.func13, Try.ntmps13
    go_wp2
    go_loopw [5] (fun v5 wr => ∃ (j : Nat) (wk : World), v5 = .int .i64 j ∧ wk = wr ∧ j ≤ m ∧ Hid (l.take j = k.take j) ∧ Hid (Below w.heap.size w wk)) (fun v5 _ => m - (intOf v5).toNat)
    case atStart => exact ⟨0, _, rfl, rfl, Nat.zero_le _, rfl, BR⟩
    case round =>
      obtain ⟨j, wr, rfl, rfl, hj, HE, HB⟩ := hrel
      by_cases hlt : j < m
      · have j1 : j < l.length := by have := M1.out; omega
        have j2 : j < k.length := by have := M2.out; omega
        obtain ⟨X, o, e1, c1⟩ := A1.out wr HB.out j j1
        obtain ⟨Y, o2, e2, c2⟩ := A2.out wr HB.out j j2
        subst e1 e2
        have T1 : Hid (l.take (j + 1) = l.take j ++ [l[j]]) := List.take_succ_eq_append_getElem j1
        have T2 : Hid (k.take (j + 1) = k.take j ++ [k[j]]) := List.take_succ_eq_append_getElem j2
        have NE : Hid (l[j] ≠ k[j] → l ≠ k) := fun q e => q (by subst e; rfl)
        generalize l[j] = x at *
        generalize k[j] = y at *
        by_cases hxy : x = y
        · subst hxy
          have HN : Hid (l.take (j + 1) = k.take (j + 1)) := by show _ = _; rw [T1.out, T2.out, HE.out]
          go_wp2
          go_quiet (fail)
          go_wp2
          go_roundw
          case rel => exact ⟨j + 1, _, by go_num, rfl, by omega, HN, bl3 HB.out (drew_below _ _)⟩
          case measure => simp [intOf]; omega
        · have b1 : (x == y) = false := by simpa using hxy
          have b2 : (x != y) = true := by simpa using hxy
          have HF : Hid (decide (l = k) = false) := decide_eq_false (NE.out hxy)
          go_wp2
          go_quiet (fail)
          go_wp2
          go_ret
          exact ⟨ret_bool HF.out.symm, bl3 HB.out (drew_below _ _)⟩
      · obtain rfl : j = m := by omega
        have HF : Hid (decide (l = k) = true) := by
          have := HE.out
          rw [List.take_of_length_le (by rw [M1.out]; exact Nat.le_refl _), List.take_of_length_le (by rw [M2.out]; exact Nat.le_refl _)] at this
          exact decide_eq_true this
        go_wp2
        go_ret
        exact ⟨ret_bool HF.out.symm, HB.out⟩
  · have h1 : (l.length == k.length) = false := by simpa using hlen
    have h2 : ((l.length : Int) == (k.length : Int)) = false := by simp; omega
    have h3 : ((l.length : Int) != (k.length : Int)) = true := by simp; omega
    have HF : Hid (decide (l = k) = false) := decide_eq_false (fun e => hlen (by rw [e]))
    generalize l.length = m1 at *
    generalize k.length = m2 at *
    go_enter Try.func13, Try.ntmps13
    go_wp2
    go_ret
    exact ⟨ret_bool HF.out.symm, BR.out⟩
theorem OwnG.sl {α : Type} {K : RK α} {w : World} {base : Nat} {v : Value} {l : List α} (h : OwnG K w base v l) : ∃ p c, v = .slice p l.length c ∧ OwnG K w base (.slice p l.length c) l := by
  obtain ⟨p, c, e, _⟩ := h.form
  exact ⟨p, c, e, by rw [← e]; exact h⟩
set_option maxHeartbeats 2000000 in
theorem copyInts_any (w : World) (v : Value) (l : List Int) (hv : GS KI w v l) (HL : l.length * 8 ≤ 140737488355328) : Calls Try.prog 10 #[v] w fun e w' => ∃ p c, e = .returned (.slice p l.length c) ∧ OwnG KI w' w.heap.size (.slice p l.length c) l ∧ Below w.heap.size w w' := by
  have BA : Hid (Below w.heap.size w (w.alloc (.cells #[] 3))) := bal _ _
  have O0 : Hid (OwnG KI (w.alloc (.cells #[] 3)) w.heap.size (.slice (some ⟨w.heap.size, 0, none⟩) 0 0) []) := OwnG.empty KI w
  have G0 := hid (hv.below BA.out)
  have LS : Hid ((([] : List Int).length + l.length) * KI.B ≤ 140737488355328) := by show (0 + _) * 8 ≤ _; omega
  have BS : Hid (w.heap.size ≤ (w.alloc (.cells #[] 3)).heap.size) := BA.out.size
  clear hv HL
  generalize hW : w.alloc (.cells #[] 3) = W at *
  go_enter Try.func10, Try.ntmps10
  go_wp2_with (at_builtin; refine append_gs KI KI_ok rfl (.tmp 3) (.tmp 4) 25 rfl w.heap.size Try.underlying25 W (.slice (some ⟨w.heap.size, 0, none⟩) 0 0) v [] l rfl rfl O0.out G0.out LS.out BS.out ?_; intro v5 w5 ho5 hb5 _; rw [List.nil_append] at ho5; obtain ⟨p5, c5, e5, o5⟩ := ho5.sl; subst e5; have O5 := hid o5; have B5 := hid hb5; clear ho5 hb5 o5)
  go_ret
  exact ⟨p5, c5, rfl, O5.out, BA.out.trans B5.out⟩
/-- Is a number among others? -/
theorem mem_take {l : List Int} {j : Nat} (hj : j < l.length) {x : Int} (h : x ∉ l.take j) (hx : l[j] ≠ x) : x ∉ l.take (j + 1) := by
  rw [List.take_succ_eq_append_getElem hj, List.mem_append, List.mem_singleton]
  rintro (e | e)
  · exact h e
  · exact hx e.symm
set_option maxHeartbeats 2000000 in
theorem has_any (w : World) (v : Value) (l : List Int) (x : Int) (hv : GS KI w v l) (HL : l.length ≤ 140737488355328) : Calls Try.prog 51 #[v, .int .i64 x] w fun e w' => e = .returned (.bool (decide (x ∈ l))) ∧ w' = w := by
  obtain ⟨p, c, rfl⟩ := hv.form
  have A1 := hid (fun j (hj : j < l.length) => GS.atI hv hj)
  obtain ⟨m, hm⟩ : ∃ m, m = l.length := ⟨_, rfl⟩
  rw [← hm]
  rw [← hm] at HL
  have M1 : Hid (l.length = m) := hm.symm
  clear hm hv
  go_enter Try.func51, Try.ntmps51
  go_wp2
  go_loopw [5] (fun v5 wr => ∃ (j : Nat), v5 = .int .i64 j ∧ wr = w ∧ j ≤ m ∧ Hid (x ∉ l.take j)) (fun v5 _ => m - (intOf v5).toNat)
  case atStart => exact ⟨0, rfl, rfl, Nat.zero_le _, by show _ ∉ _; simp⟩
  case round =>
    obtain ⟨j, rfl, hw, hj, HE⟩ := hrel
    subst hw
    by_cases hlt : j < m
    · have j1 : j < l.length := by have := M1.out; omega
      obtain ⟨X, o, e1, c1⟩ := A1.out j j1
      subst e1
      have NX := hid (mem_take j1 HE.out)
      have IN : Hid (l[j] ∈ l) := List.getElem_mem j1
      generalize l[j] = y at *
      by_cases hxy : y = x
      · subst hxy
        have HF : Hid (decide (y ∈ l) = true) := decide_eq_true IN.out
        go_wp2
        go_ret
        exact ⟨ret_bool HF.out.symm, rfl⟩
      · have b1 : (y == x) = false := by simpa using hxy
        have N2 := hid (NX.out hxy)
        go_wp2
        go_roundw
        case rel => exact ⟨j + 1, by go_num, by simp, by omega, N2⟩
        case measure => simp [intOf]; omega
    · obtain rfl : j = m := by omega
      have HF : Hid (decide (x ∈ l) = false) := by
        have := HE.out
        rw [List.take_of_length_le (by rw [M1.out]; exact Nat.le_refl _)] at this
        exact decide_eq_false this
      go_wp2
      go_ret
      exact ⟨ret_bool HF.out.symm, rfl⟩
def bF (bs : List Bool) (x : Nat) : Bool := bs.getD x false
set_option maxHeartbeats 4000000 in
theorem told_any (w : World) (v : Value) (bs : List Bool) (hv : GS KB w v bs) (HL : bs.length ≤ 4096) : Calls Try.prog 65 #[v] w fun e w' => ∃ p c, e = .returned (.slice p (nI (ris bs.length (bF bs))).length c) ∧ OwnG KI w' w.heap.size (.slice p (nI (ris bs.length (bF bs))).length c) (nI (ris bs.length (bF bs))) ∧ Below w.heap.size w w' := by
  obtain ⟨p, c, rfl⟩ := hv.form
  have A1 := hid (fun w' (hb : Below w.heap.size w w') j (hj : j < bs.length) => GS.atB (hv.below hb) hj)
  have BA : Hid (Below w.heap.size w (w.alloc (.cells #[] 3))) := bal _ _
  have O0 : Hid (OwnG KI (w.alloc (.cells #[] 3)) w.heap.size (.slice (some ⟨w.heap.size, 0, none⟩) 0 0) []) := OwnG.empty KI w
  have RZ := hid (fun j (hj : j < bs.length) => ris_succ j (bF bs))
  obtain ⟨m, hm⟩ : ∃ m, m = bs.length := ⟨_, rfl⟩
  rw [← hm]
  rw [← hm] at HL
  have M1 : Hid (bs.length = m) := hm.symm
  clear hm hv
  go_enter Try.func65, Try.ntmps65
  go_wp2
  generalize w.alloc (.cells #[] 3) = W at *
  go_loopw [3, 4] (fun v3 v4 wr => ∃ (j : Nat) (R : List Int) (q : Option Addr) (d : Nat) (wk : World), v4 = .int .i64 j ∧ v3 = .slice q R.length d ∧ wk = wr ∧ j ≤ m ∧ Hid (R = nI (ris j (bF bs))) ∧ Hid (OwnG KI wk w.heap.size (.slice q R.length d) R) ∧ Hid (Below w.heap.size w wk)) (fun _ v4 _ => m - (intOf v4).toNat)
  case atStart => exact ⟨0, [], _, _, _, rfl, rfl, rfl, Nat.zero_le _, rfl, O0, BA⟩
  case round =>
    obtain ⟨j, R, q, d, wr, rfl, rfl, rfl, hj, HR, HO, HB⟩ := hrel
    clear O0 BA
    by_cases hlt : j < m
    · have j1 : j < bs.length := by have := M1.out; omega
      obtain ⟨X, o, e1, c1⟩ := A1.out wr HB.out j j1
      subst e1
      have hbj : bF bs j = bs[j] := by simp [bF, List.getD, j1]
      have RS := hid (RZ.out j j1)
      rw [hbj] at RS
      have RL : R.length ≤ 4096 := by rw [HR.out, nI_len]; have := ris_len j (bF bs); omega
      have LS : Hid ((R.length + 1) * KI.B ≤ 140737488355328) := by show (_ + 1) * 8 ≤ _; omega
      generalize bs[j] = y at *
      clear hbj
      cases y with
      | true =>
        have R2 : Hid (R ++ [(j : Int)] = nI (ris (j + 1) (bF bs))) := by show _ = _; rw [RS.out, if_pos rfl, nI_app, HR.out]; rfl
        go_wp2_with (at_builtin; refine append_g KI KI_ok rfl (.tmp 16) (.tmp 18) 25 rfl w.heap.size Try.underlying25 wr _ _ (.slice q R.length d) R (j : Int) _ rfl HO.out wr.heap.size rfl rfl rfl LS.out HB.out.size ?_; intro g5 cp5 w5 ho5 hb5 _ _; have O5 := hid ho5; have B5 := hid (HB.out.trans hb5); clear ho5 hb5)
        go_roundw
        case rel => exact ⟨j + 1, R ++ [(j : Int)], some ⟨g5, 0, none⟩, cp5, _, by go_num, by rw [List.length_append]; rfl, rfl, by omega, R2, by rw [List.length_append]; exact O5.out, B5⟩
        case measure => simp [intOf]; omega
      | false =>
        have R2 : Hid (R = nI (ris (j + 1) (bF bs))) := by show _ = _; rw [RS.out, if_neg (by simp), HR.out]
        go_wp2
        go_roundw
        case rel => exact ⟨j + 1, R, _, _, _, by go_num, rfl, rfl, by omega, R2, HO, HB⟩
        case measure => simp [intOf]; omega
    · obtain rfl : j = m := by omega
      go_wp2
      go_ret
      rw [← HR.out]
      exact ⟨q, d, rfl, HO.out, HB.out⟩
end Go.Proofs.Ytghkhceplpjegaa
