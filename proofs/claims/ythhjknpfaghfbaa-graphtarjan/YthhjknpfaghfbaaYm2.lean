/- Graph: the law's way. -/
import Derived.Test.YthhjknpfaghfbaaYl2
namespace Go.Proofs.Ythhjknpfaghfbaa
open Go.RowKit

/-- Which of the lists has it. -/
def pcI (C : List (List Nat)) (x : Nat) : Nat := C.findIdx fun l => decide (x ∈ l)
/-- Lists that part the nodes. -/
structure PT (N : Nat) (E : List (Nat × Nat)) (C : List (List Nat)) : Prop where
  n : C.length ≤ N
  lt : ∀ i (hi : i < C.length), ∀ x ∈ C[i], x < N
  nd : ∀ i (hi : i < C.length), C[i].Nodup
  all : ∀ x, x < N → ∃ i, ∃ hi : i < C.length, x ∈ C[i]
  is : ∀ i (hi : i < C.length) j (hj : j < C.length), ∀ x ∈ C[i], ∀ y ∈ C[j], i = j ↔ sc E x y
theorem cm_PT (N : Nat) (E : List (Nat × Nat)) : PT N E (cmL N E) := by
  have hn : (cmL N E).length = (ris N (lst E)).length := by simp [cmL]
  have at_ : ∀ i (hi : i < (cmL N E).length), (cmL N E)[i] = prt N E ((ris N (lst E))[i]'(by rw [← hn]; exact hi)) := fun i hi => by simp [cmL]
  have ld : ∀ i (hi : i < (ris N (lst E)).length), (ris N (lst E))[i] < N ∧ lst E (ris N (lst E))[i] = true := fun i hi => ris_mem.1 (List.getElem_mem hi)
  refine ⟨by rw [hn]; exact ris_len _ _, fun i hi x hx => ?_, fun i hi => ?_, fun x hx => ?_, fun i hi j hj x hx y hy => ?_⟩
  · rw [at_ i hi] at hx
    exact (prt_mem.1 hx).1
  · rw [at_ i hi]
    exact (ris_up _ _).imp fun h => Nat.ne_of_lt h
  · obtain ⟨h1, h2, h3, h4⟩ := prt_hd (E := E) hx
    obtain ⟨i, hi, e⟩ := List.getElem_of_mem (ris_mem.2 ⟨h3, h2⟩)
    exact ⟨i, by rw [hn]; exact hi, by rw [at_ i (by rw [hn]; exact hi), e]; exact prt_mem.2 ⟨hx, h1.symm⟩⟩
  · rw [at_ i hi] at hx
    rw [at_ j hj] at hy
    obtain ⟨_, sx⟩ := prt_mem.1 hx
    obtain ⟨_, sy⟩ := prt_mem.1 hy
    constructor
    · intro e
      subst e
      exact sx.symm.trans sy
    · intro s
      obtain ⟨l1, t1⟩ := ld i (by rw [← hn]; exact hi)
      obtain ⟨l2, t2⟩ := ld j (by rw [← hn]; exact hj)
      have s2 := (sx.trans s).trans sy.symm
      have e : (ris N (lst E))[i]'(by rw [← hn]; exact hi) = (ris N (lst E))[j]'(by rw [← hn]; exact hj) := by
        rcases Nat.lt_trichotomy ((ris N (lst E))[i]'(by rw [← hn]; exact hi)) ((ris N (lst E))[j]'(by rw [← hn]; exact hj)) with z | z | z
        · exact absurd s2.symm (lst_iff.1 t2 _ z)
        · exact z
        · exact absurd s2 (lst_iff.1 t1 _ z)
      have up := ris_up N (lst E)
      rw [List.pairwise_iff_getElem] at up
      rcases Nat.lt_trichotomy i j with z | z | z
      · have := up i j (by rw [← hn]; exact hi) (by rw [← hn]; exact hj) z; omega
      · exact z
      · have := up j i (by rw [← hn]; exact hj) (by rw [← hn]; exact hi) z; omega
theorem PT.one {N : Nat} {E : List (Nat × Nat)} {C : List (List Nat)} (h : PT N E C) {i j : Nat} (hi : i < C.length) (hj : j < C.length) {x : Nat} (hx : x ∈ C[i]) (hy : x ∈ C[j]) : i = j := (h.is i hi j hj x hx x hy).2 (sc.refl _ _)
theorem PT.pc {N : Nat} {E : List (Nat × Nat)} {C : List (List Nat)} (h : PT N E C) {i : Nat} (hi : i < C.length) {x : Nat} (hx : x ∈ C[i]) : pcI C x = i := by
  unfold pcI
  rw [List.findIdx_eq hi]
  refine ⟨decide_eq_true hx, fun j hj => decide_eq_false fun q => ?_⟩
  have := h.one (by omega) hi q hx
  omega
theorem PT.pcs {N : Nat} {E : List (Nat × Nat)} {C : List (List Nat)} (h : PT N E C) {x y : Nat} (hx : x < N) (hy : y < N) : pcI C x < C.length ∧ (pcI C x = pcI C y ↔ sc E x y) := by
  obtain ⟨i, hi, h1⟩ := h.all x hx
  obtain ⟨j, hj, h2⟩ := h.all y hy
  rw [h.pc hi h1, h.pc hj h2]
  exact ⟨hi, h.is i hi j hj x h1 y h2⟩
/-- What is known behind i lists and k nodes. -/
def ofF (C : List (List Nat)) (i k x : Nat) : Int := if (∃ j, ∃ hj : j < C.length, j < i ∧ x ∈ C[j]) ∨ (∃ hi : i < C.length, x ∈ C[i].take k) then (pcI C x : Int) else -1
theorem ofF_start (C : List (List Nat)) (x : Nat) : ofF C 0 0 x = -1 := by
  unfold ofF
  rw [if_neg]
  rintro (⟨j, _, h, _⟩ | ⟨_, h⟩)
  · omega
  · simp at h
theorem PT.of_no {N : Nat} {E : List (Nat × Nat)} {C : List (List Nat)} (h : PT N E C) {i k : Nat} (hi : i < C.length) (hk : k < C[i].length) : ofF C i k C[i][k] = -1 := by
  unfold ofF
  rw [if_neg]
  rintro (⟨j, hj, h1, h2⟩ | ⟨_, h2⟩)
  · have := h.one hj hi h2 (List.getElem_mem hk); omega
  · exact take_not (h.nd i hi) hk h2
theorem PT.of_put {N : Nat} {E : List (Nat × Nat)} {C : List (List Nat)} (h : PT N E C) {i k : Nat} (hi : i < C.length) (hk : k < C[i].length) (x : Nat) : upF (ofF C i k) C[i][k] i x = ofF C i (k + 1) x := by
  unfold upF ofF
  by_cases e : x = C[i][k]
  · rw [if_pos e, if_pos (Or.inr ⟨hi, (take_mem hk).2 (Or.inr e)⟩), h.pc hi (by rw [e]; exact List.getElem_mem hk)]
  · rw [if_neg e]
    have iff : ((∃ j, ∃ hj : j < C.length, j < i ∧ x ∈ C[j]) ∨ (∃ hi : i < C.length, x ∈ C[i].take k)) ↔ ((∃ j, ∃ hj : j < C.length, j < i ∧ x ∈ C[j]) ∨ (∃ hi : i < C.length, x ∈ C[i].take (k + 1))) := by
      constructor
      · rintro (q | ⟨_, q⟩)
        · exact Or.inl q
        · exact Or.inr ⟨hi, (take_mem hk).2 (Or.inl q)⟩
      · rintro (q | ⟨_, q⟩)
        · exact Or.inl q
        · exact Or.inr ⟨hi, ((take_mem hk).1 q).resolve_right e⟩
    by_cases q : (∃ j, ∃ hj : j < C.length, j < i ∧ x ∈ C[j]) ∨ (∃ hi : i < C.length, x ∈ C[i].take k)
    · rw [if_pos q, if_pos (iff.1 q)]
    · rw [if_neg q, if_neg (fun z => q (iff.2 z))]
theorem ofF_next {C : List (List Nat)} {i : Nat} (hi : i < C.length) (x : Nat) : ofF C i C[i].length x = ofF C (i + 1) 0 x := by
  unfold ofF
  have iff : ((∃ j, ∃ hj : j < C.length, j < i ∧ x ∈ C[j]) ∨ (∃ hi : i < C.length, x ∈ C[i].take (C[i]'(by omega)).length)) ↔ ((∃ j, ∃ hj : j < C.length, j < i + 1 ∧ x ∈ C[j]) ∨ (∃ hi : i + 1 < C.length, x ∈ C[i + 1].take 0)) := by
    constructor
    · rintro (⟨j, hj, h1, h2⟩ | ⟨h1, h2⟩)
      · exact Or.inl ⟨j, hj, by omega, h2⟩
      · rw [List.take_of_length_le (Nat.le_refl _)] at h2
        exact Or.inl ⟨i, hi, by omega, h2⟩
    · rintro (⟨j, hj, h1, h2⟩ | ⟨_, h2⟩)
      · by_cases e : j = i
        · subst e
          exact Or.inr ⟨hi, by rw [List.take_of_length_le (Nat.le_refl _)]; exact h2⟩
        · exact Or.inl ⟨j, hj, by omega, h2⟩
      · simp at h2
  by_cases q : (∃ j, ∃ hj : j < C.length, j < i ∧ x ∈ C[j]) ∨ (∃ hi : i < C.length, x ∈ C[i].take (C[i]'(by omega)).length)
  · rw [if_pos q, if_pos (iff.1 q)]
  · rw [if_neg q, if_neg (fun z => q (iff.2 z))]
theorem PT.of_all {N : Nat} {E : List (Nat × Nat)} {C : List (List Nat)} (h : PT N E C) {x : Nat} (hx : x < N) : ofF C C.length 0 x = pcI C x := by
  obtain ⟨i, hi, h1⟩ := h.all x hx
  unfold ofF
  rw [if_pos (Or.inl ⟨i, hi, hi, h1⟩)]
/-- Edges from component to component. -/
def heF (C : List (List Nat)) (E : List (Nat × Nat)) : List (Nat × Nat) := (E.filter fun e => decide (pcI C e.1 ≠ pcI C e.2)).map fun e => (pcI C e.1, pcI C e.2)
theorem heF_nil (C : List (List Nat)) : heF C [] = [] := rfl
theorem heF_yes {C : List (List Nat)} {E : List (Nat × Nat)} {j : Nat} (hj : j < E.length) (h : pcI C E[j].1 ≠ pcI C E[j].2) : heF C (E.take (j + 1)) = heF C (E.take j) ++ [(pcI C E[j].1, pcI C E[j].2)] := by
  unfold heF
  rw [List.take_succ_eq_append_getElem hj, List.filter_append, List.map_append]
  simp [h]
theorem heF_no {C : List (List Nat)} {E : List (Nat × Nat)} {j : Nat} (hj : j < E.length) (h : pcI C E[j].1 = pcI C E[j].2) : heF C (E.take (j + 1)) = heF C (E.take j) := by
  unfold heF
  rw [List.take_succ_eq_append_getElem hj, List.filter_append, List.map_append]
  simp [h]
theorem heF_len (C : List (List Nat)) (E : List (Nat × Nat)) : (heF C E).length ≤ E.length := by
  unfold heF
  rw [List.length_map]
  exact List.length_filter_le _ _
theorem heF_mem {C : List (List Nat)} {E : List (Nat × Nat)} {c d : Nat} (h : (c, d) ∈ heF C E) : ∃ a b, (a, b) ∈ E ∧ pcI C a = c ∧ pcI C b = d ∧ c ≠ d := by
  unfold heF at h
  rw [List.mem_map] at h
  obtain ⟨⟨a, b⟩, h1, h2⟩ := h
  rw [List.mem_filter, decide_eq_true_iff] at h1
  rw [Prod.mk.injEq] at h2
  exact ⟨a, b, h1.1, h2.1, h2.2, by rw [← h2.1, ← h2.2]; exact h1.2⟩
theorem PT.he {N : Nat} {E : List (Nat × Nat)} {C : List (List Nat)} (h : PT N E C) (hg : GOK N E) : GOK C.length (heF C E) := by
  refine ⟨Nat.le_trans h.n hg.n, Nat.le_trans (heF_len C E) hg.e, fun x hx => ?_⟩
  obtain ⟨a, b, h1, h2, h3, _⟩ := heF_mem (c := x.1) (d := x.2) hx
  obtain ⟨l1, l2⟩ := hg.lt _ h1
  rw [← h2, ← h3]
  exact ⟨(h.pcs l1 l1).1, (h.pcs l2 l2).1⟩
/-- A way from component to component is one from node to node. -/
theorem PT.way {N : Nat} {E : List (Nat × Nat)} {C : List (List Nat)} (h : PT N E C) (hg : GOK N E) {c d : Nat} (k : Wy (ed (heF C E)) c d) : ∃ a b a', (a, b) ∈ E ∧ pcI C a = c ∧ pcI C b ≠ c ∧ a' < N ∧ pcI C a' = d ∧ Rs (ed E) b a' := by
  have key : ∀ {c d : Nat}, Wy (ed (heF C E)) c d → ∀ x, x < N → pcI C x = c → ∃ y, y < N ∧ pcI C y = d ∧ Rs (ed E) x y := by
    intro c d k
    induction k with
    | one e =>
      intro x hx hc
      obtain ⟨a, b, h1, h2, h3, _⟩ := heF_mem e
      obtain ⟨l1, l2⟩ := hg.lt _ h1
      have s := (h.pcs hx l1).2.1 (by rw [hc, h2])
      exact ⟨b, l2, h3, Or.inr (s.1.snoc h1)⟩
    | more e k ih =>
      intro x hx hc
      obtain ⟨a, b, h1, h2, h3, _⟩ := heF_mem e
      obtain ⟨l1, l2⟩ := hg.lt _ h1
      have s := (h.pcs hx l1).2.1 (by rw [hc, h2])
      obtain ⟨y, y1, y2, y3⟩ := ih b l2 h3
      exact ⟨y, y1, y2, Rs.trans (Or.inr (s.1.snoc h1)) y3⟩
  cases k with
  | one e =>
    obtain ⟨a, b, h1, h2, h3, h4⟩ := heF_mem e
    exact ⟨a, b, b, h1, h2, by rw [h3]; exact fun q => h4 q.symm, (hg.lt _ h1).2, h3, Rs.refl _ _⟩
  | more e k =>
    obtain ⟨a, b, h1, h2, h3, h4⟩ := heF_mem e
    obtain ⟨y, y1, y2, y3⟩ := key k b (hg.lt _ h1).2 h3
    exact ⟨a, b, y, h1, h2, by rw [h3]; exact fun q => h4 q.symm, y1, y2, y3⟩
theorem PT.still {N : Nat} {E : List (Nat × Nat)} {C : List (List Nat)} (h : PT N E C) (hg : GOK N E) : rnL C.length (heF C E) = [] := by
  rw [rn_nil]
  intro c hc k
  obtain ⟨a, b, a', h1, h2, h3, h4, h5, h6⟩ := h.way hg k
  obtain ⟨l1, l2⟩ := hg.lt _ h1
  have s := (h.pcs h4 l1).2.1 (by rw [h5, h2])
  have sab : sc E a b := ⟨Or.inr (.one h1), h6.trans s.1⟩
  exact h3 (by rw [← (h.pcs l1 l2).2.2 sab]; exact h2)
open Classical in
/-- Is there a way, or is it that node? -/
noncomputable def wayB (E : List (Nat × Nat)) (x y : Nat) : Bool := decide (Rs (ed E) x y)
theorem wayB_iff {E : List (Nat × Nat)} {x y : Nat} : wayB E x y = true ↔ Rs (ed E) x y := by simp [wayB]
theorem PT.ways {N : Nat} {E : List (Nat × Nat)} {C : List (List Nat)} (h : PT N E C) {x y : Nat} (hx : x < N) (hy : y < N) : decide ((pcI C x : Int) = pcI C y) = (wayB E x y && wayB E y x) := by
  apply Bool.eq_iff_iff.2
  rw [decide_eq_true_iff, Bool.and_eq_true, wayB_iff, wayB_iff]
  have := (h.pcs hx hy).2
  constructor
  · intro e; exact this.1 (by omega)
  · intro s; have := this.2 s; omega
end Go.Proofs.Ythhjknpfaghfbaa
namespace Go.Proofs.Ythhjknpfaghfbaa
open Go.RowKit

theorem re_one {N : Nat} {E : List (Nat × Nat)} (hg : GOK N E) {x : Nat} (hx : x < N) : reE N (eI E) [(x : Int)] = 0 ∧ reA N (eI E) [(x : Int)] = nI (reL N E [x]) := by
  have h : reE N (eI E) [(x : Int)] = 0 := by
    unfold reE
    rw [if_pos hg.chk, if_neg (by simp), if_pos]
    unfold ndB
    have h1 : (0 : Int) ≤ (x : Nat) := by omega
    have h2 : (x : Int) < (N : Nat) := by omega
    simp [h1, h2]
  refine ⟨h, ?_⟩
  unfold reA
  rw [if_pos h, eN_eI]
  simp
theorem wayB_re {N : Nat} {E : List (Nat × Nat)} {x y : Nat} (hy : y < N) : decide ((y : Int) ∈ nI (reL N E [x])) = wayB E x y := by
  unfold wayB
  apply decide_eq_decide.2
  rw [nI_mem]
  constructor
  · rintro ⟨k, hk, e⟩
    obtain rfl : y = k := by omega
    unfold reL at hk
    rw [ris_mem, rcB_iff] at hk
    obtain ⟨_, r, hr, h⟩ := hk
    rw [List.mem_singleton] at hr
    subst hr
    exact h
  · intro h
    refine ⟨y, ?_, rfl⟩
    unfold reL
    rw [ris_mem, rcB_iff]
    exact ⟨hy, x, by simp, h⟩
set_option maxHeartbeats 8000000 in
theorem way_any (w : World) (N : Nat) (E : List (Nat × Nat)) (hg : GOK N E) (p : Option Addr) (c : Nat) (hv : GS KE w (.slice p E.length c) (eI E)) (x y : Nat) (hx : x < N) (hy : y < N) : Calls Try.prog 23 #[.agg #[.int .i64 N, .slice p E.length c], .int .i64 x, .int .i64 y] w fun e w' => e = .returned (.bool (wayB E x y)) ∧ Below w.heap.size w w' := by
  generalize hW : w.alloc (.cells #[.int .i64 N, .slice p E.length c] 24) = W
  obtain ⟨bw, c0⟩ := graph_box w N p E.length c hW
  have BW := hid bw
  obtain ⟨d0, d1⟩ := c0 W (Below.refl _ _)
  have LX : GS KI (W.alloc (.cells #[.int .i64 x] 3)) (.slice (some ⟨W.heap.size, 0, none⟩) 1 1) [(x : Int)] := OwnG.gs KI_ok.len (OwnG.lit KI W [(x : Int)] _ rfl rfl (by show 1 ≤ maxLen; unfold maxLen; omega))
  have RE := hid (reach_any (W.alloc (.cells #[.int .i64 x] 3)) N _ (eI E) ((hv.below bw).below (bal _ _)) _ [(x : Int)] LX (by simp))
  rw [(re_one hg hx).1, (re_one hg hx).2] at RE
  unfold AnsI at RE
  have HA := hid (fun w' v (h : GS KI w' v (nI (reL N E [x]))) => has_any w' v _ (y : Int) h (by rw [nI_len]; have := reL_len N E [x]; have := hg.n; omega))
  rw [wayB_re hy] at HA
  generalize nI (reL N E [x]) = L at *
  generalize wayB E x y = r at *
  generalize E.length = m at *
  clear hv hg hx hy LX bw c0
  go_enter Try.func23, Try.ntmps23
  go_wp2_with (first
    | (go_at_call 29; refine RE.out.mono ?_; rintro e w2 ⟨q2, c2, rfl, g2, b2⟩; have G2 := hid g2; have B2 := hid (bl2 b2); clear g2 b2)
    | (go_at_call 51; refine (HA.out _ _ G2.out).mono ?_; rintro e w3 ⟨rfl, hw3⟩; rw [hw3]; clear hw3))
  go_ret
  exact ⟨rfl, bl3 BW.out B2.out⟩
end Go.Proofs.Ythhjknpfaghfbaa
