/- Graph: Lean of the program, walked. -/
import Derived.Test.YthhjknpfaghfbaaYl2
import Derived.Test.YthhjknpfaghfbaaYc8
import Derived.Test.YthhjknpfaghfbaaYd2
import Derived.Test.YthhjknpfaghfbaaYh2
import Derived.Test.YthhjknpfaghfbaaYd4
import Derived.Test.YthhjknpfaghfbaaYf3
namespace Go.Proofs.Ythhjknpfaghfbaa
open Go.RowKit

/-- Which of the lists has it. -/
def pcI (C : List (List Nat)) (x : Nat) : Nat := C.findIdx fun l => decide (x ∈ l)
/-- Lists that part the nodes. -/
structure PT (N : Nat) (E : List (Nat × Nat)) (C : List (List Nat)) : Prop where
  n : C.length ≤ N
  lt : ∀ i (hi : i < C.length), ∀ x ∈ C[i], x < N
  nd : ∀ i (hi : i < C.length), C[i].Nodup
  all : ∀ x, x < N → ∃ i, ∃ hi : i < C.length, x ∈ C[i]
  is : ∀ i (hi : i < C.length) j (hj : j < C.length), ∀ x ∈ C[i], ∀ y ∈ C[j], i = j ↔ sc E x y
theorem cm_PT (N : Nat) (E : List (Nat × Nat)) : PT N E (cmL N E) := by
  have hn : (cmL N E).length = (ris N (lst E)).length := by simp [cmL]
  have at_ : ∀ i (hi : i < (cmL N E).length), (cmL N E)[i] = prt N E ((ris N (lst E))[i]'(by rw [← hn]; exact hi)) := fun i hi => by simp [cmL]
  have ld : ∀ i (hi : i < (ris N (lst E)).length), (ris N (lst E))[i] < N ∧ lst E (ris N (lst E))[i] = true := fun i hi => ris_mem.1 (List.getElem_mem hi)
  refine ⟨by rw [hn]; exact ris_len _ _, fun i hi x hx => ?_, fun i hi => ?_, fun x hx => ?_, fun i hi j hj x hx y hy => ?_⟩
  · rw [at_ i hi] at hx
    exact (prt_mem.1 hx).1
  · rw [at_ i hi]
    exact (ris_up _ _).imp fun h => Nat.ne_of_lt h
  · obtain ⟨h1, h2, h3, h4⟩ := prt_hd (E := E) hx
    obtain ⟨i, hi, e⟩ := List.getElem_of_mem (ris_mem.2 ⟨h3, h2⟩)
    exact ⟨i, by rw [hn]; exact hi, by rw [at_ i (by rw [hn]; exact hi), e]; exact prt_mem.2 ⟨hx, h1.symm⟩⟩
  · rw [at_ i hi] at hx
    rw [at_ j hj] at hy
    obtain ⟨_, sx⟩ := prt_mem.1 hx
    obtain ⟨_, sy⟩ := prt_mem.1 hy
    constructor
    · intro e
      subst e
      exact sx.symm.trans sy
    · intro s
      obtain ⟨l1, t1⟩ := ld i (by rw [← hn]; exact hi)
      obtain ⟨l2, t2⟩ := ld j (by rw [← hn]; exact hj)
      have s2 := (sx.trans s).trans sy.symm
      have e : (ris N (lst E))[i]'(by rw [← hn]; exact hi) = (ris N (lst E))[j]'(by rw [← hn]; exact hj) := by
        rcases Nat.lt_trichotomy ((ris N (lst E))[i]'(by rw [← hn]; exact hi)) ((ris N (lst E))[j]'(by rw [← hn]; exact hj)) with z | z | z
        · exact absurd s2.symm (lst_iff.1 t2 _ z)
        · exact z
        · exact absurd s2 (lst_iff.1 t1 _ z)
      have up := ris_up N (lst E)
      rw [List.pairwise_iff_getElem] at up
      rcases Nat.lt_trichotomy i j with z | z | z
      · have := up i j (by rw [← hn]; exact hi) (by rw [← hn]; exact hj) z; omega
      · exact z
      · have := up j i (by rw [← hn]; exact hj) (by rw [← hn]; exact hi) z; omega
theorem PT.one {N : Nat} {E : List (Nat × Nat)} {C : List (List Nat)} (h : PT N E C) {i j : Nat} (hi : i < C.length) (hj : j < C.length) {x : Nat} (hx : x ∈ C[i]) (hy : x ∈ C[j]) : i = j := (h.is i hi j hj x hx x hy).2 (sc.refl _ _)
theorem PT.pc {N : Nat} {E : List (Nat × Nat)} {C : List (List Nat)} (h : PT N E C) {i : Nat} (hi : i < C.length) {x : Nat} (hx : x ∈ C[i]) : pcI C x = i := by
  unfold pcI
  rw [List.findIdx_eq hi]
  refine ⟨decide_eq_true hx, fun j hj => decide_eq_false fun q => ?_⟩
  have := h.one (by omega) hi q hx
  omega
theorem PT.pcs {N : Nat} {E : List (Nat × Nat)} {C : List (List Nat)} (h : PT N E C) {x y : Nat} (hx : x < N) (hy : y < N) : pcI C x < C.length ∧ (pcI C x = pcI C y ↔ sc E x y) := by
  obtain ⟨i, hi, h1⟩ := h.all x hx
  obtain ⟨j, hj, h2⟩ := h.all y hy
  rw [h.pc hi h1, h.pc hj h2]
  exact ⟨hi, h.is i hi j hj x h1 y h2⟩
/-- What is known behind i lists and k nodes. -/
def ofF (C : List (List Nat)) (i k x : Nat) : Int := if (∃ j, ∃ hj : j < C.length, j < i ∧ x ∈ C[j]) ∨ (∃ hi : i < C.length, x ∈ C[i].take k) then (pcI C x : Int) else -1
theorem ofF_start (C : List (List Nat)) (x : Nat) : ofF C 0 0 x = -1 := by
  unfold ofF
  rw [if_neg]
  rintro (⟨j, _, h, _⟩ | ⟨_, h⟩)
  · omega
  · simp at h
theorem PT.of_no {N : Nat} {E : List (Nat × Nat)} {C : List (List Nat)} (h : PT N E C) {i k : Nat} (hi : i < C.length) (hk : k < C[i].length) : ofF C i k C[i][k] = -1 := by
  unfold ofF
  rw [if_neg]
  rintro (⟨j, hj, h1, h2⟩ | ⟨_, h2⟩)
  · have := h.one hj hi h2 (List.getElem_mem hk); omega
  · exact take_not (h.nd i hi) hk h2
theorem PT.of_put {N : Nat} {E : List (Nat × Nat)} {C : List (List Nat)} (h : PT N E C) {i k : Nat} (hi : i < C.length) (hk : k < C[i].length) (x : Nat) : upF (ofF C i k) C[i][k] i x = ofF C i (k + 1) x := by
  unfold upF ofF
  by_cases e : x = C[i][k]
  · rw [if_pos e, if_pos (Or.inr ⟨hi, (take_mem hk).2 (Or.inr e)⟩), h.pc hi (by rw [e]; exact List.getElem_mem hk)]
  · rw [if_neg e]
    have iff : ((∃ j, ∃ hj : j < C.length, j < i ∧ x ∈ C[j]) ∨ (∃ hi : i < C.length, x ∈ C[i].take k)) ↔ ((∃ j, ∃ hj : j < C.length, j < i ∧ x ∈ C[j]) ∨ (∃ hi : i < C.length, x ∈ C[i].take (k + 1))) := by
      constructor
      · rintro (q | ⟨_, q⟩)
        · exact Or.inl q
        · exact Or.inr ⟨hi, (take_mem hk).2 (Or.inl q)⟩
      · rintro (q | ⟨_, q⟩)
        · exact Or.inl q
        · exact Or.inr ⟨hi, ((take_mem hk).1 q).resolve_right e⟩
    by_cases q : (∃ j, ∃ hj : j < C.length, j < i ∧ x ∈ C[j]) ∨ (∃ hi : i < C.length, x ∈ C[i].take k)
    · rw [if_pos q, if_pos (iff.1 q)]
    · rw [if_neg q, if_neg (fun z => q (iff.2 z))]
theorem ofF_next {C : List (List Nat)} {i : Nat} (hi : i < C.length) (x : Nat) : ofF C i C[i].length x = ofF C (i + 1) 0 x := by
  unfold ofF
  have iff : ((∃ j, ∃ hj : j < C.length, j < i ∧ x ∈ C[j]) ∨ (∃ hi : i < C.length, x ∈ C[i].take (C[i]'(by omega)).length)) ↔ ((∃ j, ∃ hj : j < C.length, j < i + 1 ∧ x ∈ C[j]) ∨ (∃ hi : i + 1 < C.length, x ∈ C[i + 1].take 0)) := by
    constructor
    · rintro (⟨j, hj, h1, h2⟩ | ⟨h1, h2⟩)
      · exact Or.inl ⟨j, hj, by omega, h2⟩
      · rw [List.take_of_length_le (Nat.le_refl _)] at h2
        exact Or.inl ⟨i, hi, by omega, h2⟩
    · rintro (⟨j, hj, h1, h2⟩ | ⟨_, h2⟩)
      · by_cases e : j = i
        · subst e
          exact Or.inr ⟨hi, by rw [List.take_of_length_le (Nat.le_refl _)]; exact h2⟩
        · exact Or.inl ⟨j, hj, by omega, h2⟩
      · simp at h2
  by_cases q : (∃ j, ∃ hj : j < C.length, j < i ∧ x ∈ C[j]) ∨ (∃ hi : i < C.length, x ∈ C[i].take (C[i]'(by omega)).length)
  · rw [if_pos q, if_pos (iff.1 q)]
  · rw [if_neg q, if_neg (fun z => q (iff.2 z))]
theorem PT.of_all {N : Nat} {E : List (Nat × Nat)} {C : List (List Nat)} (h : PT N E C) {x : Nat} (hx : x < N) : ofF C C.length 0 x = pcI C x := by
  obtain ⟨i, hi, h1⟩ := h.all x hx
  unfold ofF
  rw [if_pos (Or.inl ⟨i, hi, hi, h1⟩)]
/-- Edges from component to component. -/
def heF (C : List (List Nat)) (E : List (Nat × Nat)) : List (Nat × Nat) := (E.filter fun e => decide (pcI C e.1 ≠ pcI C e.2)).map fun e => (pcI C e.1, pcI C e.2)
theorem heF_nil (C : List (List Nat)) : heF C [] = [] := rfl
theorem heF_yes {C : List (List Nat)} {E : List (Nat × Nat)} {j : Nat} (hj : j < E.length) (h : pcI C E[j].1 ≠ pcI C E[j].2) : heF C (E.take (j + 1)) = heF C (E.take j) ++ [(pcI C E[j].1, pcI C E[j].2)] := by
  unfold heF
  rw [List.take_succ_eq_append_getElem hj, List.filter_append, List.map_append]
  simp [h]
theorem heF_no {C : List (List Nat)} {E : List (Nat × Nat)} {j : Nat} (hj : j < E.length) (h : pcI C E[j].1 = pcI C E[j].2) : heF C (E.take (j + 1)) = heF C (E.take j) := by
  unfold heF
  rw [List.take_succ_eq_append_getElem hj, List.filter_append, List.map_append]
  simp [h]
theorem heF_len (C : List (List Nat)) (E : List (Nat × Nat)) : (heF C E).length ≤ E.length := by
  unfold heF
  rw [List.length_map]
  exact List.length_filter_le _ _
theorem heF_mem {C : List (List Nat)} {E : List (Nat × Nat)} {c d : Nat} (h : (c, d) ∈ heF C E) : ∃ a b, (a, b) ∈ E ∧ pcI C a = c ∧ pcI C b = d ∧ c ≠ d := by
  unfold heF at h
  rw [List.mem_map] at h
  obtain ⟨⟨a, b⟩, h1, h2⟩ := h
  rw [List.mem_filter, decide_eq_true_iff] at h1
  rw [Prod.mk.injEq] at h2
  exact ⟨a, b, h1.1, h2.1, h2.2, by rw [← h2.1, ← h2.2]; exact h1.2⟩
theorem PT.he {N : Nat} {E : List (Nat × Nat)} {C : List (List Nat)} (h : PT N E C) (hg : GOK N E) : GOK C.length (heF C E) := by
  refine ⟨Nat.le_trans h.n hg.n, Nat.le_trans (heF_len C E) hg.e, fun x hx => ?_⟩
  obtain ⟨a, b, h1, h2, h3, _⟩ := heF_mem (c := x.1) (d := x.2) hx
  obtain ⟨l1, l2⟩ := hg.lt _ h1
  rw [← h2, ← h3]
  exact ⟨(h.pcs l1 l1).1, (h.pcs l2 l2).1⟩
/-- A way from component to component is one from node to node. -/
theorem PT.way {N : Nat} {E : List (Nat × Nat)} {C : List (List Nat)} (h : PT N E C) (hg : GOK N E) {c d : Nat} (k : Wy (ed (heF C E)) c d) : ∃ a b a', (a, b) ∈ E ∧ pcI C a = c ∧ pcI C b ≠ c ∧ a' < N ∧ pcI C a' = d ∧ Rs (ed E) b a' := by
  have key : ∀ {c d : Nat}, Wy (ed (heF C E)) c d → ∀ x, x < N → pcI C x = c → ∃ y, y < N ∧ pcI C y = d ∧ Rs (ed E) x y := by
    intro c d k
    induction k with
    | one e =>
      intro x hx hc
      obtain ⟨a, b, h1, h2, h3, _⟩ := heF_mem e
      obtain ⟨l1, l2⟩ := hg.lt _ h1
      have s := (h.pcs hx l1).2.1 (by rw [hc, h2])
      exact ⟨b, l2, h3, Or.inr (s.1.snoc h1)⟩
    | more e k ih =>
      intro x hx hc
      obtain ⟨a, b, h1, h2, h3, _⟩ := heF_mem e
      obtain ⟨l1, l2⟩ := hg.lt _ h1
      have s := (h.pcs hx l1).2.1 (by rw [hc, h2])
      obtain ⟨y, y1, y2, y3⟩ := ih b l2 h3
      exact ⟨y, y1, y2, Rs.trans (Or.inr (s.1.snoc h1)) y3⟩
  cases k with
  | one e =>
    obtain ⟨a, b, h1, h2, h3, h4⟩ := heF_mem e
    exact ⟨a, b, b, h1, h2, by rw [h3]; exact fun q => h4 q.symm, (hg.lt _ h1).2, h3, Rs.refl _ _⟩
  | more e k =>
    obtain ⟨a, b, h1, h2, h3, h4⟩ := heF_mem e
    obtain ⟨y, y1, y2, y3⟩ := key k b (hg.lt _ h1).2 h3
    exact ⟨a, b, y, h1, h2, by rw [h3]; exact fun q => h4 q.symm, y1, y2, y3⟩
theorem PT.still {N : Nat} {E : List (Nat × Nat)} {C : List (List Nat)} (h : PT N E C) (hg : GOK N E) : rnL C.length (heF C E) = [] := by
  rw [rn_nil]
  intro c hc k
  obtain ⟨a, b, a', h1, h2, h3, h4, h5, h6⟩ := h.way hg k
  obtain ⟨l1, l2⟩ := hg.lt _ h1
  have s := (h.pcs h4 l1).2.1 (by rw [h5, h2])
  have sab : sc E a b := ⟨Or.inr (.one h1), h6.trans s.1⟩
  exact h3 (by rw [← (h.pcs l1 l2).2.2 sab]; exact h2)
open Classical in
/-- Is there a way, or is it that node? -/
noncomputable def wayB (E : List (Nat × Nat)) (x y : Nat) : Bool := decide (Rs (ed E) x y)
theorem wayB_iff {E : List (Nat × Nat)} {x y : Nat} : wayB E x y = true ↔ Rs (ed E) x y := by simp [wayB]
theorem PT.ways {N : Nat} {E : List (Nat × Nat)} {C : List (List Nat)} (h : PT N E C) {x y : Nat} (hx : x < N) (hy : y < N) : decide ((pcI C x : Int) = pcI C y) = (wayB E x y && wayB E y x) := by
  apply Bool.eq_iff_iff.2
  rw [decide_eq_true_iff, Bool.and_eq_true, wayB_iff, wayB_iff]
  have := (h.pcs hx hy).2
  constructor
  · intro e; exact this.1 (by omega)
  · intro s; have := this.2 s; omega
end Go.Proofs.Ythhjknpfaghfbaa
namespace Go.Proofs.Ythhjknpfaghfbaa
open Go.RowKit

theorem re_one {N : Nat} {E : List (Nat × Nat)} (hg : GOK N E) {x : Nat} (hx : x < N) : reE N (eI E) [(x : Int)] = 0 ∧ reA N (eI E) [(x : Int)] = nI (reL N E [x]) := by
  have h : reE N (eI E) [(x : Int)] = 0 := by
    unfold reE
    rw [if_pos hg.chk, if_neg (by simp), if_pos]
    unfold ndB
    have h1 : (0 : Int) ≤ (x : Nat) := by omega
    have h2 : (x : Int) < (N : Nat) := by omega
    simp [h1, h2]
  refine ⟨h, ?_⟩
  unfold reA
  rw [if_pos h, eN_eI]
  simp
theorem wayB_re {N : Nat} {E : List (Nat × Nat)} {x y : Nat} (hy : y < N) : decide ((y : Int) ∈ nI (reL N E [x])) = wayB E x y := by
  unfold wayB
  apply decide_eq_decide.2
  rw [nI_mem]
  constructor
  · rintro ⟨k, hk, e⟩
    obtain rfl : y = k := by omega
    unfold reL at hk
    rw [ris_mem, rcB_iff] at hk
    obtain ⟨_, r, hr, h⟩ := hk
    rw [List.mem_singleton] at hr
    subst hr
    exact h
  · intro h
    refine ⟨y, ?_, rfl⟩
    unfold reL
    rw [ris_mem, rcB_iff]
    exact ⟨hy, x, by simp, h⟩
set_option maxHeartbeats 8000000 in
theorem way_any (w : World) (N : Nat) (E : List (Nat × Nat)) (hg : GOK N E) (p : Option Addr) (c : Nat) (hv : GS KE w (.slice p E.length c) (eI E)) (x y : Nat) (hx : x < N) (hy : y < N) : Calls Try.prog 23 #[.agg #[.int .i64 N, .slice p E.length c], .int .i64 x, .int .i64 y] w fun e w' => e = .returned (.bool (wayB E x y)) ∧ Below w.heap.size w w' := by
  generalize hW : w.alloc (.cells #[.int .i64 N, .slice p E.length c] 24) = W
  obtain ⟨bw, c0⟩ := graph_box w N p E.length c hW
  have BW := hid bw
  obtain ⟨d0, d1⟩ := c0 W (Below.refl _ _)
  have LX : GS KI (W.alloc (.cells #[.int .i64 x] 3)) (.slice (some ⟨W.heap.size, 0, none⟩) 1 1) [(x : Int)] := OwnG.gs KI_ok.len (OwnG.lit KI W [(x : Int)] _ rfl rfl (by show 1 ≤ maxLen; unfold maxLen; omega))
  have RE := hid (reach_any (W.alloc (.cells #[.int .i64 x] 3)) N _ (eI E) ((hv.below bw).below (bal _ _)) _ [(x : Int)] LX (by simp))
  rw [(re_one hg hx).1, (re_one hg hx).2] at RE
  unfold AnsI at RE
  have HA := hid (fun w' v (h : GS KI w' v (nI (reL N E [x]))) => has_any w' v _ (y : Int) h (by rw [nI_len]; have := reL_len N E [x]; have := hg.n; omega))
  rw [wayB_re hy] at HA
  generalize nI (reL N E [x]) = L at *
  generalize wayB E x y = r at *
  generalize E.length = m at *
  clear hv hg hx hy LX bw c0
  go_enter Try.func23, Try.ntmps23
  go_wp2_with (first
    | (go_at_call 29; refine RE.out.mono ?_; rintro e w2 ⟨q2, c2, rfl, g2, b2⟩; have G2 := hid g2; have B2 := hid (bl2 b2); clear g2 b2)
    | (go_at_call 51; refine (HA.out _ _ G2.out).mono ?_; rintro e w3 ⟨rfl, hw3⟩; rw [hw3]; clear hw3))
  go_ret
  exact ⟨rfl, bl3 BW.out B2.out⟩
end Go.Proofs.Ythhjknpfaghfbaa
namespace Go.Proofs.Ythhjknpfaghfbaa
open Go.RowKit

/-- A walk that gathers nothing. -/
structure MJ (w0 : World) (N bs : Nat) (W : World) (S : Nat → Bool) (L : List Nat) : Prop where
  bl : Below w0.heap.size w0 W
  sn : OwnG KB W w0.heap.size (.slice (some ⟨bs, 0, none⟩) N N) ((List.range N).map S)
  ls : ∀ y ∈ L, S y = true
theorem MJ.se {w0 : World} {N bs : Nat} {W : World} {S : Nat → Bool} {L : List Nat} (h : MJ w0 N bs W S L) {i : Nat} (hi : i < N) : W.cell? ⟨bs, i, none⟩ = some (.bool (S i)) ∧ W.frozen? ⟨bs, i, none⟩ = false := by
  refine ⟨?_, own_frozen h.sn i⟩
  obtain ⟨X, o, e, hc⟩ := (h.sn.gs KB_ok.len).atB (k := i) (by simpa using hi)
  injection e with e
  injection e with e1 e2 _
  subst e1 e2
  rw [Nat.zero_add] at hc
  rw [hc]
  simp
theorem MJ.st {w0 : World} {N bs : Nat} {W : World} {S : Nat → Bool} {L : List Nat} (h : MJ w0 N bs W S L) (i : Nat) : MJ w0 N bs (W.setCell ⟨bs, i, none⟩ (.bool true)) (adP S i) L := by
  refine ⟨h.bl.setCell (p := ⟨bs, i, none⟩) (h.sn.lt rfl).1 _, ?_, fun y hy => adP_iff.2 (Or.inl (h.ls y hy))⟩
  have := OwnG.set1 rfl KB_ok.len h.sn (k := i) true (.bool true) rfl
  rw [rmap_set] at this
  exact this
set_option maxHeartbeats 1000000 in
theorem none_any (w : World) (x : Nat) : Calls Try.prog 78 #[.int .i64 x] w fun e w' => e = .returned (.tuple #[]) ∧ w' = w := by
  go_enter Try.func78, Try.ntmps78
  go_wp2
  go_end0
  exact ⟨rfl, rfl⟩
theorem MJ.wk {w0 : World} {N bs zb lb : Nat} {vs : List Sl} {E : List (Nat × Nat)} (hg : GOK N E) (hz : LZ w0 zb lb N vs (fun i => nI (nx N E i))) : WK (nx N E) N lb bs N 78 #[] (fun i => (vs.getD i sl0).1) (fun i => (vs.getD i sl0).2.2) (MJ w0 N bs) :=
  ⟨fun h _ hi => (hz.below h.bl).cell hi, fun h _ hi => h.se hi, fun h i _ => h.st i, fun h => h.ls, fun {W S L} h i _ h1 _ => (none_any W i).mono fun e w' k => ⟨k.1, by rw [k.2]; exact ⟨h.bl, h.sn, fun y hy => by
    rcases List.mem_append.1 hy with q | q
    · exact h.ls y q
    · rw [List.mem_singleton] at q; rw [q]; exact h1⟩⟩, fun _ _ _ hy => (hg.lt _ ((nx_mem hg).1 hy)).2, fun i => Nat.le_trans (nx_len N E i) hg.n, enters_of Try.func78 (by kernel_rfl) rfl⟩
set_option maxHeartbeats 2000000 in
theorem mark_any {w0 : World} {N bs zb lb : Nat} {vs : List Sl} {E : List (Nat × Nat)} (hg : GOK N E) (hz : LZ w0 zb lb N vs (fun i => nI (nx N E i))) {W : World} {S : Nat → Bool} {L : List Nat} (h : MJ w0 N bs W S L) {x : Nat} (hx : x < N) : Calls Try.prog 63 #[.slice (some ⟨lb, 0, none⟩) N N, .int .i64 x, .slice (some ⟨bs, 0, none⟩) N N] W fun e w' => WO (nx N E) (MJ w0 N bs) S [x] L e w' := by
  have CW := hid (walk_all (MJ.wk hg hz) h hx)
  clear h hz hg
  go_enter Try.func63, Try.ntmps63
  go_wp2_with (go_at_call 44; refine CW.out.mono ?_; rintro e w5 ⟨rfl, h5⟩; have H5 := hid h5; clear h5)
  go_end0
  exact ⟨rfl, H5.out⟩
/-- Which a node has a way of two edges or more to. -/
theorem ar_is {N : Nat} {E : List (Nat × Nat)} (hg : GOK N E) {x : Nat} {S : Nat → Bool} {L : List Nat} (h : DL (nx N E) (fun _ => false) ((nx N E x).flatMap (nx N E)) S L) : S = wyB E (-1) (nx N E x) := by
  rw [h.rc hg]
  funext z
  apply Bool.eq_iff_iff.2
  rw [rcB_iff, wyB_iff]
  constructor
  · rintro ⟨r, hr, hz⟩
    obtain ⟨b, hb, hrb⟩ := List.mem_flatMap.1 hr
    refine ⟨b, hb, (Rs.step ((nx_mem hg).1 hrb : ed E b r) hz).imp fun a c k => (edW_none (by decide)).2 k⟩
  · rintro ⟨b, hb, hz⟩
    obtain ⟨r, h1, h2⟩ := (hz.imp fun a c k => (edW_none (by decide)).1 k : Wy (ed E) b z).first
    exact ⟨r, List.mem_flatMap.2 ⟨b, hb, (nx_mem hg).2 h1⟩, h2⟩
set_option maxRecDepth 100000 in
set_option maxHeartbeats 16000000 in
theorem around_any (w : World) (N : Nat) (E : List (Nat × Nat)) (hg : GOK N E) (zb lb : Nat) (vs : List Sl) (hz : LZ w zb lb N vs (fun i => nI (nx N E i))) (x : Nat) (hx : x < N) : Calls Try.prog 39 #[.slice (some ⟨lb, 0, none⟩) N N, .int .i64 x] w fun e w' => ∃ bs, e = .returned (.slice (some ⟨bs, 0, none⟩) N N) ∧ OwnG KB w' w.heap.size (.slice (some ⟨bs, 0, none⟩) N N) ((List.range N).map (wyB E (-1) (nx N E x))) ∧ Below w.heap.size w w' := by
  have NB : N ≤ 4096 := hg.n
  have MK := hid (fun (bs : Nat) (W : World) (S : Nat → Bool) (L : List Nat) (h : MJ w N bs W S L) y (hy : y < N) => mark_any (w0 := w) (bs := bs) hg hz h hy)
  have AR := hid (fun S L h => ar_is (N := N) (E := E) hg (x := x) (S := S) (L := L) h)
  have ZC := hid (fun wr (hb : Below w.heap.size w wr) i (hi : i < N) => LZ.cell (A := nx N E) (hz.below hb) hi)
  have HL := hid (fun i j (hj : j < (nx N E i).length) => (hg.lt _ ((nx_mem hg).1 (List.getElem_mem hj))).2)
  have LK := hid (fun i => nx_len N E i)
  have hxi : (x : Int) < (N : Nat) := by omega
  clear hg hz
  generalize nx N E = A at *
  go_enter Try.func39, Try.ntmps39
  go_upto_region 2 with (refine make_g KB KB_ok false rfl rfl w rfl (.tmp 11) (.tmp 11) 49 rfl Try.underlying49 N rfl rfl (by omega) (by decide) ?_; intro w3 ho3 hb3; have J0 : Hid (MJ w N w.heap.size w3 (fun _ => false) []) := ⟨hb3, by rw [show (List.range N).map (fun _ => false) = List.replicate N false from by simp [List.map_const']]; exact ho3, by simp⟩; clear ho3 hb3)
  obtain ⟨bs, hbs⟩ : ∃ bs, bs = w.heap.size := ⟨_, rfl⟩
  rw [← hbs] at J0 ⊢
  clear hbs
  obtain ⟨r1, r2⟩ := ZC.out w3 J0.out.bl x hx
  have lk := LK.out x
  obtain ⟨m, hm⟩ : ∃ m, m = (A x).length := ⟨_, rfl⟩
  have MM : Hid ((A x).length = m) := hm.symm
  have GX := hid (fun wq (hb : Below w.heap.size w wq) j (hj : j < (nI (A x)).length) => GS.atI (ZC.out wq hb x hx).2 hj)
  have HX := hid (HL.out x)
  have D0 : Hid (∃ S L, DL A (fun _ => false) (((A x).take 0).flatMap A) S L ∧ MJ w N bs w3 S L) := ⟨_, _, .nil, J0.out⟩
  rw [← hm] at r1 lk
  have TM : Hid ((A x).take m = A x) := List.take_of_length_le (by rw [hm]; exact Nat.le_refl _)
  generalize (vs.getD x sl0).1 = px at *
  generalize (vs.getD x sl0).2.2 = cx at *
  clear r2 hm J0
  go_wp2_with fail
  clear r1
  go_loopw [18] (fun v18 wr => ∃ (j : Nat) (wk : World), v18 = .int .i64 j ∧ wk = wr ∧ j ≤ m ∧ Hid (∃ S L, DL A (fun _ => false) (((A x).take j).flatMap A) S L ∧ MJ w N bs wk S L)) (fun v18 _ => m - (intOf v18).toNat)
  case atStart => exact ⟨0, _, rfl, rfl, Nat.zero_le _, D0⟩
  case round =>
    obtain ⟨j, wr, rfl, rfl, hj, HD⟩ := hrel
    clear D0
    have Br : Hid (Below w.heap.size w wr) := by obtain ⟨_, _, _, h⟩ := HD.out; exact h.bl
    by_cases hlt : j < m
    · have j1 : j < (A x).length := by have := MM.out; omega
      obtain ⟨Z, o, e1, c1⟩ := GX.out wr Br.out j (by rw [nI_len]; exact j1)
      rw [nI_at j1] at c1
      subst e1
      have hy := HX.out j j1
      have TK : Hid ((A x).take (j + 1) = (A x).take j ++ [(A x)[j]]) := List.take_succ_eq_append_getElem j1
      generalize (A x)[j] = b at *
      have hbi : (b : Int) < (N : Nat) := by omega
      have hji : (j : Int) < (m : Nat) := by omega
      obtain ⟨r1, r2⟩ := ZC.out wr Br.out b hy
      have lb2 := LK.out b
      obtain ⟨k, hk⟩ : ∃ k, k = (A b).length := ⟨_, rfl⟩
      have KK : Hid ((A b).length = k) := hk.symm
      have GB := hid (fun wq (hb : Below w.heap.size w wq) j (hj : j < (nI (A b)).length) => GS.atI (ZC.out wq hb b hy).2 hj)
      have HB := hid (HL.out b)
      have E0 : Hid (∃ S L, DL A (fun _ => false) (((A x).take j).flatMap A ++ (A b).take 0) S L ∧ MJ w N bs wr S L) := by
        show ∃ S L, _
        rw [List.take_zero, List.append_nil]
        exact HD.out
      have TB : Hid ((A b).take k = A b) := List.take_of_length_le (by rw [hk]; exact Nat.le_refl _)
      rw [← hk] at r1 lb2
      generalize (vs.getD b sl0).1 = pb at *
      generalize (vs.getD b sl0).2.2 = cb at *
      clear r2 hk HD
      go_wp2_with fail
      clear r1 c1
      go_loopw [27] (fun v27 wq => ∃ (i : Nat) (wk : World), v27 = .int .i64 i ∧ wk = wq ∧ i ≤ k ∧ Hid (∃ S L, DL A (fun _ => false) (((A x).take j).flatMap A ++ (A b).take i) S L ∧ MJ w N bs wk S L)) (fun v27 _ => k - (intOf v27).toNat)
      case atStart => exact ⟨0, _, rfl, rfl, Nat.zero_le _, E0⟩
      case round =>
        obtain ⟨i, wq, rfl, rfl, hi, HE⟩ := hrel
        clear E0 Br
        obtain ⟨S, L, dl, mj⟩ := HE.out
        have DH := hid dl
        have MH := hid mj
        clear dl mj HE
        by_cases hlt2 : i < k
        · have i1 : i < (A b).length := by have := KK.out; omega
          obtain ⟨Z2, o2, e2, c2⟩ := GB.out wq MH.out.bl i (by rw [nI_len]; exact i1)
          rw [nI_at i1] at c2
          subst e2
          have hz := HB.out i i1
          have TI : Hid ((A b).take (i + 1) = (A b).take i ++ [(A b)[i]]) := List.take_succ_eq_append_getElem i1
          generalize (A b)[i] = z at *
          have hzi : (z : Int) < (N : Nat) := by omega
          have hii : (i : Int) < (k : Nat) := by omega
          have CM := hid (MK.out bs wq S L MH.out z hz)
          go_wp2_with (go_at_call 63; refine CM.out.mono ?_; rintro e w5 ⟨rfl, S2, L2, d2, j2⟩; have N2 : Hid (∃ S L, DL A (fun _ => false) (((A x).take j).flatMap A ++ (A b).take (i + 1)) S L ∧ MJ w N bs w5 S L) := ⟨S2, L ++ L2, by rw [TI.out, ← List.append_assoc]; exact DH.out.app d2, j2⟩; clear d2 j2)
          go_roundw
          case rel => exact ⟨i + 1, _, by go_num, rfl, by omega, N2⟩
          case measure => simp [intOf]; omega
        · obtain rfl : i = k := by omega
          have N2 : Hid (∃ S L, DL A (fun _ => false) (((A x).take (j + 1)).flatMap A) S L ∧ MJ w N bs wq S L) := ⟨S, L, by
            rw [TK.out, List.flatMap_append, List.flatMap_singleton]
            have := DH.out
            rw [TB.out] at this
            exact this, MH.out⟩
          clear DH MH
          go_wp2_with fail
          go_roundw
          case rel => exact ⟨j + 1, _, by go_num, rfl, by omega, N2⟩
          case measure => simp [intOf]; omega
    · obtain rfl : j = m := by omega
      have FIN : Hid (OwnG KB wr w.heap.size (.slice (some ⟨bs, 0, none⟩) N N) ((List.range N).map (wyB E (-1) (A x)))) := by
        obtain ⟨S, L, dl, mj⟩ := HD.out
        rw [TM.out] at dl
        have := AR.out S L dl
        show OwnG _ _ _ _ _
        rw [← this]
        exact mj.sn
      clear HD
      go_wp2_with fail
      go_ret
      exact ⟨bs, rfl, FIN.out, Br.out⟩
end Go.Proofs.Ythhjknpfaghfbaa
namespace Go.Proofs.Ythhjknpfaghfbaa
open Go.RowKit

/-- One node's lean edges, the first j looked at; all of the first k nodes. -/
noncomputable def lnR (N : Nat) (E : List (Nat × Nat)) (x j : Nat) : List (Nat × Nat) := (((nx N E x).take j).filter fun y => !wyB E (-1) (nx N E x) y).map fun y => (x, y)
noncomputable def lnK (N : Nat) (E : List (Nat × Nat)) (k : Nat) : List (Nat × Nat) := (List.range k).flatMap fun x => lnR N E x (nx N E x).length
noncomputable def lnQ (N : Nat) (E : List (Nat × Nat)) : List (Nat × Nat) := lnK N E N
theorem lnR_zero (N : Nat) (E : List (Nat × Nat)) (x : Nat) : lnR N E x 0 = [] := by simp [lnR]
theorem lnR_yes {N : Nat} {E : List (Nat × Nat)} {x j : Nat} (hj : j < (nx N E x).length) (h : wyB E (-1) (nx N E x) (nx N E x)[j] = false) : lnR N E x (j + 1) = lnR N E x j ++ [(x, (nx N E x)[j])] := by
  unfold lnR
  rw [List.take_succ_eq_append_getElem hj, List.filter_append, List.map_append]
  simp [h]
theorem lnR_no {N : Nat} {E : List (Nat × Nat)} {x j : Nat} (hj : j < (nx N E x).length) (h : wyB E (-1) (nx N E x) (nx N E x)[j] = true) : lnR N E x (j + 1) = lnR N E x j := by
  unfold lnR
  rw [List.take_succ_eq_append_getElem hj, List.filter_append, List.map_append]
  simp [h]
theorem lnK_succ (N : Nat) (E : List (Nat × Nat)) (k : Nat) : lnK N E (k + 1) = lnK N E k ++ lnR N E k (nx N E k).length := by
  unfold lnK
  rw [List.range_succ, List.flatMap_append, List.flatMap_singleton]
theorem lnR_mem {N : Nat} {E : List (Nat × Nat)} (hg : GOK N E) {x j : Nat} {e : Nat × Nat} (h : e ∈ lnR N E x j) : e.1 = x ∧ e ∈ E ∧ wyB E (-1) (nx N E x) e.2 = false := by
  unfold lnR at h
  obtain ⟨y, hy, rfl⟩ := List.mem_map.1 h
  obtain ⟨h1, h2⟩ := List.mem_filter.1 hy
  exact ⟨rfl, (nx_mem hg).1 (List.mem_of_mem_take h1), by simpa using h2⟩
theorem lnK_mem {N : Nat} {E : List (Nat × Nat)} (hg : GOK N E) {k : Nat} {e : Nat × Nat} : e ∈ lnK N E k ↔ e.1 < k ∧ e ∈ E ∧ wyB E (-1) (nx N E e.1) e.2 = false := by
  unfold lnK
  rw [List.mem_flatMap]
  constructor
  · rintro ⟨x, hx, h⟩
    obtain ⟨h1, h2, h3⟩ := lnR_mem hg h
    rw [h1]
    exact ⟨by simpa using hx, h2, h3⟩
  · rintro ⟨h1, h2, h3⟩
    refine ⟨e.1, by simpa using h1, ?_⟩
    unfold lnR
    rw [List.take_length, List.mem_map]
    exact ⟨e.2, List.mem_filter.2 ⟨(nx_mem hg).2 h2, by simp [h3]⟩, rfl⟩
theorem nodup_sub {α : Type} [DecidableEq α] {L : List α} : ∀ {M : List α}, L.Nodup → (∀ x ∈ L, x ∈ M) → L.length ≤ M.length := by
  induction L with
  | nil => intro M _ _; exact Nat.zero_le _
  | cons a L ih =>
    intro M hn h
    rw [List.nodup_cons] at hn
    have ha : a ∈ M := h a (by simp)
    have := ih (M := M.erase a) hn.2 fun x hx => (List.mem_erase_of_ne (fun e => hn.1 (by rw [← e]; exact hx))).2 (h x (by simp [hx]))
    rw [List.length_erase_of_mem ha] at this
    have hp : 0 < M.length := List.length_pos_of_mem ha
    rw [List.length_cons]
    omega
theorem lnK_nodup {N : Nat} {E : List (Nat × Nat)} (hg : GOK N E) (k : Nat) : (lnK N E k).Nodup := by
  induction k with
  | zero => exact List.nodup_nil
  | succ k ih =>
    rw [lnK_succ, List.nodup_append]
    refine ⟨ih, ?_, fun a ha b hb e => ?_⟩
    · unfold lnR
      rw [List.take_length]
      have hu : (nx N E k).Nodup := (ris_up _ _).imp fun h => Nat.ne_of_lt h
      exact List.Pairwise.map _ (fun a b h e => h (by injection e)) (hu.filter _)
    · have h1 := ((lnK_mem hg).1 ha).1
      have h2 := (lnR_mem hg hb).1
      rw [e, h2] at h1
      exact absurd h1 (Nat.lt_irrefl _)
theorem lnR_len (N : Nat) (E : List (Nat × Nat)) (x j : Nat) : (lnR N E x j).length ≤ N := by
  unfold lnR
  rw [List.length_map]
  refine Nat.le_trans (List.length_filter_le _ _) (Nat.le_trans ?_ (nx_len N E x))
  rw [List.length_take]
  exact Nat.min_le_right _ _
theorem lnK_len {N : Nat} {E : List (Nat × Nat)} (hg : GOK N E) (k : Nat) : (lnK N E k).length ≤ E.length := nodup_sub (lnK_nodup hg k) fun _ h => ((lnK_mem hg).1 h).2.1
theorem lnQ_ok {N : Nat} {E : List (Nat × Nat)} (hg : GOK N E) : GOK N (lnQ N E) := ⟨hg.n, Nat.le_trans (lnK_len hg N) hg.e, fun e he => hg.lt e ((lnK_mem hg).1 he).2.1⟩
/-- What Lean answers. -/
noncomputable def lnA (n : Int) (e : List (Int × Int)) : Int := if orE n e = 0 then n else 0
noncomputable def lnL (n : Int) (e : List (Int × Int)) : List (Int × Int) := if orE n e = 0 then eI (lnQ n.toNat (eN e)) else []
theorem ln_yes {N : Nat} {E : List (Nat × Nat)} (hg : GOK N E) (h : rnL N E = []) : lnA N (eI E) = N ∧ lnL N (eI E) = eI (lnQ N E) := by
  refine ⟨by unfold lnA; rw [if_pos (orE_yes hg h).1], ?_⟩
  unfold lnL
  rw [if_pos (orE_yes hg h).1, eN_eI]
  simp
theorem ln_no {n : Int} {e : List (Int × Int)} (h : orE n e ≠ 0) : lnA n e = 0 ∧ lnL n e = [] := ⟨by unfold lnA; rw [if_neg h], by unfold lnL; rw [if_neg h]⟩
theorem TR.blw {W : World} {n : Int} {bb : Nat} {q : Option Addr} {c : Nat} {L : List (Int × Int)} {wk w1 : World} (h : TR W n bb q c L wk) (k : Below wk.heap.size wk w1) : TR W n bb q c L w1 := ⟨bl3 h.bl k, boxkeep k h.bx, h.ow.below k, h.ge⟩
/-- The lean graph's box, beside what a node leads to by way of others. -/
structure LAR (V : World) (n : Int) (bb bs N : Nat) (S : Nat → Bool) (q : Option Addr) (c : Nat) (L : List (Int × Int)) (wk : World) : Prop where
  tr : TR V n bb q c L wk
  ar : OwnG KB wk V.heap.size (.slice (some ⟨bs, 0, none⟩) N N) ((List.range N).map S)
theorem LAR.push {V : World} {n : Int} {bb bs N : Nat} {S : Nat → Bool} {q : Option Addr} {c : Nat} {L : List (Int × Int)} {wk w1 w8 : World} (h : LAR V n bb bs N S q c L wk) {x : Int × Int} {g8 c8 : Nat} (h1 : Below wk.heap.size wk w1) (ho : OwnG KE w8 V.heap.size (.slice (some ⟨g8, 0, none⟩) (L.length + 1) c8) (L ++ [x])) (hb8 : Below V.heap.size w1 w8) (hk : ∀ k, k < w1.heap.size → some k ≠ (Value.slice q L.length c).ownBlock → w8.heap[k]? = w1.heap[k]?) : LAR V n bb bs N S (some ⟨g8, 0, none⟩) c8 (L ++ [x]) (w8.setCell ⟨bb, 1, none⟩ (.slice (some ⟨g8, 0, none⟩) (L.length + 1) c8)) ∧ (w8.cell? ⟨bb, 1, none⟩ = some (.slice q L.length c)) ∧ ∀ o, w8.frozen? ⟨bb, o, none⟩ = false := by
  obtain ⟨k1, k2, k3⟩ := h.tr.push h1 ho hb8 hk
  refine ⟨⟨k1, ?_⟩, k2, k3⟩
  have a1 := h.ar.below h1
  have o1 := h.tr.ow.below h1
  have hB1 := boxkeep h1 h.tr.bx
  refine a1.far fun g hg => ?_
  rw [set_far (fun e => a1.notat hB1 (by decide) (by rw [← e]; exact hg))]
  exact hk g (a1.lt hg).2 (fun e => o1.apart a1 (by decide) hg e.symm)
theorem LAR.at {V : World} {n : Int} {bb bs N : Nat} {S : Nat → Bool} {q : Option Addr} {c : Nat} {L : List (Int × Int)} {wk : World} (h : LAR V n bb bs N S q c L wk) {i : Nat} (hi : i < N) : wk.cell? ⟨bs, i, none⟩ = some (.bool (S i)) := by
  obtain ⟨X, o, e, hc⟩ := (h.ar.gs KB_ok.len).atB (k := i) (by simpa using hi)
  injection e with e
  injection e with e1 e2 _
  subst e1 e2
  rw [Nat.zero_add] at hc
  rw [hc]
  simp
end Go.Proofs.Ythhjknpfaghfbaa
namespace Go.Proofs.Ythhjknpfaghfbaa
open Go.RowKit

set_option maxRecDepth 100000 in
set_option maxHeartbeats 32000000 in
theorem Lean_any (w : World) (n : Int) (v : Value) (l : List (Int × Int)) (hv : GS KE w v l) : Calls Try.prog 15 #[.agg #[.int .i64 n, v]] w fun e w' => AnsG w (lnA n l) (lnL n l) (orE n l) e w' := by
  obtain ⟨p, c, rfl⟩ := hv.form
  have TB := hid (TB2.mk_ w n (.slice p l.length c))
  generalize hW : (w.alloc (.cells #[.int .i64 n, .slice p l.length c] 24)).alloc (.cells #[.int .i64 0, .slice none 0 0] 24) = W at *
  have CK := hid (check_any W n _ l (hv.below TB.out.bl))
  obtain ⟨⟨d0, d1⟩, _, d2, d3, d4⟩ := TB.out.at (Below.refl _ _)
  have AT := hid (fun W' (hb : Below W.heap.size W W') => TB.out.at hb)
  have PU := hid (fun W' (hb : Below W.heap.size W W') a b => TB.out.put hb a b)
  by_cases h0 : chkG n l = 0
  · obtain ⟨N, E, rfl, rfl, hg⟩ := chkG_ok h0
    rw [h0] at CK
    have LN := hid (fun W' (hb : Below W.heap.size W W') => lanesOf_any W' N _ E hg ((hv.below TB.out.bl).below hb))
    have NB : N ≤ 4096 := hg.n
    have EB : E.length ≤ 16384 := hg.e
    by_cases hr : rnL N E = []
    · have OR := hid (fun W' bb lb vs h => (order_any W' N E hg bb lb vs h).mono (R' := _) fun e w' h => h.yes hr)
      rw [(ln_yes hg hr).1, (ln_yes hg hr).2, (orE_yes hg hr).1]
      have AR := hid (fun W' zb lb vs hz x hx => around_any W' N E hg zb lb vs hz x hx)
      have HL := hid (fun i j (hj : j < (nx N E i).length) => (hg.lt _ ((nx_mem hg).1 (List.getElem_mem hj))).2)
      have LK := hid (fun i => nx_len N E i)
      have RY := hid (fun x j (hj : j < (nx N E x).length) => lnR_yes hj)
      have RN := hid (fun x j (hj : j < (nx N E x).length) => lnR_no hj)
      have BD := hid (fun k => Nat.le_trans (lnK_len hg k) hg.e)
      have BR := hid (fun x j => Nat.le_trans (lnR_len N E x j) hg.n)
      have KS2 := hid (fun k => lnK_succ N E k)
      have LQ : Hid (lnQ N E = lnK N E N) := rfl
      rw [eI_len] at d1 CK LN AT TB hW ⊢
      generalize E.length = m at *
      clear TB h0 hg hr hv
      go_enter Try.func15, Try.ntmps15
      go_upto_region 8 with (first
        | (go_at_call 31; refine CK.out.mono ?_; rintro e w6 ⟨rfl, hb6⟩; have B6 := hid hb6; obtain ⟨⟨g0, g1⟩, _, g2, g3, g4⟩ := AT.out _ hb6; clear hb6)
        | (go_at_call 34; refine (LN.out _ B6.out).mono ?_; rintro e w7 ⟨b7, vs7, rfl, hz7, hb7⟩; have B7 := hid (bl3 B6.out hb7); have Z7 := hid hz7; have OC := hid (OR.out w7 _ b7 vs7 hz7); clear hb7 hz7)
        | (go_at_call 35; refine OC.out.mono ?_; rintro e w8 ⟨p8, c8, rfl, _, hb8⟩; have B8 := hid (bl3 B7.out hb8); have Z8 := hid (Z7.out.below hb8); obtain ⟨⟨k0, k1⟩, _, k2, k3, k4⟩ := AT.out _ B8.out; clear hb8))
      clear CK LN OR OC B6 B7 Z7 g0 g1 g2 g3 g4 d0 d1 d2 d3 d4
      have Q0 : Hid (TR w8 N w8.heap.size none 0 (eI (lnK N E 0)) (w8.alloc (.cells #[.int .i64 N, .slice none 0 0] 24))) := ⟨bal _ _, heap_alloc_new _ _, OwnG.nil _ _ _, Nat.le_refl _⟩
      go_upto_region 9 with fail
      obtain ⟨bb, hbb⟩ : ∃ bb, bb = w8.heap.size := ⟨_, rfl⟩
      rw [← hbb] at Q0 ⊢
      generalize w8.alloc (.cells #[.int .i64 N, .slice none 0 0] 24) = V8 at *
      have BX : Hid (bb < V8.heap.size ∧ True) := ⟨lt_of_heap Q0.out.bx, trivial⟩
      obtain ⟨sz, hsz⟩ : ∃ sz, sz = w.heap.size := ⟨_, rfl⟩
      rw [← hsz] at AT PU k0 k1 k2 k3 k4 ⊢
      have AT2 := hid (fun W' (hb : Below w8.heap.size w8 W') => AT.out W' (bl3 B8.out hb))
      have PU2 := hid (fun W' (hb : Below w8.heap.size w8 W') a b => PU.out W' (bl3 B8.out hb) a b)
      obtain ⟨⟨y0, y1⟩, _, y2, y3, y4⟩ := AT2.out _ Q0.out.bl
      have ZC := hid (fun wr (hb : Below w8.heap.size w8 wr) i (hi : i < N) => LZ.cell (A := nx N E) (Z8.out.below hb) hi)
      have AC := hid (fun wr (hb : Below w8.heap.size w8 wr) x hx => AR.out wr _ _ _ (Z8.out.below hb) x hx)
      have HZ := hid hsz
      have SW := hid B8.out.size
      clear hbb hsz k0 k1 k2 k3 k4 hW AT PU AR Z8 BX
      go_wp2_with fail
      clear y0 y1 y2 y3 y4
      go_loopw [35] (fun v35 wr => ∃ (k : Nat) (L : List (Int × Int)) (q : Option Addr) (cq : Nat) (wk : World), v35 = .int .i64 k ∧ wk = wr ∧ k ≤ N ∧ Hid (L = eI (lnK N E k)) ∧ Hid (TR w8 N bb q cq L wk)) (fun v35 _ => N - (intOf v35).toNat)
      case atStart => exact ⟨0, _, none, 0, _, rfl, rfl, Nat.zero_le _, rfl, Q0⟩
      case round =>
        obtain ⟨x, L, q, cq, wr, rfl, rfl, hx, HQ, HT⟩ := hrel
        clear Q0
        by_cases hlt : x < N
        · have CA := hid (AC.out wr HT.out.bl x hlt)
          have hxi : (x : Int) < (N : Nat) := by omega
          have lk := LK.out x
          obtain ⟨m2, hm2⟩ : ∃ m2, m2 = (nx N E x).length := ⟨_, rfl⟩
          have MM : Hid ((nx N E x).length = m2) := hm2.symm
          have GX := hid (fun wq (hb : Below w8.heap.size w8 wq) => ZC.out wq hb x hlt)
          have HX := hid (HL.out x)
          have RY1 := hid (RY.out x)
          have RN1 := hid (RN.out x)
          have BR1 := hid (BR.out x)
          have BD1 := BD.out x
          have KS1 := KS2.out x
          rw [MM.out] at GX KS1
          have TT := hid HT.out
          have LZ0 : Hid (L = eI (lnK N E x ++ lnR N E x 0)) := by show _ = _; rw [lnR_zero, List.append_nil]; exact HQ.out
          have KS3 := hid KS1
          rw [← hm2] at lk
          generalize (vs7.getD x sl0).1 = px at *
          generalize (vs7.getD x sl0).2.2 = cx at *
          clear HT HQ hm2 KS1
          go_upto_region 13 with (go_at_call 39; refine CA.out.mono ?_; rintro e w9 ⟨bs, rfl, o9, b9⟩; have A9 : Hid (LAR w8 N bb bs N (wyB E (-1) (nx N E x)) q cq L w9) := ⟨TT.out.blw b9, o9.low TT.out.bl.size⟩; clear o9 b9)
          obtain ⟨r1, r2⟩ := GX.out w9 A9.out.tr.bl
          clear r2 TT CA
          go_wp2_with fail
          clear r1
          go_loopw [46] (fun v46 wq => ∃ (j : Nat) (L : List (Int × Int)) (q : Option Addr) (cq : Nat) (wk : World), v46 = .int .i64 j ∧ wk = wq ∧ j ≤ m2 ∧ Hid (L = eI (lnK N E x ++ lnR N E x j)) ∧ Hid (LAR w8 N bb bs N (wyB E (-1) (nx N E x)) q cq L wk)) (fun v46 _ => m2 - (intOf v46).toNat)
          case atStart => exact ⟨0, _, _, _, _, rfl, rfl, Nat.zero_le _, LZ0, A9⟩
          case round =>
            obtain ⟨j, L, q, cq, wq, rfl, rfl, hj, HQ, HA⟩ := hrel
            clear A9 LZ0
            by_cases hlt2 : j < m2
            · have j1 : j < (nx N E x).length := by have := MM.out; omega
              obtain ⟨_, r2⟩ := GX.out wq HA.out.tr.bl
              have r3 : GS KI wq (.slice px (nI (nx N E x)).length cx) (nI (nx N E x)) := by rw [nI_len, MM.out]; exact r2
              obtain ⟨Z, o, e1, c1⟩ := r3.atI (k := j) (by rw [nI_len]; exact j1)
              rw [nI_at j1] at c1
              subst e1
              have hy := HX.out j j1
              have s1 := HA.out.at hy
              have YES := RY1.out j j1
              have NO := RN1.out j j1
              have LL : L.length ≤ 20480 := by
                have := BR1.out j
                have := BD1
                rw [HQ.out, eI_len, List.length_append]; omega
              have x1 : wq.cell? ⟨bb, 1, none⟩ = some (.slice q L.length cq) := cell_of_row _ _ _ _ _ _ HA.out.tr.bx
              have x2 : ∀ ob, (wq.alloc ob).cell? ⟨bb, 1, none⟩ = some (.slice q L.length cq) := fun ob => ((bal wq ob).cell (p := ⟨bb, 1, none⟩) (lt_of_heap HA.out.tr.bx)).trans x1
              generalize (nx N E x)[j] = y at *
              have hyi : (y : Int) < (N : Nat) := by omega
              have hji : (j : Int) < (m2 : Nat) := by omega
              clear r2 r3
              cases hb : wyB E (-1) (nx N E x) y with
              | true =>
                rw [hb] at s1
                have L2 : Hid (L = eI (lnK N E x ++ lnR N E x (j + 1))) := by show _ = _; rw [NO hb]; exact HQ.out
                have A2 := hid HA.out
                clear HA HQ YES NO x1 x2
                go_wp2_with fail
                go_roundw
                case rel => exact ⟨j + 1, _, _, _, _, by go_num, rfl, by omega, L2, A2⟩
                case measure => simp [intOf]; omega
              | false =>
                rw [hb] at s1
                have L2 : Hid (L ++ [((x : Int), (y : Int))] = eI (lnK N E x ++ lnR N E x (j + 1))) := by
                  show _ = _
                  rw [YES hb, HQ.out, ← List.append_assoc]
                  unfold eI
                  rw [List.map_append (l₂ := [(x, y)])]
                  rfl
                have OW := hid HA.out.tr.ow
                have LS : Hid ((L.length + 1) * KE.B ≤ 140737488355328) := by show (_ + 1) * 16 ≤ _; omega
                have BS : Hid (w8.heap.size ≤ wq.heap.size) := HA.out.tr.bl.size
                have PP := hid (fun w8 g8 c8 => HA.out.push (x := ((x : Int), (y : Int))) (w1 := wq) (w8 := w8) (g8 := g8) (c8 := c8) (Below.refl _ _))
                clear HA HQ YES NO
                go_wp2_with (at_builtin; refine append_g KE KE_ok rfl (.tmp 56) (.tmp 60) 22 rfl w8.heap.size Try.underlying22 wq _ _ (.slice q L.length cq) L ((x : Int), (y : Int)) _ rfl OW.out wq.heap.size rfl rfl rfl LS.out BS.out ?_; intro g8 c8 wv ho8 hb8 hk8 hg8; obtain ⟨k1, k2, k3⟩ := PP.out wv g8 c8 ho8 hb8 hk8; have K8 := hid k1; clear k1 ho8 hb8 hk8 hg8)
                all_goals
                  go_roundw
                  case rel => exact ⟨j + 1, L ++ [((x : Int), (y : Int))], some ⟨g8, 0, none⟩, c8, _, by go_num, rfl, by omega, L2, by first | exact K8.out | (have := K8.out; simp only [List.length_append, List.length_singleton] at this ⊢; exact this)⟩
                  case measure => simp [intOf]; omega
            · obtain rfl : j = m2 := by omega
              have L2 : Hid (L = eI (lnK N E (x + 1))) := by show _ = _; rw [KS3.out]; exact HQ.out
              have T2 := hid HA.out.tr
              clear HA HQ
              go_wp2_with fail
              go_roundw
              case rel => exact ⟨x + 1, _, _, _, _, by go_num, rfl, by omega, L2, T2⟩
              case measure => simp [intOf]; omega
        · obtain rfl : x = N := by omega
          have GL : Hid (L = eI (lnQ x E)) := by show _ = _; rw [LQ.out]; exact HQ.out
          have x1 : wr.cell? ⟨bb, 1, none⟩ = some (.slice q L.length cq) := cell_of_row _ _ _ _ _ _ HT.out.bx
          have x0 : wr.cell? ⟨bb, 0, none⟩ = some (.int .i64 x) := cell_of_row _ _ _ _ _ _ HT.out.bx
          obtain ⟨⟨y0, y1⟩, _, y2, y3, y4⟩ := AT2.out _ HT.out.bl
          obtain ⟨⟨r0, r1⟩, f2, f3⟩ := PU2.out wr HT.out.bl (.int .i64 x) (.slice q L.length cq)
          have F2 := hid f2
          have F3 := hid (f3 _ _ (HT.out.ow.low SW.out))
          rw [HZ.out] at y0 y1 y2 y3 y4 r0 r1 F2 F3 ⊢
          clear HT HQ f2 f3
          go_wp2_with fail
          refine bodyPost_ret (v := .tuple #[.agg #[.int .i64 x, .slice q L.length cq], .int .i64 0]) (by simp [results, Try.results15, go_sem, r0, r1]) rfl ?_
          rw [← GL.out]
          exact ⟨q, cq, rfl, F3.out, F2.out⟩
    · have OR := hid (fun W' bb lb vs h => (order_any W' N E hg bb lb vs h).mono (R' := _) fun e w' h => h.not hr)
      have en : orE N (eI E) = 150 := (orE_not hg hr).1
      rw [(ln_no (by rw [en]; decide)).1, (ln_no (by rw [en]; decide)).2, en]
      rw [eI_len] at d1 CK LN AT TB hW ⊢
      generalize E.length = m at *
      have PU3 := hid (fun W' (hb : Below W.heap.size W W') => PU.out W' hb (.int .i64 0) (.slice none 0 0))
      clear TB h0 hg hr hv en PU
      go_enter Try.func15, Try.ntmps15
      go_wp2_with (first
        | (go_at_call 31; refine CK.out.mono ?_; rintro e w6 ⟨rfl, hb6⟩; have B6 := hid hb6; obtain ⟨⟨g0, g1⟩, _, g2, g3, g4⟩ := AT.out _ hb6; clear hb6)
        | (go_at_call 34; refine (LN.out _ B6.out).mono ?_; rintro e w7 ⟨b7, vs7, rfl, hz7, hb7⟩; have B7 := hid (bl3 B6.out hb7); have Z7 := hid hz7; have OC := hid (OR.out w7 _ b7 vs7 hz7); clear hb7 hz7)
        | (go_at_call 35; refine OC.out.mono ?_; rintro e w8 ⟨rfl, hb8⟩; have B8 := hid (bl3 B7.out hb8); obtain ⟨⟨k0, k1⟩, _, k2, k3, k4⟩ := AT.out _ B8.out; obtain ⟨⟨r0, r1⟩, f2, f3⟩ := PU3.out _ B8.out; have F2 := hid f2; clear hb8 f2 f3))
      refine bodyPost_ret (v := .tuple #[.agg #[.int .i64 0, .slice none 0 0], .int .i64 150]) (by simp [results, Try.results15, go_sem, r0, r1]) rfl ?_
      exact ⟨none, 0, rfl, OwnG.nil _ _ _, F2.out⟩
  · rw [(orE_bad h0).1, (ln_no (by rw [(orE_bad h0).1]; exact h0)).1, (ln_no (by rw [(orE_bad h0).1]; exact h0)).2]
    have PU3 := hid (fun W' (hb : Below W.heap.size W W') => PU.out W' hb (.int .i64 0) (.slice none 0 0))
    generalize chkG n l = r at *
    have b1 : (r != 0) = true := by simp [h0]
    clear TB hv PU
    go_enter Try.func15, Try.ntmps15
    go_wp2_with (go_at_call 31; refine CK.out.mono ?_; rintro e w6 ⟨rfl, hb6⟩; have B6 := hid hb6; obtain ⟨⟨g0, g1⟩, _, g2, g3, g4⟩ := AT.out _ hb6; obtain ⟨⟨r0, r1⟩, f2, f3⟩ := PU3.out _ hb6; have F2 := hid f2; clear hb6 f2 f3)
    refine bodyPost_ret (v := .tuple #[.agg #[.int .i64 0, .slice none 0 0], .int .i64 r]) (by simp [results, Try.results15, go_sem, r0, r1]) rfl ?_
    exact ⟨none, 0, rfl, OwnG.nil _ _ _, F2.out⟩
end Go.Proofs.Ythhjknpfaghfbaa
