/- Graph: the document's Components: what stands in memory. -/
import Derived.Test.YtghkhceplpjegaaYc9
import Derived.Test.YtghkhceplpjegaaYd4
import Derived.Test.YtghkhceplpjegaaYg1
import Derived.Great.BuildSlice
namespace Go.Proofs.Ytghkhceplpjegaa
open Go.RowKit

def addF (S : Nat → Bool) (F : List Nat) (x : Nat) : Bool := S x || decide (x ∈ F)
theorem addF_snoc {S : Nat → Bool} {F : List Nat} {x : Nat} : adP (addF S F) x = addF S (F ++ [x]) := by
  funext y
  rw [Bool.eq_iff_iff]
  simp only [adP, addF, Bool.or_eq_true, decide_eq_true_eq, List.mem_append, List.mem_singleton]
  constructor
  · rintro ((h | h) | h) <;> simp [h]
  · rintro (h | h | h) <;> simp [h]
theorem reL_told {N : Nat} {E : List (Nat × Nat)} {F : List Nat} : ris N (bF ((List.range N).map (addF (wyB E (-1) F) F))) = reL N E F := by
  refine ris_congr fun x hx => ?_
  have : bF ((List.range N).map (addF (wyB E (-1) F) F)) x = addF (wyB E (-1) F) F x := by simp [bF, List.getD, hx]
  rw [this, Bool.eq_iff_iff, wy_rc, addF, Bool.or_eq_true, decide_eq_true_eq]
  exact Or.comm
end Go.Proofs.Ytghkhceplpjegaa
namespace Go.Proofs.Ytghkhceplpjegaa
open Go.RowKit

open Classical in
noncomputable def dnB (E : List (Nat × Nat)) (n x : Nat) : Bool := decide (∃ m, m < n ∧ sc E m x)
theorem dnB_iff {E : List (Nat × Nat)} {n x : Nat} : dnB E n x = true ↔ ∃ m, m < n ∧ sc E m x := by simp [dnB]
theorem dnB_zero (E : List (Nat × Nat)) : dnB E 0 = fun _ => false := by funext x; simp [dnB]
theorem dn_yes {E : List (Nat × Nat)} {n : Nat} (h : dnB E n n = true) : lst E n = false ∧ dnB E (n + 1) = dnB E n := by
  obtain ⟨m, hm, s⟩ := dnB_iff.1 h
  constructor
  · rw [Bool.eq_false_iff]
    exact fun k => (lst_iff.1 k) m hm s.symm
  · funext x
    rw [Bool.eq_iff_iff, dnB_iff, dnB_iff]
    constructor
    · rintro ⟨a, ha, sa⟩
      by_cases e : a = n
      · subst e; exact ⟨m, hm, s.trans sa⟩
      · exact ⟨a, by omega, sa⟩
    · rintro ⟨a, ha, sa⟩; exact ⟨a, by omega, sa⟩
theorem dn_no {E : List (Nat × Nat)} {n : Nat} (h : dnB E n n = false) : lst E n = true := lst_iff.2 fun m hm s => by
  have : dnB E n n = true := dnB_iff.2 ⟨m, hm, s.symm⟩
  rw [h] at this; cases this
noncomputable def dnI (E : List (Nat × Nat)) (n k x : Nat) : Bool := dnB E n x || (decide (x < k) && scB E n x)
theorem dnI_start {E : List (Nat × Nat)} {n : Nat} (h : lst E n = true) : dnI E n n = dnB E n := by
  funext x
  unfold dnI
  by_cases hx : x < n
  · have : scB E n x = false := by rw [Bool.eq_false_iff]; exact fun k => lst_iff.1 h x hx (scB_iff.1 k)
    rw [this]; simp
  · simp [hx]
theorem dnI_put {E : List (Nat × Nat)} {n k : Nat} (h : scB E n k = true) : adP (dnI E n k) k = dnI E n (k + 1) := by
  funext x
  unfold adP dnI
  by_cases e : x = k
  · subst e; simp [h]
  · by_cases e2 : x < k
    · have : x < k + 1 := by omega
      simp [e, e2, this]
    · have : ¬ x < k + 1 := by omega
      simp [e, e2, this]
theorem dnI_skip {E : List (Nat × Nat)} {n k : Nat} (h : scB E n k = false) : dnI E n k = dnI E n (k + 1) := by
  funext x
  unfold dnI
  by_cases e : x = k
  · subst e; simp [h]
  · by_cases e2 : x < k
    · have : x < k + 1 := by omega
      simp [e2, this]
    · have : ¬ x < k + 1 := by omega
      simp [e2, this]
theorem dnI_end {E : List (Nat × Nat)} (N n : Nat) : (List.range N).map (dnI E n N) = (List.range N).map (dnB E (n + 1)) := by
  refine List.map_congr_left fun x hx => ?_
  have hx : x < N := List.mem_range.1 hx
  rw [Bool.eq_iff_iff]
  unfold dnI
  rw [Bool.or_eq_true, Bool.and_eq_true, decide_eq_true_eq, dnB_iff, dnB_iff, scB_iff]
  constructor
  · rintro (⟨m, hm, s⟩ | ⟨_, s⟩)
    · exact ⟨m, by omega, s⟩
    · exact ⟨n, by omega, s⟩
  · rintro ⟨m, hm, s⟩
    by_cases e : m = n
    · subst e; exact Or.inr ⟨hx, s⟩
    · exact Or.inl ⟨m, by omega, s⟩
theorem sc_cond {E : List (Nat × Nat)} {n k : Nat} (h : k ≠ n) : scB E n k = (wyB E (-1) [n] k && wyB (tu E) (-1) [n] k) := by
  rw [Bool.eq_iff_iff, Bool.and_eq_true, scB_iff, wyB_self, wyB_self]
  have f : ∀ a b, ed (tu E) a b ↔ ed E b a := fun a b => tu_mem
  constructor
  · rintro ⟨h1, h2⟩
    refine ⟨?_, ?_⟩
    · rcases h1 with e | e
      · exact absurd e.symm h
      · exact e
    · rcases h2 with e | e
      · exact absurd e h
      · exact e.flip.imp fun a b q => (f a b).2 q
  · rintro ⟨h1, h2⟩
    exact ⟨Or.inr h1, Or.inr (h2.flip.imp fun a b q => (f b a).1 q)⟩
theorem eI_tu (E : List (Nat × Nat)) : (eI E).map swE = eI (tu E) := by
  unfold eI tu swE
  rw [List.map_map, List.map_map]
  rfl
theorem ris_none {E : List (Nat × Nat)} {n : Nat} (h : lst E n = true) : ris n (scB E n) = [] := by
  unfold ris
  rw [List.filter_eq_nil_iff]
  intro x hx k
  exact lst_iff.1 h x (List.mem_range.1 hx) (scB_iff.1 k)
/-- []int{n} in a region. -/
theorem GS.lit {w : World} {b : Nat} {n : Int} (h : w.heap[b]? = some (.cells #[.int .i64 n] 3)) : GS KI w (.slice (some ⟨b, 0, none⟩) 1 1) [n] := by
  refine Or.inr ⟨b, 0, 1, rfl, lt_of_heap h, by simp, fun k hk j u hu => ?_⟩
  have hk : k = 0 := by simp at hk; omega
  subst hk
  have hj : j = 0 := by
    cases j with
    | zero => rfl
    | succ j => simp [KI] at hu
  subst hj
  simp [KI] at hu
  subst hu
  exact cell_of_row _ _ _ _ _ _ h
theorem step_lit (w : World) {ops : Array Oper} {o : Oper} {a : Act} {C : Act → World → Prop} {Q : Exit → Act → World → Prop} {E : Prop} (hg : o.guard = none) (x : Operand) (hop : o.op = .buildSlice 25 1 #[(0, x)]) (n : Int) (hx : a.eval x = .int .i64 n)
    (hK : ∀ b w', GS KI w' (.slice (some ⟨b, 0, none⟩) 1 1) [n] → Below w.heap.size w w' → C (a.put o.dst (.slice (some ⟨b, 0, none⟩) 1 1)) w') : if Region.wanted o (yielded ops a.tmps) = true then Oper.wp Try.prog o a w C Q else E := by
  obtain ⟨i0, hi0, hz0, hz1, hz2⟩ := KI_ok.info
  have hw : Region.wanted o (yielded ops a.tmps) = true := by simp [Region.wanted, hg]
  rw [if_pos hw]
  have hz1 : i0.size = 1 := hz1
  refine wp_buildSlice 25 3 1 #[(0, x)] hop #[.int .i64 n] i0 _ Try.underlying25 hi0 hz0 (by rw [hz1]; decide) (by rw [hz1]; decide) ?_ ?_
  · simp [hx, hz1, Instr.fill, KI]
    have e1 : ∀ y : Int, (Value.int .i64 y).cells = #[Value.int .i64 y] := fun _ => rfl
    have e2 : Array.range 1 = #[0] := by decide
    refine ⟨⟨rfl, Nat.le_refl _⟩, ?_⟩
    rw [e1, e1, e2]
    simp [Array.zipIdx]
  · exact hK _ _ (GS.lit (heap_alloc_new _ _)) (bal _ _)
/-- A list of lists and an error. -/
def AnsP (w : World) (Q : List (List Nat)) (r : Int) (e : Ending) (w' : World) : Prop := ∃ q c vs, e = .returned (.tuple #[.slice q Q.length c, .int .i64 r]) ∧ vs.length = Q.length ∧ GS KS w' (.slice q Q.length c) vs ∧ (∀ i, i < Q.length → GS KI w' (slV (vs.getD i sl0)) (nI (Q.getD i []))) ∧ Below w.heap.size w w'
theorem AnsP.none {w w' : World} {r : Int} (h : Below w.heap.size w w') : AnsP w [] r (.returned (.tuple #[.slice none 0 0, .int .i64 r])) w' := ⟨_, _, [], rfl, rfl, Or.inl ⟨Or.inl rfl, rfl⟩, fun i hi => absurd hi (by simp), h⟩
noncomputable def cmA (n : Int) (e : List (Int × Int)) : List (List Nat) := if chkG n e = 0 then cmL n.toNat (eN e) else []
theorem cmA_ok {N : Nat} {E : List (Nat × Nat)} (hg : GOK N E) : cmA N (eI E) = cmL N E := by unfold cmA; rw [if_pos hg.chk, eN_eI]; simp
theorem cmA_no {n : Int} {e : List (Int × Int)} (h : chkG n e ≠ 0) : cmA n e = [] := by unfold cmA; rw [if_neg h]
/-- The document's loop over the nodes. -/
structure CO (V : World) (N : Nat) (E : List (Nat × Nat)) (bs n : Nat) (q : Option Addr) (c : Nat) (vs : List Sl) (W : World) : Prop where
  bl : Below V.heap.size V W
  dn : OwnG KB W V.heap.size (.slice (some ⟨bs, 0, none⟩) N N) ((List.range N).map (dnB E n))
  ot : OwnG KS W V.heap.size (.slice q vs.length c) vs
  ln : vs.length = (ris n (lst E)).length
  rw : ∀ i, i < vs.length → OwnG KI W V.heap.size (slV (vs.getD i sl0)) (nI (prt N E ((ris n (lst E)).getD i 0)))
theorem CO.below {V : World} {N : Nat} {E : List (Nat × Nat)} {bs n : Nat} {q : Option Addr} {c : Nat} {vs : List Sl} {W W' : World} (h : CO V N E bs n q c vs W) (k : Below W.heap.size W W') : CO V N E bs n q c vs W' := ⟨bl3 h.bl k, h.dn.below k, h.ot.below k, h.ln, fun i hi => (h.rw i hi).below k⟩
theorem CO.skip {V : World} {N : Nat} {E : List (Nat × Nat)} {bs n : Nat} {q : Option Addr} {c : Nat} {vs : List Sl} {W : World} (h : CO V N E bs n q c vs W) (hd : dnB E n n = true) : CO V N E bs (n + 1) q c vs W := by
  obtain ⟨h1, h2⟩ := dn_yes hd
  have e : ris (n + 1) (lst E) = ris n (lst E) := by rw [ris_succ, if_neg (by rw [h1]; simp)]
  exact ⟨h.bl, by rw [h2]; exact h.dn, h.ot, by rw [e]; exact h.ln, by rw [e]; exact h.rw⟩
theorem CO.se {V : World} {N : Nat} {E : List (Nat × Nat)} {bs n : Nat} {q : Option Addr} {c : Nat} {vs : List Sl} {W : World} (h : CO V N E bs n q c vs W) {i : Nat} (hi : i < N) : W.cell? ⟨bs, i, none⟩ = some (.bool (dnB E n i)) := by
  obtain ⟨X, o, e, hc⟩ := (h.dn.gs KB_ok.len).atB (k := i) (by simpa using hi)
  injection e with e
  injection e with e1 e2 _
  subst e1 e2
  rw [Nat.zero_add] at hc
  rw [hc]
  simp
/-- The document's loop within it. -/
structure CI (V W0 : World) (N : Nat) (E : List (Nat × Nat)) (bs n k : Nat) (q : Option Addr) (c : Nat) (R : List Int) (W : World) : Prop where
  bl : Below V.heap.size V W
  vs : V.heap.size ≤ W0.heap.size
  sz : W0.heap.size ≤ W.heap.size
  old : ∀ x, x < W0.heap.size → x ≠ bs → W.heap[x]? = W0.heap[x]?
  dn : OwnG KB W V.heap.size (.slice (some ⟨bs, 0, none⟩) N N) ((List.range N).map (dnI E n k))
  ow : OwnG KI W W0.heap.size (.slice q R.length c) R
theorem CI.start {V W0 W : World} {N : Nat} {E : List (Nat × Nat)} {bs n : Nat} {q : Option Addr} {c : Nat} {vs : List Sl} (h : CO V N E bs n q c vs W0) (hl : lst E n = true) (hb : Below W0.heap.size W0 W) {q2 : Option Addr} {c2 : Nat} (ho : OwnG KI W W0.heap.size (.slice q2 0 c2) []) : CI V W0 N E bs n n q2 c2 [] W :=
  ⟨bl3 h.bl hb, h.bl.size, hb.size, fun x hx _ => hb.block x hx, by rw [dnI_start hl]; exact h.dn.below hb, ho⟩
theorem CI.skip {V W0 W : World} {N : Nat} {E : List (Nat × Nat)} {bs n k : Nat} {q : Option Addr} {c : Nat} {R : List Int} (h : CI V W0 N E bs n k q c R W) (hs : scB E n k = false) : CI V W0 N E bs n (k + 1) q c R W := ⟨h.bl, h.vs, h.sz, h.old, by rw [← dnI_skip hs]; exact h.dn, h.ow⟩
theorem CI.push {V W0 W w8 : World} {N : Nat} {E : List (Nat × Nat)} {bs n k : Nat} {q : Option Addr} {c : Nat} {R : List Int} (h : CI V W0 N E bs n k q c R W) (hk : k < N) (hs : scB E n k = true) {x : Int} {g8 c8 : Nat} (ho : OwnG KI w8 W0.heap.size (.slice (some ⟨g8, 0, none⟩) (R.length + 1) c8) (R ++ [x])) (hb8 : Below W0.heap.size W w8) (hf : ∀ j, j < W.heap.size → some j ≠ (Value.slice q R.length c).ownBlock → w8.heap[j]? = W.heap[j]?) :
    CI V W0 N E bs n (k + 1) (some ⟨g8, 0, none⟩) c8 (R ++ [x]) (w8.setCell ⟨bs, k, none⟩ (.bool true)) ∧ (∃ u, w8.cell? ⟨bs, k, none⟩ = some (.bool u)) ∧ w8.frozen? ⟨bs, k, none⟩ = false := by
  have hbs := h.dn.lt (g := bs) rfl
  have hne : (Value.slice q R.length c).ownBlock ≠ some bs := fun e => h.ow.apart h.dn (by decide) rfl e
  have d8 : OwnG KB w8 V.heap.size (.slice (some ⟨bs, 0, none⟩) N N) ((List.range N).map (dnI E n k)) := h.dn.far fun g hg => by
    injection hg with hg
    have hg : bs = g := hg
    subst hg
    exact hf _ hbs.2 (fun e => hne e.symm)
  refine ⟨⟨Below.setCell (p := ⟨bs, k, none⟩) (h.bl.trans (hb8.mono h.vs)) hbs.1 _, h.vs, ?_, fun y hy hn => ?_, ?_, ?_⟩, ?_, own_frozen d8 k⟩
  · exact Nat.le_trans (Nat.le_trans h.sz hb8.size) (Below.setCell (p := ⟨bs, k, none⟩) (Below.refl 0 w8) (Nat.zero_le _) (.bool true)).size
  · rw [set_far hn, hb8.block y hy]; exact h.old y hy hn
  · have := d8.set1 rfl KB_ok.len (k := k) true (.bool true) rfl
    rw [rmap_set, dnI_put hs] at this
    exact this
  · rw [List.length_append]
    exact ho.far fun g hg => set_far (fun e => by subst e; exact ho.apart d8 (by decide) rfl hg)
  · obtain ⟨X, o, e, hc⟩ := (d8.gs KB_ok.len).atB (k := k) (by simpa using hk)
    injection e with e
    injection e with e1 e2 _
    subst e1 e2
    rw [Nat.zero_add] at hc
    exact ⟨_, hc⟩
theorem CI.ot {V W0 W : World} {N : Nat} {E : List (Nat × Nat)} {bs n k : Nat} {q q1 : Option Addr} {c c1 : Nat} {R : List Int} {vs : List Sl} (h0 : CO V N E bs n q c vs W0) (h : CI V W0 N E bs n k q1 c1 R W) : OwnG KS W V.heap.size (.slice q vs.length c) vs := h0.ot.far fun g hg => h.old g (h0.ot.lt hg).2 (fun e => by subst e; exact h0.ot.apart h0.dn (by decide) rfl hg)
/-- One component more. -/
theorem CO.next {V W0 W w8 : World} {N : Nat} {E : List (Nat × Nat)} {bs n : Nat} {q q1 : Option Addr} {c c1 : Nat} {R : List Int} {vs : List Sl} (h0 : CO V N E bs n q c vs W0) (h : CI V W0 N E bs n N q1 c1 R W) (hR : R = nI (ris N (scB E n))) (hl : lst E n = true) {g8 c8 : Nat} (ho : OwnG KS w8 V.heap.size (.slice (some ⟨g8, 0, none⟩) (vs.length + 1) c8) (vs ++ [(q1, R.length, c1)])) (hb8 : Below V.heap.size W w8) (hf : ∀ j, j < W.heap.size → some j ≠ (Value.slice q vs.length c).ownBlock → w8.heap[j]? = W.heap[j]?) : CO V N E bs (n + 1) (some ⟨g8, 0, none⟩) c8 (vs ++ [(q1, R.length, c1)]) w8 := by
  have ot := h.ot h0
  have e : ris (n + 1) (lst E) = ris n (lst E) ++ [n] := by rw [ris_succ, if_pos hl]
  have kp : ∀ {v : Value} {l : List Int} {b : Nat}, OwnG KI W b v l → OwnG KI w8 b v l := fun {v l b} ho2 => ho2.far fun g hg => hf g (ho2.lt hg).2 (fun e => ho2.apart ot (by decide) e.symm hg)
  refine ⟨h.bl.trans hb8, ?_, by rw [List.length_append]; exact ho, by rw [e, List.length_append, List.length_append, h0.ln]; rfl, fun i hi => ?_⟩
  · rw [← dnI_end]
    exact h.dn.far fun g hg => hf g (h.dn.lt hg).2 (fun e => h.dn.apart ot (by decide) e.symm hg)
  · rw [e]
    by_cases hi2 : i < vs.length
    · have e1 : (vs ++ [(q1, R.length, c1)]).getD i sl0 = vs.getD i sl0 := by simp [List.getD, List.getElem?_append_left hi2]
      have e2 : (ris n (lst E) ++ [n]).getD i 0 = (ris n (lst E)).getD i 0 := by simp [List.getD, List.getElem?_append_left (show i < (ris n (lst E)).length by rw [← h0.ln]; exact hi2)]
      rw [e1, e2]
      have hr := h0.rw i hi2
      exact kp (hr.far fun g hg => h.old g (hr.lt hg).2 (fun e => by subst e; exact hr.apart h0.dn (by decide) rfl hg))
    · have hi3 : i = vs.length := by simp at hi; omega
      have e1 : (vs ++ [(q1, R.length, c1)]).getD i sl0 = (q1, R.length, c1) := by rw [hi3]; simp [List.getD]
      have e2 : (ris n (lst E) ++ [n]).getD i 0 = n := by rw [hi3, h0.ln]; simp [List.getD]
      rw [e1, e2]
      unfold prt
      rw [← hR]
      exact (kp h.ow).low h.vs
theorem CO.ans {w V : World} {N : Nat} {E : List (Nat × Nat)} {bs : Nat} {q : Option Addr} {c : Nat} {vs : List Sl} {W : World} (h : CO V N E bs N q c vs W) (hb : Below w.heap.size w V) : AnsP w (cmL N E) 0 (.returned (.tuple #[.slice q vs.length c, .int .i64 0])) W := by
  have e : (cmL N E).length = vs.length := by unfold cmL; rw [List.length_map, h.ln]
  refine ⟨q, c, vs, by rw [e], e.symm, by rw [e]; exact h.ot.gs KS_ok.len, fun i hi => ?_, bl3 hb h.bl⟩
  rw [e] at hi
  have e2 : (cmL N E).getD i [] = prt N E ((ris N (lst E)).getD i 0) := by
    unfold cmL
    have : i < (ris N (lst E)).length := by rw [← h.ln]; exact hi
    simp [List.getD, this]
  rw [e2]
  exact (h.rw i hi).gs KI_ok.len
end Go.Proofs.Ytghkhceplpjegaa
