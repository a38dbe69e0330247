/- Graph: fits; rows of truths. -/
import Derived.Test.YthhjknpfaghfbaaYk3
import Derived.Test.YthhjknpfaghfbaaYf7
import Derived.Test.YthhjknpfaghfbaaYh6
import Derived.Test.YthhjknpfaghfbaaYk1
namespace Go.Proofs.Ythhjknpfaghfbaa
open Go.RowKit

theorem OwnG.lit {α : Type} (K : RK α) (w : World) (l : List α) (cells : Array Value) (hc : cells.toList = l.flatMap K.f) (hl : cells.size = l.length * K.W) (hm : l.length ≤ maxLen) : OwnG K (w.alloc (.cells cells K.ty)) w.heap.size (.slice (some ⟨w.heap.size, 0, none⟩) l.length l.length) l :=
  ⟨by rw [← hc]; simpa using hl, Or.inr ⟨w.heap.size, l.length, cells, rfl, Nat.le_refl _, heap_alloc_new w _, Nat.le_refl _, hm, hl, by rw [← hc, List.take_of_length_le]; simp [hl]⟩⟩
theorem rnA_ex : rnA 4 (eI exA) = [1, 2] := by
  have := rnA_ok exA_ok
  rw [exA_round] at this
  exact this
theorem orA_ex : orE 4 (eI exB) = 0 ∧ orA 4 (eI exB) = [0, 1, 2, 3] := by
  have := orE_yes exB_ok exB_still
  rw [exB_orL] at this
  exact this
theorem lgA_ex : lgE 4 (eI exB) [5, 1, 1, 1] = 0 ∧ lgS 4 (eI exB) [5, 1, 1, 1] = 7 ∧ lgA 4 (eI exB) [5, 1, 1, 1] = [0, 2, 3] := by
  have := lg_yes (ws := [5, 1, 1, 1]) exB_ok exB_wt exB_still
  rw [exB_sum, exB_way] at this
  exact this
set_option maxRecDepth 100000 in
set_option maxHeartbeats 16000000 in
theorem works_any (w : World) : Calls Try.prog 20 #[] w fun e w' => e = .returned (.bool true) ∧ Below w.heap.size w w' := by
  have RA := hid (fun W' => (Round_any (W'.alloc (.cells #[.int .i64 0, .int .i64 1, .int .i64 1, .int .i64 2, .int .i64 2, .int .i64 1, .int .i64 2, .int .i64 3] 47)) 4 (.slice (some ⟨W'.heap.size, 0, none⟩) 4 4) (eI exA) (OwnG.gs KE_ok.len (OwnG.lit KE W' (eI exA) _ rfl rfl (by show 4 ≤ maxLen; unfold maxLen; omega)))))
  rw [rnA_ex, show chkG 4 (eI exA) = 0 from exA_ok.chk] at RA
  have BX : Hid (∀ W', Below W'.heap.size W' (W'.alloc (.cells #[.int .i64 0, .int .i64 2, .int .i64 1, .int .i64 2, .int .i64 2, .int .i64 3, .int .i64 0, .int .i64 3] 47)) ∧ GS KE (W'.alloc (.cells #[.int .i64 0, .int .i64 2, .int .i64 1, .int .i64 2, .int .i64 2, .int .i64 3, .int .i64 0, .int .i64 3] 47)) (.slice (some ⟨W'.heap.size, 0, none⟩) 4 4) (eI exB)) := fun W' => ⟨bal _ _, OwnG.gs KE_ok.len (OwnG.lit KE W' (eI exB) _ rfl rfl (by show 4 ≤ maxLen; unfold maxLen; omega))⟩
  have OB := hid (fun W' v (h : GS KE W' v (eI exB)) => Order_any W' 4 v (eI exB) h)
  rw [orA_ex.1, orA_ex.2] at OB
  have LB := hid (fun W' v (h : GS KE W' v (eI exB)) u (hu : GS KI W' u [5, 1, 1, 1]) => Longest_any W' 4 v (eI exB) h u [5, 1, 1, 1] hu)
  rw [lgA_ex.1, lgA_ex.2.1, lgA_ex.2.2] at LB
  unfold AnsI at RA OB
  unfold AnsW at LB
  have B0 : Hid (∀ ob, Below w.heap.size w (w.alloc ob)) := fun ob => bal _ _
  go_enter Try.func20, Try.ntmps20
  go_upto_region 2 with (go_at_call 24; refine (RA.out w).mono ?_; rintro e w1 ⟨q1, c1, rfl, g1, b1⟩; have G1 := hid g1; have B1 := hid (bl3 (B0.out _) b1); clear g1 b1)
  go_upto_region 3 with fail
  obtain ⟨W2, hW2⟩ : ∃ W2, W2 = (w1.alloc (.cells #[.int .i64 0, .int .i64 2, .int .i64 1, .int .i64 2, .int .i64 2, .int .i64 3, .int .i64 0, .int .i64 3] 47)).alloc (.cells #[.int .i64 4, .slice (some ⟨w1.heap.size, 0, none⟩) 4 4] 24) := ⟨_, rfl⟩
  rw [← hW2]
  have X2 : Hid (Below w1.heap.size w1 W2) := by show Below _ _ _; rw [hW2]; exact bl3 (bal _ _) (bal _ _)
  have GB : Hid (∀ W', Below W2.heap.size W2 W' → GS KE W' (.slice (some ⟨w1.heap.size, 0, none⟩) 4 4) (eI exB)) := fun W' hb => by
    refine GS.below (w := W2) ?_ hb
    rw [hW2]
    exact (BX.out w1).2.below (bal _ _)
  have CF : Hid (∀ W', Below W2.heap.size W2 W' → W'.cell? ⟨w1.heap.size + 1, 0, none⟩ = some (.int .i64 4) ∧ W'.cell? ⟨w1.heap.size + 1, 1, none⟩ = some (.slice (some ⟨w1.heap.size, 0, none⟩) 4 4)) := fun W' hb => by
    have e : W2.heap[w1.heap.size + 1]? = some (.cells #[.int .i64 4, .slice (some ⟨w1.heap.size, 0, none⟩) 4 4] 24) := by
      rw [hW2]
      have := heap_alloc_new (w1.alloc (.cells #[.int .i64 0, .int .i64 2, .int .i64 1, .int .i64 2, .int .i64 2, .int .i64 3, .int .i64 0, .int .i64 3] 47)) (.cells #[.int .i64 4, .slice (some ⟨w1.heap.size, 0, none⟩) 4 4] 24)
      rw [asz] at this
      exact this
    have e2 := boxkeep hb e
    exact ⟨cell_of_row _ _ _ _ _ _ e2, cell_of_row _ _ _ _ _ _ e2⟩
  obtain ⟨x0, x1⟩ := CF.out W2 (Below.refl _ _)
  have LITL : ∀ (W' : World) (L : List Int), L.length ≤ 10 → GS KI (W'.alloc (.cells (L.map (Value.int .i64)).toArray 3)) (.slice (some ⟨W'.heap.size, 0, none⟩) L.length L.length) L := fun W' L h => OwnG.gs KI_ok.len (OwnG.lit KI W' L _ (by rw [KI_flat]) (by show _ = L.length * 1; simp) (by unfold maxLen; omega))
  have WL := hid (fun W' => LITL W' [5, 1, 1, 1] (by decide))
  have SI : Hid (∀ (W' : World) (a : Value) (L : List Int), L.length ≤ 10 → GS KI W' a L → Calls Try.prog 13 #[a, .slice (some ⟨W'.heap.size, 0, none⟩) L.length L.length] (W'.alloc (.cells (L.map (Value.int .i64)).toArray 3)) fun e w' => e = .returned (.bool true) ∧ Below W'.heap.size W' w') := fun W' a L hl ha => (sameI_yes _ a _ L (ha.below (bal _ _)) (LITL W' L hl) (by omega)).mono fun e w' h => ⟨h.1, bl2 h.2⟩
  obtain ⟨s1, hs1⟩ : ∃ s1, s1 = w1.heap.size := ⟨_, rfl⟩
  rw [← hs1] at CF GB x0 x1 ⊢
  clear hW2 BX RA B0 LITL hs1
  go_wp2_with (first
    | (go_at_call 25; refine (OB.out _ _ (GB.out _ (Below.refl _ _))).mono ?_; rintro e w3 ⟨q3, c3, rfl, g3, b3⟩; have G3 := hid g3; have B3 := hid b3; obtain ⟨y0, y1⟩ := CF.out w3 B3.out; clear g3 b3)
    | (go_at_call 11; refine (LB.out _ _ (GB.out _ (bl3 B3.out (bal _ _))) _ (WL.out w3)).mono ?_; rintro e w4 ⟨q4, c4, rfl, g4, b4⟩; have G4 := hid g4; have B4 : Hid (Below w3.heap.size w3 w4) := bl2 b4; clear g4 b4)
    | (go_at_call 13; refine (SI.out w6 _ [0, 2, 3] (by decide) (G4.out.below (bl3 B5.out B6.out))).mono ?_; rintro e w7 ⟨rfl, b7⟩; have B7 := hid b7; clear b7)
    | (go_at_call 13; refine (SI.out w5 _ [0, 1, 2, 3] (by decide) (G3.out.below (bl3 B4.out B5.out))).mono ?_; rintro e w6 ⟨rfl, b6⟩; have B6 := hid b6; clear b6)
    | (go_at_call 13; refine (SI.out w4 _ [1, 2] (by decide) (G1.out.below (bl3 X2.out (bl3 B3.out B4.out)))).mono ?_; rintro e w5 ⟨rfl, b5⟩; have B5 := hid b5; clear b5))
  go_ret
  exact ⟨rfl, bl3 B1.out (bl3 X2.out (bl3 B3.out (bl3 B4.out (bl3 B5.out (bl3 B6.out B7.out)))))⟩
end Go.Proofs.Ythhjknpfaghfbaa
namespace Go.Proofs.Ythhjknpfaghfbaa
open Go.RowKit

/-- A row of truths changed at one place. -/
def upB (F : Nat → Bool) (y : Nat) (d : Bool) : Nat → Bool := fun x => if x = y then d else F x
theorem pos_at {D : List Nat} (hn : D.Nodup) {i : Nat} (hi : i < D.length) : pos D D[i] = i := by
  have e : D = D.take i ++ D[i] :: D.drop (i + 1) := by rw [← List.drop_eq_getElem_cons hi, List.take_append_drop]
  have hx : D[i] ∉ D.take i := take_not hn hi
  have key : ∀ (z : Nat) (T R : List Nat), z ∉ T → pos (T ++ z :: R) z = T.length := fun z T R h => by
    unfold pos
    rw [List.idxOf_append, if_neg h, List.idxOf_cons_self]
    omega
  have := key D[i] (D.take i) (D.drop (i + 1)) hx
  rw [← e, List.length_take] at this
  omega
theorem pos_in {D : List Nat} {x : Nat} (hx : x ∈ D) : D[pos D x]'(pos_lt hx) = x := List.getElem_idxOf (pos_lt hx)
/-- Which stand, and where, behind i. -/
def snF (D : List Nat) (i x : Nat) : Bool := decide (x ∈ D.take i)
def plF (D : List Nat) (i x : Nat) : Int := if x ∈ D.take i then (pos D x : Int) else 0
theorem take_mem {D : List Nat} {i : Nat} (hi : i < D.length) {x : Nat} : x ∈ D.take (i + 1) ↔ x ∈ D.take i ∨ x = D[i] := by
  rw [List.take_succ_eq_append_getElem hi, List.mem_append, List.mem_singleton]
theorem snF_zero (D : List Nat) (x : Nat) : snF D 0 x = false := by simp [snF]
theorem plF_zero (D : List Nat) (x : Nat) : plF D 0 x = 0 := by simp [plF]
theorem snF_no {D : List Nat} (hn : D.Nodup) {i : Nat} (hi : i < D.length) : snF D i D[i] = false := decide_eq_false (take_not hn hi)
theorem snF_succ {D : List Nat} {i : Nat} (hi : i < D.length) (x : Nat) : upB (snF D i) D[i] true x = snF D (i + 1) x := by
  unfold upB snF
  by_cases e : x = D[i]
  · rw [if_pos e]; exact (decide_eq_true ((take_mem hi).2 (Or.inr e))).symm
  · rw [if_neg e]
    apply decide_eq_decide.2
    rw [take_mem hi]
    exact ⟨Or.inl, fun h => h.resolve_right e⟩
theorem plF_succ {D : List Nat} (hn : D.Nodup) {i : Nat} (hi : i < D.length) (x : Nat) : upF (plF D i) D[i] i x = plF D (i + 1) x := by
  unfold upF plF
  by_cases e : x = D[i]
  · rw [if_pos e, if_pos ((take_mem hi).2 (Or.inr e)), e, pos_at hn hi]
  · rw [if_neg e]
    have : x ∈ D.take (i + 1) ↔ x ∈ D.take i := by rw [take_mem hi]; exact ⟨fun h => h.resolve_right e, Or.inl⟩
    by_cases q : x ∈ D.take i
    · rw [if_pos q, if_pos (this.2 q)]
    · rw [if_neg q, if_neg (fun z => q (this.1 z))]
theorem plF_all {D : List Nat} {x : Nat} (hx : x ∈ D) : plF D D.length x = pos D x := by
  unfold plF
  rw [List.take_of_length_le (Nat.le_refl _), if_pos hx]
/-- Which levels are needed, behind j edges. -/
def ndF (E : List (Nat × Nat)) (F : Nat → Int) (j x : Nat) : Bool := (E.take j).any fun e => decide (e.2 = x) && decide (F e.1 + 1 = F x)
theorem ndF_zero (E : List (Nat × Nat)) (F : Nat → Int) (x : Nat) : ndF E F 0 x = false := by simp [ndF]
theorem ndF_succ {E : List (Nat × Nat)} {F : Nat → Int} {j : Nat} (hj : j < E.length) (x : Nat) : upB (ndF E F j) E[j].2 (ndF E F j E[j].2 || decide (F E[j].1 + 1 = F E[j].2)) x = ndF E F (j + 1) x := by
  unfold upB ndF
  rw [List.take_succ_eq_append_getElem hj, List.any_append]
  by_cases e : x = E[j].2
  · rw [if_pos e, e]; simp
  · rw [if_neg e]
    have : decide (E[j].2 = x) = false := decide_eq_false fun q => e q.symm
    simp [this]
theorem ndF_all {E : List (Nat × Nat)} {D : List Nat} {F : Nat → Int} (h : LV E D F) (x : Nat) : ndF E F E.length x = decide (0 < F x) := by
  unfold ndF
  rw [List.take_of_length_le (Nat.le_refl _)]
  apply Bool.eq_iff_iff.2
  rw [List.any_eq_true, decide_eq_true_iff]
  constructor
  · rintro ⟨e, he, h1⟩
    rw [Bool.and_eq_true, decide_eq_true_iff, decide_eq_true_iff] at h1
    have := h.lo e.1
    omega
  · intro hx
    rcases h.of x with e | ⟨m, h1, h2, h3⟩
    · omega
    · exact ⟨(m, x), h2, by simp [h3]⟩
/-- Along an edge it goes forwards, and up. -/
theorem ka_edge {N : Nat} {E : List (Nat × Nat)} (hg : GOK N E) (hr : rnL N E = []) {e : Nat × Nat} (he : e ∈ E) : (pos (orL N E) e.1 : Int) < pos (orL N E) e.2 ∧ lvF (nx N E) (orL N E) e.1 < lvF (nx N E) (orL N E) e.2 := by
  obtain ⟨h1, h2⟩ := orL_ko hg hr
  have hl := hg.lt e he
  have := h1.edge (x := e.2) (m := e.1) (orL_all hg hr _ hl.2) he
  have h3 := (LV.all hg h1).up e.1 e.2 (orL_all hg hr _ hl.1) he
  exact ⟨by omega, by omega⟩
theorem rn_turn {N : Nat} {E : List (Nat × Nat)} (hr : rnL N E = []) : rnL N (tu E) = [] := by
  rw [rn_nil] at hr ⊢
  intro x hx k
  exact hr x hx (k.flip.imp fun a b q => tu_mem.1 q)
end Go.Proofs.Ythhjknpfaghfbaa
namespace Go.Proofs.Ythhjknpfaghfbaa
open Go.RowKit

/-- A right graph of not many nodes. -/
def fitB (n : Int) (l : List (Int × Int)) : Bool := decide (0 ≤ n) && (decide (n ≤ 24) && (decide (l.length ≤ 200) && decide (chkG n l = 0)))
theorem fitB_ok {n : Int} {l : List (Int × Int)} (h : fitB n l = true) : ∃ N E, n = (N : Nat) ∧ l = eI E ∧ GOK N E ∧ N ≤ 24 ∧ E.length ≤ 200 := by
  unfold fitB at h
  rw [Bool.and_eq_true, Bool.and_eq_true, Bool.and_eq_true, decide_eq_true_iff, decide_eq_true_iff, decide_eq_true_iff, decide_eq_true_iff] at h
  obtain ⟨_, h2, h3, h4⟩ := h
  obtain ⟨N, E, rfl, rfl, hg⟩ := chkG_ok h4
  exact ⟨N, E, rfl, rfl, hg, by omega, by rw [eI_len] at h3; exact h3⟩
set_option maxHeartbeats 4000000 in
theorem fits_any (w : World) (n : Int) (v : Value) (l : List (Int × Int)) (hv : GS KE w v l) : Calls Try.prog 21 #[.agg #[.int .i64 n, v]] w fun e w' => e = .returned (.bool (fitB n l)) ∧ Below w.heap.size w w' := by
  obtain ⟨p, c, rfl⟩ := hv.form
  generalize hW : w.alloc (.cells #[.int .i64 n, .slice p l.length c] 24) = W
  obtain ⟨bw, c0⟩ := graph_box w n p l.length c hW
  have BW := hid bw
  have CK := hid (check_any W n _ l (hv.below bw))
  obtain ⟨d0, d1⟩ := c0 W (Below.refl _ _)
  have HF : Hid (fitB n l = (decide (0 ≤ n) && (decide (n ≤ 24) && (decide (l.length ≤ 200) && decide (chkG n l = 0))))) := rfl
  generalize fitB n l = r at *
  generalize l.length = m at *
  generalize chkG n l = k at *
  clear bw c0 hv
  by_cases h1 : 0 ≤ n
  · have b1 : decide (0 ≤ n) = true := decide_eq_true h1
    by_cases h2 : n ≤ 24
    · have b2 : decide (n ≤ 24) = true := decide_eq_true h2
      by_cases h3 : m ≤ 200
      · have h3' : (m : Int) ≤ 200 := by omega
        have b3 : decide ((m : Int) ≤ 200) = true := decide_eq_true h3'
        have HR : Hid (r = (k == 0)) := by show _ = _; rw [HF.out]; simp [h1, h2, h3]; rfl
        clear HF
        go_enter Try.func21, Try.ntmps21
        go_wp2_with (go_at_call 31; refine CK.out.mono ?_; rintro e w6 ⟨rfl, hb6⟩; have B6 := hid hb6; clear hb6)
        go_ret
        exact ⟨ret_bool HR.out.symm, bl3 BW.out B6.out⟩
      · have h3' : ¬ (m : Int) ≤ 200 := by omega
        have b3 : decide ((m : Int) ≤ 200) = false := decide_eq_false h3'
        have HR : Hid (r = false) := by show _ = _; rw [HF.out]; simp [h3]
        clear HF CK
        go_enter Try.func21, Try.ntmps21
        go_wp2_with fail
        go_ret
        exact ⟨ret_bool HR.out.symm, BW.out⟩
    · have b2 : decide (n ≤ 24) = false := decide_eq_false h2
      have HR : Hid (r = false) := by show _ = _; rw [HF.out]; simp [h2]
      clear HF CK
      go_enter Try.func21, Try.ntmps21
      go_wp2_with fail
      go_ret
      exact ⟨ret_bool HR.out.symm, BW.out⟩
  · have b1 : decide (0 ≤ n) = false := decide_eq_false h1
    have HR : Hid (r = false) := by show _ = _; rw [HF.out]; simp [h1]
    clear HF CK
    go_enter Try.func21, Try.ntmps21
    go_wp2_with fail
    go_ret
    exact ⟨ret_bool HR.out.symm, BW.out⟩
theorem bset (N : Nat) (S : Nat → Bool) (i : Nat) (d : Bool) : ((List.range N).map S).set i d = (List.range N).map (upB S i d) := by
  apply List.ext_getElem
  · simp
  · intro k h1 h2
    rw [List.getElem_set]
    by_cases e : i = k
    · subst e; simp [upB]
    · rw [if_neg e]
      have : ¬ k = i := fun q => e q.symm
      simp [upB, this]
/-- A row of truths, one a node. -/
def LFB (w : World) (base X N : Nat) (S : Nat → Bool) : Prop := OwnG KB w base (.slice (some ⟨X, 0, none⟩) N N) ((List.range N).map S)
theorem LFB.set {w : World} {base X N : Nat} {S : Nat → Bool} (h : LFB w base X N S) (i : Nat) (d : Bool) : LFB (w.setCell ⟨X, i, none⟩ (.bool d)) base X N (upB S i d) := by
  have := OwnG.set1 rfl KB_ok.len h (k := i) d (.bool d) rfl
  rw [bset] at this
  exact this
theorem LFB.at {w : World} {base X N : Nat} {S : Nat → Bool} (h : LFB w base X N S) {i : Nat} (hi : i < N) : w.cell? ⟨X, i, none⟩ = some (.bool (S i)) ∧ w.frozen? ⟨X, i, none⟩ = false := by
  refine ⟨?_, own_frozen h i⟩
  obtain ⟨Y, o, e, hc⟩ := (h.gs KB_ok.len).atB (k := i) (by simpa using hi)
  injection e with e
  injection e with e1 e2 _
  subst e1 e2
  rw [Nat.zero_add] at hc
  rw [hc]
  simp
theorem LFB.far {w w' : World} {base X N : Nat} {S : Nat → Bool} (h : LFB w base X N S) (k : w'.heap[X]? = w.heap[X]?) : LFB w' base X N S := OwnG.far h fun g hg => by
  injection hg with hg
  have hg : X = g := hg
  rw [← hg]; exact k
theorem LFB.lt {w : World} {base X N : Nat} {S : Nat → Bool} (h : LFB w base X N S) : base ≤ X ∧ X < w.heap.size := OwnG.lt h (g := X) rfl
theorem LFB.eq {w : World} {base X N : Nat} {S T : Nat → Bool} (h : LFB w base X N S) (k : ∀ x, S x = T x) : LFB w base X N T := by rw [← (funext k : S = T)]; exact h
theorem LFB.none {w : World} {base X N : Nat} (h : OwnG KB w base (.slice (some ⟨X, 0, none⟩) N N) (List.replicate N false)) : LFB w base X N (fun _ => false) := by
  unfold LFB
  have : (List.range N).map (fun _ => false) = List.replicate N false := by simp [List.map_const']
  rw [this]
  exact h
theorem LFR.low {w : World} {base b2 X N : Nat} {F : Nat → Int} (h : LFR w base X N F) (k : b2 ≤ base) : LFR w b2 X N F := OwnG.low h k
theorem LFB.low {w : World} {base b2 X N : Nat} {S : Nat → Bool} (h : LFB w base X N S) (k : b2 ≤ base) : LFB w b2 X N S := OwnG.low h k
theorem rb_ne {w : World} {b1 b2 X Y N M : Nat} {F : Nat → Int} {S : Nat → Bool} (h : LFR w b1 X N F) (k : LFB w b2 Y M S) : X ≠ Y := fun e => by
  obtain ⟨c, e2⟩ := OwnG.ty k (g := Y) rfl
  exact OwnG.notat h (B := Y) e2 (by decide) (by rw [← e]; rfl)
end Go.Proofs.Ythhjknpfaghfbaa
