/- Graph: the law's way. -/
import Derived.Test.YtghkhceplpjegaaYk3
import Derived.Test.YtghkhceplpjegaaYf7
import Derived.Test.YtghkhceplpjegaaYh6
import Derived.Test.YtghkhceplpjegaaYk4
import Derived.Test.YtghkhceplpjegaaYl0
namespace Go.Proofs.Ytghkhceplpjegaa
open Go.RowKit

theorem OwnG.lit {α : Type} (K : RK α) (w : World) (l : List α) (cells : Array Value) (hc : cells.toList = l.flatMap K.f) (hl : cells.size = l.length * K.W) (hm : l.length ≤ maxLen) : OwnG K (w.alloc (.cells cells K.ty)) w.heap.size (.slice (some ⟨w.heap.size, 0, none⟩) l.length l.length) l :=
  ⟨by rw [← hc]; simpa using hl, Or.inr ⟨w.heap.size, l.length, cells, rfl, Nat.le_refl _, heap_alloc_new w _, Nat.le_refl _, hm, hl, by rw [← hc, List.take_of_length_le]; simp [hl]⟩⟩
theorem rnA_ex : rnA 4 (eI exA) = [1, 2] := by
  have := rnA_ok exA_ok
  rw [exA_round] at this
  exact this
theorem orA_ex : orE 4 (eI exB) = 0 ∧ orA 4 (eI exB) = [0, 1, 2, 3] := by
  have := orE_yes exB_ok exB_still
  rw [exB_orL] at this
  exact this
theorem lgA_ex : lgE 4 (eI exB) [5, 1, 1, 1] = 0 ∧ lgS 4 (eI exB) [5, 1, 1, 1] = 7 ∧ lgA 4 (eI exB) [5, 1, 1, 1] = [0, 2, 3] := by
  have := lg_yes (ws := [5, 1, 1, 1]) exB_ok exB_wt exB_still
  rw [exB_sum, exB_way] at this
  exact this
set_option maxRecDepth 100000 in
set_option maxHeartbeats 16000000 in
theorem works_any (w : World) : Calls Try.prog 20 #[] w fun e w' => e = .returned (.bool true) ∧ Below w.heap.size w w' := by
  have RA := hid (fun W' => (Round_any (W'.alloc (.cells #[.int .i64 0, .int .i64 1, .int .i64 1, .int .i64 2, .int .i64 2, .int .i64 1, .int .i64 2, .int .i64 3] 47)) 4 (.slice (some ⟨W'.heap.size, 0, none⟩) 4 4) (eI exA) (OwnG.gs KE_ok.len (OwnG.lit KE W' (eI exA) _ rfl rfl (by show 4 ≤ maxLen; unfold maxLen; omega)))))
  rw [rnA_ex, show chkG 4 (eI exA) = 0 from exA_ok.chk] at RA
  have BX : Hid (∀ W', Below W'.heap.size W' (W'.alloc (.cells #[.int .i64 0, .int .i64 2, .int .i64 1, .int .i64 2, .int .i64 2, .int .i64 3, .int .i64 0, .int .i64 3] 47)) ∧ GS KE (W'.alloc (.cells #[.int .i64 0, .int .i64 2, .int .i64 1, .int .i64 2, .int .i64 2, .int .i64 3, .int .i64 0, .int .i64 3] 47)) (.slice (some ⟨W'.heap.size, 0, none⟩) 4 4) (eI exB)) := fun W' => ⟨bal _ _, OwnG.gs KE_ok.len (OwnG.lit KE W' (eI exB) _ rfl rfl (by show 4 ≤ maxLen; unfold maxLen; omega))⟩
  have OB := hid (fun W' v (h : GS KE W' v (eI exB)) => Order_any W' 4 v (eI exB) h)
  rw [orA_ex.1, orA_ex.2] at OB
  have LB := hid (fun W' v (h : GS KE W' v (eI exB)) u (hu : GS KI W' u [5, 1, 1, 1]) => Longest_any W' 4 v (eI exB) h u [5, 1, 1, 1] hu)
  rw [lgA_ex.1, lgA_ex.2.1, lgA_ex.2.2] at LB
  unfold AnsI at RA OB
  unfold AnsW at LB
  have B0 : Hid (∀ ob, Below w.heap.size w (w.alloc ob)) := fun ob => bal _ _
  go_enter Try.func20, Try.ntmps20
  go_upto_region 2 with (go_at_call 24; refine (RA.out w).mono ?_; rintro e w1 ⟨q1, c1, rfl, g1, b1⟩; have G1 := hid g1; have B1 := hid (bl3 (B0.out _) b1); clear g1 b1)
  go_upto_region 3 with fail
  obtain ⟨W2, hW2⟩ : ∃ W2, W2 = (w1.alloc (.cells #[.int .i64 0, .int .i64 2, .int .i64 1, .int .i64 2, .int .i64 2, .int .i64 3, .int .i64 0, .int .i64 3] 47)).alloc (.cells #[.int .i64 4, .slice (some ⟨w1.heap.size, 0, none⟩) 4 4] 24) := ⟨_, rfl⟩
  rw [← hW2]
  have X2 : Hid (Below w1.heap.size w1 W2) := by show Below _ _ _; rw [hW2]; exact bl3 (bal _ _) (bal _ _)
  have GB : Hid (∀ W', Below W2.heap.size W2 W' → GS KE W' (.slice (some ⟨w1.heap.size, 0, none⟩) 4 4) (eI exB)) := fun W' hb => by
    refine GS.below (w := W2) ?_ hb
    rw [hW2]
    exact (BX.out w1).2.below (bal _ _)
  have CF : Hid (∀ W', Below W2.heap.size W2 W' → W'.cell? ⟨w1.heap.size + 1, 0, none⟩ = some (.int .i64 4) ∧ W'.cell? ⟨w1.heap.size + 1, 1, none⟩ = some (.slice (some ⟨w1.heap.size, 0, none⟩) 4 4)) := fun W' hb => by
    have e : W2.heap[w1.heap.size + 1]? = some (.cells #[.int .i64 4, .slice (some ⟨w1.heap.size, 0, none⟩) 4 4] 24) := by
      rw [hW2]
      have := heap_alloc_new (w1.alloc (.cells #[.int .i64 0, .int .i64 2, .int .i64 1, .int .i64 2, .int .i64 2, .int .i64 3, .int .i64 0, .int .i64 3] 47)) (.cells #[.int .i64 4, .slice (some ⟨w1.heap.size, 0, none⟩) 4 4] 24)
      rw [asz] at this
      exact this
    have e2 := boxkeep hb e
    exact ⟨cell_of_row _ _ _ _ _ _ e2, cell_of_row _ _ _ _ _ _ e2⟩
  obtain ⟨x0, x1⟩ := CF.out W2 (Below.refl _ _)
  have LITL : ∀ (W' : World) (L : List Int), L.length ≤ 10 → GS KI (W'.alloc (.cells (L.map (Value.int .i64)).toArray 3)) (.slice (some ⟨W'.heap.size, 0, none⟩) L.length L.length) L := fun W' L h => OwnG.gs KI_ok.len (OwnG.lit KI W' L _ (by rw [KI_flat]) (by show _ = L.length * 1; simp) (by unfold maxLen; omega))
  have WL := hid (fun W' => LITL W' [5, 1, 1, 1] (by decide))
  have SI : Hid (∀ (W' : World) (a : Value) (L : List Int), L.length ≤ 10 → GS KI W' a L → Calls Try.prog 13 #[a, .slice (some ⟨W'.heap.size, 0, none⟩) L.length L.length] (W'.alloc (.cells (L.map (Value.int .i64)).toArray 3)) fun e w' => e = .returned (.bool true) ∧ Below W'.heap.size W' w') := fun W' a L hl ha => (sameI_yes _ a _ L (ha.below (bal _ _)) (LITL W' L hl) (by omega)).mono fun e w' h => ⟨h.1, bl2 h.2⟩
  obtain ⟨s1, hs1⟩ : ∃ s1, s1 = w1.heap.size := ⟨_, rfl⟩
  rw [← hs1] at CF GB x0 x1 ⊢
  clear hW2 BX RA B0 LITL hs1
  go_wp2_with (first
    | (go_at_call 25; refine (OB.out _ _ (GB.out _ (Below.refl _ _))).mono ?_; rintro e w3 ⟨q3, c3, rfl, g3, b3⟩; have G3 := hid g3; have B3 := hid b3; obtain ⟨y0, y1⟩ := CF.out w3 B3.out; clear g3 b3)
    | (go_at_call 11; refine (LB.out _ _ (GB.out _ (bl3 B3.out (bal _ _))) _ (WL.out w3)).mono ?_; rintro e w4 ⟨q4, c4, rfl, g4, b4⟩; have G4 := hid g4; have B4 : Hid (Below w3.heap.size w3 w4) := bl2 b4; clear g4 b4)
    | (go_at_call 13; refine (SI.out w6 _ [0, 2, 3] (by decide) (G4.out.below (bl3 B5.out B6.out))).mono ?_; rintro e w7 ⟨rfl, b7⟩; have B7 := hid b7; clear b7)
    | (go_at_call 13; refine (SI.out w5 _ [0, 1, 2, 3] (by decide) (G3.out.below (bl3 B4.out B5.out))).mono ?_; rintro e w6 ⟨rfl, b6⟩; have B6 := hid b6; clear b6)
    | (go_at_call 13; refine (SI.out w4 _ [1, 2] (by decide) (G1.out.below (bl3 X2.out (bl3 B3.out B4.out)))).mono ?_; rintro e w5 ⟨rfl, b5⟩; have B5 := hid b5; clear b5))
  go_ret
  exact ⟨rfl, bl3 B1.out (bl3 X2.out (bl3 B3.out (bl3 B4.out (bl3 B5.out (bl3 B6.out B7.out)))))⟩
end Go.Proofs.Ytghkhceplpjegaa
namespace Go.Proofs.Ytghkhceplpjegaa
open Go.RowKit

theorem pos_at {D : List Nat} (hn : D.Nodup) {i : Nat} (hi : i < D.length) : pos D D[i] = i := by
  have e : D = D.take i ++ D[i] :: D.drop (i + 1) := by rw [← List.drop_eq_getElem_cons hi, List.take_append_drop]
  have hx : D[i] ∉ D.take i := take_not hn hi
  have key : ∀ (z : Nat) (T R : List Nat), z ∉ T → pos (T ++ z :: R) z = T.length := fun z T R h => by
    unfold pos
    rw [List.idxOf_append, if_neg h, List.idxOf_cons_self]
    omega
  have := key D[i] (D.take i) (D.drop (i + 1)) hx
  rw [← e, List.length_take] at this
  omega
theorem pos_in {D : List Nat} {x : Nat} (hx : x ∈ D) : D[pos D x]'(pos_lt hx) = x := List.getElem_idxOf (pos_lt hx)
/-- Which stand, and where, behind i. -/
def snF (D : List Nat) (i x : Nat) : Bool := decide (x ∈ D.take i)
def plF (D : List Nat) (i x : Nat) : Int := if x ∈ D.take i then (pos D x : Int) else 0
theorem take_mem {D : List Nat} {i : Nat} (hi : i < D.length) {x : Nat} : x ∈ D.take (i + 1) ↔ x ∈ D.take i ∨ x = D[i] := by
  rw [List.take_succ_eq_append_getElem hi, List.mem_append, List.mem_singleton]
theorem snF_zero (D : List Nat) (x : Nat) : snF D 0 x = false := by simp [snF]
theorem plF_zero (D : List Nat) (x : Nat) : plF D 0 x = 0 := by simp [plF]
theorem snF_no {D : List Nat} (hn : D.Nodup) {i : Nat} (hi : i < D.length) : snF D i D[i] = false := decide_eq_false (take_not hn hi)
theorem snF_succ {D : List Nat} {i : Nat} (hi : i < D.length) (x : Nat) : upB (snF D i) D[i] true x = snF D (i + 1) x := by
  unfold upB snF
  by_cases e : x = D[i]
  · rw [if_pos e]; exact (decide_eq_true ((take_mem hi).2 (Or.inr e))).symm
  · rw [if_neg e]
    apply decide_eq_decide.2
    rw [take_mem hi]
    exact ⟨Or.inl, fun h => h.resolve_right e⟩
theorem plF_succ {D : List Nat} (hn : D.Nodup) {i : Nat} (hi : i < D.length) (x : Nat) : upF (plF D i) D[i] i x = plF D (i + 1) x := by
  unfold upF plF
  by_cases e : x = D[i]
  · rw [if_pos e, if_pos ((take_mem hi).2 (Or.inr e)), e, pos_at hn hi]
  · rw [if_neg e]
    have : x ∈ D.take (i + 1) ↔ x ∈ D.take i := by rw [take_mem hi]; exact ⟨fun h => h.resolve_right e, Or.inl⟩
    by_cases q : x ∈ D.take i
    · rw [if_pos q, if_pos (this.2 q)]
    · rw [if_neg q, if_neg (fun z => q (this.1 z))]
theorem plF_all {D : List Nat} {x : Nat} (hx : x ∈ D) : plF D D.length x = pos D x := by
  unfold plF
  rw [List.take_of_length_le (Nat.le_refl _), if_pos hx]
/-- Which levels are needed, behind j edges. -/
def ndF (E : List (Nat × Nat)) (F : Nat → Int) (j x : Nat) : Bool := (E.take j).any fun e => decide (e.2 = x) && decide (F e.1 + 1 = F x)
theorem ndF_zero (E : List (Nat × Nat)) (F : Nat → Int) (x : Nat) : ndF E F 0 x = false := by simp [ndF]
theorem ndF_succ {E : List (Nat × Nat)} {F : Nat → Int} {j : Nat} (hj : j < E.length) (x : Nat) : upB (ndF E F j) E[j].2 (ndF E F j E[j].2 || decide (F E[j].1 + 1 = F E[j].2)) x = ndF E F (j + 1) x := by
  unfold upB ndF
  rw [List.take_succ_eq_append_getElem hj, List.any_append]
  by_cases e : x = E[j].2
  · rw [if_pos e, e]; simp
  · rw [if_neg e]
    have : decide (E[j].2 = x) = false := decide_eq_false fun q => e q.symm
    simp [this]
theorem ndF_all {E : List (Nat × Nat)} {D : List Nat} {F : Nat → Int} (h : LV E D F) (x : Nat) : ndF E F E.length x = decide (0 < F x) := by
  unfold ndF
  rw [List.take_of_length_le (Nat.le_refl _)]
  apply Bool.eq_iff_iff.2
  rw [List.any_eq_true, decide_eq_true_iff]
  constructor
  · rintro ⟨e, he, h1⟩
    rw [Bool.and_eq_true, decide_eq_true_iff, decide_eq_true_iff] at h1
    have := h.lo e.1
    omega
  · intro hx
    rcases h.of x with e | ⟨m, h1, h2, h3⟩
    · omega
    · exact ⟨(m, x), h2, by simp [h3]⟩
/-- Along an edge it goes forwards, and up. -/
theorem ka_edge {N : Nat} {E : List (Nat × Nat)} (hg : GOK N E) (hr : rnL N E = []) {e : Nat × Nat} (he : e ∈ E) : (pos (orL N E) e.1 : Int) < pos (orL N E) e.2 ∧ lvF (nx N E) (orL N E) e.1 < lvF (nx N E) (orL N E) e.2 := by
  obtain ⟨h1, h2⟩ := orL_ko hg hr
  have hl := hg.lt e he
  have := h1.edge (x := e.2) (m := e.1) (orL_all hg hr _ hl.2) he
  have h3 := (LV.all hg h1).up e.1 e.2 (orL_all hg hr _ hl.1) he
  exact ⟨by omega, by omega⟩
theorem rn_turn {N : Nat} {E : List (Nat × Nat)} (hr : rnL N E = []) : rnL N (tu E) = [] := by
  rw [rn_nil] at hr ⊢
  intro x hx k
  exact hr x hx (k.flip.imp fun a b q => tu_mem.1 q)
end Go.Proofs.Ytghkhceplpjegaa
namespace Go.Proofs.Ytghkhceplpjegaa
open Go.RowKit

/-- A right graph of not many nodes. -/
def fitB (n : Int) (l : List (Int × Int)) : Bool := decide (0 ≤ n) && (decide (n ≤ 24) && (decide (l.length ≤ 200) && decide (chkG n l = 0)))
theorem fitB_ok {n : Int} {l : List (Int × Int)} (h : fitB n l = true) : ∃ N E, n = (N : Nat) ∧ l = eI E ∧ GOK N E ∧ N ≤ 24 ∧ E.length ≤ 200 := by
  unfold fitB at h
  rw [Bool.and_eq_true, Bool.and_eq_true, Bool.and_eq_true, decide_eq_true_iff, decide_eq_true_iff, decide_eq_true_iff, decide_eq_true_iff] at h
  obtain ⟨_, h2, h3, h4⟩ := h
  obtain ⟨N, E, rfl, rfl, hg⟩ := chkG_ok h4
  exact ⟨N, E, rfl, rfl, hg, by omega, by rw [eI_len] at h3; exact h3⟩
set_option maxHeartbeats 4000000 in
theorem fits_any (w : World) (n : Int) (v : Value) (l : List (Int × Int)) (hv : GS KE w v l) : Calls Try.prog 21 #[.agg #[.int .i64 n, v]] w fun e w' => e = .returned (.bool (fitB n l)) ∧ Below w.heap.size w w' := by
  obtain ⟨p, c, rfl⟩ := hv.form
  generalize hW : w.alloc (.cells #[.int .i64 n, .slice p l.length c] 24) = W
  obtain ⟨bw, c0⟩ := graph_box w n p l.length c hW
  have BW := hid bw
  have CK := hid (check_any W n _ l (hv.below bw))
  obtain ⟨d0, d1⟩ := c0 W (Below.refl _ _)
  have HF : Hid (fitB n l = (decide (0 ≤ n) && (decide (n ≤ 24) && (decide (l.length ≤ 200) && decide (chkG n l = 0))))) := rfl
  generalize fitB n l = r at *
  generalize l.length = m at *
  generalize chkG n l = k at *
  clear bw c0 hv
  by_cases h1 : 0 ≤ n
  · have b1 : decide (0 ≤ n) = true := decide_eq_true h1
    by_cases h2 : n ≤ 24
    · have b2 : decide (n ≤ 24) = true := decide_eq_true h2
      by_cases h3 : m ≤ 200
      · have h3' : (m : Int) ≤ 200 := by omega
        have b3 : decide ((m : Int) ≤ 200) = true := decide_eq_true h3'
        have HR : Hid (r = (k == 0)) := by show _ = _; rw [HF.out]; simp [h1, h2, h3]; rfl
        clear HF
        go_enter Try.func21, Try.ntmps21
        go_wp2_with (go_at_call 31; refine CK.out.mono ?_; rintro e w6 ⟨rfl, hb6⟩; have B6 := hid hb6; clear hb6)
        go_ret
        exact ⟨ret_bool HR.out.symm, bl3 BW.out B6.out⟩
      · have h3' : ¬ (m : Int) ≤ 200 := by omega
        have b3 : decide ((m : Int) ≤ 200) = false := decide_eq_false h3'
        have HR : Hid (r = false) := by show _ = _; rw [HF.out]; simp [h3]
        clear HF CK
        go_enter Try.func21, Try.ntmps21
        go_wp2_with fail
        go_ret
        exact ⟨ret_bool HR.out.symm, BW.out⟩
    · have b2 : decide (n ≤ 24) = false := decide_eq_false h2
      have HR : Hid (r = false) := by show _ = _; rw [HF.out]; simp [h2]
      clear HF CK
      go_enter Try.func21, Try.ntmps21
      go_wp2_with fail
      go_ret
      exact ⟨ret_bool HR.out.symm, BW.out⟩
  · have b1 : decide (0 ≤ n) = false := decide_eq_false h1
    have HR : Hid (r = false) := by show _ = _; rw [HF.out]; simp [h1]
    clear HF CK
    go_enter Try.func21, Try.ntmps21
    go_wp2_with fail
    go_ret
    exact ⟨ret_bool HR.out.symm, BW.out⟩
end Go.Proofs.Ytghkhceplpjegaa
namespace Go.Proofs.Ytghkhceplpjegaa
open Go.RowKit

/-- Which of the lists has it. -/
def pcI (C : List (List Nat)) (x : Nat) : Nat := C.findIdx fun l => decide (x ∈ l)
/-- Lists that part the nodes. -/
structure PT (N : Nat) (E : List (Nat × Nat)) (C : List (List Nat)) : Prop where
  n : C.length ≤ N
  lt : ∀ i (hi : i < C.length), ∀ x ∈ C[i], x < N
  nd : ∀ i (hi : i < C.length), C[i].Nodup
  all : ∀ x, x < N → ∃ i, ∃ hi : i < C.length, x ∈ C[i]
  is : ∀ i (hi : i < C.length) j (hj : j < C.length), ∀ x ∈ C[i], ∀ y ∈ C[j], i = j ↔ sc E x y
theorem cm_PT (N : Nat) (E : List (Nat × Nat)) : PT N E (cmL N E) := by
  have hn : (cmL N E).length = (ris N (lst E)).length := by simp [cmL]
  have at_ : ∀ i (hi : i < (cmL N E).length), (cmL N E)[i] = prt N E ((ris N (lst E))[i]'(by rw [← hn]; exact hi)) := fun i hi => by simp [cmL]
  have ld : ∀ i (hi : i < (ris N (lst E)).length), (ris N (lst E))[i] < N ∧ lst E (ris N (lst E))[i] = true := fun i hi => ris_mem.1 (List.getElem_mem hi)
  refine ⟨by rw [hn]; exact ris_len _ _, fun i hi x hx => ?_, fun i hi => ?_, fun x hx => ?_, fun i hi j hj x hx y hy => ?_⟩
  · rw [at_ i hi] at hx
    exact (prt_mem.1 hx).1
  · rw [at_ i hi]
    exact (ris_up _ _).imp fun h => Nat.ne_of_lt h
  · obtain ⟨h1, h2, h3, h4⟩ := prt_hd (E := E) hx
    obtain ⟨i, hi, e⟩ := List.getElem_of_mem (ris_mem.2 ⟨h3, h2⟩)
    exact ⟨i, by rw [hn]; exact hi, by rw [at_ i (by rw [hn]; exact hi), e]; exact prt_mem.2 ⟨hx, h1.symm⟩⟩
  · rw [at_ i hi] at hx
    rw [at_ j hj] at hy
    obtain ⟨_, sx⟩ := prt_mem.1 hx
    obtain ⟨_, sy⟩ := prt_mem.1 hy
    constructor
    · intro e
      subst e
      exact sx.symm.trans sy
    · intro s
      obtain ⟨l1, t1⟩ := ld i (by rw [← hn]; exact hi)
      obtain ⟨l2, t2⟩ := ld j (by rw [← hn]; exact hj)
      have s2 := (sx.trans s).trans sy.symm
      have e : (ris N (lst E))[i]'(by rw [← hn]; exact hi) = (ris N (lst E))[j]'(by rw [← hn]; exact hj) := by
        rcases Nat.lt_trichotomy ((ris N (lst E))[i]'(by rw [← hn]; exact hi)) ((ris N (lst E))[j]'(by rw [← hn]; exact hj)) with z | z | z
        · exact absurd s2.symm (lst_iff.1 t2 _ z)
        · exact z
        · exact absurd s2 (lst_iff.1 t1 _ z)
      have up := ris_up N (lst E)
      rw [List.pairwise_iff_getElem] at up
      rcases Nat.lt_trichotomy i j with z | z | z
      · have := up i j (by rw [← hn]; exact hi) (by rw [← hn]; exact hj) z; omega
      · exact z
      · have := up j i (by rw [← hn]; exact hj) (by rw [← hn]; exact hi) z; omega
theorem PT.one {N : Nat} {E : List (Nat × Nat)} {C : List (List Nat)} (h : PT N E C) {i j : Nat} (hi : i < C.length) (hj : j < C.length) {x : Nat} (hx : x ∈ C[i]) (hy : x ∈ C[j]) : i = j := (h.is i hi j hj x hx x hy).2 (sc.refl _ _)
theorem PT.pc {N : Nat} {E : List (Nat × Nat)} {C : List (List Nat)} (h : PT N E C) {i : Nat} (hi : i < C.length) {x : Nat} (hx : x ∈ C[i]) : pcI C x = i := by
  unfold pcI
  rw [List.findIdx_eq hi]
  refine ⟨decide_eq_true hx, fun j hj => decide_eq_false fun q => ?_⟩
  have := h.one (by omega) hi q hx
  omega
theorem PT.pcs {N : Nat} {E : List (Nat × Nat)} {C : List (List Nat)} (h : PT N E C) {x y : Nat} (hx : x < N) (hy : y < N) : pcI C x < C.length ∧ (pcI C x = pcI C y ↔ sc E x y) := by
  obtain ⟨i, hi, h1⟩ := h.all x hx
  obtain ⟨j, hj, h2⟩ := h.all y hy
  rw [h.pc hi h1, h.pc hj h2]
  exact ⟨hi, h.is i hi j hj x h1 y h2⟩
/-- What is known behind i lists and k nodes. -/
def ofF (C : List (List Nat)) (i k x : Nat) : Int := if (∃ j, ∃ hj : j < C.length, j < i ∧ x ∈ C[j]) ∨ (∃ hi : i < C.length, x ∈ C[i].take k) then (pcI C x : Int) else -1
theorem ofF_start (C : List (List Nat)) (x : Nat) : ofF C 0 0 x = -1 := by
  unfold ofF
  rw [if_neg]
  rintro (⟨j, _, h, _⟩ | ⟨_, h⟩)
  · omega
  · simp at h
theorem PT.of_no {N : Nat} {E : List (Nat × Nat)} {C : List (List Nat)} (h : PT N E C) {i k : Nat} (hi : i < C.length) (hk : k < C[i].length) : ofF C i k C[i][k] = -1 := by
  unfold ofF
  rw [if_neg]
  rintro (⟨j, hj, h1, h2⟩ | ⟨_, h2⟩)
  · have := h.one hj hi h2 (List.getElem_mem hk); omega
  · exact take_not (h.nd i hi) hk h2
theorem PT.of_put {N : Nat} {E : List (Nat × Nat)} {C : List (List Nat)} (h : PT N E C) {i k : Nat} (hi : i < C.length) (hk : k < C[i].length) (x : Nat) : upF (ofF C i k) C[i][k] i x = ofF C i (k + 1) x := by
  unfold upF ofF
  by_cases e : x = C[i][k]
  · rw [if_pos e, if_pos (Or.inr ⟨hi, (take_mem hk).2 (Or.inr e)⟩), h.pc hi (by rw [e]; exact List.getElem_mem hk)]
  · rw [if_neg e]
    have iff : ((∃ j, ∃ hj : j < C.length, j < i ∧ x ∈ C[j]) ∨ (∃ hi : i < C.length, x ∈ C[i].take k)) ↔ ((∃ j, ∃ hj : j < C.length, j < i ∧ x ∈ C[j]) ∨ (∃ hi : i < C.length, x ∈ C[i].take (k + 1))) := by
      constructor
      · rintro (q | ⟨_, q⟩)
        · exact Or.inl q
        · exact Or.inr ⟨hi, (take_mem hk).2 (Or.inl q)⟩
      · rintro (q | ⟨_, q⟩)
        · exact Or.inl q
        · exact Or.inr ⟨hi, ((take_mem hk).1 q).resolve_right e⟩
    by_cases q : (∃ j, ∃ hj : j < C.length, j < i ∧ x ∈ C[j]) ∨ (∃ hi : i < C.length, x ∈ C[i].take k)
    · rw [if_pos q, if_pos (iff.1 q)]
    · rw [if_neg q, if_neg (fun z => q (iff.2 z))]
theorem ofF_next {C : List (List Nat)} {i : Nat} (hi : i < C.length) (x : Nat) : ofF C i C[i].length x = ofF C (i + 1) 0 x := by
  unfold ofF
  have iff : ((∃ j, ∃ hj : j < C.length, j < i ∧ x ∈ C[j]) ∨ (∃ hi : i < C.length, x ∈ C[i].take (C[i]'(by omega)).length)) ↔ ((∃ j, ∃ hj : j < C.length, j < i + 1 ∧ x ∈ C[j]) ∨ (∃ hi : i + 1 < C.length, x ∈ C[i + 1].take 0)) := by
    constructor
    · rintro (⟨j, hj, h1, h2⟩ | ⟨h1, h2⟩)
      · exact Or.inl ⟨j, hj, by omega, h2⟩
      · rw [List.take_of_length_le (Nat.le_refl _)] at h2
        exact Or.inl ⟨i, hi, by omega, h2⟩
    · rintro (⟨j, hj, h1, h2⟩ | ⟨_, h2⟩)
      · by_cases e : j = i
        · subst e
          exact Or.inr ⟨hi, by rw [List.take_of_length_le (Nat.le_refl _)]; exact h2⟩
        · exact Or.inl ⟨j, hj, by omega, h2⟩
      · simp at h2
  by_cases q : (∃ j, ∃ hj : j < C.length, j < i ∧ x ∈ C[j]) ∨ (∃ hi : i < C.length, x ∈ C[i].take (C[i]'(by omega)).length)
  · rw [if_pos q, if_pos (iff.1 q)]
  · rw [if_neg q, if_neg (fun z => q (iff.2 z))]
theorem PT.of_all {N : Nat} {E : List (Nat × Nat)} {C : List (List Nat)} (h : PT N E C) {x : Nat} (hx : x < N) : ofF C C.length 0 x = pcI C x := by
  obtain ⟨i, hi, h1⟩ := h.all x hx
  unfold ofF
  rw [if_pos (Or.inl ⟨i, hi, hi, h1⟩)]
/-- Edges from component to component. -/
def heF (C : List (List Nat)) (E : List (Nat × Nat)) : List (Nat × Nat) := (E.filter fun e => decide (pcI C e.1 ≠ pcI C e.2)).map fun e => (pcI C e.1, pcI C e.2)
theorem heF_nil (C : List (List Nat)) : heF C [] = [] := rfl
theorem heF_yes {C : List (List Nat)} {E : List (Nat × Nat)} {j : Nat} (hj : j < E.length) (h : pcI C E[j].1 ≠ pcI C E[j].2) : heF C (E.take (j + 1)) = heF C (E.take j) ++ [(pcI C E[j].1, pcI C E[j].2)] := by
  unfold heF
  rw [List.take_succ_eq_append_getElem hj, List.filter_append, List.map_append]
  simp [h]
theorem heF_no {C : List (List Nat)} {E : List (Nat × Nat)} {j : Nat} (hj : j < E.length) (h : pcI C E[j].1 = pcI C E[j].2) : heF C (E.take (j + 1)) = heF C (E.take j) := by
  unfold heF
  rw [List.take_succ_eq_append_getElem hj, List.filter_append, List.map_append]
  simp [h]
theorem heF_len (C : List (List Nat)) (E : List (Nat × Nat)) : (heF C E).length ≤ E.length := by
  unfold heF
  rw [List.length_map]
  exact List.length_filter_le _ _
theorem heF_mem {C : List (List Nat)} {E : List (Nat × Nat)} {c d : Nat} (h : (c, d) ∈ heF C E) : ∃ a b, (a, b) ∈ E ∧ pcI C a = c ∧ pcI C b = d ∧ c ≠ d := by
  unfold heF at h
  rw [List.mem_map] at h
  obtain ⟨⟨a, b⟩, h1, h2⟩ := h
  rw [List.mem_filter, decide_eq_true_iff] at h1
  rw [Prod.mk.injEq] at h2
  exact ⟨a, b, h1.1, h2.1, h2.2, by rw [← h2.1, ← h2.2]; exact h1.2⟩
theorem PT.he {N : Nat} {E : List (Nat × Nat)} {C : List (List Nat)} (h : PT N E C) (hg : GOK N E) : GOK C.length (heF C E) := by
  refine ⟨Nat.le_trans h.n hg.n, Nat.le_trans (heF_len C E) hg.e, fun x hx => ?_⟩
  obtain ⟨a, b, h1, h2, h3, _⟩ := heF_mem (c := x.1) (d := x.2) hx
  obtain ⟨l1, l2⟩ := hg.lt _ h1
  rw [← h2, ← h3]
  exact ⟨(h.pcs l1 l1).1, (h.pcs l2 l2).1⟩
/-- A way from component to component is one from node to node. -/
theorem PT.way {N : Nat} {E : List (Nat × Nat)} {C : List (List Nat)} (h : PT N E C) (hg : GOK N E) {c d : Nat} (k : Wy (ed (heF C E)) c d) : ∃ a b a', (a, b) ∈ E ∧ pcI C a = c ∧ pcI C b ≠ c ∧ a' < N ∧ pcI C a' = d ∧ Rs (ed E) b a' := by
  have key : ∀ {c d : Nat}, Wy (ed (heF C E)) c d → ∀ x, x < N → pcI C x = c → ∃ y, y < N ∧ pcI C y = d ∧ Rs (ed E) x y := by
    intro c d k
    induction k with
    | one e =>
      intro x hx hc
      obtain ⟨a, b, h1, h2, h3, _⟩ := heF_mem e
      obtain ⟨l1, l2⟩ := hg.lt _ h1
      have s := (h.pcs hx l1).2.1 (by rw [hc, h2])
      exact ⟨b, l2, h3, Or.inr (s.1.snoc h1)⟩
    | more e k ih =>
      intro x hx hc
      obtain ⟨a, b, h1, h2, h3, _⟩ := heF_mem e
      obtain ⟨l1, l2⟩ := hg.lt _ h1
      have s := (h.pcs hx l1).2.1 (by rw [hc, h2])
      obtain ⟨y, y1, y2, y3⟩ := ih b l2 h3
      exact ⟨y, y1, y2, Rs.trans (Or.inr (s.1.snoc h1)) y3⟩
  cases k with
  | one e =>
    obtain ⟨a, b, h1, h2, h3, h4⟩ := heF_mem e
    exact ⟨a, b, b, h1, h2, by rw [h3]; exact fun q => h4 q.symm, (hg.lt _ h1).2, h3, Rs.refl _ _⟩
  | more e k =>
    obtain ⟨a, b, h1, h2, h3, h4⟩ := heF_mem e
    obtain ⟨y, y1, y2, y3⟩ := key k b (hg.lt _ h1).2 h3
    exact ⟨a, b, y, h1, h2, by rw [h3]; exact fun q => h4 q.symm, y1, y2, y3⟩
theorem PT.still {N : Nat} {E : List (Nat × Nat)} {C : List (List Nat)} (h : PT N E C) (hg : GOK N E) : rnL C.length (heF C E) = [] := by
  rw [rn_nil]
  intro c hc k
  obtain ⟨a, b, a', h1, h2, h3, h4, h5, h6⟩ := h.way hg k
  obtain ⟨l1, l2⟩ := hg.lt _ h1
  have s := (h.pcs h4 l1).2.1 (by rw [h5, h2])
  have sab : sc E a b := ⟨Or.inr (.one h1), h6.trans s.1⟩
  exact h3 (by rw [← (h.pcs l1 l2).2.2 sab]; exact h2)
open Classical in
/-- Is there a way, or is it that node? -/
noncomputable def wayB (E : List (Nat × Nat)) (x y : Nat) : Bool := decide (Rs (ed E) x y)
theorem wayB_iff {E : List (Nat × Nat)} {x y : Nat} : wayB E x y = true ↔ Rs (ed E) x y := by simp [wayB]
theorem PT.ways {N : Nat} {E : List (Nat × Nat)} {C : List (List Nat)} (h : PT N E C) {x y : Nat} (hx : x < N) (hy : y < N) : decide ((pcI C x : Int) = pcI C y) = (wayB E x y && wayB E y x) := by
  apply Bool.eq_iff_iff.2
  rw [decide_eq_true_iff, Bool.and_eq_true, wayB_iff, wayB_iff]
  have := (h.pcs hx hy).2
  constructor
  · intro e; exact this.1 (by omega)
  · intro s; have := this.2 s; omega
end Go.Proofs.Ytghkhceplpjegaa
namespace Go.Proofs.Ytghkhceplpjegaa
open Go.RowKit

theorem re_one {N : Nat} {E : List (Nat × Nat)} (hg : GOK N E) {x : Nat} (hx : x < N) : reE N (eI E) [(x : Int)] = 0 ∧ reA N (eI E) [(x : Int)] = nI (reL N E [x]) := by
  have h : reE N (eI E) [(x : Int)] = 0 := by
    unfold reE
    rw [if_pos hg.chk, if_neg (by simp), if_pos]
    unfold ndB
    have h1 : (0 : Int) ≤ (x : Nat) := by omega
    have h2 : (x : Int) < (N : Nat) := by omega
    simp [h1, h2]
  refine ⟨h, ?_⟩
  unfold reA
  rw [if_pos h, eN_eI]
  simp
theorem wayB_re {N : Nat} {E : List (Nat × Nat)} {x y : Nat} (hy : y < N) : decide ((y : Int) ∈ nI (reL N E [x])) = wayB E x y := by
  unfold wayB
  apply decide_eq_decide.2
  rw [nI_mem]
  constructor
  · rintro ⟨k, hk, e⟩
    obtain rfl : y = k := by omega
    unfold reL at hk
    rw [ris_mem, rcB_iff] at hk
    obtain ⟨_, r, hr, h⟩ := hk
    rw [List.mem_singleton] at hr
    subst hr
    exact h
  · intro h
    refine ⟨y, ?_, rfl⟩
    unfold reL
    rw [ris_mem, rcB_iff]
    exact ⟨hy, x, by simp, h⟩
set_option maxHeartbeats 8000000 in
theorem way_any (w : World) (N : Nat) (E : List (Nat × Nat)) (hg : GOK N E) (p : Option Addr) (c : Nat) (hv : GS KE w (.slice p E.length c) (eI E)) (x y : Nat) (hx : x < N) (hy : y < N) : Calls Try.prog 23 #[.agg #[.int .i64 N, .slice p E.length c], .int .i64 x, .int .i64 y] w fun e w' => e = .returned (.bool (wayB E x y)) ∧ Below w.heap.size w w' := by
  generalize hW : w.alloc (.cells #[.int .i64 N, .slice p E.length c] 24) = W
  obtain ⟨bw, c0⟩ := graph_box w N p E.length c hW
  have BW := hid bw
  obtain ⟨d0, d1⟩ := c0 W (Below.refl _ _)
  have LX : GS KI (W.alloc (.cells #[.int .i64 x] 3)) (.slice (some ⟨W.heap.size, 0, none⟩) 1 1) [(x : Int)] := OwnG.gs KI_ok.len (OwnG.lit KI W [(x : Int)] _ rfl rfl (by show 1 ≤ maxLen; unfold maxLen; omega))
  have RE := hid (reach_any (W.alloc (.cells #[.int .i64 x] 3)) N _ (eI E) ((hv.below bw).below (bal _ _)) _ [(x : Int)] LX (by simp))
  rw [(re_one hg hx).1, (re_one hg hx).2] at RE
  unfold AnsI at RE
  have HA := hid (fun w' v (h : GS KI w' v (nI (reL N E [x]))) => has_any w' v _ (y : Int) h (by rw [nI_len]; have := reL_len N E [x]; have := hg.n; omega))
  rw [wayB_re hy] at HA
  generalize nI (reL N E [x]) = L at *
  generalize wayB E x y = r at *
  generalize E.length = m at *
  clear hv hg hx hy LX bw c0
  go_enter Try.func23, Try.ntmps23
  go_wp2_with (first
    | (go_at_call 29; refine RE.out.mono ?_; rintro e w2 ⟨q2, c2, rfl, g2, b2⟩; have G2 := hid g2; have B2 := hid (bl2 b2); clear g2 b2)
    | (go_at_call 51; refine (HA.out _ _ G2.out).mono ?_; rintro e w3 ⟨rfl, hw3⟩; rw [hw3]; clear hw3))
  go_ret
  exact ⟨rfl, bl3 BW.out B2.out⟩
end Go.Proofs.Ytghkhceplpjegaa
