/- Graph: what the lean graph reaches; an edge looked for. -/
import Derived.Test.YthhjknpfaghfbaaYk8
import Derived.Test.YthhjknpfaghfbaaYn3
namespace Go.Proofs.Ythhjknpfaghfbaa
open Go.RowKit

/-- The sum of some nodes' weights. -/
def wsum (W : Nat → Int) : List Nat → Int
  | [] => 0
  | a :: l => W a + wsum W l
theorem wsum_app (W : Nat → Int) (l m : List Nat) : wsum W (l ++ m) = wsum W l + wsum W m := by
  induction l with
  | nil => simp [wsum]
  | cons a l ih => rw [List.cons_append, wsum, wsum, ih]; omega
theorem wsum_erase (W : Nat → Int) {a : Nat} : ∀ {M : List Nat}, a ∈ M → wsum W M = W a + wsum W (M.erase a) := by
  intro M
  induction M with
  | nil => intro h; cases h
  | cons b M ih =>
    intro h
    by_cases e : b = a
    · rw [e, List.erase_cons_head, wsum]
    · rw [List.erase_cons_tail (by simpa using e), wsum, wsum, ih ((List.mem_cons.1 h).resolve_left (fun q => e q.symm))]
      omega
theorem wsum_nn {W : Nat → Int} {M : List Nat} (h : ∀ x ∈ M, 0 ≤ W x) : 0 ≤ wsum W M := by
  induction M with
  | nil => exact Int.le_refl _
  | cons a M ih => rw [wsum]; have := h a (by simp); have := ih fun x hx => h x (by simp [hx]); omega
theorem wsum_sub {W : Nat → Int} {L : List Nat} : ∀ {M : List Nat}, L.Nodup → (∀ x ∈ L, x ∈ M) → (∀ x ∈ M, 0 ≤ W x) → wsum W L ≤ wsum W M := by
  induction L with
  | nil => intro M _ _ h; exact wsum_nn h
  | cons a L ih =>
    intro M hn h hw
    rw [List.nodup_cons] at hn
    have ha : a ∈ M := h a (by simp)
    have := ih (M := M.erase a) hn.2 (fun x hx => (List.mem_erase_of_ne (fun e => hn.1 (by rw [← e]; exact hx))).2 (h x (by simp [hx]))) fun x hx => hw x (List.mem_of_mem_erase hx)
    rw [wsum_erase W ha, wsum]
    omega
theorem wsum_take {W : Nat → Int} {L : List Nat} {k : Nat} (hk : k < L.length) : wsum W (L.take (k + 1)) = wsum W (L.take k) + W L[k] := by
  rw [List.take_succ_eq_append_getElem hk, wsum_app, wsum, wsum]
  omega
theorem wsum_le {W : Nat → Int} {L : List Nat} {M : Int} (h : ∀ x ∈ L, W x ≤ M) : wsum W L ≤ L.length * M := by
  induction L with
  | nil => simp [wsum]
  | cons a L ih =>
    rw [wsum, List.length_cons]
    have := h a (by simp)
    have := ih fun x hx => h x (by simp [hx])
    have e : ((L.length + 1 : Nat) : Int) * M = (L.length : Int) * M + M := by rw [Int.natCast_add, Int.add_mul]; simp
    omega
/-- What each node's sum is, by who comes next. -/
theorem LG.eq1 {A : Nat → List Nat} {W F G : Nat → Int} {R : List Nat} (h : LG A W F G R) : ∀ x ∈ R, (G x = -1 ∧ F x = W x) ∨ ∃ y : Nat, G x = y ∧ y ∈ A x ∧ y ∈ R ∧ F x = W x + F y := by
  induction h with
  | nil => intro x hx; cases hx
  | @cons x R b h hA hv hF ih =>
    intro z hz
    rcases List.mem_cons.1 hz with rfl | hz
    · rcases hv with ⟨e, _⟩ | ⟨w, e, h1, _⟩
      · injection e with e1 e2
        exact Or.inl ⟨e2, by rw [hF, e1]; omega⟩
      · injection e with e1 e2
        exact Or.inr ⟨w, e2, h1, by simp [hA w h1], by rw [hF, e1]⟩
    · rcases ih z hz with k | ⟨y, k1, k2, k3, k4⟩
      · exact Or.inl k
      · exact Or.inr ⟨y, k1, k2, by simp [k3], k4⟩
/-- How the way goes on. -/
structure WA2 (E : List (Nat × Nat)) (D : List Nat) (W F : Nat → Int) (m : Nat) (L : List Nat) (y : Nat) : Prop where
  sum : F m = wsum W L + F y
  st : L = [] → y = m
  up : ∀ a ∈ L, pos D a < pos D y
  pw : L.Pairwise fun a b => pos D a < pos D b
  ch : ∀ i (hi : i + 1 < L.length), (L[i], L[i + 1]) ∈ E
  la : ∀ (h : 0 < L.length), (L[L.length - 1], y) ∈ E
  inD : (∀ a ∈ L, a ∈ D) ∧ y ∈ D
theorem WA2.go {N : Nat} {E : List (Nat × Nat)} (hg : GOK N E) {D : List Nat} {W F : Nat → Int} (kD : KO N E D) {m : Nat} {L : List Nat} {y z : Nat} (h : WA2 E D W F m L y) (h1 : z ∈ nx N E y) (h2 : z ∈ D) (h3 : F y = W y + F z) : WA2 E D W F m (L ++ [y]) z := by
  have hE : (y, z) ∈ E := (nx_mem hg).1 h1
  have hp := kD.edge h2 hE
  refine ⟨?_, fun e => by simp at e, fun a ha => ?_, ?_, fun i hi => ?_, fun _ => ?_, ⟨fun a ha => ?_, h2⟩⟩
  · rw [wsum_app, wsum, wsum, h.sum]; omega
  · rcases List.mem_append.1 ha with q | q
    · have := h.up a q; omega
    · rw [List.mem_singleton] at q; rw [q]; exact hp
  · rw [List.pairwise_append]
    exact ⟨h.pw, List.pairwise_singleton _ _, fun a ha b hb => by rw [List.mem_singleton] at hb; rw [hb]; exact h.up a ha⟩
  · rw [List.length_append, List.length_singleton] at hi
    by_cases q : i + 1 < L.length
    · rw [List.getElem_append_left (by omega), List.getElem_append_left q]
      exact h.ch i q
    · have e : i + 1 = L.length := by omega
      rw [List.getElem_append_left (by omega), List.getElem_append_right (by omega)]
      have hl := h.la (by omega)
      have e2 : L.length - 1 = i := by omega
      simp only [e2] at hl
      simpa using hl
  · have : (L ++ [y])[(L ++ [y]).length - 1]'(by simp) = y := by simp
    rw [this]
    exact hE
  · rcases List.mem_append.1 ha with q | q
    · exact h.inD.1 a q
    · rw [List.mem_singleton] at q; rw [q]; exact h.inD.2
/-- The longest way. -/
structure WAY (N : Nat) (E : List (Nat × Nat)) (W : Nat → Int) (S : Int) (L : List Nat) : Prop where
  sum : S = wsum W L
  nd : L.Nodup
  lt : ∀ a ∈ L, a < N
  ch : ∀ i (hi : i + 1 < L.length), (L[i], L[i + 1]) ∈ E
  ge : ∀ x, x < N → W x ≤ S
theorem WA2.nd {E : List (Nat × Nat)} {D : List Nat} {W F : Nat → Int} {m : Nat} {L : List Nat} {y : Nat} (h : WA2 E D W F m L y) : L.Nodup := h.pw.imp fun k e => by rw [e] at k; exact absurd k (Nat.lt_irrefl _)
theorem lo_is {N : Nat} {E : List (Nat × Nat)} (hg : GOK N E) (hr : rnL N E = []) {W : Nat → Int} (hW : WOK N W) : WAY N E W (loS N E W) (loW N E W) := by
  obtain ⟨kD, lD⟩ := orL_ko hg hr
  have hL := loF_LG hg hr hW
  have hA := orL_all hg hr
  have e1 := hL.eq1
  have bd := hL.bd (M := 1099511627776) (by decide) (fun z hz => hW z (kD.lt z hz))
  have hge : ∀ x, x < N → W x ≤ loS N E W := fun x hx => by
    rcases mxF_is (loF N E W).1 N with ⟨e, _⟩ | ⟨m, em, hm, hmax⟩
    · omega
    · unfold loS
      rw [sg_at em]
      have := (bd x (hA x hx)).2.2.1
      have := hmax x hx
      omega
  -- along the way
  have key : ∀ k, (mxF (loF N E W).1 N = -1 ∧ gw (loF N E W).2 k (mxF (loF N E W).1 N) = ([], -1)) ∨ ∃ m : Nat, mxF (loF N E W).1 N = m ∧ ((∃ y : Nat, (gw (loF N E W).2 k m).2 = y ∧ WA2 E (orL N E) W (loF N E W).1 m (gw (loF N E W).2 k m).1 y) ∨ ((gw (loF N E W).2 k m).2 = -1 ∧ ∃ (L : List Nat) (y : Nat), (gw (loF N E W).2 k m).1 = L ++ [y] ∧ WA2 E (orL N E) W (loF N E W).1 m L y ∧ (loF N E W).1 y = W y)) := by
    intro k
    rcases mx_cases (loF N E W).1 N with ⟨_, e⟩ | ⟨m, em, hm⟩
    · refine Or.inl ⟨e, ?_⟩
      rw [e]
      induction k with
      | zero => rfl
      | succ k ih => rw [gw, ih]; rfl
    · refine Or.inr ⟨m, em, ?_⟩
      induction k with
      | zero => exact Or.inl ⟨m, rfl, ⟨by show _ = wsum W [] + _; rw [wsum]; omega, fun _ => rfl, (fun a ha => by cases ha), List.Pairwise.nil, (fun i hi => by simp [gw] at hi), (fun h => by simp [gw] at h), ⟨(fun a ha => by cases ha), hA m hm⟩⟩⟩
      | succ k ih =>
        rcases ih with ⟨y, ey, hy⟩ | ⟨ez, L, y, h1, h2, h3⟩
        · have es : gw (loF N E W).2 (k + 1) m = ((gw (loF N E W).2 k m).1 ++ [y], (loF N E W).2 y) := gw_step (by rw [← ey])
          rcases e1 y hy.inD.2 with ⟨q1, q2⟩ | ⟨z, q1, q2, q3, q4⟩
          · refine Or.inr ⟨by rw [es]; exact q1, _, y, by rw [es], hy, q2⟩
          · refine Or.inl ⟨z, by rw [es]; exact q1, ?_⟩
            rw [es]
            exact hy.go hg kD q2 q3 q4
        · refine Or.inr ⟨?_, L, y, ?_, h2, h3⟩
          · rw [gw, if_pos (by rw [ez]; decide)]; exact ez
          · rw [gw, if_pos (by rw [ez]; decide)]; exact h1
  have hend : (gw (loF N E W).2 N (mxF (loF N E W).1 N)).2 = -1 := by
    rcases lo_way hg hr hW N with ⟨e, _⟩ | ⟨y, _, _, q, _⟩
    · exact e
    · omega
  rcases key N with ⟨e, h⟩ | ⟨m, em, h⟩
  · have eL : loW N E W = [] := by unfold loW; rw [h]
    rw [eL]
    refine ⟨by unfold loS sgF; rw [e]; rfl, List.nodup_nil, (fun a ha => by cases ha), (fun i hi => by simp at hi), hge⟩
  · rw [em] at hend
    rcases h with ⟨y, ey, _⟩ | ⟨_, L, y, h1, h2, h3⟩
    · omega
    · have eL : loW N E W = L ++ [y] := by unfold loW; rw [em]; exact h1
      rw [eL]
      have hnd : (L ++ [y]).Pairwise fun a b => pos (orL N E) a < pos (orL N E) b := by
        rw [List.pairwise_append]
        exact ⟨h2.pw, List.pairwise_singleton _ _, fun a ha b hb => by rw [List.mem_singleton] at hb; rw [hb]; exact h2.up a ha⟩
      refine ⟨?_, hnd.imp fun k e => by rw [e] at k; exact absurd k (Nat.lt_irrefl _), fun a ha => ?_, fun i hi => ?_, hge⟩
      · unfold loS
        rw [sg_at em, h2.sum, wsum_app, wsum, wsum, h3]
        omega
      · rcases List.mem_append.1 ha with q | q
        · exact kD.lt a (h2.inD.1 a q)
        · rw [List.mem_singleton] at q; rw [q]; exact kD.lt y h2.inD.2
      · rw [List.length_append, List.length_singleton] at hi
        by_cases q : i + 1 < L.length
        · rw [List.getElem_append_left (by omega), List.getElem_append_left q]
          exact h2.ch i q
        · have e : i + 1 = L.length := by omega
          rw [List.getElem_append_left (by omega), List.getElem_append_right (by omega)]
          have hl := h2.la (by omega)
          have e2 : L.length - 1 = i := by omega
          simp only [e2] at hl
          simpa using hl
end Go.Proofs.Ythhjknpfaghfbaa
namespace Go.Proofs.Ythhjknpfaghfbaa
open Go.RowKit

theorem ln_ed {N : Nat} {E : List (Nat × Nat)} (hg : GOK N E) {x y : Nat} : ed (lnQ N E) x y ↔ (x, y) ∈ E ∧ ¬ ∃ b, (x, b) ∈ E ∧ Wy (ed E) b y := by
  unfold ed lnQ
  rw [lnK_mem hg]
  constructor
  · rintro ⟨_, h2, h3⟩
    refine ⟨h2, fun ⟨b, h4, h5⟩ => ?_⟩
    have : wyB E (-1) (nx N E x) y = true := wyB_iff.2 ⟨b, (nx_mem hg).2 h4, h5.imp fun a c k => (edW_none (by decide)).2 k⟩
    rw [h3] at this
    cases this
  · rintro ⟨h2, h3⟩
    refine ⟨(hg.lt _ h2).1, h2, ?_⟩
    rw [← Bool.not_eq_true, wyB_iff]
    rintro ⟨b, h4, h5⟩
    exact h3 ⟨b, (nx_mem hg).1 h4, h5.imp fun a c k => (edW_none (by decide)).1 k⟩
theorem ln_sub {N : Nat} {E : List (Nat × Nat)} (hg : GOK N E) {x y : Nat} (h : ed (lnQ N E) x y) : ed E x y := ((ln_ed hg).1 h).1
/-- What is reached is reached by lean edges. -/
theorem ln_way {N : Nat} {E : List (Nat × Nat)} (hg : GOK N E) (hr : rnL N E = []) : ∀ (d x y : Nat), x < N → y < N → pos (orL N E) y - pos (orL N E) x ≤ d → Wy (ed E) x y → Wy (ed (lnQ N E)) x y := by
  obtain ⟨kD, lD⟩ := orL_ko hg hr
  have hA := orL_all hg hr
  intro d
  induction d with
  | zero =>
    intro x y hx hy hd h
    have := (kD.way h (hA y hy)).2
    omega
  | succ d ih =>
    intro x y hx hy hd h
    have hstep : ∀ b, (x, b) ∈ E → Wy (ed E) b y → Wy (ed (lnQ N E)) x y := fun b h1 h2 => by
      have hb := (hg.lt _ h1).2
      have p1 := (kD.way (Wy.one h1 : Wy (ed E) x b) (hA b hb)).2
      have p2 := (kD.way h2 (hA y hy)).2
      exact (ih x b hx hb (by omega) (Wy.one h1)).trans (ih b y hb hy (by omega) h2)
    obtain ⟨b, h1, h2⟩ := h.first
    rcases h2 with rfl | h2
    · by_cases hq : ∃ c, (x, c) ∈ E ∧ Wy (ed E) c b
      · obtain ⟨c, h3, h4⟩ := hq
        exact hstep c h3 h4
      · exact Wy.one ((ln_ed hg).2 ⟨h1, hq⟩)
    · exact hstep b h1 h2
theorem ln_reach {N : Nat} {E : List (Nat × Nat)} (hg : GOK N E) (hr : rnL N E = []) {x : Nat} (hx : x < N) : reL N (lnQ N E) [x] = reL N E [x] := by
  unfold reL
  refine ris_congr fun y hy => Bool.eq_iff_iff.2 ?_
  rw [rcB_iff, rcB_iff]
  have key : Rs (ed (lnQ N E)) x y ↔ Rs (ed E) x y := by
    constructor
    · exact fun h => h.imp fun a b k => ln_sub hg k
    · rintro (rfl | h)
      · exact Or.inl rfl
      · exact Or.inr (ln_way hg hr _ x y hx hy (Nat.le_refl _) h)
  constructor
  · rintro ⟨r, hr', h⟩
    rw [List.mem_singleton] at hr'
    subst hr'
    exact ⟨r, by simp, key.1 h⟩
  · rintro ⟨r, hr', h⟩
    rw [List.mem_singleton] at hr'
    subst hr'
    exact ⟨r, by simp, key.2 h⟩
/-- Without one of its edges. -/
def lnD (Q : List (Nat × Nat)) (i : Nat) : List (Nat × Nat) := Q.take i ++ Q.drop (i + 1)
theorem lnD_mem {Q : List (Nat × Nat)} (hn : Q.Nodup) {i : Nat} (hi : i < Q.length) {e : Nat × Nat} (h : e ∈ lnD Q i) : e ∈ Q ∧ e ≠ Q[i] := by
  unfold lnD at h
  have e1 : Q = Q.take i ++ Q[i] :: Q.drop (i + 1) := by rw [← List.drop_eq_getElem_cons hi, List.take_append_drop]
  have hn2 := hn
  rw [e1, List.nodup_append, List.nodup_cons] at hn2
  rcases List.mem_append.1 h with q | q
  · exact ⟨List.mem_of_mem_take q, fun he => hn2.2.2 e q Q[i] List.mem_cons_self he⟩
  · exact ⟨List.mem_of_mem_drop q, fun he => hn2.2.1.1 (by rw [← he]; exact q)⟩
theorem lnD_ok {N : Nat} {E : List (Nat × Nat)} (hg : GOK N E) {i : Nat} (hi : i < (lnQ N E).length) : GOK N (lnD (lnQ N E) i) := by
  have ho := lnQ_ok hg
  refine ⟨ho.n, ?_, fun e he => ho.lt e (lnD_mem (lnK_nodup hg N) hi he).1⟩
  have := ho.e
  unfold lnD
  rw [List.length_append, List.length_take, List.length_drop]
  omega
theorem lnD_no {N : Nat} {E : List (Nat × Nat)} (hg : GOK N E) (hr : rnL N E = []) {i : Nat} (hi : i < (lnQ N E).length) : wayB (lnD (lnQ N E) i) (lnQ N E)[i].1 (lnQ N E)[i].2 = false := by
  rw [← Bool.not_eq_true, wayB_iff]
  obtain ⟨h1, h2⟩ := (ln_ed hg).1 (show ed (lnQ N E) (lnQ N E)[i].1 (lnQ N E)[i].2 from List.getElem_mem hi)
  rintro (e | h)
  · rw [e] at h1
    exact (rn_nil.1 hr) _ (hg.lt _ h1).2 (Wy.one h1)
  · obtain ⟨b, h3, h4⟩ := h.first
    have h3 : ((lnQ N E)[i].1, b) ∈ lnD (lnQ N E) i := h3
    obtain ⟨h5, h6⟩ := lnD_mem (lnK_nodup hg N) hi h3
    rcases h4 with e | h4
    · exact h6 (by rw [e]; rfl)
    · exact h2 ⟨b, ln_sub hg h5, h4.imp fun a c k => ln_sub hg (lnD_mem (lnK_nodup hg N) hi k).1⟩
set_option maxHeartbeats 4000000 in
theorem edge_any (w : World) (N : Nat) (E : List (Nat × Nat)) (hE : E.length ≤ 16384) (p : Option Addr) (c : Nat) (hv : GS KE w (.slice p E.length c) (eI E)) (x y : Nat) : Calls Try.prog 28 #[.agg #[.int .i64 N, .slice p E.length c], .int .i64 x, .int .i64 y] w fun e w' => e = .returned (.bool (decide ((x, y) ∈ E))) ∧ Below w.heap.size w w' := by
  generalize hW : w.alloc (.cells #[.int .i64 N, .slice p E.length c] 24) = W
  obtain ⟨bw, c0⟩ := graph_box w N p E.length c hW
  have BW := hid bw
  obtain ⟨d0, d1⟩ := c0 W (Below.refl _ _)
  have GE := hid (fun j (hj : j < E.length) => GS.atN (hv.below bw) hj)
  obtain ⟨m, hm⟩ : ∃ m, m = E.length := ⟨_, rfl⟩
  have ME : Hid (E.length = m) := hm.symm
  rw [← hm] at hW d1 hE ⊢
  clear hm hv bw c0
  go_enter Try.func28, Try.ntmps28
  go_wp2_with fail
  go_loopw [7] (fun v7 wr => ∃ (k : Nat), v7 = .int .i64 k ∧ W = wr ∧ k ≤ m ∧ Hid (∀ j (hj : j < E.length), j < k → E[j] ≠ (x, y))) (fun v7 _ => m - (intOf v7).toNat)
  case atStart => exact ⟨0, rfl, rfl, Nat.zero_le _, fun j _ hj => absurd hj (Nat.not_lt_zero _)⟩
  case round =>
    obtain ⟨k, rfl, rfl, hk, HK⟩ := hrel
    by_cases hlt : k < m
    · have k1 : k < E.length := by have := ME.out; omega
      obtain ⟨Z, o, e1, c1, c2⟩ := GE.out k k1
      subst e1
      have hki : (k : Int) < (m : Nat) := by omega
      by_cases he : E[k] = (x, y)
      · have HM : Hid (decide ((x, y) ∈ E) = true) := decide_eq_true (by rw [← he]; exact List.getElem_mem k1)
        have q1 : E[k].1 = x := by rw [he]
        have q2 : E[k].2 = y := by rw [he]
        have b1 : ((E[k].1 : Int) == (x : Int)) = true := by simp [q1]
        have b2 : ((E[k].2 : Int) == (y : Int)) = true := by simp [q2]
        generalize E[k].1 = a at *
        generalize E[k].2 = b at *
        clear HK he q1 q2
        go_wp2_with fail
        go_ret
        exact ⟨ret_bool HM.out.symm, BW.out⟩
      · have HN : Hid (∀ j (hj : j < E.length), j < k + 1 → E[j] ≠ (x, y)) := fun j hj h => by
          by_cases e : j < k
          · exact HK.out j hj e
          · obtain rfl : j = k := by omega
            exact he
        have hE2 : E[k].1 = x → E[k].2 = y → False := fun q1 q2 => he (by rw [← q1, ← q2])
        generalize E[k].1 = a at *
        generalize E[k].2 = b at *
        clear HK he
        by_cases q1 : a = x
        · have b1 : ((a : Int) == (x : Int)) = true := by simp [q1]
          have b2 : ((b : Int) == (y : Int)) = false := by
            have : ¬ b = y := fun q2 => hE2 q1 q2
            simp; omega
          clear hE2 q1
          go_wp2_with fail
          go_roundw
          case rel => exact ⟨k + 1, by go_num, by first | rfl | trivial, by omega, HN⟩
          case measure => simp [intOf]; omega
        · have b1 : ((a : Int) == (x : Int)) = false := by simp; omega
          clear hE2 q1
          go_wp2_with fail
          go_roundw
          case rel => exact ⟨k + 1, by go_num, by first | rfl | trivial, by omega, HN⟩
          case measure => simp [intOf]; omega
    · obtain rfl : k = m := by omega
      have HM : Hid (decide ((x, y) ∈ E) = false) := decide_eq_false fun h => by
        obtain ⟨j, hj, e⟩ := List.mem_iff_getElem.1 h
        exact HK.out j hj (by have := ME.out; omega) e
      clear HK
      go_wp2_with fail
      go_ret
      exact ⟨ret_bool HM.out.symm, BW.out⟩
end Go.Proofs.Ythhjknpfaghfbaa
