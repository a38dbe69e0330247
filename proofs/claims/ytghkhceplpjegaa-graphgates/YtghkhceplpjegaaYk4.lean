/- Graph: whether a list has what is no weight; regions that draw their order, in a round. -/
import Derived.Test.YtghkhceplpjegaaYg3
import Derived.Test.YtghkhceplpjegaaYe9
import Derived.IntWalk
import Derived.Test.YtghkhceplpjegaaYb1
import Derived.OrdersIn
import Derived.BigRegionIn
namespace Go.Proofs.Ytghkhceplpjegaa
open Go.RowKit

theorem snoc_ind {α : Type} {P : List α → Prop} (h0 : P []) (h1 : ∀ l x, P l → P (l ++ [x])) (l : List α) : P l := by
  have key : ∀ m : List α, P m.reverse := by
    intro m
    induction m with
    | nil => exact h0
    | cons x m ih => rw [List.reverse_cons]; exact h1 _ x ih
  have := key l.reverse
  rwa [List.reverse_reverse] at this
theorem HV.congr {F G : Nat → Int} {l : List Nat} {p : Int × Int} (h : HV F l p) (k : ∀ y ∈ l, G y = F y) : HV G l p := by
  rcases h with ⟨e, h⟩ | ⟨w, e, q1, q2, q3⟩
  · exact Or.inl ⟨e, fun y hy => by rw [k y hy]; exact h y hy⟩
  · exact Or.inr ⟨w, by rw [k w q1]; exact e, q1, by rw [k w q1]; exact q2, fun y hy => by rw [k y hy, k w q1]; exact q3 y hy⟩
/-- What a run over a rising list finds. -/
def hvP (F : Nat → Int) (l : List Nat) : Int × Int := l.foldl (fun p y => if p.1 < F y then (F y, (y : Int)) else p) (0, -1)
theorem hvP_nil (F : Nat → Int) : hvP F [] = (0, -1) := rfl
theorem hvP_snoc (F : Nat → Int) (l : List Nat) (y : Nat) : hvP F (l ++ [y]) = if (hvP F l).1 < F y then (F y, (y : Int)) else hvP F l := by
  unfold hvP
  rw [List.foldl_append]
  rfl
theorem hvP_lo (F : Nat → Int) (l : List Nat) : 0 ≤ (hvP F l).1 ∧ ((hvP F l).2 = -1 ∨ ∃ y : Nat, (hvP F l).2 = y ∧ y ∈ l) := by
  induction l using snoc_ind with
  | h0 => exact ⟨Int.le_refl _, Or.inl rfl⟩
  | h1 l y ih =>
    rw [hvP_snoc]
    split
    · exact ⟨by have := ih.1; show 0 ≤ F y; omega, Or.inr ⟨y, rfl, by simp⟩⟩
    · refine ⟨ih.1, ?_⟩
      rcases ih.2 with e | ⟨z, e, h⟩
      · exact Or.inl e
      · exact Or.inr ⟨z, e, by simp [h]⟩
theorem hvP_HV (F : Nat → Int) (l : List Nat) : l.Pairwise (· < ·) → HV F l (hvP F l) := by
  induction l using snoc_ind with
  | h0 => intro _; exact HV.nil F
  | h1 l y ih =>
    intro hl
    rw [List.pairwise_append] at hl
    have ih := ih hl.1
    rw [hvP_snoc]
    split
    · rename_i h; exact ih.more h
    · rename_i h
      refine ih.stay (by omega) fun _ h2 => ?_
      rcases (hvP_lo F l).2 with e | ⟨z, e, hz⟩
      · omega
      · have := hl.2.2 z hz y (by simp)
        omega
/-- What a run over any list finds that looks at ties. -/
def rhP (F : Nat → Int) (l : List Nat) : Int × Int := l.foldl (fun p y => if p.1 < F y ∨ (F y = p.1 ∧ 0 ≤ p.2 ∧ (y : Int) < p.2) then (F y, (y : Int)) else p) (0, -1)
theorem rhP_nil (F : Nat → Int) : rhP F [] = (0, -1) := rfl
theorem rhP_snoc (F : Nat → Int) (l : List Nat) (y : Nat) : rhP F (l ++ [y]) = if (rhP F l).1 < F y ∨ (F y = (rhP F l).1 ∧ 0 ≤ (rhP F l).2 ∧ (y : Int) < (rhP F l).2) then (F y, (y : Int)) else rhP F l := by
  unfold rhP
  rw [List.foldl_append]
  rfl
theorem rhP_HV (F : Nat → Int) (l : List Nat) : HV F l (rhP F l) := by
  induction l using snoc_ind with
  | h0 => exact HV.nil F
  | h1 l y ih =>
    rw [rhP_snoc]
    split
    · rename_i h
      rcases h with h | ⟨h1, h2, h3⟩
      · exact ih.more h
      · exact ih.swap h1 h2 h3
    · rename_i h
      have h1 : ¬ (rhP F l).1 < F y := fun q => h (Or.inl q)
      exact ih.stay (by omega) fun e h2 => by
        have : ¬ (y : Int) < (rhP F l).2 := fun q => h (Or.inr ⟨e, h2, q⟩)
        omega
theorem rhP_lo (F : Nat → Int) (l : List Nat) : 0 ≤ (rhP F l).1 ∧ ((rhP F l).2 = -1 ∨ ∃ y : Nat, (rhP F l).2 = y ∧ y ∈ l) := by
  have h := rhP_HV F l
  refine ⟨h.lo, ?_⟩
  rcases h with ⟨e, _⟩ | ⟨w, e, q, _⟩
  · exact Or.inl (by rw [e])
  · exact Or.inr ⟨w, by rw [e], q⟩
/-- The next one is written, if there is one. -/
def nxU (G : Nat → Int) (x : Nat) (v : Int) : Nat → Int := if v < 0 then G else upF G x v
theorem nxU_at (G : Nat → Int) (x : Nat) (v : Int) (h : G x = -1) (hv : v = -1 ∨ 0 ≤ v) : nxU G x v x = v := by
  unfold nxU
  split
  · rw [h]; omega
  · simp [upF]
theorem nxU_far (G : Nat → Int) (x : Nat) (v : Int) {y : Nat} (h : y ≠ x) : nxU G x v y = G y := by
  unfold nxU
  split
  · rfl
  · simp [upF, h]
/-- One more node: its sum, and who comes next. -/
def hvS (A : Nat → List Nat) (s : (Nat → Int) × (Nat → Int)) (x : Nat) : (Nat → Int) × (Nat → Int) :=
  (upF s.1 x (IntKind.i64.wrap (s.1 x + (hvP s.1 (A x)).1)), nxU s.2 x (hvP s.1 (A x)).2)
def hvF (A : Nat → List Nat) (W : Nat → Int) (pre : List Nat) : (Nat → Int) × (Nat → Int) := pre.foldl (hvS A) (W, fun _ => -1)
theorem hvF_snoc (A : Nat → List Nat) (W : Nat → Int) (pre : List Nat) (x : Nat) : hvF A W (pre ++ [x]) = hvS A (hvF A W pre) x := by unfold hvF; rw [List.foldl_append]; rfl
theorem upF_far (F : Nat → Int) (y : Nat) (d : Int) {x : Nat} (h : x ≠ y) : upF F y d x = F x := by simp [upF, h]
theorem upF_at (F : Nat → Int) (y : Nat) (d : Int) : upF F y d y = d := by simp [upF]
/-- Whoever it leads to stands behind it. -/
theorem KO.behind {N : Nat} {E : List (Nat × Nat)} (hg : GOK N E) {D : List Nat} (h : KO N E D) (hl : D.length = N) {pre R : List Nat} {x : Nat} (e : D = pre ++ x :: R) : x ∉ R ∧ ∀ y ∈ nx N E x, y ∈ R := by
  have hn := h.nodup
  constructor
  · intro q
    rw [e, List.nodup_append] at hn
    exact (List.nodup_cons.1 hn.2.1).1 q
  · intro y hy
    have hE := (nx_mem hg).1 hy
    have hyD : y ∈ D := full_mem hn h.lt hl y (hg.lt _ hE).2
    have hp := h.edge hyD hE
    rw [e] at hyD
    rcases List.mem_append.1 hyD with q | q
    · have := pos_pre hn e q; omega
    · rcases List.mem_cons.1 q with q | q
      · rw [q] at hp; omega
      · exact q
def WOK (N : Nat) (W : Nat → Int) : Prop := ∀ x, x < N → 0 ≤ W x ∧ W x ≤ 1099511627776
theorem hv_LG {N : Nat} {E : List (Nat × Nat)} (hg : GOK N E) {D : List Nat} (h : KO N E D) (hl : D.length = N) {W : Nat → Int} (hW : WOK N W) : ∀ (R pre : List Nat), D = pre ++ R → LG (nx N E) W (hvF (nx N E) W R.reverse).1 (hvF (nx N E) W R.reverse).2 R ∧ ∀ x, x ∉ R → (hvF (nx N E) W R.reverse).1 x = W x ∧ (hvF (nx N E) W R.reverse).2 x = -1 := by
  intro R
  induction R with
  | nil => intro pre _; exact ⟨.nil, fun x _ => ⟨rfl, rfl⟩⟩
  | cons x R ih =>
    intro pre e
    obtain ⟨ih1, ih2⟩ := ih (pre ++ [x]) (by rw [e]; simp)
    obtain ⟨hx, hy⟩ := h.behind hg hl e
    rw [List.reverse_cons, hvF_snoc]
    generalize hvF (nx N E) W R.reverse = s at *
    have hxN : x < N := h.lt x (by rw [e]; simp)
    have hRN : ∀ z ∈ R, z < N := fun z hz => h.lt z (by rw [e]; simp [hz])
    have hRl : R.length ≤ 4096 := by
      have h1 := congrArg List.length e
      rw [List.length_append, List.length_cons] at h1
      have := hg.n
      omega
    have hv := hvP_HV s.1 (nx N E x) (ris_up _ _)
    obtain ⟨h0, h2⟩ := hvP_lo s.1 (nx N E x)
    have bd := ih1.bd (M := 1099511627776) (by decide) (fun z hz => hW z (hRN z hz))
    obtain ⟨b1, b2⟩ := ih2 x hx
    have hw := hW x hxN
    have ub : (hvP s.1 (nx N E x)).1 ≤ 4096 * 1099511627776 := by
      have h2 := hv
      rcases h2 with ⟨e, _⟩ | ⟨v, e, q1, q2, q3⟩
      · rw [e]; decide
      · rw [e]
        have := (bd v (hy v q1)).2.1
        have h3 : (R.length : Int) * 1099511627776 ≤ 4096 * 1099511627776 := by omega
        show s.1 v ≤ _
        omega
    have hne : ∀ z ∈ R, z ≠ x := fun z hz q => hx (by rw [← q]; exact hz)
    unfold hvS
    dsimp only
    refine ⟨LG.cons (b := (hvP s.1 (nx N E x)).1) (ih1.congr fun z hz => ⟨upF_far _ _ _ (hne z hz), nxU_far _ _ _ (hne z hz)⟩) hy ?_ ?_, fun z hz => ?_⟩
    · have h3 : (hvP s.1 (nx N E x)).2 = -1 ∨ 0 ≤ (hvP s.1 (nx N E x)).2 := by
        rcases h2 with e | ⟨z, e, _⟩
        · exact Or.inl e
        · exact Or.inr (by rw [e]; omega)
      rw [nxU_at _ _ _ b2 h3]
      exact hv.congr fun z hz => upF_far _ _ _ (hne z (hy z hz))
    · rw [upF_at, b1]
      exact IntWalk.i64_in _ (by omega)
    · have h1 : z ≠ x := fun q => hz (by rw [q]; exact .head _)
      have h2 : z ∉ R := fun q => hz (.tail _ q)
      exact ⟨by rw [upF_far _ _ _ h1]; exact (ih2 z h2).1, by rw [nxU_far _ _ _ h1]; exact (ih2 z h2).2⟩
/-- What the greatest sums are. -/
noncomputable def loF (N : Nat) (E : List (Nat × Nat)) (W : Nat → Int) : (Nat → Int) × (Nat → Int) := hvF (nx N E) W (orL N E).reverse
theorem loF_LG {N : Nat} {E : List (Nat × Nat)} (hg : GOK N E) (hr : rnL N E = []) {W : Nat → Int} (hW : WOK N W) : LG (nx N E) W (loF N E W).1 (loF N E W).2 (orL N E) := by
  obtain ⟨h1, h2⟩ := orL_ko hg hr
  exact (hv_LG hg h1 h2 hW (orL N E) [] (by simp)).1
theorem orL_all {N : Nat} {E : List (Nat × Nat)} (hg : GOK N E) (hr : rnL N E = []) : ∀ x, x < N → x ∈ orL N E := by
  obtain ⟨h1, h2⟩ := orL_ko hg hr
  exact full_mem h1.nodup h1.lt h2
/-- Its sum: 0 of none. -/
def sgF (F : Nat → Int) (k : Nat) : Int := if mxF F k < 0 then 0 else F (mxF F k).toNat
theorem sgF_zero (F : Nat → Int) : sgF F 0 = 0 := rfl
/-- One more node, by the program's word and by the document's. -/
theorem mx_put {F : Nat → Int} {k : Nat} (h : mxF F k = -1 ∨ sgF F k < F k) : mxF F (k + 1) = k ∧ sgF F (k + 1) = F k := by
  have e : mxF F (k + 1) = k := by
    unfold mxF
    rw [if_pos]
    rcases h with h | h
    · exact Or.inl (by rw [h]; decide)
    · unfold sgF at h
      split at h
      · rename_i q; exact Or.inl q
      · exact Or.inr h
  refine ⟨e, ?_⟩
  unfold sgF
  rw [e, if_neg (by omega)]
  simp
theorem mx_skip {F : Nat → Int} {k : Nat} (h : ¬ mxF F k = -1) (h2 : ¬ sgF F k < F k) : mxF F (k + 1) = mxF F k ∧ sgF F (k + 1) = sgF F k := by
  have hm : ∃ m : Nat, mxF F k = m ∧ m < k := by
    rcases mxF_is F k with ⟨_, e⟩ | ⟨m, e, h1, _⟩
    · exact absurd e h
    · exact ⟨m, e, h1⟩
  obtain ⟨m, hm, _⟩ := hm
  have e : mxF F (k + 1) = mxF F k := by
    rw [mxF, if_neg]
    intro q
    rcases q with q | q
    · omega
    · unfold sgF at h2
      rw [if_neg (by omega)] at h2
      exact h2 q
  refine ⟨e, ?_⟩
  unfold sgF
  rw [e]
theorem sg_at {F : Nat → Int} {k m : Nat} (h : mxF F k = m) : sgF F k = F m := by unfold sgF; rw [h, if_neg (by omega)]; simp
theorem mx_cases (F : Nat → Int) (k : Nat) : (k = 0 ∧ mxF F k = -1) ∨ ∃ m : Nat, mxF F k = m ∧ m < k := by
  rcases mxF_is F k with h | ⟨m, e, h1, _⟩
  · exact Or.inl h
  · exact Or.inr ⟨m, e, h1⟩
theorem sgF_congr {F G : Nat → Int} {k : Nat} (h : ∀ y, y < k → F y = G y) : sgF F k = sgF G k := by
  unfold sgF
  rw [mxF_congr h]
  rcases mx_cases G k with ⟨_, e⟩ | ⟨m, e, h1⟩
  · rw [e]; rfl
  · rw [e]; simp [h m h1]
theorem gw_congr {G H : Nat → Int} {N : Nat} (h : ∀ y, y < N → G y = H y) (hb : ∀ y, y < N → G y = -1 ∨ ∃ z : Nat, G y = z ∧ z < N) (k : Nat) (v : Int) (hv : v = -1 ∨ ∃ z : Nat, v = z ∧ z < N) : gw G k v = gw H k v ∧ ((gw G k v).2 = -1 ∨ ∃ z : Nat, (gw G k v).2 = z ∧ z < N) := by
  induction k with
  | zero => exact ⟨rfl, hv⟩
  | succ k ih =>
    obtain ⟨i1, i2⟩ := ih
    rw [gw, gw, ← i1]
    rcases i2 with e | ⟨z, e, hz⟩
    · rw [if_pos (by rw [e]; decide), if_pos (by rw [e]; decide)]
      exact ⟨rfl, Or.inl e⟩
    · have et : ((z : Int)).toNat = z := by simp
      rw [e, if_neg (by omega), if_neg (by omega), et, h z hz]
      exact ⟨rfl, by rw [← h z hz]; exact hb z hz⟩
/-- The way: its nodes. -/
noncomputable def loW (N : Nat) (E : List (Nat × Nat)) (W : Nat → Int) : List Nat := (gw (loF N E W).2 N (mxF (loF N E W).1 N)).1
noncomputable def loS (N : Nat) (E : List (Nat × Nat)) (W : Nat → Int) : Int := sgF (loF N E W).1 N
/-- Numbers that are weights. -/
def wtF (ws : List Int) (x : Nat) : Int := ws.getD x 0
def wtB (n : Int) (ws : List Int) : Bool := decide ((ws.length : Int) = n) && ws.all fun y => decide (0 ≤ y) && decide (y ≤ 1099511627776)
theorem wtB_ok {n : Int} {ws : List Int} (h : wtB n ws = true) : (ws.length : Int) = n ∧ ∀ y ∈ ws, 0 ≤ y ∧ y ≤ 1099511627776 := by
  unfold wtB at h
  rw [Bool.and_eq_true, List.all_eq_true] at h
  exact ⟨of_decide_eq_true h.1, fun y hy => by have := h.2 y hy; rw [Bool.and_eq_true] at this; exact ⟨of_decide_eq_true this.1, of_decide_eq_true this.2⟩⟩
theorem wtB_W {N : Nat} {ws : List Int} (h : wtB N ws = true) : ws.length = N ∧ WOK N (wtF ws) := by
  obtain ⟨h1, h2⟩ := wtB_ok h
  have e : ws.length = N := by omega
  refine ⟨e, fun x hx => ?_⟩
  have hx' : x < ws.length := by omega
  unfold wtF
  have : ws.getD x 0 = ws[x] := by simp [List.getD, hx']
  rw [this]
  exact h2 _ (List.getElem_mem hx')
/-- How a way stands. -/
structure LW (N : Nat) (G : Nat → Int) (v : Int) (R : List Nat) (k : Nat) (L : List Nat) (x : Int) : Prop where
  is : gw G k v = (L, x)
  le : k ≤ N
theorem LW.go {N : Nat} {G : Nat → Int} {v : Int} {R : List Nat} {k z : Nat} {L : List Nat} (h : LW N G v R k L z) (hk : k < N) : LW N G v R (k + 1) (L ++ [z]) (G z) := by
  refine ⟨?_, hk⟩
  rw [gw, h.is, if_neg (by show ¬ (z : Int) < 0; omega)]
  simp
/-- A way of nodes of a whole order comes to its end within N steps. -/
theorem gw_in {A : Nat → List Nat} {W F G : Nat → Int} {R : List Nat} {N : Nat} (hn : R.Nodup) (hl : R.length = N) (h : LG A W F G R) (hR : ∀ x, x ∈ R ↔ x < N) {v : Int} (hv : v = -1 ∨ ∃ y : Nat, v = y ∧ y < N) (k : Nat) : (gw G k v).2 = -1 ∨ ∃ y : Nat, (gw G k v).2 = y ∧ y < N ∧ k < N ∧ (gw G k v).1.length = k := by
  rcases gw_ends hn h k v (by rcases hv with e | ⟨y, e, hy⟩; exact Or.inl e; exact Or.inr ⟨y, e, (hR y).2 hy⟩) with e | ⟨y, e1, e2, _, e4, e5⟩
  · exact Or.inl e
  · exact Or.inr ⟨y, e1, (hR y).1 e2, by have := pos_lt e2; omega, e5⟩
end Go.Proofs.Ytghkhceplpjegaa
namespace Go.Proofs.Ytghkhceplpjegaa
open Go.RowKit

section
variable {F : Fence} {n l : Nat} {P : Program} {ops : Array Oper} {Q : Exit → Act → World → Prop}
theorem operIn_round {o : Oper} {a : Act} {w : World} {K : Act → World → Prop} (hro : F.round = none) (hd : ∀ c, o.op ≠ .defer c) (h : o.wpIn F n P a w K Q) : o.wpIn (F.inRound l) n P a w K Q := by
  unfold Oper.wpIn at *
  rw [hro, Oper.semAt_eq _ _ _ hd] at h
  rw [Oper.semAt_eq _ _ _ hd]
  exact h
theorem wpOpsIn_round (hro : F.round = none) (hd : ∀ o ∈ ops.toList, ∀ c, o.op ≠ .defer c) : ∀ (is : List Nat) (a : Act) (w : World), wpOpsIn F n P ops Q is a w → wpOpsIn (F.inRound l) n P ops Q is a w := by
  intro is
  induction is with
  | nil => exact fun a w h => h
  | cons i rest ih =>
    intro a w h
    simp only [wpOpsIn] at h ⊢
    cases ho : ops[i]? with
    | none =>
      simp only [ho] at h ⊢
      exact ih _ _ h
    | some o =>
      simp only [ho] at h ⊢
      have hm : o ∈ ops.toList := by
        obtain ⟨h1, h2⟩ := Array.getElem?_eq_some_iff.1 ho
        rw [← h2, ← Array.getElem_toList]
        exact List.getElem_mem _
      split
      · rename_i hw
        rw [if_pos hw] at h
        exact operIn_round hro (hd o hm) (Oper.wpIn_mono (fun a w k => ih a w k) h)
      · rename_i hw
        rw [if_neg hw] at h
        exact ⟨h.1, ih _ _ h.2⟩
/-- No operation defers. -/
def operCalm (o : Oper) : Bool := match o.op with | .defer _ => false | _ => true
/-- A region that draws its order, in a round: asked as at the fence without one. -/
theorem wpIn_region_any_round {id : Nat} {a : Act} {w : World} (hro : F.round = none) (hm : P.follows .mixedOrders = true) (hd : ops.toList.all operCalm = true)
    (h : wpAnyIn F n P .any ops Q ops.size (Array.replicate ops.size false) a w.drew) : (Code.region id ops true).wpIn (F.inRound l) n P Q a w :=
  wpIn_region_draw fun t => by
    refine wpOpsIn_round hro (fun o ho c e => ?_) _ _ _ ?_
    · have := List.all_eq_true.1 hd o ho
      unfold operCalm at this
      rw [e] at this
      cases this
    · simp only [Region.schedule, hm, Bool.true_or, if_true]
      exact wpAnyIn_sound ops.size t _ a _ h
end
/-- It is no weight. -/
def nwB (x : Int) : Bool := decide (x < 0) || decide (1099511627776 < x)
set_option maxHeartbeats 2000000 in
theorem isNoWeight_any (w : World) (x : Int) : Calls Try.prog 33 #[.int .i64 x] w fun e w' => e = .returned (.bool (nwB x)) ∧ w' = w := by
  by_cases h0 : x < 0
  · have b0 : decide (x < 0) = true := decide_eq_true h0
    have HN : Hid (nwB x = true) := by show _ = _; simp [nwB, h0]
    go_enter Try.func33, Try.ntmps33
    go_wp2
    go_ret
    exact ⟨ret_bool HN.out.symm, rfl⟩
  · have b0 : decide (x < 0) = false := decide_eq_false h0
    have HN : Hid (nwB x = decide (1099511627776 < x)) := by show _ = _; simp [nwB, h0]
    go_enter Try.func33, Try.ntmps33
    go_wp2
    go_ret
    exact ⟨ret_bool HN.out.symm, rfl⟩
/-- Where the first such stands. -/
def fiN (l : List Int) : Int := match l.findIdx? nwB with | none => -1 | some k => k
theorem fiN_ge (l : List Int) : decide (0 ≤ fiN l) = l.any nwB := by
  unfold fiN
  split
  · rename_i h
    rw [List.findIdx?_eq_none_iff] at h
    have : l.any nwB = false := List.any_eq_false.2 fun x hx => by rw [h x hx]; exact Bool.false_ne_true
    rw [this]; rfl
  · rename_i k h
    obtain ⟨h1, h2, _⟩ := List.findIdx?_eq_some_iff_getElem.1 h
    have : l.any nwB = true := List.any_eq_true.2 ⟨_, List.getElem_mem h1, h2⟩
    rw [this]; simp
theorem fiN_at {l : List Int} {k : Nat} (hk : k < l.length) (h : ∀ j (hj : j < l.length), j < k → nwB l[j] = false) (h2 : nwB l[k] = true) : fiN l = k := by
  unfold fiN
  have : l.findIdx? nwB = some k := List.findIdx?_eq_some_iff_getElem.2 ⟨hk, h2, fun j hj => by rw [h j (by omega) hj]; exact Bool.false_ne_true⟩
  rw [this]
theorem fiN_no {l : List Int} (h : ∀ j (hj : j < l.length), nwB l[j] = false) : fiN l = -1 := by
  unfold fiN
  have : l.findIdx? nwB = none := List.findIdx?_eq_none_iff.2 fun x hx => by
    obtain ⟨j, hj, e⟩ := List.mem_iff_getElem.1 hx
    rw [← e]; exact h j hj
  rw [this]
set_option maxHeartbeats 4000000 in
theorem indexNo_any (w : World) (v : Value) (l : List Int) (hv : GS KI w v l) (hl : l.length ≤ 1000000) : Calls Try.prog 57 #[v, .func (.func 33) #[] #[]] w fun e w' => e = .returned (.int .i64 (fiN l)) ∧ w' = w := by
  obtain ⟨p, c, rfl⟩ := hv.form
  have HV := hid hv
  have IN := hid (fun x => isNoWeight_any w x)
  obtain ⟨n, hn⟩ : ∃ n, n = l.length := ⟨_, rfl⟩
  have LN : Hid (l.length = n) := hn.symm
  rw [← hn] at hl ⊢
  clear hv hn
  go_enter Try.func57, Try.ntmps57
  go_wp2_with fail
  go_loopw [8] (fun v8 wr => ∃ (k : Nat), v8 = .int .i64 k ∧ wr = w ∧ k ≤ n ∧ Hid (∀ j (hj : j < l.length), j < k → nwB l[j] = false)) (fun v8 _ => n - (intOf v8).toNat)
  case atStart => exact ⟨0, rfl, rfl, Nat.zero_le _, fun j _ hj => absurd hj (Nat.not_lt_zero _)⟩
  case round =>
    obtain ⟨k, rfl, rfl, hk, HK⟩ := hrel
    by_cases hlt : k < n
    · have k1 : k < l.length := by have := LN.out; omega
      obtain ⟨X, o, e1, c1⟩ := HV.out.atI (k := k) (by exact k1)
      subst e1
      have IX := hid (IN.out l[k])
      have hki : (k : Int) < (n : Nat) := by omega
      obtain ⟨b, hb⟩ : ∃ b, b = nwB l[k] := ⟨_, rfl⟩
      have HB : Hid (nwB l[k] = b) := hb.symm
      rw [← hb] at IX
      generalize l[k] = x at c1 IX
      clear hb IN
      cases b with
      | true =>
        have FI := hid (fiN_at k1 HK.out HB.out)
        clear HK HB
        go_wp2_with (go_at_call 33; refine IX.out.mono ?_; rintro e w' ⟨rfl, hw⟩; rw [hw]; clear hw)
        go_ret
        exact ⟨ret_i FI.out.symm, rfl⟩
      | false =>
        have HN : Hid (∀ j (hj : j < l.length), j < k + 1 → nwB l[j] = false) := fun j hj h => by
          by_cases e : j < k
          · exact HK.out j hj e
          · obtain rfl : j = k := by omega
            exact HB.out
        clear HK HB
        go_wp2_with (go_at_call 33; refine IX.out.mono ?_; rintro e w' ⟨rfl, hw⟩; rw [hw]; clear hw)
        go_roundw
        case rel => exact ⟨k + 1, by go_num, trivial, by omega, HN⟩
        case measure => simp [intOf]; omega
    · obtain rfl : k = n := by omega
      have FI := hid (fiN_no (l := l) (fun j hj => HK.out j hj (by have := LN.out; omega)))
      clear HK IN
      go_wp2_with fail
      go_ret
      exact ⟨ret_i FI.out.symm, rfl⟩
set_option maxHeartbeats 2000000 in
theorem contNo_any (w : World) (v : Value) (l : List Int) (hv : GS KI w v l) (hl : l.length ≤ 1000000) : Calls Try.prog 32 #[v, .func (.func 33) #[] #[]] w fun e w' => e = .returned (.bool (l.any nwB)) ∧ w' = w := by
  have IX := hid (indexNo_any w v l hv hl)
  have FG := hid (fiN_ge l)
  obtain ⟨p, c, rfl⟩ := hv.form
  generalize fiN l = f at *
  clear hv
  go_enter Try.func32, Try.ntmps32
  go_wp2_with (go_at_call 57; refine IX.out.mono ?_; rintro e w' ⟨rfl, hw⟩; rw [hw]; clear hw)
  go_ret
  exact ⟨ret_bool FG.out, rfl⟩
end Go.Proofs.Ytghkhceplpjegaa
