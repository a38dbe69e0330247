/- Values: operations: sums, differences, products, sizes, the order. -/
import Derived.Test.YtahcllncjpaijabDoorQuote
namespace Go.Proofs.YtahcllncjpaijabDoor
open Go.RowKit

/-- A mark: the first call of a region has been. -/
def Mk3 : Prop := True
theorem mk3 : Mk3 := trivial
/-- Two right values in a row. -/
structure PA (w : World) (X o : Nat) (q1 : Option Addr) (c1 : Nat) (q2 : Option Addr) (c2 : Nat) (a b : Vt) : Prop where
  x0 : w.cell? ⟨X, o, none⟩ = some (.slice q1 (szV a) c1)
  x1 : w.cell? ⟨X, o + 1, none⟩ = some (.slice q2 (szV b) c2)
  a1 : AS w (.slice q1 (szV a) c1) (flV a)
  a2 : AS w (.slice q2 (szV b) c2) (flV b)
theorem PA.below {w w' : World} {X o : Nat} {q1 q2 : Option Addr} {c1 c2 : Nat} {a b : Vt} (h : PA w X o q1 c1 q2 c2 a b) (k : Below w.heap.size w w') : PA w' X o q1 c1 q2 c2 a b :=
  ⟨(k.cell (p := ⟨X, o, none⟩) (block_lt_of_cell h.x0)).trans h.x0, (k.cell (p := ⟨X, o + 1, none⟩) (block_lt_of_cell h.x1)).trans h.x1, h.a1.below k, h.a2.below k⟩
/-- A value of new memory, if there is one. -/
def AnsT (w w' : World) (e : Ending) (r : Option Vt) : Prop := AnsL w w' e (outL r) r.isSome
theorem AnsT.nil {w w' : World} (b : Below w.heap.size w w') : AnsT w w' (.returned (.tuple #[.slice none 0 0, .bool false])) none := AnsL.none b
theorem AnsT.low {w w1 w' : World} {e : Ending} {r : Option Vt} (h : AnsT w1 w' e r) (b : Below w.heap.size w w1) : AnsT w w' e r := by
  obtain ⟨p, c, h1, h2, h3⟩ := h
  exact ⟨p, c, h1, h2.low b.size, b.trans (h3.mono b.size)⟩
theorem numT_in (n : Int) : numT n = if inB n = true then some (.nd 1 n ByteArray.empty []) else none := by
  unfold numT inB
  simp only [decide_eq_true_eq]
theorem intL_num (n : Int) : intL n = outL (numT n) ∧ (intE n == 0) = (numT n).isSome := by
  rw [numT_in]
  unfold intL intE
  cases inB n with
  | true =>
    rw [if_pos rfl, if_pos rfl, if_pos rfl]
    refine ⟨?_, rfl⟩
    show _ = flV _
    rw [flV]; rfl
  | false =>
    rw [if_neg (by decide), if_neg (by decide), if_neg (by decide)]
    exact ⟨rfl, rfl⟩
theorem txtL_txt (s : ByteArray) : txtL s = outL (txtT s) ∧ (txtE s == 0) = (txtT s).isSome := by
  unfold txtL txtE txtT
  by_cases h : s.size ≤ 4096
  · simp only [h, if_true]
    refine ⟨?_, rfl⟩
    show _ = flV _
    rw [flV]; rfl
  · simp only [h, if_false]
    exact ⟨rfl, rfl⟩
theorem lokL_lst {ts : List Vt} (h : ∀ t ∈ ts, RT t) : lokL (ts.map flV) = outL (lstT ts) ∧ lokB (ts.map flV) = (lstT ts).isSome := by
  rw [lstT_eq h]
  unfold lokL
  by_cases e : lokB (ts.map flV) = true
  · rw [if_pos e, if_pos e, e]
    exact ⟨lstA_trees ts, rfl⟩
  · rw [if_neg e, if_neg e]
    exact ⟨rfl, by simpa using e⟩
set_option maxHeartbeats 4000000 in
theorem number_any (n : Int) (f : Bool) (w : World) : Calls Tryd.prog 66 #[.int .i64 n, .bool f] w fun e w' => AnsT w w' e (if f = true then numT n else none) := by
  have BR : Hid (Below w.heap.size w w) := Below.refl _ _
  cases f with
  | false =>
    rw [if_neg (by decide)]
    go_enter Tryd.func66, Tryd.ntmps66
    go_wp2_with fail
    exact bodyPost_ret (v := .tuple #[.slice none 0 0, .bool false]) (by simp [results, Tryd.results66, go_sem]) rfl (AnsT.nil BR.out)
  | true =>
    rw [if_pos rfl]
    have IN : Hid _ := int_any n w
    obtain ⟨h1, h2⟩ := intL_num n
    have H1 : Hid _ := h1
    have H2 : Hid _ := h2
    clear h1 h2
    unfold AnsV at IN
    unfold AnsT
    rw [← H1.out, ← H2.out]
    generalize intL n = il at *
    generalize intE n = ie at *
    clear H1 H2
    go_enter Tryd.func66, Tryd.ntmps66
    go_wp2_with fail
    refine Calls.mono IN.out ?_
    rintro e w1 ⟨p1, c1, rfl, ho1, hb1⟩
    have H1 : Hid (OwnG KA w1 w.heap.size (.slice p1 il.length c1) il ∧ Below w.heap.size w w1) := ⟨ho1, hb1⟩
    clear ho1 hb1 IN
    go_wp2_with fail
    exact bodyPost_ret (v := .tuple #[.slice p1 il.length c1, .bool (ie == 0)]) (by simp [results, Tryd.results66, go_sem]) rfl ⟨p1, c1, rfl, H1.out⟩
set_option maxHeartbeats 4000000 in
theorem truth_any (f : Bool) (w : World) : Calls Tryd.prog 69 #[.bool f] w fun e w' => AnsT w w' e (numT (if f = true then 1 else 0)) := by
  have N1 : Hid _ := number_any 1 true w
  have N0 : Hid _ := number_any 0 true w
  rw [if_pos rfl] at N1 N0
  cases f with
  | true =>
    rw [if_pos rfl]
    generalize numT 1 = r at *
    go_enter Tryd.func69, Tryd.ntmps69
    go_wp2_with fail
    refine Calls.mono N1.out ?_
    rintro e w1 ⟨p1, c1, rfl, ho1, hb1⟩
    have H1 : Hid (OwnG KA w1 w.heap.size (.slice p1 (outL r).length c1) (outL r) ∧ Below w.heap.size w w1) := ⟨ho1, hb1⟩
    clear ho1 hb1 N1 N0
    go_wp2_with fail
    exact bodyPost_ret (v := .tuple #[.slice p1 (outL r).length c1, .bool r.isSome]) (by simp [results, Tryd.results69, go_sem]) rfl ⟨p1, c1, rfl, H1.out⟩
  | false =>
    rw [if_neg (by decide)]
    generalize numT 0 = r at *
    go_enter Tryd.func69, Tryd.ntmps69
    go_wp2_with fail
    refine Calls.mono N0.out ?_
    rintro e w1 ⟨p1, c1, rfl, ho1, hb1⟩
    have H1 : Hid (OwnG KA w1 w.heap.size (.slice p1 (outL r).length c1) (outL r) ∧ Below w.heap.size w w1) := ⟨ho1, hb1⟩
    clear ho1 hb1 N1 N0
    go_wp2_with fail
    exact bodyPost_ret (v := .tuple #[.slice p1 (outL r).length c1, .bool r.isSome]) (by simp [results, Tryd.results69, go_sem]) rfl ⟨p1, c1, rfl, H1.out⟩
theorem abs_any (n : Int) (w : World) (h1 : -9007199254740992 ≤ n) (h2 : n ≤ 9007199254740992) : Calls Tryd.prog 67 #[.int .i64 n] w fun e w' => e = .returned (.int .i64 (n.natAbs : Nat)) ∧ w' = w := by
  have H : Hid (max n (-n) = ((n.natAbs : Nat) : Int)) := by show _ = _; omega
  go_enter Tryd.func67, Tryd.ntmps67
  go_wp2_with fail
  go_ret
  exact ⟨ret_i (by first | exact H.out | omega), rfl⟩
set_option maxHeartbeats 16000000 in
set_option maxRecDepth 100000 in
theorem numbers_any (X o cap : Nat) (q1 q2 : Option Addr) (c1 c2 : Nat) (a b : Vt) (w : World) (h : PA w X o q1 c1 q2 c2 a b) (ha : RT a) (hb : RT b) :
    Calls Tryd.prog 65 #[.slice (some ⟨X, o, none⟩) 2 cap] w fun e w' => e = .returned (.tuple #[.int .i64 a.i, .int .i64 b.i, .bool (decide (a.k = 1 ∧ b.k = 1))]) ∧ Below w.heap.size w w' := by
  have hs1 := ha.sz
  have hs2 := hb.sz
  have W1 : Hid (∀ w1, Below w.heap.size w w1 → _) := fun w1 k => wholeX_any _ a w1 (h.below k).a1 (by omega)
  have W2 : Hid (∀ w1, Below w.heap.size w w1 → _) := fun w1 k => wholeX_any _ b w1 (h.below k).a2 (by omega)
  have y1 := h.x0
  have y2 := h.x1
  have hX := block_lt_of_cell y1
  have HBA : Hid (∀ W ob, Below w.heap.size w W → Below w.heap.size w (World.alloc W ob)) := fun W ob k => k.alloc k.size _
  have HBD : Hid (∀ W : World, Below w.heap.size w W → Below w.heap.size w W.drew) := fun W k => k.drew
  have HBR : Hid (Below w.heap.size w w) := Below.refl _ _
  have HBS : Hid (∀ (W : World) b o v, w.heap.size ≤ b → Below w.heap.size w W → Below w.heap.size w (W.setCell ⟨b, o, none⟩ v)) := fun W b o v hb k => k.setCell hb _
  have XS : Hid (∀ w1, Below w.heap.size w w1 → w1.cell? ⟨X, o, none⟩ = some (.slice q1 (szV a) c1) ∧ w1.cell? ⟨X, o + 1, none⟩ = some (.slice q2 (szV b) c2)) := fun w1 k => ⟨(h.below k).x0, (h.below k).x1⟩
  obtain ⟨k1, i1, t1, ps⟩ := a
  obtain ⟨k2, i2, t2, qs⟩ := b
  simp only [Vt.k, Vt.i, Vt.tx, Vt.ps] at *
  generalize szV (Vt.nd k1 i1 t1 ps) = n1 at *
  generalize szV (Vt.nd k2 i2 t2 qs) = n2 at *
  generalize ps.length = m1 at *
  generalize qs.length = m2 at *
  clear h ha hb
  go_enter Tryd.func65, Tryd.ntmps65
  go_upto_region 1 with fail
  go_cut [5, 6] (fun v5 v6 wc => ∃ b5 b6 wk, v5 = .pointer (some ⟨b5, 0, none⟩) ∧ v6 = .pointer (some ⟨b6, 0, none⟩) ∧ wk = wc ∧ wk.cell? ⟨b5, 0, none⟩ = some (.int .i64 k1) ∧ wk.cell? ⟨b5, 2, none⟩ = some (.int .i64 i1) ∧ wk.cell? ⟨b6, 0, none⟩ = some (.int .i64 k2) ∧ wk.cell? ⟨b6, 2, none⟩ = some (.int .i64 i2) ∧ Hid (Below w.heap.size w wk))
  case first =>
    go_region_held3 (fun w1 => w1.cell? ⟨X, o, none⟩ = some (.slice q1 n1 c1) ∧ w1.cell? ⟨X, o + 1, none⟩ = some (.slice q2 n2 c2)) (first | exact XS.out _ (by repeat (first | exact HBR.out | refine HBA.out _ _ ?_ | refine HBD.out _ ?_ | refine HBS.out _ _ _ _ (by omega) ?_)) | go_keep) (first | (go_at_call 18; (have _hq : Mk3 := by assumption); refine Calls.mono (W2.out _ ?_) ?_; (focus (repeat (first | exact HBR.out | refine HBA.out _ _ ?_ | refine HBD.out _ ?_))); rintro e w4 ⟨rfl, rfl⟩) | (go_at_call 18; refine Calls.mono (W1.out _ ?_) ?_; (focus (repeat (first | exact HBR.out | refine HBA.out _ _ ?_ | refine HBD.out _ ?_))); rintro e w3 ⟨rfl, rfl⟩; have HM3 : Mk3 := mk3))
    all_goals
      go_wp2_with fail
      go_meet
      refine ⟨_, _, _, rfl, rfl, rfl, by simp [go_sem], by simp [go_sem], by simp [go_sem], by simp [go_sem], ?_⟩
      (repeat (first | exact HBR.out | refine HBA.out _ _ ?_ | refine HBD.out _ ?_ | refine HBS.out _ _ _ _ (by omega) ?_))
  case rest =>
    obtain ⟨b5, b6, wk, rfl, rfl, rfl, z1, z2, z3, z4, HB⟩ := hcut
    clear W1 W2 XS y1 y2 HBA HBD HBR HBS
    have BN : Hid (∀ n, Below w.heap.size w (wk.drewN n)) := fun n => HB.out.trans ⟨rfl, rfl, rfl, Nat.le_refl _, fun _ _ => rfl⟩
    by_cases e1 : k1 = 1
    · subst e1
      by_cases e2 : k2 = 1
      · subst e2
        go_wp2_with fail
        go_quiet (fail)
        go_wp2_with fail
        exact bodyPost_ret (v := .tuple #[.int .i64 i1, .int .i64 i2, .bool true]) (by simp [results, Tryd.results65, go_sem]) rfl ⟨by simp, BN.out _⟩
      · have e2b : (k2 == 1) = false := by simp [e2]
        go_wp2_with fail
        go_quiet (fail)
        go_wp2_with fail
        exact bodyPost_ret (v := .tuple #[.int .i64 i1, .int .i64 i2, .bool false]) (by simp [results, Tryd.results65, go_sem]) rfl ⟨by first | (simp; done) | simp [e2], BN.out _⟩
    · have e1b : (k1 == 1) = false := by simp [e1]
      go_wp2_with fail
      go_quiet (fail)
      go_wp2_with fail
      exact bodyPost_ret (v := .tuple #[.int .i64 i1, .int .i64 i2, .bool false]) (by simp [results, Tryd.results65, go_sem]) rfl ⟨by simp [e1], BN.out _⟩
end Go.Proofs.YtahcllncjpaijabDoor
namespace Go.Proofs.YtahcllncjpaijabDoor
open Go.RowKit

set_option maxHeartbeats 8000000 in
theorem add_any (X o cap : Nat) (q1 q2 : Option Addr) (c1 c2 : Nat) (a b : Vt) (w : World) (h : PA w X o q1 c1 q2 c2 a b) (ha : RT a) (hb : RT b) :
    Calls Tryd.prog 43 #[.slice (some ⟨X, o, none⟩) 2 cap] w fun e w' => AnsT w w' e (do2T 6 a b) := by
  have NU : Hid _ := numbers_any X o cap q1 q2 c1 c2 a b w h ha hb
  obtain ⟨i1, i2⟩ := ha.int
  obtain ⟨i3, i4⟩ := hb.int
  have HD : Hid (do2T 6 a b = if decide (a.k = 1 ∧ b.k = 1) = true then numT (a.i + b.i) else none) := by show _ = _; unfold do2T; simp
  have NM : Hid (∀ w1, _) := fun w1 => number_any (a.i + b.i) (decide (a.k = 1 ∧ b.k = 1)) w1
  rw [HD.out]
  clear HD h ha hb
  generalize decide (a.k = 1 ∧ b.k = 1) = f at *
  generalize a.i = x at *
  generalize b.i = y at *
  generalize (if f = true then numT (x + y) else none) = r at *
  go_enter Tryd.func43, Tryd.ntmps43
  go_wp2_with fail
  refine Calls.mono NU.out ?_
  rintro e w1 ⟨rfl, hb1⟩
  have B1 : Hid (Below w.heap.size w w1) := hb1
  have N1 : Hid _ := NM.out w1
  clear hb1 NU NM
  go_wp2_with fail
  refine Calls.mono N1.out ?_
  rintro e w2 hans
  obtain ⟨p2, cc2, rfl, ho2, hb2⟩ := hans.low B1.out
  have H2 : Hid (OwnG KA w2 w.heap.size (.slice p2 (outL r).length cc2) (outL r) ∧ Below w.heap.size w w2) := ⟨ho2, hb2⟩
  clear ho2 hb2 N1 hans
  go_wp2_with fail
  exact bodyPost_ret (v := .tuple #[.slice p2 (outL r).length cc2, .bool r.isSome]) (by simp [results, Tryd.results43, go_sem]) rfl ⟨p2, cc2, rfl, H2.out⟩
set_option maxHeartbeats 8000000 in
theorem sub_any (X o cap : Nat) (q1 q2 : Option Addr) (c1 c2 : Nat) (a b : Vt) (w : World) (h : PA w X o q1 c1 q2 c2 a b) (ha : RT a) (hb : RT b) :
    Calls Tryd.prog 44 #[.slice (some ⟨X, o, none⟩) 2 cap] w fun e w' => AnsT w w' e (do2T 7 a b) := by
  have NU : Hid _ := numbers_any X o cap q1 q2 c1 c2 a b w h ha hb
  obtain ⟨i1, i2⟩ := ha.int
  obtain ⟨i3, i4⟩ := hb.int
  have HD : Hid (do2T 7 a b = if decide (a.k = 1 ∧ b.k = 1) = true then numT (a.i - b.i) else none) := by show _ = _; unfold do2T; simp
  have NM : Hid (∀ w1, _) := fun w1 => number_any (a.i - b.i) (decide (a.k = 1 ∧ b.k = 1)) w1
  rw [HD.out]
  clear HD h ha hb
  generalize decide (a.k = 1 ∧ b.k = 1) = f at *
  generalize a.i = x at *
  generalize b.i = y at *
  generalize (if f = true then numT (x - y) else none) = r at *
  go_enter Tryd.func44, Tryd.ntmps44
  go_wp2_with fail
  refine Calls.mono NU.out ?_
  rintro e w1 ⟨rfl, hb1⟩
  have B1 : Hid (Below w.heap.size w w1) := hb1
  have N1 : Hid _ := NM.out w1
  clear hb1 NU NM
  go_wp2_with fail
  refine Calls.mono N1.out ?_
  rintro e w2 hans
  obtain ⟨p2, cc2, rfl, ho2, hb2⟩ := hans.low B1.out
  have H2 : Hid (OwnG KA w2 w.heap.size (.slice p2 (outL r).length cc2) (outL r) ∧ Below w.heap.size w w2) := ⟨ho2, hb2⟩
  clear ho2 hb2 N1 hans
  go_wp2_with fail
  exact bodyPost_ret (v := .tuple #[.slice p2 (outL r).length cc2, .bool r.isSome]) (by simp [results, Tryd.results44, go_sem]) rfl ⟨p2, cc2, rfl, H2.out⟩
/-- A product is beyond the greatest number just where this says so. -/
theorem mul_big (x y : Int) (hx : x ≠ 0) : (9007199254740992 / (x.natAbs : Int) < (y.natAbs : Int)) ↔ ¬ (-9007199254740992 ≤ x * y ∧ x * y ≤ 9007199254740992) := by
  have hp : (0 : Int) < (x.natAbs : Int) := by omega
  rw [Int.ediv_lt_iff_lt_mul hp]
  have e : ((y.natAbs : Int) * (x.natAbs : Int)) = (((x * y).natAbs : Nat) : Int) := by rw [Int.natAbs_mul]; push_cast; rw [Int.mul_comm]
  rw [e]
  omega
theorem numT_none {n : Int} (h : ¬ (-9007199254740992 ≤ n ∧ n ≤ 9007199254740992)) : numT n = none := by unfold numT; rw [if_neg h]
set_option maxHeartbeats 8000000 in
theorem mul_any (X o cap : Nat) (q1 q2 : Option Addr) (c1 c2 : Nat) (a b : Vt) (w : World) (h : PA w X o q1 c1 q2 c2 a b) (ha : RT a) (hb : RT b) :
    Calls Tryd.prog 45 #[.slice (some ⟨X, o, none⟩) 2 cap] w fun e w' => AnsT w w' e (do2T 8 a b) := by
  have NU : Hid _ := numbers_any X o cap q1 q2 c1 c2 a b w h ha hb
  obtain ⟨i1, i2⟩ := ha.int
  obtain ⟨i3, i4⟩ := hb.int
  have HD : Hid (do2T 8 a b = if decide (a.k = 1 ∧ b.k = 1) = true then numT (a.i * b.i) else none) := by show _ = _; unfold do2T; simp
  have NM : Hid (∀ w1, _) := fun w1 => number_any (a.i * b.i) (decide (a.k = 1 ∧ b.k = 1)) w1
  rw [HD.out]
  clear HD h ha hb
  generalize decide (a.k = 1 ∧ b.k = 1) = f at *
  generalize a.i = x at *
  generalize b.i = y at *
  have MB : Hid (x ≠ 0 → ((9007199254740992 / (x.natAbs : Int) < (y.natAbs : Int)) ↔ ¬ (-9007199254740992 ≤ x * y ∧ x * y ≤ 9007199254740992))) := fun e => mul_big x y e
  have NN : Hid (¬ (-9007199254740992 ≤ x * y ∧ x * y ≤ 9007199254740992) → (if f = true then numT (x * y) else none) = none) := fun e => by rw [numT_none e]; split <;> rfl
  have A1 : Hid (∀ w1, _) := fun w1 => abs_any x w1 i1 i2
  have A2 : Hid (∀ w1, _) := fun w1 => abs_any y w1 i3 i4
  obtain ⟨pr, hpr⟩ : ∃ pr, pr = x * y := ⟨_, rfl⟩
  rw [← hpr] at NM MB NN ⊢
  generalize (if f = true then numT pr else none) = r at *
  by_cases hx : x = 0
  · subst hx
    rw [Int.zero_mul] at hpr
    subst hpr
    clear MB NN A1 A2
    go_enter Tryd.func45, Tryd.ntmps45
    go_wp2_with fail
    refine Calls.mono NU.out ?_
    rintro e w1 ⟨rfl, hb1⟩
    have B1 : Hid (Below w.heap.size w w1) := hb1
    have N1 : Hid _ := NM.out w1
    clear hb1 NU NM
    go_wp2_with fail
    refine Calls.mono N1.out ?_
    rintro e w2 hans
    obtain ⟨p2, cc2, rfl, ho2, hb2⟩ := hans.low B1.out
    have H2 : Hid (OwnG KA w2 w.heap.size (.slice p2 (outL r).length cc2) (outL r) ∧ Below w.heap.size w w2) := ⟨ho2, hb2⟩
    clear ho2 hb2 N1 hans
    go_wp2_with fail
    exact bodyPost_ret (v := .tuple #[.slice p2 (outL r).length cc2, .bool r.isSome]) (by simp [results, Tryd.results45, go_sem]) rfl ⟨p2, cc2, rfl, H2.out⟩
  · have hxb : (x != 0) = true := by simp [hx]
    have hMB := MB.out hx
    have hxp : 0 < x.natAbs := by omega
    have hxm : x.natAbs ≤ 9007199254740992 := by omega
    have hym : y.natAbs ≤ 9007199254740992 := by omega
    obtain ⟨xa, hxa⟩ : ∃ n, n = x.natAbs := ⟨_, rfl⟩
    obtain ⟨ya, hya⟩ : ∃ n, n = y.natAbs := ⟨_, rfl⟩
    rw [← hxa] at A1 hMB hxp hxm
    rw [← hya] at A2 hMB hym
    have hq : (9007199254740992 : Int) / (xa : Int) = ((9007199254740992 / xa : Nat) : Int) := (Int.natCast_ediv 9007199254740992 xa).symm
    have hqm : 9007199254740992 / xa ≤ 9007199254740992 := Nat.div_le_self _ _
    rw [hq] at hMB
    obtain ⟨qq, hqq⟩ : ∃ n, n = 9007199254740992 / xa := ⟨_, rfl⟩
    rw [← hqq] at hMB hq hqm
    have hxn : ¬ (xa : Int) = 0 := by omega
    have hxn2 : ((xa : Int) == 0) = false := by simp; omega
    have htd : (9007199254740992 : Int).tdiv (xa : Int) = (qq : Int) := by rw [Int.tdiv_eq_ediv_of_nonneg (by omega)]; exact hq
    by_cases hbig : -9007199254740992 ≤ pr ∧ pr ≤ 9007199254740992
    · have hle : ¬ (ya : Int) > (qq : Int) := fun e => (hMB.1 e) hbig
      obtain ⟨hb1, hb2⟩ := hbig
      have hprx : x * y = pr := hpr.symm
      clear MB NN hMB hxa hya hqq hpr
      go_enter Tryd.func45, Tryd.ntmps45
      go_wp2_with fail
      refine Calls.mono NU.out ?_
      rintro e w1 ⟨rfl, hb1'⟩
      have B1 : Hid (Below w.heap.size w w1) := hb1'
      have N1 : Hid _ := NM.out w1
      clear hb1' NU NM
      go_wp2_with fail
      refine Calls.mono (A2.out _) ?_
      rintro e w2 ⟨rfl, hw2⟩
      rw [hw2]
      clear hw2
      go_wp2_with fail
      refine Calls.mono (A1.out _) ?_
      rintro e w3 ⟨rfl, hw3⟩
      rw [hw3]
      clear hw3
      go_wp2_with fail
      refine Calls.mono N1.out ?_
      rintro e w4 hans
      obtain ⟨p2, cc2, rfl, ho2, hb2'⟩ := hans.low B1.out
      have H2 : Hid (OwnG KA w4 w.heap.size (.slice p2 (outL r).length cc2) (outL r) ∧ Below w.heap.size w w4) := ⟨ho2, hb2'⟩
      clear ho2 hb2' N1 hans
      go_wp2_with fail
      exact bodyPost_ret (v := .tuple #[.slice p2 (outL r).length cc2, .bool r.isSome]) (by simp [results, Tryd.results45, go_sem]) rfl ⟨p2, cc2, rfl, H2.out⟩
    · have hgt : (ya : Int) > (qq : Int) := hMB.2 hbig
      have hr := NN.out hbig
      rw [hr]
      clear MB NN hMB hxa hya hqq hpr hr hbig NM
      go_enter Tryd.func45, Tryd.ntmps45
      go_wp2_with fail
      refine Calls.mono NU.out ?_
      rintro e w1 ⟨rfl, hb1'⟩
      have B1 : Hid (Below w.heap.size w w1) := hb1'
      clear hb1' NU
      go_wp2_with fail
      refine Calls.mono (A2.out _) ?_
      rintro e w2 ⟨rfl, hw2⟩
      rw [hw2]
      clear hw2
      go_wp2_with fail
      refine Calls.mono (A1.out _) ?_
      rintro e w3 ⟨rfl, hw3⟩
      rw [hw3]
      clear hw3
      go_wp2_with fail
      exact bodyPost_ret (v := .tuple #[.slice none 0 0, .bool false]) (by simp [results, Tryd.results45, go_sem]) rfl (AnsT.nil B1.out)
set_option maxHeartbeats 8000000 in
theorem less_any (X o cap : Nat) (q1 q2 : Option Addr) (c1 c2 : Nat) (a b : Vt) (w : World) (h : PA w X o q1 c1 q2 c2 a b) (ha : RT a) (hb : RT b) :
    Calls Tryd.prog 49 #[.slice (some ⟨X, o, none⟩) 2 cap] w fun e w' => AnsT w w' e (do2T 12 a b) := by
  have OD : Hid (∀ w1, Below w.heap.size w w1 → _) := fun w1 k => order_any _ _ a b w1 (h.below k).a1 (h.below k).a2 ha hb
  have XS : Hid (∀ w1, Below w.heap.size w w1 → w1.cell? ⟨X, o, none⟩ = some (.slice q1 (szV a) c1) ∧ w1.cell? ⟨X, o + 1, none⟩ = some (.slice q2 (szV b) c2)) := fun w1 k => ⟨(h.below k).x0, (h.below k).x1⟩
  have HD : Hid (do2T 12 a b = numT (if decide (cmpV a b < 0) = true then 1 else 0)) := by show _ = _; unfold do2T; simp
  have TR : Hid (∀ w1, _) := fun w1 => truth_any (decide (cmpV a b < 0)) w1
  have BR : Hid (Below w.heap.size w w) := Below.refl _ _
  have BD : Hid (Below w.heap.size w w.drew) := (Below.refl _ _).drew
  obtain ⟨y1, y2⟩ := XS.out w BR.out
  rw [HD.out]
  clear HD h ha hb
  generalize cmpV a b = cv at *
  generalize szV a = n1 at *
  generalize szV b = n2 at *
  generalize numT (if decide (cv < 0) = true then 1 else 0) = r at *
  go_enter Tryd.func49, Tryd.ntmps49
  go_wp2_with fail
  go_region_held3 (fun w1 => w1.cell? ⟨X, o, none⟩ = some (.slice q1 n1 c1) ∧ w1.cell? ⟨X, o + 1, none⟩ = some (.slice q2 n2 c2)) (go_keep) (first | (go_at_call 41; refine Calls.mono (OD.out _ ?_) ?_; (first | exact BR.out | exact BD.out); rintro e w3 ⟨rfl, b3⟩; have B3 : Hid (Below w.heap.size w w3) := (by first | exact b3 | exact BD.out.trans (b3.mono BD.out.size)); obtain ⟨u1, u2⟩ := XS.out _ B3.out; clear b3) | (go_at_call 69; refine Calls.mono (TR.out _) ?_; rintro e w4 hans; have HA : Hid (AnsT w w4 e r) := (by first | exact hans.low B3.out | exact hans.low B3.out.drew); obtain ⟨p4, c4, rfl, ho4, hb4⟩ := HA.out; have H4 : Hid (OwnG KA w4 w.heap.size (.slice p4 (outL r).length c4) (outL r) ∧ Below w.heap.size w w4) := ⟨ho4, hb4⟩; obtain ⟨u3, u4⟩ := XS.out _ hb4; clear ho4 hb4 hans HA))
  all_goals
    go_wp2_with fail
    exact bodyPost_ret (v := .tuple #[.slice p4 (outL r).length c4, .bool r.isSome]) (by simp [results, Tryd.results49, go_sem]) rfl ⟨p4, c4, rfl, H4.out⟩
set_option maxHeartbeats 8000000 in
theorem same_any (X o cap : Nat) (q1 q2 : Option Addr) (c1 c2 : Nat) (a b : Vt) (w : World) (h : PA w X o q1 c1 q2 c2 a b) (ha : RT a) (hb : RT b) :
    Calls Tryd.prog 50 #[.slice (some ⟨X, o, none⟩) 2 cap] w fun e w' => AnsT w w' e (do2T 13 a b) := by
  have OD : Hid (∀ w1, Below w.heap.size w w1 → _) := fun w1 k => order_any _ _ a b w1 (h.below k).a1 (h.below k).a2 ha hb
  have XS : Hid (∀ w1, Below w.heap.size w w1 → w1.cell? ⟨X, o, none⟩ = some (.slice q1 (szV a) c1) ∧ w1.cell? ⟨X, o + 1, none⟩ = some (.slice q2 (szV b) c2)) := fun w1 k => ⟨(h.below k).x0, (h.below k).x1⟩
  have HD : Hid (do2T 13 a b = numT (if (cmpV a b == 0) = true then 1 else 0)) := by show _ = _; unfold do2T; simp
  have TR : Hid (∀ w1, _) := fun w1 => truth_any ((cmpV a b == 0)) w1
  have BR : Hid (Below w.heap.size w w) := Below.refl _ _
  have BD : Hid (Below w.heap.size w w.drew) := (Below.refl _ _).drew
  obtain ⟨y1, y2⟩ := XS.out w BR.out
  rw [HD.out]
  clear HD h ha hb
  generalize cmpV a b = cv at *
  generalize szV a = n1 at *
  generalize szV b = n2 at *
  generalize numT (if (cv == 0) = true then 1 else 0) = r at *
  go_enter Tryd.func50, Tryd.ntmps50
  go_wp2_with fail
  go_region_held3 (fun w1 => w1.cell? ⟨X, o, none⟩ = some (.slice q1 n1 c1) ∧ w1.cell? ⟨X, o + 1, none⟩ = some (.slice q2 n2 c2)) (go_keep) (first | (go_at_call 41; refine Calls.mono (OD.out _ ?_) ?_; (first | exact BR.out | exact BD.out); rintro e w3 ⟨rfl, b3⟩; have B3 : Hid (Below w.heap.size w w3) := (by first | exact b3 | exact BD.out.trans (b3.mono BD.out.size)); obtain ⟨u1, u2⟩ := XS.out _ B3.out; clear b3) | (go_at_call 69; refine Calls.mono (TR.out _) ?_; rintro e w4 hans; have HA : Hid (AnsT w w4 e r) := (by first | exact hans.low B3.out | exact hans.low B3.out.drew); obtain ⟨p4, c4, rfl, ho4, hb4⟩ := HA.out; have H4 : Hid (OwnG KA w4 w.heap.size (.slice p4 (outL r).length c4) (outL r) ∧ Below w.heap.size w w4) := ⟨ho4, hb4⟩; obtain ⟨u3, u4⟩ := XS.out _ hb4; clear ho4 hb4 hans HA))
  all_goals
    go_wp2_with fail
    exact bodyPost_ret (v := .tuple #[.slice p4 (outL r).length c4, .bool r.isSome]) (by simp [results, Tryd.results50, go_sem]) rfl ⟨p4, c4, rfl, H4.out⟩
set_option maxHeartbeats 8000000 in
theorem size_any (X o cap : Nat) (q1 : Option Addr) (c1 : Nat) (a : Vt) (w : World) (x0 : w.cell? ⟨X, o, none⟩ = some (.slice q1 (szV a) c1)) (h : AS w (.slice q1 (szV a) c1) (flV a)) (ha : RT a) (_ht : a.tx.size ≤ 140737488355328) :
    Calls Tryd.prog 48 #[.slice (some ⟨X, o, none⟩) 1 cap] w fun e w' => AnsT w w' e (do1T a) := by
  have hs1 := ha.sz
  have W1 : Hid _ := wholeX_any _ a w h (by omega)
  have HD : Hid (do1T a = if a.k = 2 then numT a.tx.size else if a.k = 3 then numT a.ps.length else none) := rfl
  have lp1 : a.ps.length ≤ 1024 := by have h3 := memT_len (t := a); have h4 := szV_ps a; omega
  have N1 : Hid (∀ w1, _) := fun w1 => number_any (a.tx.size : Nat) true w1
  have N2 : Hid (∀ w1, _) := fun w1 => number_any (a.ps.length : Nat) true w1
  rw [if_pos rfl] at N1 N2
  have BA : Hid (∀ ob ob', Below w.heap.size w ((w.alloc ob).alloc ob')) := fun ob ob' => ((Below.refl _ _).alloc (Nat.le_refl _) _).alloc (by simp) _
  generalize szV a = n1 at *
  generalize a.k = k1 at *
  generalize a.i = i1 at *
  generalize a.tx = t1 at *
  generalize a.ps.length = m1 at *
  rw [HD.out]
  clear HD h ha
  by_cases h2 : k1 = 2
  · subst h2
    rw [if_pos rfl]
    generalize numT (t1.size : Nat) = r at *
    clear N2
    go_enter Tryd.func48, Tryd.ntmps48
    go_wp2_with fail
    refine Calls.mono W1.out ?_
    rintro e w1 ⟨rfl, hw1⟩
    rw [hw1]
    clear hw1 W1
    go_wp2_with fail
    refine Calls.mono (N1.out _) ?_
    rintro e w2 hans
    obtain ⟨p2, cc2, rfl, ho2, hb2⟩ := hans.low (BA.out _ _)
    have H2 : Hid (OwnG KA w2 w.heap.size (.slice p2 (outL r).length cc2) (outL r) ∧ Below w.heap.size w w2) := ⟨ho2, hb2⟩
    clear ho2 hb2 N1 hans
    go_wp2_with fail
    exact bodyPost_ret (v := .tuple #[.slice p2 (outL r).length cc2, .bool r.isSome]) (by simp [results, Tryd.results48, go_sem]) rfl ⟨p2, cc2, rfl, H2.out⟩
  · rw [if_neg h2]
    have h2b : (k1 == 2) = false := by simp [h2]
    by_cases h3 : k1 = 3
    · subst h3
      rw [if_pos rfl]
      generalize numT (m1 : Nat) = r at *
      clear N1
      go_enter Tryd.func48, Tryd.ntmps48
      go_wp2_with fail
      refine Calls.mono W1.out ?_
      rintro e w1 ⟨rfl, hw1⟩
      rw [hw1]
      clear hw1 W1
      go_wp2_with fail
      refine Calls.mono (N2.out _) ?_
      rintro e w2 hans
      obtain ⟨p2, cc2, rfl, ho2, hb2⟩ := hans.low (BA.out _ _)
      have H2 : Hid (OwnG KA w2 w.heap.size (.slice p2 (outL r).length cc2) (outL r) ∧ Below w.heap.size w w2) := ⟨ho2, hb2⟩
      clear ho2 hb2 N2 hans
      go_wp2_with fail
      exact bodyPost_ret (v := .tuple #[.slice p2 (outL r).length cc2, .bool r.isSome]) (by simp [results, Tryd.results48, go_sem]) rfl ⟨p2, cc2, rfl, H2.out⟩
    · rw [if_neg h3]
      have h3b : (k1 == 3) = false := by simp [h3]
      clear N1 N2
      go_enter Tryd.func48, Tryd.ntmps48
      go_wp2_with fail
      refine Calls.mono W1.out ?_
      rintro e w1 ⟨rfl, hw1⟩
      rw [hw1]
      clear hw1 W1
      go_wp2_with fail
      exact bodyPost_ret (v := .tuple #[.slice none 0 0, .bool false]) (by simp [results, Tryd.results48, go_sem]) rfl (AnsT.nil (BA.out _ _))
end Go.Proofs.YtahcllncjpaijabDoor
