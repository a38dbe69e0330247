/- Values, plain: what a text is the text of. -/
import Derived.Test.YtahcllncjpaijabDoorNum
import Derived.Test.YtahcllncjpaijabDoorBack1
import Derived.Lib.ItoaMem
namespace Go.Proofs.YtahcllncjpaijabDoor
open Go.RowKit

theorem rt_cons (c : UInt8) (r : List UInt8) : L1.rt (c :: r) = if (c.toNat : Int) = 36 then L1.rw' true r else if L1.isSm c then L1.rw' false (c :: r) else if L1.isDg c then L1.rn (c :: r) else if (c.toNat : Int) = 34 then L1.rq (c :: r) else L1.rm (c :: r) := rfl
theorem Tz_step {l : List UInt8} {k n : Int} {tx : List UInt8} {m : Nat} {R : List (Int × Int × List UInt8)} (hn : l ≠ []) (h : L1.rt l = ⟨0, k, n, tx, m⟩) (hr : L1.Tz (l.drop (m + L1.pbGo false (l.drop m))) R) : L1.Tz l ((k, n, tx) :: R) := by
  have := L1.Tz.cons l R hn (by rw [h]) (by rw [h]; exact hr)
  rw [h] at this
  exact this
theorem rt_mark {c : UInt8} (r : List UInt8) (hc : c = 91 ∨ c = 93 ∨ c = 44 ∨ c = 45) : L1.rt (c :: r) = ⟨0, 6, 0, [c], 1⟩ := by
  rcases hc with rfl | rfl | rfl | rfl <;> simp [L1.rt, L1.isSm, L1.isDg, L1.rm, L1.rmOf, L1.mk, Lib.hasPrefix, List.find?] <;> rfl
/-- What may stand behind a tree's text. -/
def okX (X : List UInt8) : Prop := X = [] ∨ ∃ r, X = 44 :: r ∨ X = 93 :: r
theorem okX_pb {X : List UInt8} (h : okX X) : L1.pbGo false X = 0 := by
  rcases h with rfl | ⟨r, rfl | rfl⟩
  · rfl
  · simp [L1.pbGo]
  · simp [L1.pbGo]
theorem okX_dg {X : List UInt8} (h : okX X) (l : List UInt8) (hl : ∀ c ∈ l, L1.isDg c = true) : L1.dLen (l ++ X) = l.length := by
  induction l with
  | nil =>
    rcases h with rfl | ⟨r, rfl | rfl⟩
    · rfl
    · simp [L1.dLen, L1.isDg]
    · simp [L1.dLen, L1.isDg]
  | cons c r ih =>
    rw [List.cons_append, L1.dLen, if_pos (hl c (List.mem_cons_self ..)), ih (fun d hd => hl d (List.mem_cons_of_mem _ hd)), List.length_cons]
theorem rt_dec (u : Nat) (hu : u ≤ 9007199254740992) {X : List UInt8} (h : okX X) : L1.rt (Lib.decDigits u ++ X) = ⟨0, 4, (u : Int), [], (Lib.decDigits u).length⟩ := by
  have hd := L1.dec_dg u
  have hne := L1.dec_ne u
  have e := okX_dg h (Lib.decDigits u) hd
  have hr := L1.rn_dec u hu
  cases hD : Lib.decDigits u with
  | nil => exact absurd hD hne
  | cons c r =>
    rw [hD] at hd e hr
    have hc := hd c (List.mem_cons_self ..)
    have hc2 : 48 ≤ (c.toNat : Int) ∧ (c.toNat : Int) ≤ 57 := by simpa [L1.isDg] using hc
    have hs : L1.isSm c = false := by simp only [L1.isSm, decide_eq_false_iff_not]; omega
    rw [List.cons_append] at e ⊢
    rw [rt_cons, if_neg (by omega), if_neg (by rw [hs]; simp), if_pos hc]
    have e0 : L1.dLen (c :: r) = (c :: r).length := L1.dLen_all _ hd
    unfold L1.rn at hr ⊢
    rw [e0, List.take_length] at hr
    rw [e, show c :: (r ++ X) = (c :: r) ++ X from rfl, List.take_left]
    exact hr
theorem rt_quo (t X : List UInt8) (ht : t.length ≤ 4096) : L1.rt (quo t ++ X) = ⟨0, 5, 0, t, (quo t).length⟩ := by
  have hu := L1.uq_quo t X
  have e : quo t ++ X = 34 :: (t.flatMap qB ++ 34 :: X) := by simp [quo]
  rw [e]
  rw [rt_cons, if_neg (by decide), if_neg (by decide), if_neg (by decide), if_pos (by decide)]
  unfold L1.rq
  rw [List.drop_one, List.tail_cons, hu]
  show (if 4096 < t.length then L1.RT.bad 3 else _) = _
  rw [if_neg (by omega)]
  simp [quo]
theorem pb_zero {c : UInt8} (r : List UInt8) (h : (c.toNat : Int) ≠ 10 ∧ (c.toNat : Int) ≠ 9 ∧ (c.toNat : Int) ≠ 13 ∧ (c.toNat : Int) ≠ 32 ∧ (c.toNat : Int) ≠ 35) : L1.pbGo false (c :: r) = 0 := by
  rw [L1.pbGo, if_neg h.1, if_neg (by simp; omega), if_neg (by omega)]
theorem dec_cons (u : Nat) : ∃ c r, Lib.decDigits u = c :: r ∧ 48 ≤ (c.toNat : Int) ∧ (c.toNat : Int) ≤ 57 := by
  cases h : Lib.decDigits u with
  | nil => exact absurd h (L1.dec_ne u)
  | cons c r =>
    have := L1.dec_dg u c (by rw [h]; exact List.mem_cons_self ..)
    have h2 : 48 ≤ (c.toNat : Int) ∧ (c.toNat : Int) ≤ 57 := by simpa [L1.isDg] using this
    exact ⟨c, r, rfl, h2⟩
theorem pb_dec (u : Nat) (Y : List UInt8) : L1.pbGo false (Lib.decDigits u ++ Y) = 0 := by
  obtain ⟨c, r, e, h⟩ := dec_cons u
  rw [e, List.cons_append]
  exact pb_zero _ (by omega)
theorem pb_tree (t : Vt) (Y : List UInt8) : L1.pbGo false (prV t ++ Y) = 0 := by
  obtain ⟨k, i, tx, ps⟩ := t
  rw [prV]
  split
  · unfold Lib.itoa
    split
    · rw [List.cons_append]; exact pb_zero _ (by decide)
    · exact pb_dec _ _
  · split
    · rw [show quo tx.data.toList = 34 :: (tx.data.toList.flatMap qB ++ [34]) from by simp [quo], List.cons_append]
      exact pb_zero _ (by decide)
    · rw [List.cons_append]; exact pb_zero _ (by decide)
theorem Tz_mark {c : UInt8} {r : List UInt8} {R : List (Int × Int × List UInt8)} (hc : c = 91 ∨ c = 93 ∨ c = 44 ∨ c = 45) (hr : L1.Tz (r.drop (L1.pbGo false r)) R) : L1.Tz (c :: r) ((6, 0, [c]) :: R) := by
  refine Tz_step (by simp) (rt_mark r hc) ?_
  rw [List.drop_one, List.tail_cons, Nat.add_comm, List.drop_succ_cons]
  exact hr
theorem Tz_dec {u : Nat} (hu : u ≤ 9007199254740992) {X : List UInt8} {R : List (Int × Int × List UInt8)} (h : okX X) (hr : L1.Tz X R) : L1.Tz (Lib.decDigits u ++ X) ((4, (u : Int), []) :: R) := by
  obtain ⟨c, r, e, _⟩ := dec_cons u
  refine Tz_step (by rw [e]; simp) (rt_dec u hu h) ?_
  rw [List.drop_left, okX_pb h, Nat.add_zero, List.drop_left]
  exact hr
theorem okX_more (r : List Vt) (Y : List UInt8) : okX (prVS r ++ 93 :: Y) := by
  cases r with
  | nil => rw [prVS]; exact Or.inr ⟨Y, Or.inr rfl⟩
  | cons t r => rw [prVS]; exact Or.inr ⟨_, Or.inl rfl⟩
mutual
theorem Tz_tree : ∀ (t : Vt) (X : List UInt8) (R : List (Int × Int × List UInt8)), wfV t → okX X → L1.Tz X R → L1.Tz (prV t ++ X) (tkV t ++ R)
  | .nd k i tx ps, X, R, h, hX, hr => by
    rw [wfV] at h
    have hb := atB_is h.1
    rw [prV, tkV]
    by_cases h1 : k = 1
    · have hi : -9007199254740992 ≤ i ∧ i ≤ 9007199254740992 := by rcases hb with ⟨_, e, e'⟩ | ⟨e, _⟩ | e <;> omega
      rw [if_pos h1, if_pos h1]
      by_cases hneg : i < 0
      · obtain ⟨u, rfl⟩ : ∃ u : Nat, i = -(u : Int) := ⟨i.natAbs, by omega⟩
        rw [if_pos hneg, Lib.itoa_neg u (by omega), List.cons_append]
        have := Tz_dec (u := u) (by omega) hX hr
        have e : -(-(u : Int)) = (u : Int) := by omega
        rw [e]
        refine Tz_mark (by decide) ?_
        rw [pb_dec, List.drop_zero]
        exact this
      · obtain ⟨u, rfl⟩ : ∃ u : Nat, i = (u : Int) := ⟨i.toNat, by omega⟩
        rw [if_neg hneg, Lib.itoa_nonneg]
        exact Tz_dec (by omega) hX hr
    · rw [if_neg h1, if_neg h1]
      by_cases h2 : k = 2
      · have ht : tx.size ≤ 4096 := by rcases hb with ⟨e, _⟩ | ⟨_, e⟩ | e <;> omega
        rw [if_pos h2, if_pos h2]
        refine Tz_step (by simp [quo]) (rt_quo tx.data.toList X (by simpa using ht)) ?_
        rw [List.drop_left, okX_pb hX, Nat.add_zero, List.drop_left]
        exact hr
      · rw [if_neg h2, if_neg h2, List.cons_append, List.cons_append, List.append_assoc, List.append_assoc]
        refine Tz_mark (by decide) ?_
        have h93 : L1.Tz (93 :: X) ((6, 0, [93]) :: R) := Tz_mark (by decide) (by rw [okX_pb hX, List.drop_zero]; exact hr)
        have hl := Tz_list ps X ((6, 0, [93]) :: R) h.2 h93
        have e : L1.pbGo false (prVL ps ++ ([93] ++ X)) = 0 := by
          cases ps with
          | nil => rw [prVL]; exact pb_zero _ (by decide)
          | cons t r => rw [prVL, List.append_assoc]; exact pb_tree t _
        rw [e, List.drop_zero]
        exact hl
theorem Tz_list : ∀ (ps : List Vt) (Y : List UInt8) (R : List (Int × Int × List UInt8)), wfVL ps → L1.Tz (93 :: Y) R → L1.Tz (prVL ps ++ 93 :: Y) (tkL ps ++ R)
  | [], Y, R, _, hr => by rw [prVL, tkL]; exact hr
  | t :: r, Y, R, h, hr => by
    rw [wfVL] at h
    rw [prVL, tkL, List.append_assoc, List.append_assoc]
    exact Tz_tree t _ _ h.1 (okX_more r Y) (Tz_more r Y R h.2 hr)
theorem Tz_more : ∀ (ps : List Vt) (Y : List UInt8) (R : List (Int × Int × List UInt8)), wfVL ps → L1.Tz (93 :: Y) R → L1.Tz (prVS ps ++ 93 :: Y) (tkS ps ++ R)
  | [], Y, R, _, hr => by rw [prVS, tkS]; exact hr
  | t :: r, Y, R, h, hr => by
    rw [wfVL] at h
    rw [prVS, tkS, List.cons_append, List.cons_append, List.cons_append, List.append_assoc, List.append_assoc]
    refine Tz_mark (by decide) ?_
    have e : L1.pbGo false (32 :: (prV t ++ (prVS r ++ 93 :: Y))) = 1 := by
      rw [L1.pbGo, if_neg (by decide), if_pos (by decide), pb_tree]
    rw [e, List.drop_one, List.tail_cons]
    exact Tz_tree t _ _ h.1 (okX_more r Y) (Tz_more r Y R h.2 hr)
end
theorem Tz_all {t : Vt} (h : wfV t) : L1.Tz (prV t) (tkV t) := by
  have := Tz_tree t [] [] h (Or.inl rfl) L1.Tz.nil
  rw [List.append_nil, List.append_nil] at this
  exact this
end Go.Proofs.YtahcllncjpaijabDoor
namespace Go.Proofs.YtahcllncjpaijabDoor
open Go.RowKit

mutual
theorem tkV_len : ∀ t : Vt, (tkV t).length + 1 ≤ 4 * szV t
  | .nd k i tx ps => by
    have hl := tkL_len ps
    rw [tkV, szV_nd]
    split
    · split <;> simp <;> omega
    · split
      · simp; omega
      · simp only [List.length_cons, List.length_append, List.length_nil]; omega
theorem tkL_len : ∀ l : List Vt, (tkL l).length ≤ 4 * szVL l
  | [] => by rw [tkL]; simp
  | t :: r => by
    have h1 := tkV_len t
    have h2 := tkS_len r
    rw [tkL, szVL_cons, List.length_append]; omega
theorem tkS_len : ∀ l : List Vt, (tkS l).length ≤ 4 * szVL l
  | [] => by rw [tkS]; simp
  | t :: r => by
    have h1 := tkV_len t
    have h2 := tkS_len r
    rw [tkS, szVL_cons, List.length_cons, List.length_append]; omega
end
/-- A tree's text is told in the tree's tokens. -/
theorem tk_of {t : Vt} (hr : RT t) (hl : (prV t).length ≤ 65536) : ∃ T, L1.tkRes (prV t) = (T, 0, 0) ∧ T.map L1.np = tkV t := by
  have hp : L1.pbGo false (prV t) = 0 := by
    have := pb_tree t []
    rw [List.append_nil] at this; exact this
  refine L1.Tz.res ?_ hl ?_
  · rw [hp, List.drop_zero]; exact Tz_all hr.wf
  · have h1 := tkV_len t
    have h2 := hr.sz
    omega
/-- What value.read makes of a text's tokens. -/
def rdA (s : List UInt8) : List Atm := (rdG ⟨[], [0], 1⟩ ((L1.tkRes s).1.map L1.np)).l
theorem rdA_tree {t : Vt} (hr : RT t) (hl : (prV t).length ≤ 65536) : rdA (prV t) = flV t := by
  obtain ⟨T, h1, h2⟩ := tk_of hr hl
  unfold rdA
  rw [h1, h2, rd_all hr.wf]
theorem prV_one {s t : Vt} (hs : RT s) (ht : RT t) (hl : (prV s).length ≤ 65536) (h : prV s = prV t) : s = t := by
  have h1 := rdA_tree hs hl
  have h2 := rdA_tree ht (by rw [← h]; exact hl)
  rw [h, h2] at h1
  exact (flV_inj ht.wf hs.wf h1).symm
/-- What Parse finds: nothing else than a tree's text is taken. -/
theorem parse_iff {s : List UInt8} (hl : s.length ≤ 65536) : (∃ t, RT t ∧ prV t = s) ↔ (L1.tkRes s).2.2 = 0 ∧ chkV (rdA s) = 0 ∧ prV (treeA (rdA s)) = s := by
  constructor
  · rintro ⟨t, hr, rfl⟩
    obtain ⟨T, h1, _⟩ := tk_of hr hl
    rw [rdA_tree hr hl, treeA_flat hr.wf, h1]
    exact ⟨rfl, hr.chk, rfl⟩
  · rintro ⟨_, h1, h2⟩
    obtain ⟨t, e, hr⟩ := RT.of h1
    refine ⟨t, hr, ?_⟩
    rw [e, treeA_flat hr.wf] at h2
    exact h2
theorem parse_is {s : List UInt8} {t : Vt} (hl : s.length ≤ 65536) (hr : RT t) (h : prV t = s) : rdA s = flV t := by
  subst h; exact rdA_tree hr hl
end Go.Proofs.YtahcllncjpaijabDoor
