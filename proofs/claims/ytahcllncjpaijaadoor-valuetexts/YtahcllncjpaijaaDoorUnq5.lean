/- The walk of lex.Unquote. Asked: the texts have room in memory. -/
import Derived.Test.YtahcllncjpaijaaDoorPlain2
import Derived.Test.YtahcllncjpaijaaDoorBack1
import Derived.Lib.ItoaMem
import Derived.Test.YtahcllncjpaijaaDoorUnq3
namespace Go.Proofs.YtahcllncjpaijaaDoor
open Go.RowKit

theorem rt_cons (c : UInt8) (r : List UInt8) : L1.rt (c :: r) = if (c.toNat : Int) = 36 then L1.rw' true r else if L1.isSm c then L1.rw' false (c :: r) else if L1.isDg c then L1.rn (c :: r) else if (c.toNat : Int) = 34 then L1.rq (c :: r) else L1.rm (c :: r) := rfl
theorem Tz_step {l : List UInt8} {k n : Int} {tx : List UInt8} {m : Nat} {R : List (Int × Int × List UInt8)} (hn : l ≠ []) (h : L1.rt l = ⟨0, k, n, tx, m⟩) (hr : L1.Tz (l.drop (m + L1.pbGo false (l.drop m))) R) : L1.Tz l ((k, n, tx) :: R) := by
  have := L1.Tz.cons l R hn (by rw [h]) (by rw [h]; exact hr)
  rw [h] at this
  exact this
theorem rt_mark {c : UInt8} (r : List UInt8) (hc : c = 91 ∨ c = 93 ∨ c = 44 ∨ c = 45) : L1.rt (c :: r) = ⟨0, 6, 0, [c], 1⟩ := by
  rcases hc with rfl | rfl | rfl | rfl <;> simp [L1.rt, L1.isSm, L1.isDg, L1.rm, L1.rmOf, L1.mk, Lib.hasPrefix, List.find?] <;> rfl
/-- What may stand behind a tree's text. -/
def okX (X : List UInt8) : Prop := X = [] ∨ ∃ r, X = 44 :: r ∨ X = 93 :: r
theorem okX_pb {X : List UInt8} (h : okX X) : L1.pbGo false X = 0 := by
  rcases h with rfl | ⟨r, rfl | rfl⟩
  · rfl
  · simp [L1.pbGo]
  · simp [L1.pbGo]
theorem okX_dg {X : List UInt8} (h : okX X) (l : List UInt8) (hl : ∀ c ∈ l, L1.isDg c = true) : L1.dLen (l ++ X) = l.length := by
  induction l with
  | nil =>
    rcases h with rfl | ⟨r, rfl | rfl⟩
    · rfl
    · simp [L1.dLen, L1.isDg]
    · simp [L1.dLen, L1.isDg]
  | cons c r ih =>
    rw [List.cons_append, L1.dLen, if_pos (hl c (List.mem_cons_self ..)), ih (fun d hd => hl d (List.mem_cons_of_mem _ hd)), List.length_cons]
theorem rt_dec (u : Nat) (hu : u ≤ 9007199254740992) {X : List UInt8} (h : okX X) : L1.rt (Lib.decDigits u ++ X) = ⟨0, 4, (u : Int), [], (Lib.decDigits u).length⟩ := by
  have hd := L1.dec_dg u
  have hne := L1.dec_ne u
  have e := okX_dg h (Lib.decDigits u) hd
  have hr := L1.rn_dec u hu
  cases hD : Lib.decDigits u with
  | nil => exact absurd hD hne
  | cons c r =>
    rw [hD] at hd e hr
    have hc := hd c (List.mem_cons_self ..)
    have hc2 : 48 ≤ (c.toNat : Int) ∧ (c.toNat : Int) ≤ 57 := by simpa [L1.isDg] using hc
    have hs : L1.isSm c = false := by simp only [L1.isSm, decide_eq_false_iff_not]; omega
    rw [List.cons_append] at e ⊢
    rw [rt_cons, if_neg (by omega), if_neg (by rw [hs]; simp), if_pos hc]
    have e0 : L1.dLen (c :: r) = (c :: r).length := L1.dLen_all _ hd
    unfold L1.rn at hr ⊢
    rw [e0, List.take_length] at hr
    rw [e, show c :: (r ++ X) = (c :: r) ++ X from rfl, List.take_left]
    exact hr
theorem rt_quo (t X : List UInt8) (ht : t.length ≤ 4096) : L1.rt (quo t ++ X) = ⟨0, 5, 0, t, (quo t).length⟩ := by
  have hu := L1.uq_quo t X
  have e : quo t ++ X = 34 :: (t.flatMap qB ++ 34 :: X) := by simp [quo]
  rw [e]
  rw [rt_cons, if_neg (by decide), if_neg (by decide), if_neg (by decide), if_pos (by decide)]
  unfold L1.rq
  rw [List.drop_one, List.tail_cons, hu]
  show (if 4096 < t.length then L1.RT.bad 3 else _) = _
  rw [if_neg (by omega)]
  simp [quo]
theorem pb_zero {c : UInt8} (r : List UInt8) (h : (c.toNat : Int) ≠ 10 ∧ (c.toNat : Int) ≠ 9 ∧ (c.toNat : Int) ≠ 13 ∧ (c.toNat : Int) ≠ 32 ∧ (c.toNat : Int) ≠ 35) : L1.pbGo false (c :: r) = 0 := by
  rw [L1.pbGo, if_neg h.1, if_neg (by simp; omega), if_neg (by omega)]
theorem dec_cons (u : Nat) : ∃ c r, Lib.decDigits u = c :: r ∧ 48 ≤ (c.toNat : Int) ∧ (c.toNat : Int) ≤ 57 := by
  cases h : Lib.decDigits u with
  | nil => exact absurd h (L1.dec_ne u)
  | cons c r =>
    have := L1.dec_dg u c (by rw [h]; exact List.mem_cons_self ..)
    have h2 : 48 ≤ (c.toNat : Int) ∧ (c.toNat : Int) ≤ 57 := by simpa [L1.isDg] using this
    exact ⟨c, r, rfl, h2⟩
theorem pb_dec (u : Nat) (Y : List UInt8) : L1.pbGo false (Lib.decDigits u ++ Y) = 0 := by
  obtain ⟨c, r, e, h⟩ := dec_cons u
  rw [e, List.cons_append]
  exact pb_zero _ (by omega)
theorem pb_tree (t : Vt) (Y : List UInt8) : L1.pbGo false (prV t ++ Y) = 0 := by
  obtain ⟨k, i, tx, ps⟩ := t
  rw [prV]
  split
  · unfold Lib.itoa
    split
    · rw [List.cons_append]; exact pb_zero _ (by decide)
    · exact pb_dec _ _
  · split
    · rw [show quo tx.data.toList = 34 :: (tx.data.toList.flatMap qB ++ [34]) from by simp [quo], List.cons_append]
      exact pb_zero _ (by decide)
    · rw [List.cons_append]; exact pb_zero _ (by decide)
theorem Tz_mark {c : UInt8} {r : List UInt8} {R : List (Int × Int × List UInt8)} (hc : c = 91 ∨ c = 93 ∨ c = 44 ∨ c = 45) (hr : L1.Tz (r.drop (L1.pbGo false r)) R) : L1.Tz (c :: r) ((6, 0, [c]) :: R) := by
  refine Tz_step (by simp) (rt_mark r hc) ?_
  rw [List.drop_one, List.tail_cons, Nat.add_comm, List.drop_succ_cons]
  exact hr
theorem Tz_dec {u : Nat} (hu : u ≤ 9007199254740992) {X : List UInt8} {R : List (Int × Int × List UInt8)} (h : okX X) (hr : L1.Tz X R) : L1.Tz (Lib.decDigits u ++ X) ((4, (u : Int), []) :: R) := by
  obtain ⟨c, r, e, _⟩ := dec_cons u
  refine Tz_step (by rw [e]; simp) (rt_dec u hu h) ?_
  rw [List.drop_left, okX_pb h, Nat.add_zero, List.drop_left]
  exact hr
theorem okX_more (r : List Vt) (Y : List UInt8) : okX (prVS r ++ 93 :: Y) := by
  cases r with
  | nil => rw [prVS]; exact Or.inr ⟨Y, Or.inr rfl⟩
  | cons t r => rw [prVS]; exact Or.inr ⟨_, Or.inl rfl⟩
mutual
theorem Tz_tree : ∀ (t : Vt) (X : List UInt8) (R : List (Int × Int × List UInt8)), wfV t → okX X → L1.Tz X R → L1.Tz (prV t ++ X) (tkV t ++ R)
  | .nd k i tx ps, X, R, h, hX, hr => by
    rw [wfV] at h
    have hb := atB_is h.1
    rw [prV, tkV]
    by_cases h1 : k = 1
    · have hi : -9007199254740992 ≤ i ∧ i ≤ 9007199254740992 := by rcases hb with ⟨_, e, e'⟩ | ⟨e, _⟩ | e <;> omega
      rw [if_pos h1, if_pos h1]
      by_cases hneg : i < 0
      · obtain ⟨u, rfl⟩ : ∃ u : Nat, i = -(u : Int) := ⟨i.natAbs, by omega⟩
        rw [if_pos hneg, Lib.itoa_neg u (by omega), List.cons_append]
        have := Tz_dec (u := u) (by omega) hX hr
        have e : -(-(u : Int)) = (u : Int) := by omega
        rw [e]
        refine Tz_mark (by decide) ?_
        rw [pb_dec, List.drop_zero]
        exact this
      · obtain ⟨u, rfl⟩ : ∃ u : Nat, i = (u : Int) := ⟨i.toNat, by omega⟩
        rw [if_neg hneg, Lib.itoa_nonneg]
        exact Tz_dec (by omega) hX hr
    · rw [if_neg h1, if_neg h1]
      by_cases h2 : k = 2
      · have ht : tx.size ≤ 4096 := by rcases hb with ⟨e, _⟩ | ⟨_, e⟩ | e <;> omega
        rw [if_pos h2, if_pos h2]
        refine Tz_step (by simp [quo]) (rt_quo tx.data.toList X (by simpa using ht)) ?_
        rw [List.drop_left, okX_pb hX, Nat.add_zero, List.drop_left]
        exact hr
      · rw [if_neg h2, if_neg h2, List.cons_append, List.cons_append, List.append_assoc, List.append_assoc]
        refine Tz_mark (by decide) ?_
        have h93 : L1.Tz (93 :: X) ((6, 0, [93]) :: R) := Tz_mark (by decide) (by rw [okX_pb hX, List.drop_zero]; exact hr)
        have hl := Tz_list ps X ((6, 0, [93]) :: R) h.2 h93
        have e : L1.pbGo false (prVL ps ++ ([93] ++ X)) = 0 := by
          cases ps with
          | nil => rw [prVL]; exact pb_zero _ (by decide)
          | cons t r => rw [prVL, List.append_assoc]; exact pb_tree t _
        rw [e, List.drop_zero]
        exact hl
theorem Tz_list : ∀ (ps : List Vt) (Y : List UInt8) (R : List (Int × Int × List UInt8)), wfVL ps → L1.Tz (93 :: Y) R → L1.Tz (prVL ps ++ 93 :: Y) (tkL ps ++ R)
  | [], Y, R, _, hr => by rw [prVL, tkL]; exact hr
  | t :: r, Y, R, h, hr => by
    rw [wfVL] at h
    rw [prVL, tkL, List.append_assoc, List.append_assoc]
    exact Tz_tree t _ _ h.1 (okX_more r Y) (Tz_more r Y R h.2 hr)
theorem Tz_more : ∀ (ps : List Vt) (Y : List UInt8) (R : List (Int × Int × List UInt8)), wfVL ps → L1.Tz (93 :: Y) R → L1.Tz (prVS ps ++ 93 :: Y) (tkS ps ++ R)
  | [], Y, R, _, hr => by rw [prVS, tkS]; exact hr
  | t :: r, Y, R, h, hr => by
    rw [wfVL] at h
    rw [prVS, tkS, List.cons_append, List.cons_append, List.cons_append, List.append_assoc, List.append_assoc]
    refine Tz_mark (by decide) ?_
    have e : L1.pbGo false (32 :: (prV t ++ (prVS r ++ 93 :: Y))) = 1 := by
      rw [L1.pbGo, if_neg (by decide), if_pos (by decide), pb_tree]
    rw [e, List.drop_one, List.tail_cons]
    exact Tz_tree t _ _ h.1 (okX_more r Y) (Tz_more r Y R h.2 hr)
end
theorem Tz_all {t : Vt} (h : wfV t) : L1.Tz (prV t) (tkV t) := by
  have := Tz_tree t [] [] h (Or.inl rfl) L1.Tz.nil
  rw [List.append_nil, List.append_nil] at this
  exact this
end Go.Proofs.YtahcllncjpaijaaDoor
namespace Go.Proofs.YtahcllncjpaijaaDoor
open Go.RowKit

mutual
theorem tkV_len : ∀ t : Vt, (tkV t).length + 1 ≤ 4 * szV t
  | .nd k i tx ps => by
    have hl := tkL_len ps
    rw [tkV, szV_nd]
    split
    · split <;> simp <;> omega
    · split
      · simp; omega
      · simp only [List.length_cons, List.length_append, List.length_nil]; omega
theorem tkL_len : ∀ l : List Vt, (tkL l).length ≤ 4 * szVL l
  | [] => by rw [tkL]; simp
  | t :: r => by
    have h1 := tkV_len t
    have h2 := tkS_len r
    rw [tkL, szVL_cons, List.length_append]; omega
theorem tkS_len : ∀ l : List Vt, (tkS l).length ≤ 4 * szVL l
  | [] => by rw [tkS]; simp
  | t :: r => by
    have h1 := tkV_len t
    have h2 := tkS_len r
    rw [tkS, szVL_cons, List.length_cons, List.length_append]; omega
end
/-- A tree's text is told in the tree's tokens. -/
theorem tk_of {t : Vt} (hr : RT t) (hl : (prV t).length ≤ 65536) : ∃ T, L1.tkRes (prV t) = (T, 0, 0) ∧ T.map L1.np = tkV t := by
  have hp : L1.pbGo false (prV t) = 0 := by
    have := pb_tree t []
    rw [List.append_nil] at this; exact this
  refine L1.Tz.res ?_ hl ?_
  · rw [hp, List.drop_zero]; exact Tz_all hr.wf
  · have h1 := tkV_len t
    have h2 := hr.sz
    omega
/-- What value.read makes of a text's tokens. -/
def rdA (s : List UInt8) : List Atm := (rdG ⟨[], [0], 1⟩ ((L1.tkRes s).1.map L1.np)).l
theorem rdA_tree {t : Vt} (hr : RT t) (hl : (prV t).length ≤ 65536) : rdA (prV t) = flV t := by
  obtain ⟨T, h1, h2⟩ := tk_of hr hl
  unfold rdA
  rw [h1, h2, rd_all hr.wf]
theorem prV_one {s t : Vt} (hs : RT s) (ht : RT t) (hl : (prV s).length ≤ 65536) (h : prV s = prV t) : s = t := by
  have h1 := rdA_tree hs hl
  have h2 := rdA_tree ht (by rw [← h]; exact hl)
  rw [h, h2] at h1
  exact (flV_inj ht.wf hs.wf h1).symm
/-- What Parse finds: nothing else than a tree's text is taken. -/
theorem parse_iff {s : List UInt8} (hl : s.length ≤ 65536) : (∃ t, RT t ∧ prV t = s) ↔ (L1.tkRes s).2.2 = 0 ∧ chkV (rdA s) = 0 ∧ prV (treeA (rdA s)) = s := by
  constructor
  · rintro ⟨t, hr, rfl⟩
    obtain ⟨T, h1, _⟩ := tk_of hr hl
    rw [rdA_tree hr hl, treeA_flat hr.wf, h1]
    exact ⟨rfl, hr.chk, rfl⟩
  · rintro ⟨_, h1, h2⟩
    obtain ⟨t, e, hr⟩ := RT.of h1
    refine ⟨t, hr, ?_⟩
    rw [e, treeA_flat hr.wf] at h2
    exact h2
theorem parse_is {s : List UInt8} {t : Vt} (hl : s.length ≤ 65536) (hr : RT t) (h : prV t = s) : rdA s = flV t := by
  subst h; exact rdA_tree hr hl
end Go.Proofs.YtahcllncjpaijaaDoor
namespace Go.Proofs.YtahcllncjpaijaaDoor.L1
open Go.RowKit

theorem ret_qr {a b : List UInt8} {m n : Int} {p q : Bool} (h : a = b) (h2 : m = n) (h3 : p = q) : Ending.returned (.tuple #[.int .i64 m, .string ⟨a.toArray⟩, .bool p]) = .returned (.tuple #[.int .i64 n, .string ⟨b.toArray⟩, .bool q]) := by rw [h, h2, h3]
theorem QRel.bad {l : List UInt8} {n k : Nat} {done : List UInt8} (h : QRel l n k done) {c : UInt8} {r : List UInt8} (h2 : l.drop k = c :: r) (hc : c ≠ 34) (hz : ubR (c :: r) = (0, 0)) : qa l n = ([], 0, false) :=
  h.fail (by rw [h2]; exact uq_none hc (ubR_zero (by rw [hz]; simp)))
theorem QRel.good {l : List UInt8} {n k : Nat} {done : List UInt8} (h : QRel l n k done) (hk : n + 1 ≤ k) {c : UInt8} {r : List UInt8} (h2 : l.drop k = c :: r) {b : UInt8} {m : Nat} (hu : ubR (c :: r) = (b, m)) (hm : 0 < m) : QRel l n (k + m) (done ++ [b]) := by
  have := h.step hk h2 (by rw [hu]; exact hm)
  rw [hu] at this; exact this
theorem ubR_hex {e f b : UInt8} {r : List UInt8} (h : hexB e f = some b) : ubR (92 :: 120 :: e :: f :: r) = (b, 4) := by rw [ubR_x]; simp [hr, h]
theorem ubR_hexn {e f : UInt8} {r : List UInt8} (h : hexB e f = none) : ubR (92 :: 120 :: e :: f :: r) = (0, 0) := by rw [ubR_x]; simp [hr, h]
theorem ubR_short {d : UInt8} {r : List UInt8} (h1 : ¬ (d.toNat : Int) = 34) (h2 : ¬ (d.toNat : Int) = 92) (h3 : ¬ (d.toNat : Int) = 110) (h4 : r.length < 2) : ubR (92 :: d :: r) = (0, 0) := by
  by_cases h : d = 120
  · subst h
    rw [ubR_x]
    match r, h4 with
    | [], _ => rfl
    | [_], _ => rfl
  · exact ubR_no (toNat_ne (n := 34) (by omega) h1) (toNat_ne (n := 92) (by omega) h2) (toNat_ne (n := 110) (by omega) h3) h
theorem byteCells {v : Int} {b : UInt8} (h : v = (b.toNat : Int)) : (#[.int .u8 v] : Array Value).toList = [b].map byteV := by subst h; rfl
/-- What holds at the head of each round. -/
def QI (s : ByteArray) (n base : Nat) (w : World) (x i : Value) (wr : World) : Prop :=
  ∃ (k : Nat) (done : List UInt8), n + 1 ≤ k ∧ k ≤ s.size ∧ i = .int .i64 k ∧ Own wr base x done ∧ done.length ≤ k ∧ Below base w wr ∧ base ≤ wr.heap.size ∧ Hid (QRel s.data.toList n k done)

set_option maxRecDepth 100000 in
set_option maxHeartbeats 40000000 in
theorem quoted_any (s : ByteArray) (n : Nat) (w : World) (hs : s.size ≤ 140737488351232) (hn : n < s.size) (hq0 : (s[n].toNat : Int) = 34) :
    Calls Tryd.prog 90 #[.string s, .int .i64 n] w fun e w' => e = .returned (.tuple #[.int .i64 ((qa s.data.toList n).2.1 : Int), .string ⟨(qa s.data.toList n).1.toArray⟩, .bool (qa s.data.toList n).2.2]) ∧ Below w.heap.size w w' := by
  obtain ⟨base, hbase⟩ : ∃ base, base = w.heap.size := ⟨_, rfl⟩
  have HB : Hid (base = w.heap.size) := hbase
  have hnn : ¬ s.size ≤ n := by omega
  have ho0 : Own (w.alloc (.cells #[] 5)) base (.slice (some ⟨w.heap.size, 0, none⟩) 0 0) [] := by
    refine ⟨rfl, Or.inr ⟨w.heap.size, 0, #[], rfl, by omega, heap_alloc_new w _, Nat.le_refl _, by unfold maxLen; omega, rfl, rfl⟩⟩
  have hb0 : Below base w (w.alloc (.cells #[] 5)) := (Below.refl _ _).alloc (by omega) _
  have hz0 : base ≤ (w.alloc (.cells #[] 5)).heap.size := by simp; omega
  clear hbase
  go_enter Tryd.func90, Tryd.ntmps90
  go_wp2
  clear hq0
  go_loopw [7, 8] (fun x i wr => QI s n base w x i wr) (fun _ i _ => s.size - (intOf i).toNat)
  case atStart => exact ⟨n + 1, [], Nat.le_refl _, by omega, by go_num, ho0, by simp, hb0, hz0, QRel.start _ _⟩
  case round =>
    obtain ⟨k, done, hk1, hk, rfl, ho, hdl, hb, hz, HR⟩ := hrel
    clear ho0 hb0 hz0
    by_cases hlt : k < s.size
    · have HD : Hid (s.data.toList.drop k = s[k] :: s.data.toList.drop (k + 1)) := drop_cons' s k hlt
      have hc : (s[k].toNat : Int) ≤ 255 := by have := UInt8.toNat_lt s[k]; omega
      by_cases h34 : (s[k].toNat : Int) = 34
      · have HS : Hid (qa s.data.toList n = (done, k + 1, true)) := HR.out.stop hk1 (s.data.toList.drop (k + 1)) (by rw [HD.out, u8_eq (n := 34) (by omega) h34]; rfl)
        have hcv : (convert 79 9 u7).run Tryd.prog wr.drew = .ok (.string ⟨done.toArray⟩) wr.drew := run_own_string ho.drew _ _ Tryd.underlying79 Tryd.underlying5 Tryd.underlying9
        go_wp2
        go_region
        all_goals go_wp2
        all_goals go_ret3
        all_goals
          refine ⟨ret_qr (by rw [HS.out]) (by rw [HS.out]; simp) (by rw [HS.out]), ?_⟩
          rw [← HB.out]; exact hb.drew
      · have h34' : ((s[k].toNat : Int) == 34) = false := by simpa using h34
        by_cases h92 : (s[k].toNat : Int) = 92
        · have e92 : s[k] = 92 := u8_eq (n := 92) (by omega) h92
          by_cases h1 : k + 1 < s.size
          · have h1' : (k : Int) + 1 < (s.size : Int) := by omega
            have E2 : Hid (s.data.toList.drop k = (92 : UInt8) :: s[k + 1] :: s.data.toList.drop (k + 2)) := by
              show _ = _; rw [HD.out, drop_cons' s (k + 1) h1, e92]
            clear e92
            have hd : (s[k + 1].toNat : Int) ≤ 255 := by have := UInt8.toNat_lt s[k + 1]; omega
            by_cases d34 : (s[k + 1].toNat : Int) = 34
            · have HST : Hid (QRel s.data.toList n (k + 2) (done ++ [34])) := HR.out.good hk1 E2.out (by rw [u8_eq (n := 34) (by omega) d34]; exact ubR_esc (Or.inl rfl)) (by omega)
              clear E2 HD
              go_wp2_with (first
                | (at_builtin; refine append_own_bytes rfl (.tmp 73) (.tmp 78) 79 rfl base Tryd.underlying79 info_u8 _ _ _ _ done [34] _ rfl ho rfl rfl (by simp; omega) (by omega) ?_; intro v3 w3 ho3 hb3 hz3 hv3))
              have R : QI s n base w v3 (.int .i64 ((k : Int) + 2)) w3 := ⟨k + 2, done ++ [34], by omega, by omega, by go_num, ho3, by simp; omega, hb.trans hb3, by omega, HST.out⟩
              go_roundw
              case rel => first | exact R | ((repeat apply Exists.intro); exact ⟨R, rfl⟩)
              case measure => simp [intOf]; omega
            have d34' : ((s[k + 1].toNat : Int) == 34) = false := by simpa using d34
            by_cases d92 : (s[k + 1].toNat : Int) = 92
            · have HST : Hid (QRel s.data.toList n (k + 2) (done ++ [92])) := HR.out.good hk1 E2.out (by rw [u8_eq (n := 92) (by omega) d92]; exact ubR_esc (Or.inr rfl)) (by omega)
              clear E2 HD
              go_wp2_with (first
                | (at_builtin; refine append_own_bytes rfl (.tmp 73) (.tmp 78) 79 rfl base Tryd.underlying79 info_u8 _ _ _ _ done [92] _ rfl ho rfl rfl (by simp; omega) (by omega) ?_; intro v3 w3 ho3 hb3 hz3 hv3))
              have R : QI s n base w v3 (.int .i64 ((k : Int) + 2)) w3 := ⟨k + 2, done ++ [92], by omega, by omega, by go_num, ho3, by simp; omega, hb.trans hb3, by omega, HST.out⟩
              go_roundw
              case rel => first | exact R | ((repeat apply Exists.intro); exact ⟨R, rfl⟩)
              case measure => simp [intOf]; omega
            have d92' : ((s[k + 1].toNat : Int) == 92) = false := by simpa using d92
            by_cases d110 : (s[k + 1].toNat : Int) = 110
            · have HST : Hid (QRel s.data.toList n (k + 2) (done ++ [10])) := HR.out.good hk1 E2.out (by rw [u8_eq (n := 110) (by omega) d110]; exact ubR_n) (by omega)
              clear E2 HD
              go_wp2_with (first
                | (at_builtin; refine append_own_bytes rfl (.tmp 95) (.tmp 96) 79 rfl base Tryd.underlying79 info_u8 _ _ _ _ done [10] _ rfl ho rfl rfl (by simp; omega) (by omega) ?_; intro v3 w3 ho3 hb3 hz3 hv3))
              have R : QI s n base w v3 (.int .i64 ((k : Int) + 2)) w3 := ⟨k + 2, done ++ [10], by omega, by omega, by go_num, ho3, by simp; omega, hb.trans hb3, by omega, HST.out⟩
              go_roundw
              case rel => first | exact R | ((repeat apply Exists.intro); exact ⟨R, rfl⟩)
              case measure => simp [intOf]; omega
            have d110' : ((s[k + 1].toNat : Int) == 110) = false := by simpa using d110
            by_cases h3 : k + 3 < s.size
            · have h3' : (k : Int) + 3 < (s.size : Int) := by omega
              have h2' : (k : Int) + 2 < (s.size : Int) := by omega
              have h2 : k + 2 < s.size := by omega
              by_cases d120 : (s[k + 1].toNat : Int) = 120
              · have E4 : Hid (s.data.toList.drop k = (92 : UInt8) :: 120 :: s[k + 2] :: s[k + 3] :: s.data.toList.drop (k + 4)) := by
                  show _ = _; rw [E2.out, drop_cons' s (k + 2) h2, drop_cons' s (k + 3) h3, u8_eq (n := 120) (by omega) d120]; rfl
                clear E2 HD
                obtain ⟨b2, b2'⟩ := hexV_bd s[k + 2]
                obtain ⟨b3, b3'⟩ := hexV_bd s[k + 3]
                have HX0 := hexB_def s[k + 2] s[k + 3]
                have HG : Hid (∀ b, hexB s[k + 2] s[k + 3] = some b → QRel s.data.toList n (k + 4) (done ++ [b])) := fun b hb' => HR.out.good hk1 E4.out (ubR_hex hb') (by omega)
                have HF : Hid (hexB s[k + 2] s[k + 3] = none → qa s.data.toList n = ([], 0, false)) := fun hb' => HR.out.bad E4.out (by decide) (ubR_hexn hb')
                clear E4
                obtain ⟨B, hBe⟩ : ∃ B, B = hexB s[k + 2] s[k + 3] := ⟨_, rfl⟩
                rw [← hBe] at HX0 HG HF
                clear hBe
                obtain ⟨H, hHe⟩ : ∃ H, H = hexV s[k + 2] := ⟨_, rfl⟩
                obtain ⟨L, hLe⟩ : ∃ L, L = hexV s[k + 3] := ⟨_, rfl⟩
                rw [← hHe, ← hLe] at HX0
                rw [← hHe] at b2 b2'
                rw [← hLe] at b3 b3'
                replace hHe := hHe.symm
                replace hLe := hLe.symm
                have HX : Hid _ := HX0
                clear HX0
                by_cases hH : 0 ≤ H
                · by_cases hL : 0 ≤ L
                  · by_cases hbad : (32 ≤ 16 * H + L ∧ 16 * H + L ≤ 126) ∨ 16 * H + L = 10
                    · have HS : Hid (qa s.data.toList n = ([], 0, false)) := HF.out (by rw [HX.out, if_pos ⟨hH, hL⟩, if_pos hbad])
                      clear HX HG HF
                      rcases hbad with ⟨g1, g2⟩ | g1
                      · go_wp2_with (go_at_call 102; refine (hex_any _ _).mono ?_; rintro e w' ⟨rfl, rfl⟩)
                        go_quiet ((go_at_call 102; exact Calls.quiet_of_same (hex_any _ _)))
                        go_wp2
                        go_ret3
                        refine ⟨ret_qr (by rw [HS.out]) (by rw [HS.out]; rfl) (by rw [HS.out]), ?_⟩
                        rw [← HB.out]; exact below_drewN hb _
                      · go_wp2_with (go_at_call 102; refine (hex_any _ _).mono ?_; rintro e w' ⟨rfl, rfl⟩)
                        go_quiet ((go_at_call 102; exact Calls.quiet_of_same (hex_any _ _)))
                        go_wp2
                        go_ret3
                        refine ⟨ret_qr (by rw [HS.out]) (by rw [HS.out]; rfl) (by rw [HS.out]), ?_⟩
                        rw [← HB.out]; exact below_drewN hb _
                    · have HST : Hid (QRel s.data.toList n (k + 4) (done ++ [UInt8.ofNat (16 * H + L).toNat])) := HG.out _ (by rw [HX.out, if_pos ⟨hH, hL⟩, if_neg hbad])
                      obtain ⟨b, hbe⟩ : ∃ b, b = UInt8.ofNat (16 * H + L).toNat := ⟨_, rfl⟩
                      have HBV : Hid ((16 * H + L) = (b.toNat : Int)) := by show _ = _; rw [hbe]; simp; omega
                      rw [← hbe] at HST
                      clear HX HG HF hbe
                      have n10 : ((16 * H + L) == 10) = false := by simp; omega
                      rcases (by omega : 16 * H + L < 32 ∨ 126 < 16 * H + L) with g1 | g1
                      all_goals
                        go_wp2_with (go_at_call 102; refine (hex_any _ _).mono ?_; rintro e w' ⟨rfl, rfl⟩)
                        go_quiet ((go_at_call 102; exact Calls.quiet_of_same (hex_any _ _)))
                        go_wp2_with (at_builtin; refine append_own_bytes rfl (.tmp 152) (.tmp 154) 79 rfl base Tryd.underlying79 info_u8 _ _ _ _ done [b] _ rfl (ho.below (below_drewN (Below.refl _ _) _)) rfl (byteCells HBV.out) (by simp; omega) (by simp; omega) ?_; intro v3 w3 ho3 hb3 hz3 hv3)
                        have hb : Below base w _ := hb.trans ((below_drewN (Below.refl _ _) _).trans hb3)
                        have hz : base ≤ w3.heap.size := by simp at hz3; omega
                        have R : QI s n base w v3 (.int .i64 ((k : Int) + 4)) w3 := ⟨k + 4, done ++ [b], by omega, by omega, by go_num, ho3, by simp; omega, hb, hz, HST.out⟩
                        go_roundw
                        case rel => first | exact R | ((repeat apply Exists.intro); exact ⟨R, rfl⟩)
                        case measure => simp [intOf]; omega
                  · have HS : Hid (qa s.data.toList n = ([], 0, false)) := HF.out (by rw [HX.out, if_neg (by omega)])
                    clear HX HG HF
                    go_wp2_with (go_at_call 102; refine (hex_any _ _).mono ?_; rintro e w' ⟨rfl, rfl⟩)
                    go_ret3
                    refine ⟨ret_qr (by rw [HS.out]) (by rw [HS.out]; rfl) (by rw [HS.out]), ?_⟩
                    rw [← HB.out]; exact hb
                · have HS : Hid (qa s.data.toList n = ([], 0, false)) := HF.out (by rw [HX.out, if_neg (by omega)])
                  clear HX HG HF
                  go_wp2_with (go_at_call 102; refine (hex_any _ _).mono ?_; rintro e w' ⟨rfl, rfl⟩)
                  go_ret3
                  refine ⟨ret_qr (by rw [HS.out]) (by rw [HS.out]; rfl) (by rw [HS.out]), ?_⟩
                  rw [← HB.out]; exact hb
              · have d120' : ((s[k + 1].toNat : Int) == 120) = false := by simpa using d120
                have HS : Hid (qa s.data.toList n = ([], 0, false)) := HR.out.bad E2.out (by decide) (ubR_no (toNat_ne (n := 34) (by omega) d34) (toNat_ne (n := 92) (by omega) d92) (toNat_ne (n := 110) (by omega) d110) (toNat_ne (n := 120) (by omega) d120))
                clear E2 HD d34 d92 d110 d120
                go_wp2
                go_ret3
                refine ⟨ret_qr (by rw [HS.out]) (by rw [HS.out]; rfl) (by rw [HS.out]), ?_⟩
                rw [← HB.out]; exact hb
            · have h3' : ¬ (k : Int) + 3 < (s.size : Int) := by omega
              have HS : Hid (qa s.data.toList n = ([], 0, false)) := HR.out.bad E2.out (by decide) (ubR_short d34 d92 d110 (by simp; omega))
              clear E2 HD d34 d92 d110
              go_wp2
              go_ret3
              refine ⟨ret_qr (by rw [HS.out]) (by rw [HS.out]; rfl) (by rw [HS.out]), ?_⟩
              rw [← HB.out]; exact hb
          · have h1' : ¬ (k : Int) + 1 < (s.size : Int) := by omega
            have h3' : ¬ (k : Int) + 3 < (s.size : Int) := by omega
            have HS : Hid (qa s.data.toList n = ([], 0, false)) := by
              refine HR.out.bad HD.out (toNat_ne (n := 34) (by omega) h34) ?_
              have : s.data.toList.drop (k + 1) = [] := by rw [List.drop_eq_nil_iff]; simp; omega
              rw [this, e92]; exact ubR_one
            clear HD e92
            go_wp2
            go_ret3
            refine ⟨ret_qr (by rw [HS.out]) (by rw [HS.out]; rfl) (by rw [HS.out]), ?_⟩
            rw [← HB.out]; exact hb
        · have h92' : ((s[k].toNat : Int) != 92) = true := by simpa using h92
          by_cases hp : 32 ≤ (s[k].toNat : Int) ∧ (s[k].toNat : Int) ≤ 126
          · have HST : Hid (QRel s.data.toList n (k + 1) (done ++ [s[k]])) := HR.out.good hk1 HD.out (ubR_plain (by simp only [plU, plB, decide_eq_true_eq]; omega)) (by omega)
            obtain ⟨hp1, hp2⟩ := hp
            clear HD
            go_wp2_with (first
              | (at_builtin; refine append_own_bytes rfl (.tmp 47) (.tmp 49) 79 rfl base Tryd.underlying79 info_u8 _ _ _ _ done [s[k]] _ rfl ho rfl rfl (by simp; omega) (by omega) ?_; intro v3 w3 ho3 hb3 hz3 hv3))
            have R : QI s n base w v3 (.int .i64 ((k : Int) + 1)) w3 := ⟨k + 1, done ++ [s[k]], by omega, by omega, by go_num, ho3, by simp; omega, hb.trans hb3, by omega, HST.out⟩
            go_roundw
            case rel => first | exact R | ((repeat apply Exists.intro); exact ⟨R, rfl⟩)
            case measure => simp [intOf]; omega
          · have HS : Hid (qa s.data.toList n = ([], 0, false)) := HR.out.bad HD.out (toNat_ne (n := 34) (by omega) h34) (ubR_other (by simp only [plU, plB, decide_eq_false_iff_not]; omega) (toNat_ne (n := 92) (by omega) h92))
            clear HD
            rcases (by omega : (s[k].toNat : Int) < 32 ∨ 126 < (s[k].toNat : Int)) with hc1 | hc1
            all_goals
              go_wp2
              go_ret3
              refine ⟨ret_qr (by rw [HS.out]) (by rw [HS.out]; rfl) (by rw [HS.out]), ?_⟩
              rw [← HB.out]; exact hb
    · have HS : Hid (qa s.data.toList n = ([], 0, false)) := HR.out.fail (by
        have : s.data.toList.drop k = [] := by rw [List.drop_eq_nil_iff]; simp; omega
        rw [this, uq_nil])
      go_wp2
      go_ret3
      refine ⟨ret_qr (by rw [HS.out]) (by rw [HS.out]; rfl) (by rw [HS.out]), ?_⟩
      rw [← HB.out]; exact hb
end Go.Proofs.YtahcllncjpaijaaDoor.L1
namespace Go.Proofs.YtahcllncjpaijaaDoor.L1
open Go.RowKit

/-- What a quoted text stands for, if it is one and nothing else. -/
def unqT (l : List UInt8) : List UInt8 := if (l.head? = some 34 ∧ (qa l 0).2.2 = true ∧ (qa l 0).2.1 = l.length) then (qa l 0).1 else []
def unqB (l : List UInt8) : Bool := decide (l.head? = some 34 ∧ (qa l 0).2.2 = true ∧ (qa l 0).2.1 = l.length)
theorem unq_f {l : List UInt8} (h : ¬ (l.head? = some 34 ∧ (qa l 0).2.2 = true ∧ (qa l 0).2.1 = l.length)) : unqT l = [] ∧ unqB l = false := ⟨by simp only [unqT, if_neg h], by simp only [unqB, h, decide_false]⟩
theorem unq_t {l : List UInt8} (h : l.head? = some 34 ∧ (qa l 0).2.2 = true ∧ (qa l 0).2.1 = l.length) : unqT l = (qa l 0).1 ∧ unqB l = true := ⟨by simp only [unqT, if_pos h], by simp only [unqB, h, true_and, decide_true]⟩
theorem ret_unq {a b : List UInt8} {p q : Bool} (h : a = b) (h3 : p = q) : Ending.returned (.tuple #[.string ⟨a.toArray⟩, .bool p]) = .returned (.tuple #[.string ⟨b.toArray⟩, .bool q]) := by rw [h, h3]
theorem empty_of {s : ByteArray} (h : s.size = 0) : s = ByteArray.empty := by
  have : s.data = #[] := Array.eq_empty_of_size_eq_zero h
  cases s; simp at this; subst this; rfl
theorem head_of {s : ByteArray} (h : 0 < s.size) : s.data.toList.head? = some s[0] := by rw [bytes1 h]; rfl
theorem ne_of {s : ByteArray} (h : 0 < s.size) : ¬ s.toList = [] ∧ s.toList.isEmpty = false := by
  have e : ¬ s.toList = [] := by
    rw [ByteArray.toList_eq, bytes1 h]; simp
  exact ⟨e, by cases h : s.toList with | nil => exact absurd h e | cons => rfl⟩

end Go.Proofs.YtahcllncjpaijaaDoor.L1
