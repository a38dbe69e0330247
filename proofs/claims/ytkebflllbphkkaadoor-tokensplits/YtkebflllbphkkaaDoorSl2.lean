/- Tokens: the law TokenSplits. -/
import Derived.Test.YtkebflllbphkkaaDoorLm3
namespace Go.Proofs.YtkebflllbphkkaaDoor
open Go.RowKit

/-- The order behind a cancelling: only who hangs on whom counts. -/
def canO (up : Nat → Nat → Bool) (n : Nat) (od : List Nat) (p : Nat) : List Nat := if p ∈ od then od else od ++ p :: (List.range' (p + 1) (n - (p + 1))).filter (fun a => up a p && !decide (a ∈ od))
def expO (up : Nat → Nat → Bool) (n : Nat) (od : List Nat) (L : List Nat) : List Nat := L.foldl (canO up n) od
theorem canO_sub (up : Nat → Nat → Bool) (n : Nat) (od : List Nat) (p : Nat) : ∀ a ∈ od, a ∈ canO up n od p := fun a ha => by
  unfold canO
  split
  · exact ha
  · exact List.mem_append_left _ ha
theorem expT_od : ∀ (l : List Nat) (T : Tr), Inv T → (∀ p ∈ l, p < T.ns.length) → (expT T l).od = expO T.up T.ns.length T.od l
  | [], _, _, _ => rfl
  | x :: r, T, h, hl => by
    have hx := hl x (List.mem_cons_self ..)
    have ok := tokL_ok (tokE_dl (h.nk x hx))
    obtain ⟨c1, m1, i1, q1⟩ := cancelT_all h hx (tokL (T.n x).name dlC)
    have iv := i1 ok.1 ok.2
    have ih := expT_od r (cancelT T x (tokL (T.n x).name dlC)) iv (fun p hp => by rw [c1.len]; exact hl p (List.mem_cons_of_mem _ hp))
    rw [expT, ih, c1.len]
    have hup : (cancelT T x (tokL (T.n x).name dlC)).up = T.up := by funext a q; exact c1.up a q
    rw [hup]
    show _ = (x :: r).foldl (canO T.up T.ns.length) T.od
    rw [List.foldl_cons]
    unfold expO
    congr 1
    unfold canO
    by_cases hd : x ∈ T.od
    · rw [if_pos hd]; unfold cancelT; rw [if_pos hd]
    · rw [if_neg hd]
      obtain ⟨F, e1, e2, _⟩ := q1 hd
      rw [e1, e2]
theorem expO_skip (up : Nat → Nat → Bool) (n : Nat) (od0 : List Nat) : ∀ (L od : List Nat), (∀ a ∈ od0, a ∈ od) → expO up n od L = expO up n od (L.filter (fun a => !decide (a ∈ od0)))
  | [], _, _ => rfl
  | x :: r, od, h => by
    show (x :: r).foldl (canO up n) od = _
    rw [List.foldl_cons]
    have ih := expO_skip up n od0 r (canO up n od x) (fun a ha => canO_sub up n od x a (h a ha))
    unfold expO at ih
    rw [ih]
    by_cases hx : x ∈ od0
    · rw [List.filter_cons_of_neg (by simp [hx])]
      unfold expO
      congr 1
      unfold canO
      rw [if_pos (h x hx)]
    · rw [List.filter_cons_of_pos (by simp [hx])]
      rfl
def lexI (til : Nat → Int) (a b : Nat) : Prop := til a < til b ∨ (til a = til b ∧ a < b)
theorem lex_eq {til : Nat → Int} {l m : List Nat} (h1 : l.Pairwise (lexI til)) (h2 : m.Pairwise (lexI til)) (hp : l.Perm m) : l = m :=
  List.Perm.eq_of_pairwise (fun a b _ _ q1 q2 => by unfold lexI at q1 q2; omega) h1 h2 hp
theorem split_od {T : Tr} (h : Inv T) {x y : Int} (hx : 0 ≤ x) (hy : 0 ≤ y) (hm : T.now + x + y ≤ 1099511627776) {E1 E2 E : List Nat} (h1 : DU (nowT T (T.now + x)) E1) (h2 : DU (nowT (expT (nowT T (T.now + x)) E1) (T.now + x + y)) E2) (h3 : DU (nowT T (T.now + x + y)) E) :
    (expT (nowT (expT (nowT T (T.now + x)) E1) (T.now + x + y)) E2).od = (expT (nowT T (T.now + x + y)) E).od := by
  have h0 := h.tm
  have i1 := nowT_inv h (n := T.now + x) (by omega) (by omega)
  obtain ⟨c1, v1, m1⟩ := expT_all E1 _ i1 h1.lt
  have i3 := nowT_inv h (n := T.now + x + y) (by omega) hm
  have o1 := expT_od E1 _ i1 h1.lt
  generalize expT (nowT T (T.now + x)) E1 = T1 at *
  have i2 := nowT_inv v1 (n := T.now + x + y) (by omega) hm
  rw [expT_od E2 _ i2 h2.lt, expT_od E _ i3 h3.lt]
  have up1 : (nowT T1 (T.now + x + y)).up = T.up := by funext a q; exact c1.up a q
  have l1 : (nowT T1 (T.now + x + y)).ns.length = T.ns.length := c1.len
  rw [up1, l1]
  show expO T.up T.ns.length T1.od E2 = expO T.up T.ns.length T.od E
  have o1' : T1.od = expO T.up T.ns.length T.od E1 := o1
  -- the due ones
  have sE : E.Pairwise (lexI fun p => (T.n p).til) := h3.ord
  have sE1 : E1.Pairwise (lexI fun p => (T.n p).til) := h1.ord
  have sE2 : E2.Pairwise (lexI fun p => (T.n p).til) := h2.ord.imp (fun {a b} q => by
    have ea : ((nowT T1 (T.now + x + y)).n a).til = (T.n a).til := c1.til a
    have eb : ((nowT T1 (T.now + x + y)).n b).til = (T.n b).til := c1.til b
    unfold lexL at q
    rw [ea, eb] at q
    exact q)
  have pE : E.Perm ((List.range T.ns.length).filter fun p => decide ((T.n p).til ≤ T.now + x + y) && !decide (p ∈ T.od)) := h3.pm
  have pE1 : E1.Perm ((List.range T.ns.length).filter fun p => decide ((T.n p).til ≤ T.now + x) && !decide (p ∈ T.od)) := h1.pm
  have pE2 : E2.Perm ((List.range T.ns.length).filter fun p => decide ((T.n p).til ≤ T.now + x + y) && !decide (p ∈ T1.od)) := by
    have := h2.pm
    rw [l1] at this
    refine this.trans ?_
    unfold dueK
    have : (List.range T.ns.length).filter (dueB (nowT T1 (T.now + x + y))) = (List.range T.ns.length).filter fun p => decide ((T.n p).til ≤ T.now + x + y) && !decide (p ∈ T1.od) := List.filter_congr (fun p _ => by
      unfold dueB
      have ea : ((nowT T1 (T.now + x + y)).n p).til = (T.n p).til := c1.til p
      rw [ea]
      rfl)
    rw [this]
  have inE1 : ∀ p, p < T.ns.length → (T.n p).til ≤ T.now + x → p ∉ T.od → p ∈ T1.od := fun p hp ht hd => (m1 p).2 (Or.inr ⟨p, by
    rw [pE1.mem_iff, List.mem_filter, List.mem_range]
    exact ⟨hp, by simp [ht, hd]⟩, Or.inl rfl⟩)
  have sub : ∀ p ∈ T.od, p ∈ T1.od := fun p hp => c1.od.subset hp
  have eE : E = E1 ++ E.filter (fun p => !decide ((T.n p).til ≤ T.now + x)) := by
    have e1 : E1 = E.filter (fun p => decide ((T.n p).til ≤ T.now + x)) := lex_eq sE1 (sE.filter _) (pE1.trans (by
      refine List.Perm.symm ((pE.filter _).trans ?_)
      rw [List.filter_filter]
      have : (List.range T.ns.length).filter (fun p => decide ((T.n p).til ≤ T.now + x) && (decide ((T.n p).til ≤ T.now + x + y) && !decide (p ∈ T.od))) = (List.range T.ns.length).filter (fun p => decide ((T.n p).til ≤ T.now + x) && !decide (p ∈ T.od)) := List.filter_congr (fun p _ => by
        by_cases q : (T.n p).til ≤ T.now + x
        · have : (T.n p).til ≤ T.now + x + y := by omega
          simp [q, this]
        · simp [q])
      rw [this]))
    rw [e1]
    refine lex_eq sE ?_ (List.filter_append_perm _ E).symm
    refine List.pairwise_append.2 ⟨sE.filter _, sE.filter _, fun a ha b hb => ?_⟩
    have q1 := (List.mem_filter.1 ha).2
    have q2 := (List.mem_filter.1 hb).2
    simp at q1 q2
    exact Or.inl (show (T.n a).til < (T.n b).til by omega)
  have eE2 : E2 = (E.filter (fun p => !decide ((T.n p).til ≤ T.now + x))).filter (fun a => !decide (a ∈ T1.od)) := by
    refine lex_eq sE2 ((sE.filter _).filter _) (pE2.trans ?_)
    refine List.Perm.symm (((pE.filter _).filter _).trans ?_)
    rw [List.filter_filter, List.filter_filter]
    have : (List.range T.ns.length).filter (fun a => !decide (a ∈ T1.od) && !decide ((T.n a).til ≤ T.now + x) && (decide ((T.n a).til ≤ T.now + x + y) && !decide (a ∈ T.od))) = (List.range T.ns.length).filter (fun p => decide ((T.n p).til ≤ T.now + x + y) && !decide (p ∈ T1.od)) := List.filter_congr (fun p hp => by
      have hp' := List.mem_range.1 hp
      by_cases q : p ∈ T1.od
      · simp [q]
      · have q1 : p ∉ T.od := fun z => q (sub p z)
        have q2 : ¬ (T.n p).til ≤ T.now + x := fun z => q (inE1 p hp' z q1)
        simp [q, q1, q2])
    rw [this]
  rw [eE2, eE, o1']
  unfold expO
  rw [List.foldl_append]
  have := expO_skip T.up T.ns.length T1.od (E.filter (fun p => !decide ((T.n p).til ≤ T.now + x))) T1.od (fun a ha => ha)
  unfold expO at this o1'
  rw [← o1', ← eE]
  exact this.symm
end Go.Proofs.YtkebflllbphkkaaDoor
namespace Go.Proofs.YtkebflllbphkkaaDoor
open Go.RowKit

theorem TV.keepB {w w' : World} {base b : Nat} {F G : Nat → Prop} {T : Tr} (h : TV w base b G T) (k : But F w w') (hF : OkF w F) (hge : ∀ x, F x → base ≤ x) (hd : ∀ x, G x → ¬ F x) : TV w' base b G T := by
  obtain ⟨cb, mb, nv, ov, L, t, e⟩ := h.ex
  refine ⟨⟨cb, mb, nv, ov, L, t.keep k hF (fun x hx => hd x (by rw [e]; exact hx)), e⟩, h.ge, Nat.le_trans h.sz k.size, h.fb.below (k.to hge h.sz), h.inv⟩
/-- Two trees that share nothing. -/
structure TT (w0 w : World) (base b1 b2 : Nat) (T U : Tr) : Prop where
  ex : ∃ F G, TV w base b1 F T ∧ TV w base b2 G U ∧ (∀ x, F x → ¬ G x) ∧ Below base w0 w
theorem TT.swap {w0 w : World} {base b1 b2 : Nat} {T U : Tr} (h : TT w0 w base b1 b2 T U) : TT w0 w base b2 b1 U T := by
  obtain ⟨F, G, h1, h2, h3, h4⟩ := h.ex
  exact ⟨G, F, h2, h1, fun x q z => h3 x z q, h4⟩
theorem TT.below {w0 w w' : World} {base b1 b2 : Nat} {T U : Tr} (h : TT w0 w base b1 b2 T U) (k : Below w.heap.size w w') : TT w0 w' base b1 b2 T U := by
  obtain ⟨F, G, h1, h2, h3, h4⟩ := h.ex
  exact ⟨F, G, h1.below k, h2.below k, h3, h4.trans (k.mono h1.sz)⟩
theorem TT.ps {w0 w : World} {base b1 b2 : Nat} {T U : Tr} (h : TT w0 w base b1 b2 T U) : PS w0 w base b1 T := by
  obtain ⟨F, G, h1, h2, h3, h4⟩ := h.ex
  exact ⟨F, h1, h4⟩
/-- What Advance answers, plainly. -/
def AdvP (T : Tr) (x err : Int) (l : List ByteArray) (U : Tr) : Prop := (err = 0 ∧ 0 ≤ x ∧ T.now + x ≤ 1099511627776 ∧ l.length ≤ 256 ∧ ∃ E, DU (nowT T (T.now + x)) E ∧ U = expT (nowT T (T.now + x)) E ∧ l = nmL U T.od.length) ∨ err = 1
theorem adv_tt {w0 W : World} {base b1 b2 : Nat} {T U : Tr} (h : TT w0 W base b1 b2 T U) (x : Int) :
    Calls Tryd.prog 15 #[.pointer (some ⟨b1, 0, none⟩), .int .i64 x] W fun e w' => ∃ v l err V, e = .returned (.tuple #[v, .int .i64 err]) ∧ OwnG KS w' 0 v l ∧ AdvP T x err l V ∧ TT w0 w' base b1 b2 V U ∧ Kp W w' := by
  obtain ⟨F, G, h1, h2, h3, h4⟩ := h.ex
  have go : ∀ w' V, TVu W base b1 F w' V → TT w0 w' base b1 b2 V U ∧ Kp W w' := by
    rintro w' V ⟨F', q1, q2, q3⟩
    refine ⟨⟨F', G, q1, h2.keepB q2 h1.ok h1.ge (fun x hx z => h3 x z hx), fun x hx z => ?_, h4.trans (q2.to h1.ge h1.sz)⟩, Kp.of_but q2 h1.ok⟩
    rcases q3 x hx with q | q
    · exact h3 x q z
    · have := h2.ok.lt z
      omega
  refine (advance_any W base b1 F T h1 x).mono ?_
  rintro e w' (⟨hm, E, hE, ⟨u, rfl, hu⟩, q⟩ | ⟨hm, ⟨u, rfl, hu⟩, q⟩)
  · have hb : 0 ≤ x ∧ T.now + x ≤ 1099511627776 := by
      unfold mayB at hm
      have := of_decide_eq_true hm
      omega
    obtain ⟨t1, t2⟩ := go _ _ q
    refine ⟨u, _, 0, _, rfl, hu.low (Nat.zero_le _), Or.inl ⟨rfl, hb.1, hb.2, ?_, E, hE, rfl, rfl⟩, t1, t2⟩
    have i9 := t1.ps.inv
    have := nodup_len _ _ i9.nd i9.lt
    have := i9.len
    unfold nmL
    rw [List.length_map, List.length_drop]
    omega
  · obtain ⟨t1, t2⟩ := go _ _ q
    exact ⟨u, [], 1, T, rfl, hu.low (Nat.zero_le _), Or.inr rfl, t1, t2⟩
theorem AdvP.zero {T U : Tr} {x : Int} {l : List ByteArray} (h : AdvP T x 0 l U) : 0 ≤ x ∧ T.now + x ≤ 1099511627776 ∧ l.length ≤ 256 ∧ ∃ E, DU (nowT T (T.now + x)) E ∧ U = expT (nowT T (T.now + x)) E ∧ l = nmL U T.od.length := by
  rcases h with ⟨_, h⟩ | h
  · exact h
  · cases h
theorem split_all {T V1 V2 U : Tr} (h : Inv T) {x y : Int} {l1 l2 l3 : List ByteArray} (h1 : AdvP T x 0 l1 V1) (h2 : AdvP V1 y 0 l2 V2) (h3 : AdvP T (x + y) 0 l3 U) : l1 ++ l2 = l3 ∧ V2.od = U.od ∧ nmO V2 = nmO U ∧ V2.now = U.now := by
  obtain ⟨x0, x1, _, E1, d1, rfl, rfl⟩ := h1.zero
  obtain ⟨y0, y1, _, E2, d2, rfl, rfl⟩ := h2.zero
  obtain ⟨z0, z1, _, E, d3, rfl, rfl⟩ := h3.zero
  clear h1 h2 h3
  have h0 := h.tm
  have i1 := nowT_inv h (n := T.now + x) (by omega) x1
  obtain ⟨c1, v1, _⟩ := expT_all E1 _ i1 d1.lt
  have n1 : (expT (nowT T (T.now + x)) E1).now = T.now + x := c1.now
  rw [n1] at d2 y1 ⊢
  rw [show T.now + (x + y) = T.now + x + y by omega] at d3 ⊢
  have od := split_od h x0 y0 y1 d1 d2 d3
  have i2 := nowT_inv v1 (n := T.now + x + y) (by omega) y1
  obtain ⟨c2, v2, _⟩ := expT_all E2 _ i2 d2.lt
  have i3 := nowT_inv h (n := T.now + x + y) (by omega) y1
  obtain ⟨c3, v3, _⟩ := expT_all E _ i3 d3.lt
  generalize expT (nowT T (T.now + x + y)) E = U at *
  generalize expT (nowT T (T.now + x)) E1 = V1 at *
  generalize expT (nowT V1 (T.now + x + y)) E2 = V2 at *
  have nm1 : ∀ a, (V1.n a).name = (T.n a).name := fun a => c1.name a
  have nm2 : ∀ a, (V2.n a).name = (T.n a).name := fun a => (c2.name a).trans (nm1 a)
  have nm3 : ∀ a, (U.n a).name = (T.n a).name := fun a => c3.name a
  obtain ⟨s1, e1⟩ : T.od <+: V1.od := c1.od
  obtain ⟨s2, e2⟩ : V1.od <+: V2.od := c2.od
  refine ⟨?_, od, ?_, c2.now.trans c3.now.symm⟩
  · unfold nmL
    rw [← od, ← e2]
    simp only [nm1, nm2, nm3]
    rw [← e1, List.drop_left' rfl, List.drop_left' rfl, List.append_assoc, List.drop_left' rfl, List.map_append]
  · unfold nmO
    rw [od]
    simp only [nm2, nm3]
set_option maxHeartbeats 32000000 in
set_option maxRecDepth 100000 in
theorem splits_any (w0 : World) (va : Value) (la : List Cx) (aa bb : Int) (hA : ARG w0 va la) (hfb : FB w0 w0.heap.size) :
    Calls Tryd.prog 5 #[va, .int .i64 aa, .int .i64 bb] w0 fun e w' => e = .returned (.bool true) ∧ Below w0.heap.size w0 w' := by
  obtain ⟨pa, ca, rfl⟩ := hA.gs.form
  obtain ⟨base, hbase⟩ : ∃ base, base = w0.heap.size := ⟨_, rfl⟩
  have WK : Hid (Calls Tryd.prog 7 #[] w0 fun e w' => e = .returned (.bool true) ∧ Below base w0 w') := works_any w0 base (by omega) (by rw [hbase]; exact hfb)
  have PL : Hid (∀ w, Below base w0 w → Calls Tryd.prog 8 #[.slice pa la.length ca] w fun e w' => PlR w0 base w' e) := fun w hb => played_any w0 w base _ la hA hbase hb ((by rw [hbase] at hb ⊢; exact hfb.below hb))
  rw [← hbase]
  clear hA hfb hbase
  go_enter Tryd.func5, Tryd.ntmps5
  go_upto_region 6 with (first | (go_at_call 7; refine WK.out.mono ?_; rintro e w1 ⟨rfl, q⟩; have B1 := hid q; clear q) | (go_at_call 8; refine (PL.out w1 B1.out).mono ?_; rintro e w2 ⟨b, T, rfl, q⟩; have P2 := hid q; clear q))
  have CL : Hid (Calls Tryd.prog 20 #[.pointer (some ⟨b, 0, none⟩)] w2 fun e w' => ∃ b2, e = .returned (.pointer (some ⟨b2, 0, none⟩)) ∧ TT w0 w' base b b2 T T) := by
    obtain ⟨F, h1, h2⟩ := P2.out
    refine (tclone_any w2 base b F T h1).mono ?_
    rintro e w' ⟨b2, G, rfl, q1, q2, q3⟩
    refine ⟨b2, rfl, F, G, h1.below q3, q1, fun x hx hg => ?_, h2.trans (q3.mono h1.sz)⟩
    have := h1.ok.lt hx
    have := q2 x hg
    omega
  clear WK PL B1 P2
  go_upto_region 9 with (go_at_call 20; refine CL.out.mono ?_; rintro e w3 ⟨b2, rfl, q⟩; have T3 := hid q; clear q)
  have A1 := hid (among_any aa 1048576 w3 (by decide) (by decide))
  have A2 := hid (among_any bb 1048576 w3 (by decide) (by decide))
  clear CL
  go_upto_region 10 with (first | (go_at_call 11; refine A1.out.mono ?_; rintro e w4 ⟨⟨x, rfl, x0, x1⟩, hw4⟩; subst w4; clear A1) | (go_at_call 11; refine A2.out.mono ?_; rintro e w4 ⟨⟨y, rfl, y0, y1⟩, hw4⟩; subst w4; clear A2))
  have C1 := hid (adv_tt T3.out x)
  go_upto_region 11 with (go_at_call 15; refine C1.out.mono ?_; rintro e w5 ⟨v1, l1, err1, V1, rfl, q1, q2, q3, q4⟩; have X5 := hid q1; have D1 := hid q2; have T5 := hid q3; clear q1 q2 q3 q4)
  have C2 := hid (adv_tt T5.out y)
  go_upto_region 12 with (go_at_call 15; refine C2.out.mono ?_; rintro e w6 ⟨v2, l2, err2, V2, rfl, q1, q2, q3, q4⟩; have X6 := hid (X5.out.kp q4 ks_no); have Y6 := hid q1; have D2 := hid q2; have T6 := hid q3; clear q1 q2 q3 q4)
  have C3 := hid (adv_tt T6.out.swap (x + y))
  go_upto_region 13 with (go_at_call 15; refine C3.out.mono ?_; rintro e w7 ⟨v3, l3, err3, U, rfl, q1, q2, q3, q4⟩; have X7 := hid (X6.out.kp q4 ks_no); have Y7 := hid (Y6.out.kp q4 ks_no); have Z7 := hid q1; have D3 := hid q2; have T7 := hid q3.swap; clear q1 q2 q3 q4)
  have HI := hid T3.out.ps.inv
  clear C1 C2 C3 T3 T5 T6 X5 X6 Y6
  have B7 := hid T7.out.ps.bl
  have e1 : err1 = 0 ∨ err1 = 1 := D1.out.elim (fun q => Or.inl q.1) Or.inr
  have e2 : err2 = 0 ∨ err2 = 1 := D2.out.elim (fun q => Or.inl q.1) Or.inr
  have e3 : err3 = 0 ∨ err3 = 1 := D3.out.elim (fun q => Or.inl q.1) Or.inr
  by_cases h1 : err1 = 1
  · subst h1
    clear D1 D2 D3 X7 Y7 Z7 T7 e1 HI
    rcases e2 with rfl | rfl <;> rcases e3 with rfl | rfl
    all_goals
      go_wp2_with fail
      go_ret
      exact ⟨rfl, B7.out⟩
  have z1 : err1 = 0 := by omega
  subst z1
  by_cases h2 : err2 = 1
  · subst h2
    clear D1 D2 D3 X7 Y7 Z7 T7 e1 e2 HI h1
    rcases e3 with rfl | rfl
    all_goals
      go_wp2_with fail
      go_ret
      exact ⟨rfl, B7.out⟩
  have z2 : err2 = 0 := by omega
  subst z2
  by_cases h3 : err3 = 1
  · subst h3
    clear D1 D2 D3 X7 Y7 Z7 T7 e1 e2 e3 HI h1 h2
    go_wp2_with fail
    go_ret
    exact ⟨rfl, B7.out⟩
  have z3 : err3 = 0 := by omega
  subst z3
  obtain ⟨s1, s2, s3, s4⟩ := split_all HI.out D1.out D2.out D3.out
  have q1 := D1.out.zero.2.2.1
  have q2 := D2.out.zero.2.2.1
  have q3 := D3.out.zero.2.2.1
  have iv := T7.out.ps.inv
  have hol : V2.od.length ≤ 256 := Nat.le_trans (nodup_len _ _ iv.nd iv.lt) iv.len
  have dn : ∀ (W : World) (n : Nat), Below W.heap.size W (W.drewN n) := fun W n => ⟨rfl, rfl, rfl, Nat.le_refl _, fun _ _ => rfl⟩
  have AL : Hid (Below w7.heap.size w7 (w7.alloc (.cells #[] 9))) := (Below.refl _ _).alloc (Nat.le_refl _) _
  have TX1 : Hid (∀ w9 v9, OwnG KS w9 w7.heap.size v9 ([] ++ l1 ++ l2) → Below w7.heap.size w7 w9 → Calls Tryd.prog 16 #[v9, v3] w9 fun e w' => e = .returned (.bool true) ∧ TT w0 w' base b b2 V2 U) := fun w9 v9 ho hb => by
    rw [List.nil_append, s1] at ho
    refine (texts_same w9 v9 v3 l3 (ho.gs KS_ok.len) ((Z7.out.gs KS_ok.len).below hb) (by omega)).mono ?_
    rintro e w' ⟨rfl, n, rfl⟩
    exact ⟨rfl, (T7.out.below hb).below (dn w9 n)⟩
  have OR1 : Hid (∀ W, TT w0 W base b b2 V2 U → Calls Tryd.prog 9 #[.pointer (some ⟨b, 0, none⟩)] W fun e w' => ∃ u, e = .returned u ∧ OwnG KS w' 0 u (nmO V2) ∧ TT w0 w' base b b2 V2 U) := fun W h => by
    refine (order_ps h.ps).mono ?_
    rintro e w' ⟨g, rfl, q1, _, q3⟩
    exact ⟨_, rfl, q1.low (Nat.zero_le _), h.below q3⟩
  have OR2 : Hid (∀ W u, TT w0 W base b b2 V2 U → OwnG KS W 0 u (nmO V2) → Calls Tryd.prog 9 #[.pointer (some ⟨b2, 0, none⟩)] W fun e w' => ∃ v, e = .returned v ∧ Calls Tryd.prog 16 #[u, v] w' fun e w' => e = .returned (.bool true) ∧ TT w0 w' base b b2 V2 U) := fun W u h ho => by
    refine (order_ps h.swap.ps).mono ?_
    rintro e w' ⟨g, rfl, q1, _, q3⟩
    refine ⟨_, rfl, ?_⟩
    rw [← s3] at q1
    refine (texts_same w' u _ (nmO V2) ((ho.gs KS_ok.len).below q3) (q1.gs KS_ok.len) (by unfold nmO; rw [List.length_map]; omega)).mono ?_
    rintro e w'' ⟨rfl, n, rfl⟩
    exact ⟨rfl, (h.below q3).below (dn w' n)⟩
  obtain ⟨nw, hnw⟩ : ∃ nw, nw = V2.now := ⟨_, rfl⟩
  have NW1 : Hid (∀ W, TT w0 W base b b2 V2 U → (Calls Tryd.prog 21 #[.pointer (some ⟨b, 0, none⟩)] W fun e w' => e = .returned (.int .i64 nw) ∧ w' = W) ∧ (Calls Tryd.prog 21 #[.pointer (some ⟨b2, 0, none⟩)] W fun e w' => e = .returned (.int .i64 nw) ∧ w' = W) ∧ Below base w0 W) := fun W h => by
    refine ⟨?_, ?_, h.ps.bl⟩
    · rw [hnw]; exact now_ps h.ps
    · rw [hnw, s4]; exact now_ps h.swap.ps
  clear D1 D2 D3 HI s1 s2 s3 s4 iv hol hnw h1 h2 h3 e1 e2 e3 T7
  go_wp2_with (first
    | (at_builtin; refine append_gs KS KS_ok rfl _ _ 26 rfl w7.heap.size Tryd.underlying26 (w7.alloc (.cells #[] 9)) (.slice (some ⟨w7.heap.size, 0, none⟩) 0 0) v1 [] l1 rfl rfl (OwnG.empty KS w7) ((X7.out.gs KS_ok.len).below AL.out) (by show (0 + _) * 16 ≤ _; omega) AL.out.size ?_; intro v8 w8 o8 b8 k8; have O8 := hid o8; have B8 := hid (AL.out.trans b8); clear o8 b8 k8 X7)
    | (at_builtin; refine append_gs KS KS_ok rfl _ _ 26 rfl w7.heap.size Tryd.underlying26 w8 v8 v2 ([] ++ l1) l2 rfl rfl O8.out ((Y7.out.gs KS_ok.len).below B8.out) (by rw [List.nil_append]; show (_ + _) * 16 ≤ _; omega) B8.out.size ?_; intro v9 w9 o9 b9 k9; have C9 := hid (TX1.out w9 v9 o9 (B8.out.trans b9)); clear o9 b9 k9 O8)
    | (go_at_call 16; refine C9.out.mono ?_; rintro e w10 ⟨rfl, q⟩; have C10 := hid (OR1.out w10 q); clear q C9)
    | (go_at_call 9; refine C10.out.mono ?_; rintro e w11 ⟨u11, rfl, q, q'⟩; have C11 := hid (OR2.out w11 u11 q' q); clear q q' C10)
    | (go_at_call 9; refine C11.out.mono ?_; rintro e w12 ⟨u12, rfl, q⟩; have C12 := hid q; clear q C11)
    | (go_at_call 16; refine C12.out.mono ?_; rintro e w13 ⟨rfl, q⟩; have C13 := hid (NW1.out w13 q); clear q C12)
    | (go_at_call 21; refine C13.out.1.mono ?_; rintro e w14 ⟨rfl, hw⟩; subst w14)
    | (go_at_call 21; refine C13.out.2.1.mono ?_; rintro e w14 ⟨rfl, hw⟩; subst w14))
  go_ret
  exact ⟨rfl, C13.out.2.2⟩
end Go.Proofs.YtkebflllbphkkaaDoor
