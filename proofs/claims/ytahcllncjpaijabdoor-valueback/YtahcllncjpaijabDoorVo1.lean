/- Values, plain: the order of trees is the order of what is laid out. -/
import Derived.Test.YtahcllncjpaijabDoorVc0
namespace Go.Proofs.YtahcllncjpaijabDoor
open Go.RowKit

/-- -1, 0 or 1. -/
def sgn (n : Int) : Int := if n < 0 then -1 else if 0 < n then 1 else 0
/-- Two texts, by their bytes. -/
def cmpT (a b : ByteArray) : Int := if a.data.toList < b.data.toList then -1 else if b.data.toList < a.data.toList then 1 else 0
mutual
/-- Two values held against each other. -/
def cmpV : Vt → Vt → Int
  | .nd k i tx ps, .nd k' i' tx' qs =>
    if k ≠ k' then sgn (k - k') else if k = 1 then sgn (i - i') else if k = 2 then cmpT tx tx' else cmpVL ps qs
def cmpVL : List Vt → List Vt → Int
  | [], [] => 0
  | [], _ :: _ => -1
  | _ :: _, [] => 1
  | p :: r, q :: s => if cmpV p q = 0 then cmpVL r s else cmpV p q
end
/-- A place laid out: how many lists begin there, the rank of its kind, its number, its text. -/
structure Pl where
  o : Int
  r : Int
  i : Int
  t : ByteArray
def rnk (k : Int) : Int := if k = 3 then 0 else k
def orI (a b : Int) : Int := if a = 0 then b else a
def cmpP (a b : Pl) : Int := orI (sgn (a.o - b.o)) (orI (sgn (a.r - b.r)) (orI (sgn (a.i - b.i)) (cmpT a.t b.t)))
def cmpQ : List Pl → List Pl → Int
  | [], _ => 0
  | _ :: _, [] => 0
  | a :: r, b :: s => if cmpP a b = 0 then cmpQ r s else cmpP a b
/-- One list more begins at the first place. -/
def bump : List Int → List Int
  | [] => []
  | a :: r => (a + 1) :: r
mutual
/-- How many lists begin at each place of a tree. -/
def opV : Vt → List Int
  | .nd k _ _ ps => if k = 3 then bump (opVL ps ++ [0]) else opVL ps ++ [0]
def opVL : List Vt → List Int
  | [] => []
  | t :: r => opV t ++ opVL r
end
def plc (o : Int) (a : Atm) : Pl := ⟨o, rnk a.kind, a.int, a.text⟩
/-- A tree laid out. -/
def layP (O : List Int) (l : List Atm) : List Pl := List.zipWith plc O l
theorem bump_len : ∀ l : List Int, (bump l).length = l.length
  | [] => rfl
  | _ :: _ => rfl
theorem bump_app : ∀ (a b : List Int), a ≠ [] → bump (a ++ b) = bump a ++ b
  | [], _, h => absurd rfl h
  | _ :: _, _, _ => rfl
mutual
theorem opV_len : ∀ t : Vt, (opV t).length = szV t
  | .nd k i tx ps => by
    have := opVL_len ps
    rw [opV, szV_nd]
    split
    · rw [bump_len, List.length_append, this]; rfl
    · rw [List.length_append, this]; rfl
theorem opVL_len : ∀ l : List Vt, (opVL l).length = szVL l
  | [] => rfl
  | t :: r => by rw [opVL, List.length_append, opV_len t, opVL_len r, szVL_cons]
end
theorem opV_ne (t : Vt) : opV t ≠ [] := fun e => by
  have h1 := opV_len t
  have h2 := szV_pos t
  rw [e] at h1
  simp at h1; omega
theorem opVL_app : ∀ (a b : List Vt), opVL (a ++ b) = opVL a ++ opVL b
  | [], b => by simp [opVL]
  | t :: r, b => by rw [List.cons_append, opVL, opVL, opVL_app r b, List.append_assoc]
/-- So many lists more begin at the first place. -/
def bumpN : Nat → List Int → List Int
  | 0, l => l
  | n + 1, l => bumpN n (bump l)
theorem bumpN_cons : ∀ (n : Nat) (a : Int) (r : List Int), bumpN n (a :: r) = (a + n) :: r
  | 0, a, r => by simp [bumpN]
  | n + 1, a, r => by rw [bumpN, bump, bumpN_cons n]; congr 1; omega
theorem bumpN_len : ∀ (n : Nat) (l : List Int), (bumpN n l).length = l.length
  | 0, _ => rfl
  | n + 1, l => by rw [bumpN, bumpN_len, bump_len]
theorem bumpN_app : ∀ (n : Nat) (a b : List Int), a ≠ [] → bumpN n (a ++ b) = bumpN n a ++ b
  | 0, _, _, _ => rfl
  | n + 1, a, b, h => by
    rw [bumpN, bumpN, bump_app a b h, bumpN_app n _ b (fun e => h (List.length_eq_zero_iff.1 (by rw [← bump_len, e]; rfl)))]
/-- A tree laid out, with n lists that begin ahead of it. -/
def seqV (n : Nat) (t : Vt) : List Pl := layP (bumpN n (opV t)) (flV t)
def seqL (l : List Vt) : List Pl := layP (opVL l) (flVL l)
def endP : Pl := ⟨0, 0, 0, ByteArray.empty⟩
theorem layP_app {a b : List Int} {l m : List Atm} (h : a.length = l.length) : layP (a ++ b) (l ++ m) = layP a l ++ layP b m := by
  unfold layP
  rw [List.zipWith_append h]
theorem seqL_cons (t : Vt) (r : List Vt) : seqL (t :: r) = seqV 0 t ++ seqL r := by
  unfold seqL seqV
  rw [opVL, flVL, bumpN, layP_app]
  rw [opV_len]; rfl
theorem seqL_nil : seqL [] = [] := rfl
/-- A list with members. -/
theorem seqV_list (n : Nat) (i : Int) (tx : ByteArray) (p : Vt) (r : List Vt) : seqV n (.nd 3 i tx (p :: r)) = seqV (n + 1) p ++ (seqL r ++ [⟨0, 0, i, tx⟩]) := by
  unfold seqV seqL
  rw [opV, if_pos rfl, opVL, flV, flVL, List.append_assoc, bump_app _ _ (opV_ne p), bumpN_app _ _ _ (fun e => opV_ne p (List.length_eq_zero_iff.1 (by rw [← bump_len, e]; rfl))), List.append_assoc, layP_app (by rw [bumpN_len, bump_len, opV_len]; rfl), layP_app (by rw [opVL_len]; rfl)]
  rfl
theorem seqV_nil (n : Nat) (k i : Int) (tx : ByteArray) : seqV n (.nd k i tx []) = [⟨(if k = 3 then 1 else 0) + (n : Int), rnk k, i, tx⟩] := by
  unfold seqV
  rw [opV, opVL, List.nil_append, flV, flVL, List.nil_append]
  split
  · rw [bump, bumpN_cons]; rfl
  · rw [bumpN_cons]; rfl
/-- The first place of a tree: as many lists begin there as are ahead, and itself if it is one. -/
theorem seqV_head : ∀ (t : Vt) (n : Nat), wfV t → ∃ x r, seqV n t = x :: r ∧ (n : Int) ≤ x.o ∧ (t.k = 3 → (n : Int) + 1 ≤ x.o) ∧ (t.k ≠ 3 → x.o = n ∧ x.r = t.k ∧ x.i = t.i ∧ x.t = t.tx ∧ r = []) ∧ (0 < x.r ∨ (n : Int) < x.o)
  | .nd k i tx [], n, h => by
    rw [wfV] at h
    have hk := (atB_n h.1).2.2
    simp only at hk
    refine ⟨_, [], seqV_nil n k i tx, ?_, ?_, ?_, ?_⟩
    · show (n : Int) ≤ (if k = 3 then 1 else 0) + (n : Int); split <;> omega
    · intro e
      have e : k = 3 := e
      show (n : Int) + 1 ≤ (if k = 3 then 1 else 0) + (n : Int); rw [if_pos e]; omega
    · intro e
      have e : k ≠ 3 := e
      refine ⟨?_, ?_, rfl, rfl, rfl⟩
      · show (if k = 3 then 1 else 0) + (n : Int) = n; rw [if_neg e]; omega
      · show rnk k = k; unfold rnk; rw [if_neg e]
    · by_cases e : k = 3
      · right; show (n : Int) < (if k = 3 then 1 else 0) + (n : Int); rw [if_pos e]; omega
      · left; show 0 < rnk k; unfold rnk; rw [if_neg e]; omega
  | .nd k i tx (p :: r), n, h => by
    rw [wfV] at h
    have hk := (atB_n h.1).2.1 (by simp; omega)
    simp only at hk
    subst hk
    have h2 := h.2
    rw [wfVL] at h2
    obtain ⟨x, s, h3, h4, _⟩ := seqV_head p (n + 1) h2.1
    refine ⟨x, _, by rw [seqV_list, h3]; rfl, by omega, fun _ => by omega, fun e => absurd rfl e, Or.inr (by omega)⟩
theorem sgn_neg {n : Int} (h : n < 0) : sgn n = -1 := by unfold sgn; rw [if_pos h]
theorem sgn_pos {n : Int} (h : 0 < n) : sgn n = 1 := by unfold sgn; rw [if_neg (by omega), if_pos h]
theorem sgn_zero : sgn 0 = 0 := rfl
theorem cmpP_o {a b : Pl} (h : a.o < b.o) : cmpP a b = -1 ∧ cmpP b a = 1 := by
  unfold cmpP orI
  rw [sgn_neg (n := a.o - b.o) (by omega), sgn_pos (n := b.o - a.o) (by omega)]
  exact ⟨rfl, rfl⟩
theorem cmpP_r {a b : Pl} (h0 : a.o = b.o) (h : a.r < b.r) : cmpP a b = -1 ∧ cmpP b a = 1 := by
  unfold cmpP orI
  rw [h0, Int.sub_self, sgn_neg (n := a.r - b.r) (by omega), sgn_pos (n := b.r - a.r) (by omega)]
  exact ⟨rfl, rfl⟩
theorem cmpT_same (a : ByteArray) : cmpT a a = 0 := by
  unfold cmpT
  rw [if_neg (List.lt_irrefl _), if_neg (List.lt_irrefl _)]
theorem cmpP_same (a : Pl) : cmpP a a = 0 := by
  unfold cmpP
  rw [Int.sub_self, Int.sub_self, Int.sub_self, sgn_zero, cmpT_same]; rfl
theorem cmpQ_lt {a b : Pl} {r s : List Pl} {x : Int} (h : cmpP a b = x) (hx : x ≠ 0) : cmpQ (a :: r) (b :: s) = x := by
  rw [cmpQ, if_neg (by omega), h]
theorem wf_end {i : Int} {tx : ByteArray} {ps : List Vt} (h : wfV (.nd 3 i tx ps)) : i = 0 ∧ tx = ByteArray.empty := by
  rw [wfV] at h
  have h1 := h.1
  unfold atB at h1
  simp at h1
  exact ⟨h1.1, h1.2⟩
theorem cmpV_k {k i k' i' : Int} {tx tx' : ByteArray} {ps qs : List Vt} (h : k ≠ k') : cmpV (.nd k i tx ps) (.nd k' i' tx' qs) = sgn (k - k') := by rw [cmpV, if_pos h]
theorem cmpV_l {i i' : Int} {tx tx' : ByteArray} {ps qs : List Vt} : cmpV (.nd 3 i tx ps) (.nd 3 i' tx' qs) = cmpVL ps qs := by rw [cmpV]; simp
/-- Kinds that differ: one of them a list, or a number and a text. -/
theorem seq_kinds {s t : Vt} (hs : wfV s) (ht : wfV t) (hk : s.k < t.k) (n : Nat) (r u : List Pl) : cmpQ (seqV n s ++ r) (seqV n t ++ u) = -1 ∧ cmpQ (seqV n t ++ u) (seqV n s ++ r) = 1 := by
  obtain ⟨x, a, h1, h2, h3, h4, _⟩ := seqV_head s n hs
  obtain ⟨y, b, g1, g2, g3, g4, _⟩ := seqV_head t n ht
  have ks : s.k = 1 ∨ s.k = 2 ∨ s.k = 3 := by cases s with | nd k i tx ps => rw [wfV] at hs; exact (atB_n hs.1).2.2
  have kt : t.k = 1 ∨ t.k = 2 ∨ t.k = 3 := by cases t with | nd k i tx ps => rw [wfV] at ht; exact (atB_n ht.1).2.2
  obtain ⟨e1, e2, _⟩ := h4 (by omega)
  rw [h1, g1, List.cons_append, List.cons_append]
  by_cases e3 : t.k = 3
  · have := cmpP_o (a := x) (b := y) (by have := g3 e3; omega)
    exact ⟨cmpQ_lt this.1 (by omega), cmpQ_lt this.2 (by omega)⟩
  · obtain ⟨e4, e5, _⟩ := g4 e3
    have := cmpP_r (a := x) (b := y) (by omega) (by omega)
    exact ⟨cmpQ_lt this.1 (by omega), cmpQ_lt this.2 (by omega)⟩
theorem ord_if (c x : Int) : (if c = 0 then x else c) = orI c x := rfl
theorem orI_assoc (a b c : Int) : orI (orI a b) c = orI a (orI b c) := by unfold orI; by_cases h : a = 0 <;> simp [h]
mutual
/-- A tree held against another one, place by place: as their order is; if they are the same, as what stands behind. -/
theorem seq_cmp : ∀ (s t : Vt) (n : Nat) (r u : List Pl), wfV s → wfV t → cmpQ (seqV n s ++ r) (seqV n t ++ u) = orI (cmpV s t) (cmpQ r u)
  | .nd k i tx ps, .nd k' i' tx' qs, n, r, u, hs, ht => by
    by_cases hk : k = k'
    · subst hk
      have ks : k = 1 ∨ k = 2 ∨ k = 3 := by have h := hs; rw [wfV] at h; exact (atB_n h.1).2.2
      by_cases h3 : k = 3
      · subst h3
        obtain ⟨rfl, rfl⟩ := wf_end hs
        obtain ⟨rfl, rfl⟩ := wf_end ht
        rw [cmpV_l]
        have hs2 : wfVL ps := by have h := hs; rw [wfV] at h; exact h.2
        have ht2 : wfVL qs := by have h := ht; rw [wfV] at h; exact h.2
        match ps, qs, hs2, ht2 with
        | [], [], _, _ =>
          rw [seqV_nil, List.cons_append, List.cons_append, cmpQ, if_pos (cmpP_same _), cmpVL]; rfl
        | [], q :: b, _, h2 =>
          rw [wfVL] at h2
          obtain ⟨y, c, g1, g2, g3, g4, g5⟩ := seqV_head q (n + 1) h2.1
          rw [seqV_nil, seqV_list, g1, List.cons_append, List.cons_append, List.cons_append, cmpVL]
          refine (cmpQ_lt (x := -1) ?_ (by omega)).trans (by unfold orI; rfl)
          simp only [if_true]
          rcases g5 with h | h
          · by_cases e : y.o = (n : Int) + 1
            · exact (cmpP_r (by show (1 : Int) + n = y.o; omega) (by show rnk 3 < y.r; unfold rnk; simp; exact h)).1
            · exact (cmpP_o (by show (1 : Int) + n < y.o; omega)).1
          · exact (cmpP_o (by show (1 : Int) + n < y.o; omega)).1
        | p :: a, [], h1, _ =>
          rw [wfVL] at h1
          obtain ⟨y, c, g1, g2, g3, g4, g5⟩ := seqV_head p (n + 1) h1.1
          rw [seqV_nil, seqV_list, g1, List.cons_append, List.cons_append, List.cons_append, cmpVL]
          refine (cmpQ_lt (x := 1) ?_ (by omega)).trans (by unfold orI; rfl)
          simp only [if_true]
          rcases g5 with h | h
          · by_cases e : y.o = (n : Int) + 1
            · exact (cmpP_r (by show (1 : Int) + n = y.o; omega) (by show rnk 3 < y.r; unfold rnk; simp; exact h)).2
            · exact (cmpP_o (by show (1 : Int) + n < y.o; omega)).2
          · exact (cmpP_o (by show (1 : Int) + n < y.o; omega)).2
        | p :: a, q :: b, h1, h2 =>
          rw [wfVL] at h1 h2
          rw [seqV_list, seqV_list, List.append_assoc (seqV (n + 1) p), List.append_assoc (seqV (n + 1) q), seq_cmp p q (n + 1) _ _ h1.1 h2.1, List.append_assoc, List.append_assoc, seqs_cmp a b r u h1.2 h2.2, cmpVL, ord_if, orI_assoc]
      · have e1 : ps = [] := by
          have h := hs; rw [wfV] at h
          by_cases e : ps = []
          · exact e
          · exact absurd ((atB_n h.1).2.1 (by simp; exact e)) h3
        have e2 : qs = [] := by
          have h := ht; rw [wfV] at h
          by_cases e : qs = []
          · exact e
          · exact absurd ((atB_n h.1).2.1 (by simp; exact e)) h3
        subst e1 e2
        rw [seqV_nil, seqV_nil, List.cons_append, List.cons_append, cmpQ, ord_if]
        congr 1
        unfold cmpP
        have hc : cmpV (.nd k i tx []) (.nd k i' tx' []) = if k = 1 then sgn (i - i') else if k = 2 then cmpT tx tx' else cmpVL [] [] := by rw [cmpV]; simp
        rw [hc]
        simp only [Int.sub_self, sgn_zero]
        have h1 := hs; rw [wfV] at h1
        have h2 := ht; rw [wfV] at h2
        rcases ks with e | e | e
        · subst e
          have a1 := h1.1
          have a2 := h2.1
          unfold atB at a1 a2
          simp at a1 a2
          have t1 : tx = tx' := a1.2.trans a2.2.symm
          subst t1
          rw [cmpT_same]
          simp [orI]
          intro e; exact e.symm
        · subst e
          have a1 := h1.1
          have a2 := h2.1
          unfold atB at a1 a2
          simp at a1 a2
          rw [a1.1, a2.1]
          simp [orI, sgn]
        · exact absurd e h3
    · rw [cmpV_k hk]
      by_cases h : k < k'
      · rw [(seq_kinds hs ht h n r u).1, sgn_neg (by omega)]; rfl
      · rw [(seq_kinds ht hs (show k' < k by omega) n u r).2, sgn_pos (by omega)]; rfl
theorem seqs_cmp : ∀ (ps qs : List Vt) (r u : List Pl), wfVL ps → wfVL qs → cmpQ (seqL ps ++ ([⟨0, 0, 0, ByteArray.empty⟩] ++ r)) (seqL qs ++ ([⟨0, 0, 0, ByteArray.empty⟩] ++ u)) = orI (cmpVL ps qs) (cmpQ r u)
  | [], [], r, u, _, _ => by
    rw [seqL_nil, List.nil_append, List.nil_append, List.cons_append, List.cons_append, cmpQ, if_pos (cmpP_same _), cmpVL]; rfl
  | [], q :: b, r, u, _, h2 => by
    rw [wfVL] at h2
    obtain ⟨y, c, g1, g2, g3, g4, g5⟩ := seqV_head q 0 h2.1
    rw [seqL_nil, seqL_cons, g1, List.nil_append, List.cons_append, List.cons_append, List.cons_append, cmpVL]
    refine (cmpQ_lt (x := -1) ?_ (by omega)).trans (by unfold orI; rfl)
    rcases g5 with h | h
    · by_cases e : y.o = 0
      · exact (cmpP_r (by show (0 : Int) = y.o; omega) (by show 0 < y.r; exact h)).1
      · exact (cmpP_o (by show (0 : Int) < y.o; omega)).1
    · exact (cmpP_o (by show (0 : Int) < y.o; omega)).1
  | p :: a, [], r, u, h1, _ => by
    rw [wfVL] at h1
    obtain ⟨y, c, g1, g2, g3, g4, g5⟩ := seqV_head p 0 h1.1
    rw [seqL_nil, seqL_cons, g1, List.nil_append, List.cons_append, List.cons_append, List.cons_append, cmpVL]
    refine (cmpQ_lt (x := 1) ?_ (by omega)).trans (by unfold orI; rfl)
    rcases g5 with h | h
    · by_cases e : y.o = 0
      · exact (cmpP_r (by show (0 : Int) = y.o; omega) (by show 0 < y.r; exact h)).2
      · exact (cmpP_o (by show (0 : Int) < y.o; omega)).2
    · exact (cmpP_o (by show (0 : Int) < y.o; omega)).2
  | p :: a, q :: b, r, u, h1, h2 => by
    rw [wfVL] at h1 h2
    rw [seqL_cons, seqL_cons, List.append_assoc, List.append_assoc, seq_cmp p q 0 _ _ h1.1 h2.1, seqs_cmp a b r u h1.2 h2.2, cmpVL, ord_if, orI_assoc]
end
/-- What is laid out, place by place, is in the trees' order. -/
theorem lay_cmp {s t : Vt} (hs : wfV s) (ht : wfV t) : cmpQ (layP (opV s) (flV s)) (layP (opV t) (flV t)) = cmpV s t := by
  have := seq_cmp s t 0 [] [] hs ht
  rw [List.append_nil, List.append_nil] at this
  refine this.trans ?_
  unfold orI
  split
  · rename_i e; rw [e]; rfl
  · rfl
end Go.Proofs.YtahcllncjpaijabDoor
