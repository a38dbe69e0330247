/- Values as trees, plain: stacks of wholes, depths, where wholes begin. -/
import Derived.RowKit
namespace Go.Proofs.YtbgeihgenckihaaDoor
open Go.RowKit

/-- An atom. -/
structure Atm where
  kind : Int
  n : Int
  int : Int
  text : ByteArray
/-- May it be, but for what stands ahead of it? -/
def atB (a : Atm) : Bool :=
  if a.kind = 1 then decide (a.n = 0) && decide (-9007199254740992 ≤ a.int ∧ a.int ≤ 9007199254740992) && decide (a.text.size = 0)
  else if a.kind = 2 then decide (a.n = 0) && decide (a.int = 0) && decide (a.text.size ≤ 4096)
  else if a.kind = 3 then decide (0 ≤ a.n) && decide (a.int = 0) && decide (a.text.size = 0) else false
theorem atB_n {a : Atm} (h : atB a = true) : 0 ≤ a.n ∧ (a.n ≠ 0 → a.kind = 3) ∧ (a.kind = 1 ∨ a.kind = 2 ∨ a.kind = 3) := by
  unfold atB at h
  split at h
  · simp at h; refine ⟨by omega, fun e => absurd h.1.1 e, Or.inl (by assumption)⟩
  · split at h
    · simp at h; refine ⟨by omega, fun e => absurd h.1.1 e, Or.inr (Or.inl (by assumption))⟩
    · split at h
      · simp at h; exact ⟨h.1.1, fun _ => by assumption, Or.inr (Or.inr (by assumption))⟩
      · cases h
/-- A value as a tree: the last atom, and the parts ahead of it. -/
inductive Vt where
  | nd (k i : Int) (tx : ByteArray) (ps : List Vt)
def Vt.k : Vt → Int | .nd k _ _ _ => k
def Vt.i : Vt → Int | .nd _ i _ _ => i
def Vt.tx : Vt → ByteArray | .nd _ _ t _ => t
def Vt.ps : Vt → List Vt | .nd _ _ _ p => p
mutual
/-- Its atoms, each behind its parts. -/
def flV : Vt → List Atm
  | .nd k i tx ps => flVL ps ++ [⟨k, ps.length, i, tx⟩]
def flVL : List Vt → List Atm
  | [] => []
  | t :: r => flV t ++ flVL r
end
mutual
def dpV : Vt → Nat
  | .nd _ _ _ ps => dpVL ps + 1
def dpVL : List Vt → Nat
  | [] => 0
  | t :: r => max (dpV t) (dpVL r)
end
mutual
/-- All atoms may be. -/
def wfV : Vt → Prop
  | .nd k i tx ps => atB ⟨k, ps.length, i, tx⟩ = true ∧ wfVL ps
def wfVL : List Vt → Prop
  | [] => True
  | t :: r => wfV t ∧ wfVL r
end
def szV (t : Vt) : Nat := (flV t).length
def szVL (l : List Vt) : Nat := (flVL l).length
theorem flVL_app : ∀ (a b : List Vt), flVL (a ++ b) = flVL a ++ flVL b
  | [], b => by simp [flVL]
  | t :: r, b => by rw [List.cons_append, flVL, flVL, flVL_app r b, List.append_assoc]
theorem flVL_one (t : Vt) : flVL [t] = flV t := by rw [flVL, flVL, List.append_nil]
theorem flVL_map : ∀ l : List Vt, flVL l = l.flatMap flV
  | [] => by simp [flVL]
  | t :: r => by rw [flVL, flVL_map r, List.flatMap_cons]
theorem szVL_app (a b : List Vt) : szVL (a ++ b) = szVL a + szVL b := by unfold szVL; rw [flVL_app, List.length_append]
theorem szVL_one (t : Vt) : szVL [t] = szV t := by unfold szVL szV; rw [flVL_one]
theorem szVL_cons (t : Vt) (r : List Vt) : szVL (t :: r) = szV t + szVL r := by unfold szVL szV; rw [flVL, List.length_append]
theorem szV_nd (k i : Int) (tx : ByteArray) (ps : List Vt) : szV (.nd k i tx ps) = szVL ps + 1 := by unfold szVL szV; rw [flV]; simp
theorem szV_pos (t : Vt) : 0 < szV t := by cases t; rw [szV_nd]; omega
theorem dpV_pos (t : Vt) : 0 < dpV t := by cases t; rw [dpV]; omega
theorem dpVL_app : ∀ (a b : List Vt), dpVL (a ++ b) = max (dpVL a) (dpVL b)
  | [], b => by simp [dpVL]
  | t :: r, b => by rw [List.cons_append, dpVL, dpVL, dpVL_app r b]; omega
theorem wfVL_iff : ∀ l : List Vt, wfVL l ↔ ∀ t ∈ l, wfV t
  | [] => by simp [wfVL]
  | t :: r => by rw [wfVL, wfVL_iff r]; simp
theorem dpVL_le : ∀ (l : List Vt) (B : Nat), dpVL l ≤ B ↔ ∀ t ∈ l, dpV t ≤ B
  | [], B => by simp [dpVL]
  | t :: r, B => by
    rw [dpVL, Nat.max_le, dpVL_le r B]; simp
/-- How many of a stack are no parts of the next atom. -/
def cutV (S : List Vt) (a : Atm) : Nat := S.length - a.n.toNat
/-- The stack behind an atom. -/
def stV (S : List Vt) (a : Atm) : List Vt := S.take (cutV S a) ++ [.nd a.kind a.int a.text (S.drop (cutV S a))]
def okV (S : List Vt) (a : Atm) : Bool := atB a && decide (a.n ≤ S.length)
/-- The stack behind all; none: one atom may not be. -/
def bV : List Vt → List Atm → Option (List Vt)
  | S, [] => some S
  | S, a :: r => if okV S a = true then bV (stV S a) r else none
theorem okV_iff {S : List Vt} {a : Atm} : okV S a = true ↔ atB a = true ∧ a.n ≤ S.length := by simp [okV]
theorem stV_len {S : List Vt} {a : Atm} (h : okV S a = true) : ((stV S a).length : Int) = S.length - a.n + 1 := by
  rw [okV_iff] at h
  have := atB_n h.1
  unfold stV cutV
  simp; omega
theorem stV_flat {S : List Vt} {a : Atm} (h : okV S a = true) : flVL (stV S a) = flVL S ++ [a] := by
  rw [okV_iff] at h
  have h0 := atB_n h.1
  unfold stV
  rw [flVL_app, flVL_one, flV]
  have hl : ((S.drop (cutV S a)).length : Int) = a.n := by unfold cutV; simp; omega
  rw [hl, ← List.append_assoc, ← flVL_app, List.take_append_drop]
theorem stV_wf {S : List Vt} {a : Atm} (h : okV S a = true) (hw : wfVL S) : wfVL (stV S a) := by
  rw [okV_iff] at h
  have h0 := atB_n h.1
  rw [wfVL_iff] at hw ⊢
  have hl : ((S.drop (cutV S a)).length : Int) = a.n := by unfold cutV; simp; omega
  intro t ht
  unfold stV at ht
  rw [List.mem_append, List.mem_singleton] at ht
  rcases ht with ht | rfl
  · exact hw t (List.mem_of_mem_take ht)
  · rw [wfV, wfVL_iff, hl]
    exact ⟨h.1, fun t ht => hw t (List.mem_of_mem_drop ht)⟩
theorem bV_some : ∀ (r : List Atm) (S T : List Vt), wfVL S → bV S r = some T → flVL T = flVL S ++ r ∧ wfVL T
  | [], S, T, hw, h => by rw [bV] at h; injection h with h; subst h; simp [hw]
  | a :: r, S, T, hw, h => by
    rw [bV] at h
    split at h
    · rename_i ho
      obtain ⟨h1, h2⟩ := bV_some r _ T (stV_wf ho hw) h
      exact ⟨by rw [h1, stV_flat ho]; simp, h2⟩
    · cases h
mutual
theorem bV_tree : ∀ (t : Vt) (S : List Vt) (r : List Atm), wfV t → bV S (flV t ++ r) = bV (S ++ [t]) r
  | .nd k i tx ps, S, r, hw => by
    rw [wfV] at hw
    rw [flV, List.append_assoc, bV_trees ps S _ hw.2, List.cons_append, List.nil_append, bV]
    have e : okV (S ++ ps) ⟨k, ps.length, i, tx⟩ = true := by rw [okV_iff]; exact ⟨hw.1, by simp; omega⟩
    rw [if_pos e]
    congr 1
    unfold stV cutV
    have h0 : ((ps.length : Nat) : Int).toNat = ps.length := by simp
    simp only [h0]
    have h1 : (S ++ ps).take ((S ++ ps).length - ps.length) = S := by simp
    have h2 : (S ++ ps).drop ((S ++ ps).length - ps.length) = ps := by simp
    rw [h1, h2]
theorem bV_trees : ∀ (ps : List Vt) (S : List Vt) (r : List Atm), wfVL ps → bV S (flVL ps ++ r) = bV (S ++ ps) r
  | [], S, r, _ => by simp [flVL]
  | t :: q, S, r, hw => by
    rw [wfVL] at hw
    rw [flVL, List.append_assoc, bV_tree t S _ hw.1, bV_trees q _ r hw.2]; simp
end
/-- How deep a value is; 0: it is no whole. -/
def depV (l : List Atm) : Int := match bV [] l with
  | some [t] => (dpV t : Nat)
  | _ => 0
/-- What is wrong with a value. -/
def chkV (l : List Atm) : Int := if 1024 < l.length then 3 else if depV l = 0 ∨ 32 < depV l then 5 else 0
theorem depV_flat {t : Vt} (h : wfV t) : depV (flV t) = (dpV t : Nat) := by
  unfold depV
  have := bV_tree t [] [] h
  rw [List.append_nil, List.nil_append, bV] at this
  rw [this]
theorem chkV_flat {t : Vt} (h : wfV t) : chkV (flV t) = if 1024 < szV t then 3 else if 32 < dpV t then 5 else 0 := by
  unfold chkV
  rw [depV_flat h]
  have := dpV_pos t
  unfold szV
  split
  · rfl
  · by_cases h2 : 32 < dpV t
    · rw [if_pos (by omega), if_pos h2]
    · rw [if_neg (by omega), if_neg h2]
/-- A right value is the atoms of a tree. -/
theorem chkV_tree {l : List Atm} (h : chkV l = 0) : ∃ t, l = flV t ∧ wfV t ∧ szV t ≤ 1024 ∧ dpV t ≤ 32 := by
  unfold chkV at h
  split at h
  · cases h
  · rename_i h1
    split at h
    · cases h
    · rename_i h2
      unfold depV at h2
      split at h2
      · rename_i t ht
        obtain ⟨h3, h4⟩ := bV_some l [] [t] (by simp [wfVL]) ht
        rw [flVL_one] at h3
        simp only [flVL, List.nil_append] at h3
        refine ⟨t, h3.symm, by simpa [wfVL] using h4, by unfold szV; rw [h3]; omega, by omega⟩
      · simp at h2
/-- Where the wholes of a stack begin. -/
def begL : Nat → List Vt → List Int
  | _, [] => []
  | o, t :: r => (o : Int) :: begL (o + szV t) r
theorem begL_len : ∀ (o : Nat) (l : List Vt), (begL o l).length = l.length
  | _, [] => rfl
  | o, t :: r => by rw [begL, List.length_cons, begL_len, List.length_cons]
theorem begL_app : ∀ (o : Nat) (a b : List Vt), begL o (a ++ b) = begL o a ++ begL (o + szVL a) b
  | o, [], b => by simp [begL, szVL, flVL]
  | o, t :: r, b => by rw [List.cons_append, begL, begL, begL_app, szVL_cons, List.cons_append, Nat.add_assoc]
theorem begL_take (o m : Nat) (l : List Vt) : (begL o l).take m = begL o (l.take m) := by
  induction l generalizing o m with
  | nil => simp [begL]
  | cons t r ih => cases m with
    | zero => simp [begL]
    | succ m => rw [begL, List.take_succ_cons, List.take_succ_cons, begL, ih]
/-- Where the whole begins that the stack gets with an atom. -/
theorem begL_st {S : List Vt} {a : Atm} (_h : okV S a = true) : begL 0 (stV S a) = begL 0 (S.take (cutV S a)) ++ [((szVL (S.take (cutV S a)) : Nat) : Int)] := by
  unfold stV
  rw [begL_app, begL, begL, Nat.zero_add]
/-- .. out of the stack of beginnings: at the cut, or here. -/
theorem begL_cut {S : List Vt} {m : Nat} (h : m < S.length) : (begL 0 S).getD m 0 = ((szVL (S.take m) : Nat) : Int) := by
  have e := begL_app 0 (S.take m) (S.drop m)
  rw [List.take_append_drop, Nat.zero_add] at e
  rw [e]
  have hl : (begL 0 (S.take m)).length = m := by rw [begL_len]; simp; omega
  rw [List.drop_eq_getElem_cons h, begL]
  simp [List.getD, hl]
mutual
/-- F says of each whole of the tree, which begins at a place, where it begins. -/
def FrT (F : List Int) : Nat → Vt → Prop
  | o, .nd _ _ _ ps => F[o + szVL ps]? = some (o : Int) ∧ FrL F o ps
def FrL (F : List Int) : Nat → List Vt → Prop
  | _, [] => True
  | o, t :: r => FrT F o t ∧ FrL F (o + szV t) r
end
mutual
theorem FrT.more {F : List Int} (x : Int) : ∀ (o : Nat) (t : Vt), FrT F o t → FrT (F ++ [x]) o t
  | o, .nd k i tx ps, h => by
    rw [FrT] at h ⊢
    exact ⟨by rw [List.getElem?_append_left (List.getElem?_eq_some_iff.1 h.1).1]; exact h.1, FrL.more x o ps h.2⟩
theorem FrL.more {F : List Int} (x : Int) : ∀ (o : Nat) (l : List Vt), FrL F o l → FrL (F ++ [x]) o l
  | o, [], _ => by rw [FrL]; trivial
  | o, t :: r, h => by
    rw [FrL] at h ⊢
    exact ⟨FrT.more x o t h.1, FrL.more x _ r h.2⟩
end
theorem FrL_app {F : List Int} : ∀ (o : Nat) (a b : List Vt), FrL F o (a ++ b) ↔ FrL F o a ∧ FrL F (o + szVL a) b
  | o, [], b => by simp [FrL, szVL, flVL]
  | o, t :: r, b => by rw [List.cons_append, FrL, FrL, FrL_app, szVL_cons, Nat.add_assoc, and_assoc]
theorem FrL.at {F : List Int} {o : Nat} {l : List Vt} (h : FrL F o l) {j : Nat} (hj : j < l.length) : F[o + szVL (l.take (j + 1)) - 1]? = some ((o + szVL (l.take j) : Nat) : Int) ∧ szVL (l.take (j + 1)) = szVL (l.take j) + szV l[j] := by
  have e0 : l.take (j + 1) = l.take j ++ [l[j]] := by rw [List.take_add_one, List.getElem?_eq_getElem hj]; rfl
  have e1 : szVL (l.take (j + 1)) = szVL (l.take j) + szV l[j] := by rw [e0, szVL_app, szVL_one]
  refine ⟨?_, e1⟩
  have e := (FrL_app (F := F) o (l.take j) (l.drop j)).1 (by rw [List.take_append_drop]; exact h)
  have h2 := e.2
  rw [List.drop_eq_getElem_cons hj, FrL] at h2
  rw [e1]
  cases ht : l[j] with
  | nd k i tx ps =>
    rw [ht, FrT] at h2
    rw [szV_nd, show o + (szVL (l.take j) + (szVL ps + 1)) - 1 = o + szVL (l.take j) + szVL ps by omega]
    exact h2.1.1
/-- One step: what is written for the next atom. -/
theorem FrL.step {F : List Int} {S : List Vt} {a : Atm} (h : FrL F 0 S) (hF : F.length = szVL S) : FrL (F ++ [((szVL (S.take (cutV S a)) : Nat) : Int)]) 0 (stV S a) := by
  have h1 := (FrL_app (F := F) 0 (S.take (cutV S a)) (S.drop (cutV S a))).1 (by rw [List.take_append_drop]; exact h)
  unfold stV
  rw [FrL_app, FrL, FrL, FrT]
  have hs : szVL (S.take (cutV S a)) + szVL (S.drop (cutV S a)) = szVL S := by rw [← szVL_app, List.take_append_drop]
  refine ⟨FrL.more _ _ _ h1.1, ⟨?_, FrL.more _ _ _ h1.2⟩, trivial⟩
  rw [Nat.zero_add, hs, ← hF]
  simp
end Go.Proofs.YtbgeihgenckihaaDoor
