/- Values, plain: rows of right values, lists of them, members. -/
import Derived.Test.YtahcllncjpaijaaVa1
namespace Go.Proofs.Ytahcllncjpaijaa
open Go.RowKit

/-- The first one's error. -/
def firstE : List (List Atm) → Int
  | [] => 0
  | a :: r => if chkV a = 0 then firstE r else chkV a
def allE (A : List (List Atm)) : Int := if 4096 < A.length then 3 else firstE A
/-- A right tree. -/
structure RT (t : Vt) : Prop where
  wf : wfV t
  sz : szV t ≤ 1024
  dp : dpV t ≤ 32
theorem RT.chk {t : Vt} (h : RT t) : chkV (flV t) = 0 := by
  rw [chkV_flat h.wf, if_neg (by have := h.sz; omega), if_neg (by have := h.dp; omega)]
theorem RT.of {l : List Atm} (h : chkV l = 0) : ∃ t, l = flV t ∧ RT t := by
  obtain ⟨t, h1, h2, h3, h4⟩ := chkV_tree h
  exact ⟨t, h1, h2, h3, h4⟩
theorem bV_flat {t : Vt} (h : wfV t) : bV [] (flV t) = some [t] := by
  have := bV_tree t [] [] h
  rw [List.append_nil, List.nil_append, bV] at this
  exact this
theorem flV_inj {s t : Vt} (hs : wfV s) (ht : wfV t) (h : flV s = flV t) : s = t := by
  have h1 := bV_flat hs
  rw [h, bV_flat ht] at h1
  injection h1 with h1
  injection h1 with h1
  exact h1.symm
theorem firstE_step {A : List (List Atm)} {k : Nat} (hk : k < A.length) (h0 : chkV A[k] = 0) (h : firstE A = firstE (A.drop k)) : firstE A = firstE (A.drop (k + 1)) := by
  rw [h, List.drop_eq_getElem_cons hk, firstE, if_pos h0]
theorem firstE_bad {A : List (List Atm)} {k : Nat} (hk : k < A.length) (h0 : chkV A[k] ≠ 0) (h : firstE A = firstE (A.drop k)) : firstE A = chkV A[k] := by
  rw [h, List.drop_eq_getElem_cons hk, firstE, if_neg h0]
theorem firstE_end {A : List (List Atm)} {k : Nat} (hk : ¬ k < A.length) (h : firstE A = firstE (A.drop k)) : firstE A = 0 := by
  rw [h, List.drop_eq_nil_of_le (by omega), firstE]
theorem firstE_zero : ∀ {A : List (List Atm)}, firstE A = 0 → ∀ a ∈ A, chkV a = 0
  | [], _, _, h => by cases h
  | a :: r, h, b, hb => by
    rw [firstE] at h
    by_cases h0 : chkV a = 0
    · rw [if_pos h0] at h
      rcases List.mem_cons.1 hb with e | e
      · subst e; exact h0
      · exact firstE_zero h b e
    · rw [if_neg h0] at h; exact absurd h h0
theorem allE_zero {A : List (List Atm)} (h : allE A = 0) : A.length ≤ 4096 ∧ firstE A = 0 := by
  unfold allE at h
  split at h
  · cases h
  · exact ⟨by omega, h⟩
theorem trees_of : ∀ {A : List (List Atm)}, (∀ a ∈ A, chkV a = 0) → ∃ ts : List Vt, A = ts.map flV ∧ ∀ t ∈ ts, RT t
  | [], _ => ⟨[], rfl, by simp⟩
  | a :: r, h => by
    obtain ⟨t, h1, h2⟩ := RT.of (h a (List.mem_cons_self ..))
    obtain ⟨ts, h3, h4⟩ := trees_of (A := r) (fun b hb => h b (List.mem_cons_of_mem _ hb))
    refine ⟨t :: ts, by rw [h1, h3]; rfl, fun u hu => ?_⟩
    rcases List.mem_cons.1 hu with e | e
    · subst e; exact h2
    · exact h4 u e
theorem flat_trees (ts : List Vt) : (ts.map flV).flatten = flVL ts := by
  rw [flVL_map, List.flatMap_def]
/-- The list of members. -/
def mkL (ts : List Vt) : Vt := .nd 3 0 ByteArray.empty ts
theorem mkL_wf {ts : List Vt} (h : wfVL ts) : wfV (mkL ts) := by
  unfold mkL
  rw [wfV]
  refine ⟨?_, h⟩
  simp [atB]
theorem wfVL_all {ts : List Vt} (h : ∀ t ∈ ts, RT t) : wfVL ts := (wfVL_iff ts).2 fun t ht => (h t ht).wf
/-- What comes of all, with the list's own atom behind. -/
def lstA (A : List (List Atm)) : List Atm := A.flatten ++ [⟨3, (A.length : Nat), 0, ByteArray.empty⟩]
theorem lstA_trees (ts : List Vt) : lstA (ts.map flV) = flV (mkL ts) := by
  unfold lstA mkL
  rw [flV, flat_trees, List.length_map]
theorem lstA_len (A : List (List Atm)) : (lstA A).length = A.flatten.length + 1 := by unfold lstA; simp
/-- Is the list of them right? -/
def lokB (A : List (List Atm)) : Bool := decide (A.flatten.length < 1024 ∧ depV (lstA A) ≤ 32)
theorem depV_lst {A : List (List Atm)} (h : ∀ a ∈ A, chkV a = 0) : depV (lstA A) ≠ 0 := by
  obtain ⟨ts, rfl, h2⟩ := trees_of h
  rw [lstA_trees, depV_flat (mkL_wf (wfVL_all h2))]
  have := dpV_pos (mkL ts)
  omega
theorem lokB_chk {A : List (List Atm)} (h : ∀ a ∈ A, chkV a = 0) : lokB A = decide (chkV (lstA A) = 0) := by
  have h0 := depV_lst h
  unfold lokB chkV
  rw [lstA_len]
  generalize A.flatten.length = n at *
  generalize depV (lstA A) = d at *
  by_cases h1 : n < 1024
  · rw [if_neg (by omega)]
    by_cases h2 : d ≤ 32
    · rw [if_neg (by omega)]; simp [h1, h2]
    · rw [if_pos (by omega)]; simp [h2]
  · rw [if_pos (by omega)]; simp [h1]
/-- What List answers. -/
def listE (A : List (List Atm)) : Int := if allE A = 0 then (if lokB A = true then 0 else 3) else allE A
def listL (A : List (List Atm)) : List Atm := if listE A = 0 then lstA A else []
/-- The members. -/
def memT (l : List Atm) : List Vt := match bV [] l with
  | some [t] => t.ps
  | _ => []
def kndV (l : List Atm) : Int := match bV [] l with
  | some [t] => t.k
  | _ => 0
/-- What Members answers. -/
def memE (l : List Atm) : Int := if chkV l = 0 then (if kndV l = 3 then 0 else 7) else chkV l
def memL (l : List Atm) : List (List Atm) := if memE l = 0 then (memT l).map flV else []
theorem memT_flat {t : Vt} (h : wfV t) : memT (flV t) = t.ps ∧ kndV (flV t) = t.k := by
  unfold memT kndV
  rw [bV_flat h]
  exact ⟨rfl, rfl⟩
theorem flV_last (t : Vt) : flV t = flVL t.ps ++ [⟨t.k, (t.ps.length : Nat), t.i, t.tx⟩] := by
  cases t; rw [flV]; rfl
theorem szV_ps (t : Vt) : szV t = szVL t.ps + 1 := by cases t; rw [szV_nd]; rfl
theorem RT.parts {t : Vt} (h : RT t) : ∀ u ∈ t.ps, RT u := by
  intro u hu
  obtain ⟨k, i, tx, ps⟩ := t
  have h1 := h.wf
  have h2 := h.sz
  have h3 := h.dp
  rw [wfV, wfVL_iff] at h1
  rw [szV_nd] at h2
  rw [dpV] at h3
  have hu : u ∈ ps := hu
  refine ⟨h1.2 u hu, ?_, (dpVL_le ps 32).1 (by omega) u hu⟩
  obtain ⟨a, b, rfl⟩ := List.append_of_mem hu
  rw [szVL_app, szVL_cons] at h2
  omega
/-- The atom that tells what a right value is. -/
theorem flV_get {t : Vt} (h : szV t - 1 < (flV t).length) : (flV t)[szV t - 1] = ⟨t.k, (t.ps.length : Nat), t.i, t.tx⟩ := by
  have e : szV t - 1 = (flVL t.ps).length := by rw [szV_ps]; rfl
  simp only [flV_last t, e]
  rw [List.getElem_append_right (Nat.le_refl _)]
  simp
/-- A part's atoms, cut out of its whole. -/
theorem flVL_cut (ps : List Vt) {j : Nat} (h : j < ps.length) (r : List Atm) : ((flVL ps ++ r).drop (szVL (ps.take j))).take (szV ps[j]) = flV ps[j] := by
  have e : ps = ps.take j ++ ps[j] :: ps.drop (j + 1) := by rw [← List.drop_eq_getElem_cons h, List.take_append_drop]
  have h1 : flVL ps = flVL (ps.take j) ++ (flV ps[j] ++ flVL (ps.drop (j + 1))) := by
    conv => lhs; rw [e]
    rw [flVL_app, flVL]
  rw [h1, List.append_assoc]
  have e2 : szVL (ps.take j) = (flVL (ps.take j)).length := rfl
  have e3 : szV ps[j] = (flV ps[j]).length := rfl
  rw [e2, List.drop_left' rfl, List.append_assoc, e3, List.take_left' rfl]
theorem memT_len {t : Vt} : t.ps.length ≤ szVL t.ps := by
  cases t with
  | nd k i tx ps =>
    show ps.length ≤ szVL ps
    clear k i tx
    induction ps with
    | nil => simp
    | cons u r ih => rw [szVL_cons, List.length_cons]; have := szV_pos u; omega
theorem szVL_take_succ (ps : List Vt) {j : Nat} (h : j < ps.length) : szVL (ps.take (j + 1)) = szVL (ps.take j) + szV ps[j] := by
  have e0 : ps.take (j + 1) = ps.take j ++ [ps[j]] := by rw [List.take_add_one, List.getElem?_eq_getElem h]; rfl
  rw [e0, szVL_app, szVL_one]
theorem szVL_take_le (ps : List Vt) (j : Nat) : szVL (ps.take j) ≤ szVL ps := by
  have : szVL ps = szVL (ps.take j) + szVL (ps.drop j) := by rw [← szVL_app, List.take_append_drop]
  omega
end Go.Proofs.Ytahcllncjpaijaa
