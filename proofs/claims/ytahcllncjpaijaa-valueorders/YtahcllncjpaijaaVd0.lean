/- Values, plain: what operations make of right values. -/
import Derived.Test.YtahcllncjpaijaaVo2
namespace Go.Proofs.Ytahcllncjpaijaa
open Go.RowKit

def numT (n : Int) : Option Vt := if -9007199254740992 ≤ n ∧ n ≤ 9007199254740992 then some (.nd 1 n ByteArray.empty []) else none
def txtT (s : ByteArray) : Option Vt := if s.size ≤ 4096 then some (.nd 2 0 s []) else none
def lstT (ts : List Vt) : Option Vt := if szVL ts < 1024 ∧ dpVL ts < 32 then some (mkL ts) else none
theorem lokB_trees {ts : List Vt} (h : ∀ t ∈ ts, RT t) : lokB (ts.map flV) = decide (szVL ts < 1024 ∧ dpVL ts < 32) := by
  unfold lokB
  rw [flat_trees, lstA_trees, depV_flat (mkL_wf (wfVL_all h))]
  have e : dpV (mkL ts) = dpVL ts + 1 := by unfold mkL; rw [dpV]
  rw [e]
  have e2 : (flVL ts).length = szVL ts := rfl
  rw [e2]
  congr 1
  simp; intro _; omega
theorem lstT_eq {ts : List Vt} (h : ∀ t ∈ ts, RT t) : lstT ts = if lokB (ts.map flV) = true then some (mkL ts) else none := by
  unfold lstT
  rw [lokB_trees h]
  simp
/-- What an operation of two makes. -/
def do2T (kind : Int) (a b : Vt) : Option Vt :=
  if kind = 6 then (if a.k = 1 ∧ b.k = 1 then numT (a.i + b.i) else none)
  else if kind = 7 then (if a.k = 1 ∧ b.k = 1 then numT (a.i - b.i) else none)
  else if kind = 8 then (if a.k = 1 ∧ b.k = 1 then numT (a.i * b.i) else none)
  else if kind = 9 then (if a.k = 2 ∧ b.k = 2 then txtT (a.tx ++ b.tx) else if a.k = 3 ∧ b.k = 3 then lstT (a.ps ++ b.ps) else none)
  else if kind = 10 then (if a.k = 3 ∧ b.k = 1 ∧ 0 ≤ b.i then a.ps[b.i.toNat]? else none)
  else if kind = 12 then numT (if cmpV a b < 0 then 1 else 0)
  else numT (if cmpV a b = 0 then 1 else 0)
/-- What an operation of one makes. -/
def do1T (a : Vt) : Option Vt := if a.k = 2 then numT a.tx.size else if a.k = 3 then numT a.ps.length else none
def doT (kind : Int) (ts : List Vt) : Option Vt :=
  if kind = 5 then lstT ts else match ts with
    | [a] => do1T a
    | [a, b] => do2T kind a b
    | _ => none
def outL : Option Vt → List Atm
  | some t => flV t
  | none => []
/-- What Do tells is wrong. -/
def doE (kind : Int) (A : List (List Atm)) : Int :=
  if kind ≠ 5 ∧ (kind < 6 ∨ 13 < kind) then 1
  else if 4096 < A.length then 3
  else if (kind = 11 ∧ A.length ≠ 1) ∨ (kind ≠ 11 ∧ kind ≠ 5 ∧ A.length ≠ 2) then 5
  else firstE A
/-- Atoms as a tree; of what is none, anything. -/
def treeA (l : List Atm) : Vt := match bV [] l with
  | some [t] => t
  | _ => .nd 0 0 ByteArray.empty []
theorem treeA_flat {t : Vt} (h : wfV t) : treeA (flV t) = t := by unfold treeA; rw [bV_flat h]
theorem treeA_map {ts : List Vt} (h : ∀ t ∈ ts, RT t) : (ts.map flV).map treeA = ts := by
  induction ts with
  | nil => rfl
  | cons t r ih => rw [List.map_cons, List.map_cons, treeA_flat (h t (List.mem_cons_self ..)).wf, ih (fun u hu => h u (List.mem_cons_of_mem _ hu))]
def doO (kind : Int) (A : List (List Atm)) : Option Vt := if doE kind A = 0 then doT kind (A.map treeA) else none
theorem numT_rt {n : Int} {t : Vt} (h : numT n = some t) : RT t ∧ t = .nd 1 n ByteArray.empty [] := by
  unfold numT at h
  split at h
  · rename_i hn
    injection h with h
    subst h
    refine ⟨⟨?_, by rw [szV_nd]; simp [szVL, flVL], by rw [dpV]; simp [dpVL]⟩, rfl⟩
    rw [wfV]
    refine ⟨?_, by simp [wfVL]⟩
    unfold atB
    simp; exact hn
  · cases h
theorem txtT_rt {s : ByteArray} {t : Vt} (h : txtT s = some t) : RT t ∧ t = .nd 2 0 s [] := by
  unfold txtT at h
  split at h
  · rename_i hn
    injection h with h
    subst h
    refine ⟨⟨?_, by rw [szV_nd]; simp [szVL, flVL], by rw [dpV]; simp [dpVL]⟩, rfl⟩
    rw [wfV]
    refine ⟨?_, by simp [wfVL]⟩
    unfold atB
    simp; exact hn
  · cases h
theorem lstT_rt {ts : List Vt} (h : ∀ t ∈ ts, RT t) {t : Vt} (h2 : lstT ts = some t) : RT t ∧ t = mkL ts := by
  unfold lstT at h2
  split at h2
  · rename_i hn
    injection h2 with h2
    subst h2
    refine ⟨⟨mkL_wf (wfVL_all h), ?_, ?_⟩, rfl⟩
    · unfold mkL; rw [szV_nd]; omega
    · unfold mkL; rw [dpV]; omega
  · cases h2
theorem do2T_rt {kind : Int} {a b t : Vt} (ha : RT a) (hb : RT b) (h : do2T kind a b = some t) : RT t := by
  unfold do2T at h
  split at h
  · split at h
    · exact (numT_rt h).1
    · cases h
  split at h
  · split at h
    · exact (numT_rt h).1
    · cases h
  split at h
  · split at h
    · exact (numT_rt h).1
    · cases h
  split at h
  · split at h
    · exact (txtT_rt h).1
    · split at h
      · refine (lstT_rt (fun u hu => ?_) h).1
        rcases List.mem_append.1 hu with e | e
        · exact ha.parts u e
        · exact hb.parts u e
      · cases h
  split at h
  · split at h
    · exact ha.parts t (List.mem_of_getElem? h)
    · cases h
  split at h
  · exact (numT_rt h).1
  · exact (numT_rt h).1
theorem doT_rt {kind : Int} {ts : List Vt} {t : Vt} (h : ∀ u ∈ ts, RT u) (h2 : doT kind ts = some t) : RT t := by
  unfold doT at h2
  split at h2
  · exact (lstT_rt h h2).1
  · split at h2
    · unfold do1T at h2
      split at h2
      · exact (numT_rt h2).1
      · split at h2
        · exact (numT_rt h2).1
        · cases h2
    · exact do2T_rt (h _ (by simp)) (h _ (by simp)) h2
    · cases h2
end Go.Proofs.Ytahcllncjpaijaa
