/- Values: how deep. -/
import Derived.Test.YtbgeihgenckihaaDoorVb2
namespace Go.Proofs.YtbgeihgenckihaaDoor
open Go.RowKit

/-- The stack behind the first k atoms. -/
structure DI (l : List Atm) (k : Nat) (S : List Vt) : Prop where
  eq : bV [] l = bV S (l.drop k)
  ls : S.length ≤ k
theorem DI.start (l : List Atm) : DI l 0 [] := ⟨by simp, Nat.le_refl _⟩
theorem DI.bad {l : List Atm} {k : Nat} {S : List Vt} (h : DI l k S) (hk : k < l.length) (hc : okV S l[k] = false) : depV l = 0 := by
  unfold depV
  rw [h.eq, drop_at hk, bV, if_neg (by rw [hc]; decide)]
theorem DI.next {l : List Atm} {k : Nat} {S : List Vt} (h : DI l k S) (hk : k < l.length) (hc : okV S l[k] = true) : DI l (k + 1) (stV S l[k]) := by
  refine ⟨by rw [h.eq, drop_at hk, bV, if_pos hc], ?_⟩
  have h1 := stV_len hc
  have h2 := (atB_n (okV_iff.1 hc).1).1
  have h3 := h.ls
  omega
theorem DI.fin {l : List Atm} {S : List Vt} (h : DI l l.length S) : depV l = if S.length = 1 then (dpVL S : Nat) else 0 := by
  unfold depV
  rw [h.eq, List.drop_length, bV]
  match S with
  | [] => rfl
  | [t] => simp [dpVL]
  | _ :: _ :: _ => simp
/-- The depths of a stack. -/
def dsV (S : List Vt) : List Int := S.map fun t => ((dpV t : Nat) : Int)
theorem dsV_len (S : List Vt) : (dsV S).length = S.length := List.length_map _
theorem dsV_at {S : List Vt} {j : Nat} (h : j < S.length) : (dsV S)[j]'(by rw [dsV_len]; exact h) = ((dpV S[j] : Nat) : Int) := by simp [dsV]
theorem dsV_take (S : List Vt) (m : Nat) : (dsV S).take m = dsV (S.take m) := by unfold dsV; rw [List.map_take]
theorem dsV_st (S : List Vt) (a : Atm) : dsV (stV S a) = dsV (S.take (cutV S a)) ++ [((dpVL (S.drop (cutV S a)) : Nat) : Int) + 1] := by
  unfold stV dsV
  rw [List.map_append, List.map_singleton, dpV]
  simp
/-- The deepest of the first j parts. -/
def mxD (S : List Vt) (m j : Nat) : Nat := dpVL ((S.drop m).take j)
theorem mxD_next {S : List Vt} {m j : Nat} (h : m + j < S.length) : mxD S m (j + 1) = max (mxD S m j) (dpV S[m + j]) := by
  unfold mxD
  have e : (S.drop m)[j]? = some S[m + j] := by rw [List.getElem?_drop, List.getElem?_eq_getElem h]
  rw [List.take_add_one, e, Option.toList_some, dpVL_app]
  simp [dpVL]
theorem mxD_all {S : List Vt} {m j : Nat} (h : S.length ≤ m + j) : mxD S m j = dpVL (S.drop m) := by
  unfold mxD
  rw [List.take_of_length_le (by rw [List.length_drop]; omega)]
mutual
theorem dpV_le : ∀ t : Vt, dpV t ≤ szV t
  | .nd k i tx ps => by
    have := dpVL_sz ps
    rw [dpV, szV_nd]; omega
theorem dpVL_sz : ∀ l : List Vt, dpVL l ≤ szVL l
  | [] => by simp [dpVL]
  | t :: r => by
    have h1 := dpV_le t
    have h2 := dpVL_sz r
    rw [dpVL, szVL_cons]; omega
end
theorem dpVL_sub {S : List Vt} {m j : Nat} : mxD S m j ≤ dpVL S := by
  unfold mxD
  rw [dpVL_le]
  intro t ht
  exact (dpVL_le S (dpVL S)).1 (Nat.le_refl _) t (List.mem_of_mem_drop (List.mem_of_mem_take ht))
/-- How many atoms a stack has: as many as were read. -/
theorem DI.size {l : List Atm} {k : Nat} {S : List Vt} (h : szVL S = k) (hk : k < l.length) (hc : okV S l[k] = true) : szVL (stV S l[k]) = k + 1 := by
  unfold szVL at *
  rw [stV_flat hc, List.length_append, h]; rfl
end Go.Proofs.YtbgeihgenckihaaDoor
