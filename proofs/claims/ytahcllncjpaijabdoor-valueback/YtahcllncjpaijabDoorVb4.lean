/- Values: how deep. -/
import Derived.Test.YtahcllncjpaijabDoorProg
import Derived.Test.YtahcllncjpaijabDoorGr2
import Derived.Test.YtahcllncjpaijabDoorVc0
namespace Go.Proofs.YtahcllncjpaijabDoor
open Go.RowKit

theorem info_parts' {P : Program} {t : TypeId} {z : Value} {n m : Nat} (h : (P.info? t).map (fun i => (i.zero, i.size, i.bytes)) = some (some z, n, m)) : ∃ i, P.info? t = some i ∧ i.zero = some z ∧ i.size = n ∧ i.bytes = m := by
  obtain ⟨i, h1, h2⟩ := Option.map_eq_some_iff.1 h
  simp only [Prod.mk.injEq] at h2
  exact ⟨i, h1, h2.1, h2.2.1, h2.2.2⟩
def atC (o : Atm) : List Value := [.int .i64 o.kind, .int .i64 o.n, .int .i64 o.int, .string o.text]
def atV (o : Atm) : Value := .agg #[.int .i64 o.kind, .int .i64 o.n, .int .i64 o.int, .string o.text]
def KA : RK Atm := ⟨43, 4, 40, .agg #[.int .i64 0, .int .i64 0, .int .i64 0, .string ByteArray.empty], atC⟩
theorem KA_ok : KA.Ok Tryd.prog :=
  ⟨fun _ => rfl, fun x u hu => by simp [KA, atC] at hu; rcases hu with rfl | rfl | rfl | rfl <;> rfl, rfl, by decide, by decide, info_parts' (by kernel_rfl)⟩
abbrev AS (w : World) (v : Value) (l : List Atm) : Prop := GS KA w v l
theorem GS.atA {w : World} {p : Option Addr} {n cap k : Nat} {l : List Atm} (h : GS KA w (.slice p n cap) l) (hk : k < l.length) : ∃ X o, p = some ⟨X, o, none⟩ ∧ w.cell? ⟨X, o + k * 4, none⟩ = some (.int .i64 l[k].kind) ∧ w.cell? ⟨X, o + k * 4 + 1, none⟩ = some (.int .i64 l[k].n) ∧ w.cell? ⟨X, o + k * 4 + 2, none⟩ = some (.int .i64 l[k].int) ∧ w.cell? ⟨X, o + k * 4 + 3, none⟩ = some (.string l[k].text) := by
  obtain ⟨X, o, h1, _, h2⟩ := GS.at h hk
  exact ⟨X, o, h1, h2 0 _ rfl, h2 1 _ rfl, h2 2 _ rfl, h2 3 _ rfl⟩
def KI : RK Int := ⟨3, 1, 8, .int .i64 0, fun x => [.int .i64 x]⟩
theorem KI_ok : KI.Ok Tryd.prog :=
  ⟨fun _ => rfl, fun x u hu => by simp [KI] at hu; subst hu; rfl, rfl, by decide, by decide, info_parts' (by kernel_rfl)⟩
abbrev IS (w : World) (v : Value) (l : List Int) : Prop := GS KI w v l
theorem GS.atI {w : World} {p : Option Addr} {n cap k : Nat} {l : List Int} (h : GS KI w (.slice p n cap) l) (hk : k < l.length) : ∃ X o, p = some ⟨X, o, none⟩ ∧ w.cell? ⟨X, o + k, none⟩ = some (.int .i64 l[k]) := by
  obtain ⟨X, o, h1, _, h2⟩ := GS.at h hk
  have := h2 0 _ rfl
  rw [show KI.W = 1 from rfl, Nat.mul_one] at this
  exact ⟨X, o, h1, this⟩
/-- A cell of a row of numbers of the call's own. -/
theorem own_int {w : World} {base g n cap : Nat} {S : List Int} (h : OwnG KI w base (.slice (some ⟨g, 0, none⟩) n cap) S) (hn : n = S.length) {j : Nat} (hj : j < S.length) : w.cell? ⟨g, j, none⟩ = some (.int .i64 (S.getD j 0)) := by
  subst hn
  obtain ⟨X, o, e, hc⟩ := (h.gs KI_ok.len).atI hj
  injection e with e
  injection e with e1 e2 _
  subst e1 e2
  rw [Nat.zero_add] at hc
  rw [hc]; simp [List.getD, List.getElem?_eq_getElem hj]
theorem drop_at {l : List Atm} {k : Nat} (h : k < l.length) : l.drop k = l[k] :: l.drop (k + 1) := List.drop_eq_getElem_cons h
theorem bytes_nil {s : ByteArray} (h : s.size = 0) : s = ByteArray.empty := by
  have : s.data = #[] := Array.eq_empty_of_size_eq_zero h
  cases s; simp at this; subst this; rfl
theorem bytes_ne {s : ByteArray} (h : 0 < s.size) : ¬ s.toList = [] ∧ s.toList.isEmpty = false := by
  have e : ¬ s.toList = [] := by
    rw [ByteArray.toList_eq]; intro e
    have : s.data.toList.length = 0 := by rw [e]; rfl
    have h2 : s.data.toList.length = s.size := by simp
    omega
  exact ⟨e, by cases h : s.toList with | nil => exact absurd h e | cons => rfl⟩
theorem ret_bool {a b : Bool} (h : a = b) : Ending.returned (.bool a) = .returned (.bool b) := by rw [h]
theorem isNumber_any (n : Int) (w : World) : Calls Tryd.prog 70 #[.int .i64 n] w fun e w' => e = .returned (.bool (decide (-9007199254740992 ≤ n ∧ n ≤ 9007199254740992))) ∧ w' = w := by
  by_cases h1 : -9007199254740992 ≤ n
  · by_cases h2 : n ≤ 9007199254740992
    · go_enter Tryd.func70, Tryd.ntmps70
      go_wp2
      go_ret
      exact ⟨ret_bool (by simp; omega), rfl⟩
    · go_enter Tryd.func70, Tryd.ntmps70
      go_wp2
      go_ret
      exact ⟨ret_bool (by simp; omega), rfl⟩
  · go_enter Tryd.func70, Tryd.ntmps70
    go_wp2
    go_ret
    exact ⟨ret_bool (by simp; omega), rfl⟩
end Go.Proofs.YtahcllncjpaijabDoor
namespace Go.Proofs.YtahcllncjpaijabDoor
open Go.RowKit

theorem atB_def (k n i : Int) (t : ByteArray) : atB ⟨k, n, i, t⟩ = (if k = 1 then decide (n = 0) && decide (-9007199254740992 ≤ i ∧ i ≤ 9007199254740992) && decide (t.size = 0)
  else if k = 2 then decide (n = 0) && decide (i = 0) && decide (t.size ≤ 4096)
  else if k = 3 then decide (0 ≤ n) && decide (i = 0) && decide (t.size = 0) else false) := rfl
set_option maxHeartbeats 4000000 in
theorem isAtom_any (a : Atm) (w : World) (ht : a.text.size ≤ maxLen) : Calls Tryd.prog 51 #[atV a] w fun e w' => e = .returned (.bool (atB a)) ∧ Below w.heap.size w w' := by
  have AL : Hid (∀ ob, Below w.heap.size w (w.alloc ob)) := fun ob => (Below.refl _ _).alloc (Nat.le_refl _) ob
  obtain ⟨k, n, i, t⟩ := a
  have HB : Hid _ := atB_def k n i t
  have IN : Hid (∀ w, _) := fun w => isNumber_any i w
  generalize atB ⟨k, n, i, t⟩ = r at *
  simp only [atV] at *
  generalize decide (-9007199254740992 ≤ i ∧ i ≤ 9007199254740992) = rr at *
  by_cases hz : t.size = 0
  · have := bytes_nil hz
    subst this
    clear hz
    by_cases h1 : k = 1
    · subst h1
      by_cases h2 : n = 0
      · subst h2
        go_enter Tryd.func51, Tryd.ntmps51
        go_wp2_with fail
        refine Calls.mono (IN.out _) ?_
        rintro e w1 ⟨rfl, hw1⟩
        rw [hw1]
        cases rr with
        | true => go_wp2_with fail; go_ret; exact ⟨ret_bool (by rw [HB.out]; rfl), AL.out _⟩
        | false => go_wp2_with fail; go_ret; exact ⟨ret_bool (by rw [HB.out]; rfl), AL.out _⟩
      · go_enter Tryd.func51, Tryd.ntmps51
        go_wp2_with fail; go_ret; exact ⟨ret_bool (by rw [HB.out]; simp [h2]), AL.out _⟩
    · by_cases h2 : k = 2
      · subst h2
        by_cases h3 : n = 0
        · subst h3
          by_cases h4 : i = 0
          · subst h4
            go_enter Tryd.func51, Tryd.ntmps51
            go_wp2_with fail; go_ret; exact ⟨ret_bool (by rw [HB.out]; rfl), AL.out _⟩
          · go_enter Tryd.func51, Tryd.ntmps51
            go_wp2_with fail; go_ret; exact ⟨ret_bool (by rw [HB.out]; first | (simp; done) | (simp; omega) | (simp; intros; omega)), AL.out _⟩
        · go_enter Tryd.func51, Tryd.ntmps51
          go_wp2_with fail; go_ret; exact ⟨ret_bool (by rw [HB.out]; simp [h3]), AL.out _⟩
      · by_cases h3 : k = 3
        · subst h3
          by_cases h4 : 0 ≤ n
          · by_cases h5 : i = 0
            · subst h5
              go_enter Tryd.func51, Tryd.ntmps51
              go_wp2_with fail; go_ret; exact ⟨ret_bool (by rw [HB.out]; first | (simp; done) | (simp; omega) | (simp; intros; omega)), AL.out _⟩
            · go_enter Tryd.func51, Tryd.ntmps51
              go_wp2_with fail; go_ret; exact ⟨ret_bool (by rw [HB.out]; simp [h5]), AL.out _⟩
          · go_enter Tryd.func51, Tryd.ntmps51
            go_wp2_with fail; go_ret; exact ⟨ret_bool (by rw [HB.out]; first | (simp; done) | (simp; omega) | (simp; intros; omega)), AL.out _⟩
        · go_enter Tryd.func51, Tryd.ntmps51
          go_wp2_with fail; go_ret; exact ⟨ret_bool (by rw [HB.out]; simp [h1, h2, h3]), AL.out _⟩
  · obtain ⟨z1, z2⟩ := bytes_ne (s := t) (by omega)
    by_cases h1 : k = 1
    · subst h1
      by_cases h2 : n = 0
      · subst h2
        go_enter Tryd.func51, Tryd.ntmps51
        go_wp2_with fail
        refine Calls.mono (IN.out _) ?_
        rintro e w1 ⟨rfl, hw1⟩
        rw [hw1]
        cases rr with
        | true => go_wp2_with fail; go_ret; exact ⟨ret_bool (by rw [HB.out]; simp [hz]), AL.out _⟩
        | false => go_wp2_with fail; go_ret; exact ⟨ret_bool (by rw [HB.out]; simp), AL.out _⟩
      · go_enter Tryd.func51, Tryd.ntmps51
        go_wp2_with fail; go_ret; exact ⟨ret_bool (by rw [HB.out]; simp [h2]), AL.out _⟩
    · by_cases h2 : k = 2
      · subst h2
        by_cases h3 : n = 0
        · subst h3
          by_cases h4 : i = 0
          · subst h4
            by_cases h5 : t.size ≤ 4096
            · have h5I : (t.size : Int) ≤ 4096 := by omega
              go_enter Tryd.func51, Tryd.ntmps51
              go_wp2_with fail; go_ret; exact ⟨ret_bool (by rw [HB.out]; simp [h5]), AL.out _⟩
            · have h5I : ¬ (t.size : Int) ≤ 4096 := by omega
              go_enter Tryd.func51, Tryd.ntmps51
              go_wp2_with fail; go_ret; exact ⟨ret_bool (by rw [HB.out]; simp [h5]), AL.out _⟩
          · go_enter Tryd.func51, Tryd.ntmps51
            go_wp2_with fail; go_ret; exact ⟨ret_bool (by rw [HB.out]; first | (simp; done) | (simp; omega) | (simp; intros; omega)), AL.out _⟩
        · go_enter Tryd.func51, Tryd.ntmps51
          go_wp2_with fail; go_ret; exact ⟨ret_bool (by rw [HB.out]; simp [h3]), AL.out _⟩
      · by_cases h3 : k = 3
        · subst h3
          by_cases h4 : 0 ≤ n
          · by_cases h5 : i = 0
            · subst h5
              go_enter Tryd.func51, Tryd.ntmps51
              go_wp2_with fail; go_ret; exact ⟨ret_bool (by rw [HB.out]; simp [hz]), AL.out _⟩
            · go_enter Tryd.func51, Tryd.ntmps51
              go_wp2_with fail; go_ret; exact ⟨ret_bool (by rw [HB.out]; simp [h5]), AL.out _⟩
          · go_enter Tryd.func51, Tryd.ntmps51
            go_wp2_with fail; go_ret; exact ⟨ret_bool (by rw [HB.out]; first | (simp; done) | (simp; omega) | (simp; intros; omega)), AL.out _⟩
        · go_enter Tryd.func51, Tryd.ntmps51
          go_wp2_with fail; go_ret; exact ⟨ret_bool (by rw [HB.out]; simp [h1, h2, h3]), AL.out _⟩
end Go.Proofs.YtahcllncjpaijabDoor
namespace Go.Proofs.YtahcllncjpaijabDoor
open Go.RowKit

end Go.Proofs.YtahcllncjpaijabDoor
namespace Go.Proofs.YtahcllncjpaijabDoor
open Go.RowKit

/-- The stack behind the first k atoms. -/
structure DI (l : List Atm) (k : Nat) (S : List Vt) : Prop where
  eq : bV [] l = bV S (l.drop k)
  ls : S.length ≤ k
theorem DI.start (l : List Atm) : DI l 0 [] := ⟨by simp, Nat.le_refl _⟩
theorem DI.bad {l : List Atm} {k : Nat} {S : List Vt} (h : DI l k S) (hk : k < l.length) (hc : okV S l[k] = false) : depV l = 0 := by
  unfold depV
  rw [h.eq, drop_at hk, bV, if_neg (by rw [hc]; decide)]
theorem DI.next {l : List Atm} {k : Nat} {S : List Vt} (h : DI l k S) (hk : k < l.length) (hc : okV S l[k] = true) : DI l (k + 1) (stV S l[k]) := by
  refine ⟨by rw [h.eq, drop_at hk, bV, if_pos hc], ?_⟩
  have h1 := stV_len hc
  have h2 := (atB_n (okV_iff.1 hc).1).1
  have h3 := h.ls
  omega
theorem DI.fin {l : List Atm} {S : List Vt} (h : DI l l.length S) : depV l = if S.length = 1 then (dpVL S : Nat) else 0 := by
  unfold depV
  rw [h.eq, List.drop_length, bV]
  match S with
  | [] => rfl
  | [t] => simp [dpVL]
  | _ :: _ :: _ => simp
/-- The depths of a stack. -/
def dsV (S : List Vt) : List Int := S.map fun t => ((dpV t : Nat) : Int)
theorem dsV_len (S : List Vt) : (dsV S).length = S.length := List.length_map _
theorem dsV_at {S : List Vt} {j : Nat} (h : j < S.length) : (dsV S)[j]'(by rw [dsV_len]; exact h) = ((dpV S[j] : Nat) : Int) := by simp [dsV]
theorem dsV_take (S : List Vt) (m : Nat) : (dsV S).take m = dsV (S.take m) := by unfold dsV; rw [List.map_take]
theorem dsV_st (S : List Vt) (a : Atm) : dsV (stV S a) = dsV (S.take (cutV S a)) ++ [((dpVL (S.drop (cutV S a)) : Nat) : Int) + 1] := by
  unfold stV dsV
  rw [List.map_append, List.map_singleton, dpV]
  simp
/-- The deepest of the first j parts. -/
def mxD (S : List Vt) (m j : Nat) : Nat := dpVL ((S.drop m).take j)
theorem mxD_next {S : List Vt} {m j : Nat} (h : m + j < S.length) : mxD S m (j + 1) = max (mxD S m j) (dpV S[m + j]) := by
  unfold mxD
  have e : (S.drop m)[j]? = some S[m + j] := by rw [List.getElem?_drop, List.getElem?_eq_getElem h]
  rw [List.take_add_one, e, Option.toList_some, dpVL_app]
  simp [dpVL]
theorem mxD_all {S : List Vt} {m j : Nat} (h : S.length ≤ m + j) : mxD S m j = dpVL (S.drop m) := by
  unfold mxD
  rw [List.take_of_length_le (by rw [List.length_drop]; omega)]
mutual
theorem dpV_le : ∀ t : Vt, dpV t ≤ szV t
  | .nd k i tx ps => by
    have := dpVL_sz ps
    rw [dpV, szV_nd]; omega
theorem dpVL_sz : ∀ l : List Vt, dpVL l ≤ szVL l
  | [] => by simp [dpVL]
  | t :: r => by
    have h1 := dpV_le t
    have h2 := dpVL_sz r
    rw [dpVL, szVL_cons]; omega
end
theorem dpVL_sub {S : List Vt} {m j : Nat} : mxD S m j ≤ dpVL S := by
  unfold mxD
  rw [dpVL_le]
  intro t ht
  exact (dpVL_le S (dpVL S)).1 (Nat.le_refl _) t (List.mem_of_mem_drop (List.mem_of_mem_take ht))
/-- How many atoms a stack has: as many as were read. -/
theorem DI.size {l : List Atm} {k : Nat} {S : List Vt} (h : szVL S = k) (hk : k < l.length) (hc : okV S l[k] = true) : szVL (stV S l[k]) = k + 1 := by
  unfold szVL at *
  rw [stV_flat hc, List.length_append, h]; rfl
end Go.Proofs.YtahcllncjpaijabDoor
