/- Values: two of a row held against each other. -/
import Derived.Test.YtahcllncjpaijabDoorSo1
import Derived.Test.YtahcllncjpaijabDoorVi0
import Derived.Test.YtahcllncjpaijabDoorQuote
import Derived.Test.YtahcllncjpaijabDoorVh2
namespace Go.Proofs.YtahcllncjpaijabDoor
open Go.RowKit

theorem prnS_tree' {l : List Atm} {t : Vt} (e : l = flV t) (hr : RT t) : prnS l = ⟨(prV t).toArray⟩ := by
  unfold prnS
  rw [e, if_pos hr.chk, treeA_flat hr.wf, txP_is hr.wf]
/-- A value is read of its text. -/
theorem back_there {l : List Atm} (hc : chkV l = 0) (hl : (prnS l).size ≤ 65536) : psE (prnS l).data.toList = 0 ∧ psA (prnS l).data.toList = l := by
  obtain ⟨t, e, hr⟩ := RT.of hc
  have ep := prnS_tree' e hr
  rw [ep] at hl ⊢
  have hl' : (prV t).length ≤ 65536 := by simpa [ByteArray.size] using hl
  show psE (prV t) = 0 ∧ psA (prV t) = l
  obtain ⟨e1, e2⟩ := psE_good (s := prV t) (by omega) ((parse_iff hl').1 ⟨t, hr, rfl⟩)
  exact ⟨e1, by rw [e2, parse_is hl' hr rfl, e]⟩
/-- What is read has that text. -/
theorem back_again {s : ByteArray} (h : psE s.data.toList = 0) : chkV (psA s.data.toList) = 0 ∧ prnS (psA s.data.toList) = s := by
  have hl : ¬ 65536 < s.data.toList.length := fun hl => by unfold psE at h; rw [if_pos hl] at h; cases h
  have hc : (L1.tkRes s.data.toList).2.2 = 0 ∧ chkV (rdA s.data.toList) = 0 ∧ prV (treeA (rdA s.data.toList)) = s.data.toList := by
    unfold psE at h
    rw [if_neg hl] at h
    split at h
    · assumption
    · cases h
  obtain ⟨t, hr, e⟩ := (parse_iff (by omega)).2 hc
  have e2 : psA s.data.toList = flV t := by rw [(psE_good hl hc).2, parse_is (by omega) hr e]
  rw [e2]
  refine ⟨hr.chk, ?_⟩
  rw [prnS_tree' rfl hr, e]
theorem psA_at (s : List UInt8) : AT (psA s) ∧ (psA s).length ≤ 8192 := by
  unfold psA
  split
  · exact rdA_at s
  · exact ⟨(fun c hc => by cases hc), by simp⟩
theorem allE_ok {ts : List Vt} (h : ∀ t ∈ ts, RT t) (hl : ts.length ≤ 4096) : allE (ts.map flV) = 0 := by
  unfold allE
  rw [List.length_map, if_neg (by omega)]
  clear hl
  induction ts with
  | nil => rfl
  | cons t r ih =>
    rw [List.map_cons, firstE, if_pos (h t (List.mem_cons_self ..)).chk]
    exact ih (fun x hx => h x (List.mem_cons_of_mem _ hx))
/-- A list is the list of its members. -/
theorem mem_list {l : List Atm} (h : memE l = 0) : listE (memL l) = 0 ∧ listL (memL l) = l := by
  have hc : chkV l = 0 := by
    by_cases hc : chkV l = 0
    · exact hc
    · unfold memE at h; rw [if_neg hc] at h; exact h
  obtain ⟨t, e, hr⟩ := RT.of hc
  have hm := h
  unfold memE at hm
  rw [if_pos hc] at hm
  have hk : t.k = 3 := by
    rw [e, (memT_flat hr.wf).2] at hm
    split at hm
    · assumption
    · cases hm
  have eL : memL l = t.ps.map flV := by unfold memL; rw [if_pos h, e, (memT_flat hr.wf).1]
  obtain ⟨k, i, tx, ps⟩ := t
  obtain rfl : k = 3 := hk
  obtain ⟨e1, e2⟩ := wf_end hr.wf
  subst e1 e2
  have hps : ∀ u ∈ ps, RT u := hr.parts
  have hsz := hr.sz
  rw [szV_nd] at hsz
  have hlen : ps.length ≤ szVL ps := by
    clear hps hsz eL hm h hc e hr
    induction ps with
    | nil => simp
    | cons a r ih => rw [szVL_cons, List.length_cons]; have := szV_pos a; omega
  have ha := allE_ok hps (by omega)
  have hchk : ∀ a ∈ ps.map flV, chkV a = 0 := fun a ha => by
    obtain ⟨u, hu, e9⟩ := List.mem_map.1 ha
    rw [← e9]; exact (hps u hu).chk
  have hlst : lstA (ps.map flV) = l := by rw [lstA_trees, e]; rfl
  have eL' : memL l = ps.map flV := eL
  rw [eL']
  have hE : listE (ps.map flV) = 0 := by
    unfold listE
    rw [if_pos ha, lokB_chk hchk, hlst, hc]
    rfl
  exact ⟨hE, by unfold listL; rw [if_pos hE, hlst]⟩
/-- How many are this one. -/
def cntA (a : List Atm) (A : List (List Atm)) : Int := (A.countP (fun b => eqA b a) : Nat)
theorem cntA_take {a : List Atm} {A : List (List Atm)} {k : Nat} (h : k < A.length) : cntA a (A.take (k + 1)) = cntA a (A.take k) + (if eqA A[k] a = true then 1 else 0) := by
  unfold cntA
  rw [List.take_add_one, List.getElem?_eq_getElem h, Option.toList_some, List.countP_append, List.countP_singleton]
  split <;> simp
theorem cntA_le (a : List Atm) (A : List (List Atm)) : 0 ≤ cntA a A ∧ cntA a A ≤ (A.length : Int) := by
  unfold cntA
  have := List.countP_le_length (p := fun b => eqA b a) (l := A)
  omega
theorem SoS.facts {A S : List (List Atm)} (h : SoS A S) (hz : allE A = 0) : S.Perm A ∧ (∀ i (h1 : i + 1 < S.length), cmpE (S[i]'(by omega)) S[i + 1] = 0 ∧ cmpN (S[i]'(by omega)) S[i + 1] ≤ 0) := by
  rcases h with ⟨h1, _⟩ | ⟨_, T, U, e1, e2, e3, e4, e5⟩
  · exact absurd hz h1
  · subst e1 e3
    refine ⟨e4.map flV, fun i h1 => ?_⟩
    rw [List.length_map] at h1
    rw [List.getElem_map, List.getElem_map]
    have r1 := e2 _ (e4.subset (List.getElem_mem (show i < U.length by omega)))
    have r2 := e2 _ (e4.subset (List.getElem_mem h1))
    have hp := List.pairwise_iff_getElem.1 e5 i (i + 1) (by omega) h1 (by omega)
    have hE : cmpE (flV (U[i]'(by omega))) (flV U[i + 1]) = 0 := by unfold cmpE; simp [firstE, r1.chk, r2.chk]
    refine ⟨hE, ?_⟩
    unfold cmpN
    rw [if_pos hE, treeA_flat r1.wf, treeA_flat r2.wf]
    exact hp
theorem SoS.cnt {A S : List (List Atm)} (h : SoS A S) (hz : allE A = 0) (a : List Atm) : cntA a A = cntA a S := by
  unfold cntA
  rw [(h.facts hz).1.countP_eq]
end Go.Proofs.YtahcllncjpaijabDoor
namespace Go.Proofs.YtahcllncjpaijabDoor
open Go.RowKit

theorem AT_one (x : Atm) (h : x.text.size ≤ 1000) : AT [x] := by
  intro y hy
  rw [List.mem_singleton] at hy
  subst hy
  show _ ≤ maxLen
  unfold maxLen; omega
set_option maxHeartbeats 16000000 in
set_option maxRecDepth 100000 in
theorem works_any (w : World) (hp : PowBelow w.heap.size w) :
    Calls Tryd.prog 4 #[] w fun e w' => e = .returned (.bool true) ∧ Below w.heap.size w w' := by
  have LW : Hid (∀ n w1, Calls Tryd.prog 13 #[.int .i64 n] w1 fun e w' => e = .returned (.slice (some ⟨w1.heap.size, 0, none⟩) 1 1) ∧ w' = w1.alloc (.cells #[.int .i64 1, .int .i64 0, .int .i64 n, .string ByteArray.empty] 43)) := lwhole_any
  have DO : Hid (∀ w1, Below w.heap.size w w1 → ∀ q1 q2, AS w1 (.slice q1 1 1) [nA 2] → AS w1 (.slice q2 1 1) [nA 3] → Calls Tryd.prog 12 #[.int .i64 6, .slice (some ⟨w1.heap.size, 0, none⟩) 2 2] (w1.alloc (.cells #[.slice q1 1 1, .slice q2 1 1] 23)) fun e w' => ∃ p c, e = .returned (.tuple #[.slice p 1 c, .bool true, .int .i64 0]) ∧ AS w' (.slice p 1 c) [nA 5] ∧ Below w.heap.size w w') := fun w1 b q1 q2 h1 h2 => by
    have := vdo_any 6 _ _ _ (pair_vr (l1 := [nA 2]) (l2 := [nA 3]) h1 h2) (pair_vt (by decide) (by decide) (AT_one _ (by decide)) (AT_one _ (by decide)))
    refine Calls.mono this ?_
    rintro e w' ⟨p, c, he, ho, hb⟩
    have e1 : doO 6 (aL [(⟨[nA 2], q1, 1⟩ : Vx), ⟨[nA 3], q2, 1⟩]) = _ := ex_add.1
    have e2 : doE 6 (aL [(⟨[nA 2], q1, 1⟩ : Vx), ⟨[nA 3], q2, 1⟩]) = _ := ex_add.2
    rw [e1, e2] at he
    rw [e1] at ho
    exact ⟨p, c, he, ho.gs KA_ok.len, b.trans (((Below.refl _ _).alloc (Nat.le_refl _) _).trans (hb.mono (by simp)) |>.mono b.size)⟩
  have LI : Hid (∀ w1, Below w.heap.size w w1 → ∀ B q1 q2 q3, w1.heap.size = B → AS w1 (.slice q1 1 1) [nA 1] → AS w1 (.slice q2 1 1) [tA] → AS w1 (.slice q3 1 1) [eA 0] → Calls Tryd.prog 9 #[.slice (some ⟨B, 0, none⟩) 3 3] (w1.alloc (.cells #[.slice q1 1 1, .slice q2 1 1, .slice q3 1 1] 23)) fun e w' => ∃ p c, e = .returned (.tuple #[.slice p 4 c, .int .i64 0]) ∧ AS w' (.slice p 4 c) exL ∧ Below w1.heap.size w1 w') := fun w1 b B q1 q2 q3 hB h1 h2 h3 => by
    subst hB
    have := list_any _ _ _ (triple_vr (l1 := [nA 1]) (l2 := [tA]) (l3 := [eA 0]) h1 h2 h3) (triple_vt (by decide) (by decide) (by decide) (AT_one _ (by decide)) (AT_one _ (by decide)) (AT_one _ (by decide)))
    refine Calls.mono this ?_
    rintro e w' ⟨p, c, he, ho, hb⟩
    have e1 : listL (aL [(⟨[nA 1], q1, 1⟩ : Vx), ⟨[tA], q2, 1⟩, ⟨[eA 0], q3, 1⟩]) = _ := ex_list.1
    have e2 : listE (aL [(⟨[nA 1], q1, 1⟩ : Vx), ⟨[tA], q2, 1⟩, ⟨[eA 0], q3, 1⟩]) = _ := ex_list.2
    rw [e1, e2] at he
    rw [e1] at ho
    exact ⟨p, c, he, ho.gs KA_ok.len, ((Below.refl _ _).alloc (Nat.le_refl _) _).trans (hb.mono (by simp))⟩
  have PR : Hid (∀ w1 v, Below w.heap.size w w1 → AS w1 v exL → Calls Tryd.prog 5 #[v] w1 fun e w' => e = .returned (.tuple #[.string ⟨#[91, 49, 44, 32, 34, 97, 34, 44, 32, 91, 93, 93]⟩, .int .i64 0]) ∧ Below w1.heap.size w1 w') := fun w1 v b h => by
    have := print_any v exL w1 h (by intro y hy; show _ ≤ maxLen; unfold maxLen; have : ∀ y ∈ exL, y.text.size ≤ 1000 := by decide
                                     have := this y hy; omega) (by decide) (fun w2 b2 => hp w2 (b.trans (b2.mono b.size)))
    rw [ex_prn, ex_chk] at this
    exact this
  have SV : Hid (∀ w1 v1 v2, AS w1 v1 [nA 5] → AS w1 v2 [nA 5] → Calls Tryd.prog 7 #[v1, v2] w1 fun e w' => e = .returned (.bool true) ∧ Below w1.heap.size w1 w') := fun w1 v1 v2 h1 h2 => sameV_same w1 v1 v2 _ h1 h2 (by decide)
  have BA : Hid (∀ w1 ob, Below w.heap.size w w1 → Below w.heap.size w (w1.alloc ob)) := fun w1 ob b => b.alloc b.size ob
  have BR : Hid (Below w.heap.size w w) := Below.refl _ _
  have LA : Hid (∀ w1 x, AS (World.alloc w1 (.cells #[.int .i64 x.kind, .int .i64 x.n, .int .i64 x.int, .string x.text] 43)) (.slice (some ⟨w1.heap.size, 0, none⟩) 1 1) [x]) := lit_as
  have LB : Hid (∀ (w1 : World) (x : Atm) (B : Nat), w1.heap.size = B → AS (World.alloc w1 (.cells #[.int .i64 x.kind, .int .i64 x.n, .int .i64 x.int, .string x.text] 43)) (.slice (some ⟨B, 0, none⟩) 1 1) [x]) := fun w1 x B h => by subst h; exact lit_as w1 x
  clear hp
  go_enter Tryd.func4, Tryd.ntmps4
  go_wp2_with fail
  refine Calls.mono (LW.out 2 w) ?_
  rintro e w1 ⟨rfl, hw1⟩
  have A1 : Hid (AS w1 (.slice (some ⟨w.heap.size, 0, none⟩) 1 1) [nA 2]) := by rw [hw1]; exact LA.out w (nA 2)
  have B1 : Hid (Below w.heap.size w w1) := by rw [hw1]; exact BA.out _ _ BR.out
  clear hw1
  go_wp2_with fail
  refine Calls.mono (LW.out 3 w1) ?_
  rintro e w2 ⟨rfl, hw2⟩
  have A2 : Hid (AS w2 (.slice (some ⟨w1.heap.size, 0, none⟩) 1 1) [nA 3]) := by rw [hw2]; exact LA.out w1 (nA 3)
  have A3 : Hid (AS w2 (.slice (some ⟨w.heap.size, 0, none⟩) 1 1) [nA 2]) := by rw [hw2]; exact AS.alloc A1.out _
  have B2 : Hid (Below w.heap.size w w2) := by rw [hw2]; exact BA.out _ _ B1.out
  have Q1 : Hid _ := DO.out w2 B2.out _ _ A3.out A2.out
  clear hw2 A1 B1 A2 A3 DO
  go_wp2_with fail
  refine Calls.mono Q1.out ?_
  rintro e w3 ⟨p3, c3, rfl, ha3, hb3⟩
  have A3 : Hid (AS w3 (.slice p3 1 c3) [nA 5]) := ha3
  have B3 : Hid (Below w.heap.size w w3) := hb3
  clear ha3 hb3 Q1 B2
  go_wp2_with fail
  refine Calls.mono (LW.out 1 w3) ?_
  rintro e w4 ⟨rfl, hw4⟩
  have A4 : Hid (AS w4 (.slice (some ⟨w3.heap.size, 0, none⟩) 1 1) [nA 1]) := by rw [hw4]; exact LA.out w3 (nA 1)
  have A5 : Hid (AS w4 (.slice p3 1 c3) [nA 5]) := by rw [hw4]; exact AS.alloc A3.out _
  have B4 : Hid (Below w.heap.size w w4) := by rw [hw4]; exact BA.out _ _ B3.out
  have C1 : Hid (AS (w4.alloc (.cells #[.int .i64 2, .int .i64 0, .int .i64 0, .string ⟨#[97]⟩] 43)) (.slice (some ⟨w4.heap.size, 0, none⟩) 1 1) [tA]) := LA.out w4 tA
  have C2 : Hid (AS ((w4.alloc (.cells #[.int .i64 2, .int .i64 0, .int .i64 0, .string ⟨#[97]⟩] 43)).alloc (.cells #[.int .i64 3, .int .i64 0, .int .i64 0, .string ⟨#[]⟩] 43)) (.slice (some ⟨w4.heap.size + 1, 0, none⟩) 1 1) [eA 0]) := LB.out _ (eA 0) _ (by simp)
  have Q2 : Hid _ := LI.out ((w4.alloc (.cells #[.int .i64 2, .int .i64 0, .int .i64 0, .string ⟨#[97]⟩] 43)).alloc (.cells #[.int .i64 3, .int .i64 0, .int .i64 0, .string ⟨#[]⟩] 43)) (BA.out _ _ (BA.out _ _ B4.out)) (w4.heap.size + 1 + 1) _ _ _ (by simp) (AS.alloc (AS.alloc A4.out _) _) (AS.alloc C1.out _) C2.out
  have K2 : Hid (∀ o1 o2 w', Below ((w4.alloc o1).alloc o2).heap.size ((w4.alloc o1).alloc o2) w' → Below w4.heap.size w4 w') := fun o1 o2 w' b => (((Below.refl _ _).alloc (Nat.le_refl _) _).alloc (by simp) _).trans (b.mono (by simp; omega))
  clear hw4 A3 B3 A4 LI C1 C2 LB
  go_wp2_with fail
  refine Calls.mono Q2.out ?_
  rintro e w5 ⟨p5, c5, rfl, ha5, hb5⟩
  have A6 : Hid (AS w5 (.slice p3 1 c3) [nA 5]) := A5.out.below (K2.out _ _ _ hb5)
  have B5 : Hid (Below w.heap.size w w5) := B4.out.trans ((K2.out _ _ _ hb5).mono B4.out.size)
  have Q3 : Hid _ := PR.out w5 _ B5.out ha5
  clear ha5 hb5 Q2 K2 A5 B4 PR
  go_wp2_with fail
  refine Calls.mono Q3.out ?_
  rintro e w6 ⟨rfl, hb6⟩
  have A7 : Hid (AS w6 (.slice p3 1 c3) [nA 5]) := A6.out.below hb6
  have B6 : Hid (Below w.heap.size w w6) := B5.out.trans (hb6.mono B5.out.size)
  clear hb6 Q3 A6 B5
  go_wp2_with fail
  refine Calls.mono (LW.out 5 w6) ?_
  rintro e w7 ⟨rfl, hw7⟩
  have A8 : Hid (AS w7 (.slice (some ⟨w6.heap.size, 0, none⟩) 1 1) [nA 5]) := by rw [hw7]; exact LA.out w6 (nA 5)
  have A9 : Hid (AS w7 (.slice p3 1 c3) [nA 5]) := by rw [hw7]; exact AS.alloc A7.out _
  have B7 : Hid (Below w.heap.size w w7) := by rw [hw7]; exact BA.out _ _ B6.out
  have Q4 : Hid _ := SV.out w7 _ _ A9.out A8.out
  clear hw7 A7 B6 SV A8 A9 BA LA LW
  go_wp2_with fail
  refine Calls.mono Q4.out ?_
  rintro e w8 ⟨rfl, hb8⟩
  have B8 : Hid (Below w.heap.size w w8) := B7.out.trans (hb8.mono B7.out.size)
  clear hb8 Q4 B7
  go_wp2_with fail
  go_ret
  exact ⟨rfl, B8.out⟩
theorem cmpN_bd (l1 l2 : List Atm) : -1 ≤ cmpN l1 l2 ∧ cmpN l1 l2 ≤ 1 := by
  unfold cmpN
  split
  · exact cmpV_bd _ _
  · omega
set_option maxHeartbeats 4000000 in
theorem lcompare_any (v1 v2 : Value) (l1 l2 : List Atm) (w : World) (h1 : AS w v1 l1) (h2 : AS w v2 l2) (t1 : AT l1) (t2 : AT l2) (n1 : l1.length * 40 ≤ 140737488355328) (n2 : l2.length * 40 ≤ 140737488355328) (he : cmpE l1 l2 = 0) :
    Calls Tryd.prog 11 #[v1, v2] w fun e w' => e = .returned (.tuple #[.int .i64 (cmpN l1 l2), .bool true]) ∧ Below w.heap.size w w' := by
  have CP : Hid _ := compare_any v1 v2 l1 l2 w h1 h2 t1 t2 n1 n2
  rw [he] at CP
  obtain ⟨b1, b2⟩ := cmpN_bd l1 l2
  obtain ⟨q1, c1, rfl⟩ := h1.form
  obtain ⟨q2, c2, rfl⟩ := h2.form
  generalize cmpN l1 l2 = r at *
  clear h1 h2 t1 t2 he
  go_enter Tryd.func11, Tryd.ntmps11
  go_wp2_with fail
  refine Calls.mono CP.out ?_
  rintro e w1 ⟨rfl, hb1⟩
  have B1 : Hid (Below w.heap.size w w1) := hb1
  clear hb1 CP
  go_wp2_with fail
  exact bodyPost_ret (v := .tuple #[.int .i64 r, .bool true]) (by simp [results, Tryd.results11, go_sem]) rfl ⟨rfl, B1.out⟩
end Go.Proofs.YtahcllncjpaijabDoor
namespace Go.Proofs.YtahcllncjpaijabDoor
open Go.RowKit

theorem VR.one {w : World} {p : Option Addr} {n c : Nat} {M : List Vx} (h : VR w (.slice p n c) M) {k : Nat} (hk : k < M.length) : ∃ X o, p = some ⟨X, o, none⟩ ∧ w.cell? ⟨X, o + k, none⟩ = some (.slice M[k].q M[k].a.length M[k].c) ∧ AS w (.slice M[k].q M[k].a.length M[k].c) M[k].a := by
  obtain ⟨X, o, e, x⟩ := h.gs.atV hk
  exact ⟨X, o, e, x, h.av _ (List.getElem_mem hk)⟩
theorem aL_row {M : List Vx} {S : List (List Atm)} (e : aL M = S) {k : Nat} (h1 : k < M.length) (h2 : k < S.length) : M[k].a = S[k] := by
  subst e
  rw [aL_at h1]
theorem cmp_pair {w8 wr : World} {p8 : Option Addr} {n8 c8 : Nat} {S : List (List Atm)} {M8 : List Vx} (V : VR w8 (.slice p8 n8 c8) M8 ∧ VT M8 ∧ aL M8 = S) (FC : ∀ i (h1 : i + 1 < S.length), cmpE (S[i]'(by omega)) S[i + 1] = 0 ∧ cmpN (S[i]'(by omega)) S[i + 1] ≤ 0) (b : Below w8.heap.size w8 wr) (im : Nat) (h : im + 1 < S.length) :
    ∃ X o aq an ac bq bn bc cn, p8 = some ⟨X, o, none⟩ ∧ wr.cell? ⟨X, o + im, none⟩ = some (.slice aq an ac) ∧ wr.cell? ⟨X, o + (im + 1), none⟩ = some (.slice bq bn bc) ∧ cn ≤ 0 ∧ ∀ W, Below wr.heap.size wr W → Calls Tryd.prog 11 #[.slice aq an ac, .slice bq bn bc] W fun e w' => e = .returned (.tuple #[.int .i64 cn, .bool true]) ∧ Below W.heap.size W w' := by
  obtain ⟨v1, v2, v3⟩ := V
  have hl : M8.length = S.length := by rw [← v3, aL_len]
  have vr := v1.below b
  obtain ⟨X, o, e1, x1, a1⟩ := vr.one (k := im) (by omega)
  obtain ⟨X', o', e2, x2, a2⟩ := vr.one (k := im + 1) (by omega)
  rw [e1] at e2
  injection e2 with e2
  injection e2 with q1 q2 _
  subst q1 q2
  have m1 : M8[im] ∈ M8 := List.getElem_mem _
  have m2 : M8[im + 1] ∈ M8 := List.getElem_mem _
  have f1 := aL_row v3 (k := im) (by omega) (by omega)
  have f2 := aL_row v3 (k := im + 1) (by omega) h
  have fc := FC im h
  rw [← f1, ← f2] at fc
  exact ⟨X, o, _, _, _, _, _, _, cmpN M8[im].a M8[im + 1].a, e1, x1, x2, fc.2, fun W bw => lcompare_any _ _ _ _ W (GS.below a1 bw) (GS.below a2 bw) (v2.t _ m1) (v2.t _ m2) (v2.l _ m1) (v2.l _ m2) fc.1⟩
theorem same_one {w : World} {v1 v2 : Value} {l m : List Atm} (h1 : AS w v1 l) (h2 : AS w v2 m) (hl : l.length * 40 ≤ 140737488355328) : ∀ W, Below w.heap.size w W → Calls Tryd.prog 7 #[v1, v2] W fun e w' => e = .returned (.bool (eqA l m)) ∧ Below W.heap.size W w' := fun W b => by
  refine (sameV_any W _ _ _ _ (GS.below h1 b) (GS.below h2 b) (by omega)).mono ?_
  rintro e w' ⟨rfl, nn, rfl⟩
  exact ⟨rfl, below_drewN (Below.refl _ _) _⟩
/-- Where the law counts. -/
def nkA (a : List Atm) (A S : List (List Atm)) (k : Nat) : Int := cntA a (A.take k) - cntA a (S.take k)
theorem same_pair {w8 wq : World} {p8 q2 : Option Addr} {n8 c8 n2 c2 : Nat} {S : List (List Atm)} {M8 L : List Vx} (V : VR w8 (.slice p8 n8 c8) M8 ∧ VT M8 ∧ aL M8 = S) (vl : VR wq (.slice q2 n2 c2) L) (hL : VT L) (b : Below w8.heap.size w8 wq) (i k : Nat) (hi : i < L.length) (hk : k < L.length) (hkS : k < S.length) (hS : S.length ≤ 4096) :
    ∃ X o Y y aq an ac bq bn bc xq xn xc b1 b2, q2 = some ⟨X, o, none⟩ ∧ p8 = some ⟨Y, y, none⟩ ∧ wq.cell? ⟨X, o + k, none⟩ = some (.slice aq an ac) ∧ wq.cell? ⟨X, o + i, none⟩ = some (.slice bq bn bc) ∧ wq.cell? ⟨Y, y + k, none⟩ = some (.slice xq xn xc) ∧
      (∀ W, Below wq.heap.size wq W → Calls Tryd.prog 7 #[.slice aq an ac, .slice bq bn bc] W fun e w' => e = .returned (.bool b1) ∧ Below W.heap.size W w') ∧ (∀ W, Below wq.heap.size wq W → Calls Tryd.prog 7 #[.slice xq xn xc, .slice bq bn bc] W fun e w' => e = .returned (.bool b2) ∧ Below W.heap.size W w') ∧
      nkA L[i].a (aL L) S (k + 1) = nkA L[i].a (aL L) S k + (if b1 = true then 1 else 0) - (if b2 = true then 1 else 0) ∧ -4096 ≤ nkA L[i].a (aL L) S k ∧ nkA L[i].a (aL L) S k ≤ 4096 := by
  obtain ⟨v1, v2, v3⟩ := V
  have hl : M8.length = S.length := by rw [← v3, aL_len]
  have vx := v1.below b
  obtain ⟨X, o, e1, x1, a1⟩ := vl.one hk
  obtain ⟨X', o', e2, x2, a2⟩ := vl.one hi
  obtain ⟨Y, y, e3, x3, a3⟩ := vx.one (k := k) (by omega)
  rw [e1] at e2
  injection e2 with e2
  injection e2 with q1 q2' _
  subst q1 q2'
  have f1 := aL_row v3 (k := k) (by omega) hkS
  have t1 := cntA_take (a := L[i].a) (A := aL L) (k := k) (by rw [aL_len]; exact hk)
  have t2 := cntA_take (a := L[i].a) (A := S) (k := k) hkS
  rw [aL_at hk] at t1
  rw [← f1] at t2
  have g1 := cntA_le L[i].a ((aL L).take k)
  have g2 := cntA_le L[i].a (S.take k)
  have g3 : ((aL L).take k).length ≤ 4096 := by rw [List.length_take, aL_len]; omega
  have g4 : (S.take k).length ≤ 4096 := by rw [List.length_take]; omega
  refine ⟨X, o, Y, y, _, _, _, _, _, _, _, _, _, eqA L[k].a L[i].a, eqA M8[k].a L[i].a, e1, e3, x1, x2, x3, same_one a1 a2 (hL.l _ (List.getElem_mem _)), same_one a3 a2 (v2.l _ (List.getElem_mem _)), ?_, ?_, ?_⟩
  · unfold nkA; rw [t1, t2]; omega
  · unfold nkA; omega
  · unfold nkA; omega
theorem nkA_zero (a : List Atm) (A S : List (List Atm)) : nkA a A S 0 = 0 := by simp [nkA, cntA]
theorem nkA_all {a : List Atm} {A S : List (List Atm)} {n : Nat} (h : cntA a A = cntA a S) (h1 : A.length ≤ n) (h2 : S.length ≤ n) : nkA a A S n = 0 := by
  unfold nkA
  rw [List.take_of_length_le h1, List.take_of_length_le h2, h]; omega
end Go.Proofs.YtahcllncjpaijabDoor
