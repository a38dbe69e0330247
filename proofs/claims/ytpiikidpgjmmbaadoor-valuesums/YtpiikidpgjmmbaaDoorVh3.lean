/- The laws' works. -/
import Derived.Test.YtpiikidpgjmmbaaDoorVh2
namespace Go.Proofs.YtpiikidpgjmmbaaDoor
open Go.RowKit

theorem AT_one (x : Atm) (h : x.text.size ≤ 1000) : AT [x] := by
  intro y hy
  rw [List.mem_singleton] at hy
  subst hy
  show _ ≤ maxLen
  unfold maxLen; omega
set_option maxHeartbeats 16000000 in
set_option maxRecDepth 100000 in
theorem works_any (w : World) (hp : PowBelow w.heap.size w) :
    Calls Tryd.prog 20 #[] w fun e w' => e = .returned (.bool true) ∧ Below w.heap.size w w' := by
  have LW : Hid (∀ n w1, Calls Tryd.prog 24 #[.int .i64 n] w1 fun e w' => e = .returned (.slice (some ⟨w1.heap.size, 0, none⟩) 1 1) ∧ w' = w1.alloc (.cells #[.int .i64 1, .int .i64 0, .int .i64 n, .string ByteArray.empty] 56)) := lwhole_any
  have DO : Hid (∀ w1, Below w.heap.size w w1 → ∀ q1 q2, AS w1 (.slice q1 1 1) [nA 2] → AS w1 (.slice q2 1 1) [nA 3] → Calls Tryd.prog 8 #[.int .i64 6, .slice (some ⟨w1.heap.size, 0, none⟩) 2 2] (w1.alloc (.cells #[.slice q1 1 1, .slice q2 1 1] 25)) fun e w' => ∃ p c, e = .returned (.tuple #[.slice p 1 c, .bool true, .int .i64 0]) ∧ AS w' (.slice p 1 c) [nA 5] ∧ Below w.heap.size w w') := fun w1 b q1 q2 h1 h2 => by
    have := vdo_any 6 _ _ _ (pair_vr (l1 := [nA 2]) (l2 := [nA 3]) h1 h2) (pair_vt (by decide) (by decide) (AT_one _ (by decide)) (AT_one _ (by decide)))
    refine Calls.mono this ?_
    rintro e w' ⟨p, c, he, ho, hb⟩
    have e1 : doO 6 (aL [(⟨[nA 2], q1, 1⟩ : Vx), ⟨[nA 3], q2, 1⟩]) = _ := ex_add.1
    have e2 : doE 6 (aL [(⟨[nA 2], q1, 1⟩ : Vx), ⟨[nA 3], q2, 1⟩]) = _ := ex_add.2
    rw [e1, e2] at he
    rw [e1] at ho
    exact ⟨p, c, he, ho.gs KA_ok.len, b.trans (((Below.refl _ _).alloc (Nat.le_refl _) _).trans (hb.mono (by simp)) |>.mono b.size)⟩
  have LI : Hid (∀ w1, Below w.heap.size w w1 → ∀ B q1 q2 q3, w1.heap.size = B → AS w1 (.slice q1 1 1) [nA 1] → AS w1 (.slice q2 1 1) [tA] → AS w1 (.slice q3 1 1) [eA 0] → Calls Tryd.prog 36 #[.slice (some ⟨B, 0, none⟩) 3 3] (w1.alloc (.cells #[.slice q1 1 1, .slice q2 1 1, .slice q3 1 1] 25)) fun e w' => ∃ p c, e = .returned (.tuple #[.slice p 4 c, .int .i64 0]) ∧ AS w' (.slice p 4 c) exL ∧ Below w1.heap.size w1 w') := fun w1 b B q1 q2 q3 hB h1 h2 h3 => by
    subst hB
    have := list_any _ _ _ (triple_vr (l1 := [nA 1]) (l2 := [tA]) (l3 := [eA 0]) h1 h2 h3) (triple_vt (by decide) (by decide) (by decide) (AT_one _ (by decide)) (AT_one _ (by decide)) (AT_one _ (by decide)))
    refine Calls.mono this ?_
    rintro e w' ⟨p, c, he, ho, hb⟩
    have e1 : listL (aL [(⟨[nA 1], q1, 1⟩ : Vx), ⟨[tA], q2, 1⟩, ⟨[eA 0], q3, 1⟩]) = _ := ex_list.1
    have e2 : listE (aL [(⟨[nA 1], q1, 1⟩ : Vx), ⟨[tA], q2, 1⟩, ⟨[eA 0], q3, 1⟩]) = _ := ex_list.2
    rw [e1, e2] at he
    rw [e1] at ho
    exact ⟨p, c, he, ho.gs KA_ok.len, ((Below.refl _ _).alloc (Nat.le_refl _) _).trans (hb.mono (by simp))⟩
  have PR : Hid (∀ w1 v, Below w.heap.size w w1 → AS w1 v exL → Calls Tryd.prog 16 #[v] w1 fun e w' => e = .returned (.tuple #[.string ⟨#[91, 49, 44, 32, 34, 97, 34, 44, 32, 91, 93, 93]⟩, .int .i64 0]) ∧ Below w1.heap.size w1 w') := fun w1 v b h => by
    have := print_any v exL w1 h (by intro y hy; show _ ≤ maxLen; unfold maxLen; have : ∀ y ∈ exL, y.text.size ≤ 1000 := by decide
                                     have := this y hy; omega) (by decide) (fun w2 b2 => hp w2 (b.trans (b2.mono b.size)))
    rw [ex_prn, ex_chk] at this
    exact this
  have SV : Hid (∀ w1 v1 v2, AS w1 v1 [nA 5] → AS w1 v2 [nA 5] → Calls Tryd.prog 10 #[v1, v2] w1 fun e w' => e = .returned (.bool true) ∧ Below w1.heap.size w1 w') := fun w1 v1 v2 h1 h2 => sameV_same w1 v1 v2 _ h1 h2 (by decide)
  have BA : Hid (∀ w1 ob, Below w.heap.size w w1 → Below w.heap.size w (w1.alloc ob)) := fun w1 ob b => b.alloc b.size ob
  have BR : Hid (Below w.heap.size w w) := Below.refl _ _
  have LA : Hid (∀ w1 x, AS (World.alloc w1 (.cells #[.int .i64 x.kind, .int .i64 x.n, .int .i64 x.int, .string x.text] 56)) (.slice (some ⟨w1.heap.size, 0, none⟩) 1 1) [x]) := lit_as
  have LB : Hid (∀ (w1 : World) (x : Atm) (B : Nat), w1.heap.size = B → AS (World.alloc w1 (.cells #[.int .i64 x.kind, .int .i64 x.n, .int .i64 x.int, .string x.text] 56)) (.slice (some ⟨B, 0, none⟩) 1 1) [x]) := fun w1 x B h => by subst h; exact lit_as w1 x
  clear hp
  go_enter Tryd.func20, Tryd.ntmps20
  go_wp2_with fail
  refine Calls.mono (LW.out 2 w) ?_
  rintro e w1 ⟨rfl, hw1⟩
  have A1 : Hid (AS w1 (.slice (some ⟨w.heap.size, 0, none⟩) 1 1) [nA 2]) := by rw [hw1]; exact LA.out w (nA 2)
  have B1 : Hid (Below w.heap.size w w1) := by rw [hw1]; exact BA.out _ _ BR.out
  clear hw1
  go_wp2_with fail
  refine Calls.mono (LW.out 3 w1) ?_
  rintro e w2 ⟨rfl, hw2⟩
  have A2 : Hid (AS w2 (.slice (some ⟨w1.heap.size, 0, none⟩) 1 1) [nA 3]) := by rw [hw2]; exact LA.out w1 (nA 3)
  have A3 : Hid (AS w2 (.slice (some ⟨w.heap.size, 0, none⟩) 1 1) [nA 2]) := by rw [hw2]; exact AS.alloc A1.out _
  have B2 : Hid (Below w.heap.size w w2) := by rw [hw2]; exact BA.out _ _ B1.out
  have Q1 : Hid _ := DO.out w2 B2.out _ _ A3.out A2.out
  clear hw2 A1 B1 A2 A3 DO
  go_wp2_with fail
  refine Calls.mono Q1.out ?_
  rintro e w3 ⟨p3, c3, rfl, ha3, hb3⟩
  have A3 : Hid (AS w3 (.slice p3 1 c3) [nA 5]) := ha3
  have B3 : Hid (Below w.heap.size w w3) := hb3
  clear ha3 hb3 Q1 B2
  go_wp2_with fail
  refine Calls.mono (LW.out 1 w3) ?_
  rintro e w4 ⟨rfl, hw4⟩
  have A4 : Hid (AS w4 (.slice (some ⟨w3.heap.size, 0, none⟩) 1 1) [nA 1]) := by rw [hw4]; exact LA.out w3 (nA 1)
  have A5 : Hid (AS w4 (.slice p3 1 c3) [nA 5]) := by rw [hw4]; exact AS.alloc A3.out _
  have B4 : Hid (Below w.heap.size w w4) := by rw [hw4]; exact BA.out _ _ B3.out
  have C1 : Hid (AS (w4.alloc (.cells #[.int .i64 2, .int .i64 0, .int .i64 0, .string ⟨#[97]⟩] 56)) (.slice (some ⟨w4.heap.size, 0, none⟩) 1 1) [tA]) := LA.out w4 tA
  have C2 : Hid (AS ((w4.alloc (.cells #[.int .i64 2, .int .i64 0, .int .i64 0, .string ⟨#[97]⟩] 56)).alloc (.cells #[.int .i64 3, .int .i64 0, .int .i64 0, .string ⟨#[]⟩] 56)) (.slice (some ⟨w4.heap.size + 1, 0, none⟩) 1 1) [eA 0]) := LB.out _ (eA 0) _ (by simp)
  have Q2 : Hid _ := LI.out ((w4.alloc (.cells #[.int .i64 2, .int .i64 0, .int .i64 0, .string ⟨#[97]⟩] 56)).alloc (.cells #[.int .i64 3, .int .i64 0, .int .i64 0, .string ⟨#[]⟩] 56)) (BA.out _ _ (BA.out _ _ B4.out)) (w4.heap.size + 1 + 1) _ _ _ (by simp) (AS.alloc (AS.alloc A4.out _) _) (AS.alloc C1.out _) C2.out
  have K2 : Hid (∀ o1 o2 w', Below ((w4.alloc o1).alloc o2).heap.size ((w4.alloc o1).alloc o2) w' → Below w4.heap.size w4 w') := fun o1 o2 w' b => (((Below.refl _ _).alloc (Nat.le_refl _) _).alloc (by simp) _).trans (b.mono (by simp; omega))
  clear hw4 A3 B3 A4 LI C1 C2 LB
  go_wp2_with fail
  refine Calls.mono Q2.out ?_
  rintro e w5 ⟨p5, c5, rfl, ha5, hb5⟩
  have A6 : Hid (AS w5 (.slice p3 1 c3) [nA 5]) := A5.out.below (K2.out _ _ _ hb5)
  have B5 : Hid (Below w.heap.size w w5) := B4.out.trans ((K2.out _ _ _ hb5).mono B4.out.size)
  have Q3 : Hid _ := PR.out w5 _ B5.out ha5
  clear ha5 hb5 Q2 K2 A5 B4 PR
  go_wp2_with fail
  refine Calls.mono Q3.out ?_
  rintro e w6 ⟨rfl, hb6⟩
  have A7 : Hid (AS w6 (.slice p3 1 c3) [nA 5]) := A6.out.below hb6
  have B6 : Hid (Below w.heap.size w w6) := B5.out.trans (hb6.mono B5.out.size)
  clear hb6 Q3 A6 B5
  go_wp2_with fail
  refine Calls.mono (LW.out 5 w6) ?_
  rintro e w7 ⟨rfl, hw7⟩
  have A8 : Hid (AS w7 (.slice (some ⟨w6.heap.size, 0, none⟩) 1 1) [nA 5]) := by rw [hw7]; exact LA.out w6 (nA 5)
  have A9 : Hid (AS w7 (.slice p3 1 c3) [nA 5]) := by rw [hw7]; exact AS.alloc A7.out _
  have B7 : Hid (Below w.heap.size w w7) := by rw [hw7]; exact BA.out _ _ B6.out
  have Q4 : Hid _ := SV.out w7 _ _ A9.out A8.out
  clear hw7 A7 B6 SV A8 A9 BA LA LW
  go_wp2_with fail
  refine Calls.mono Q4.out ?_
  rintro e w8 ⟨rfl, hb8⟩
  have B8 : Hid (Below w.heap.size w w8) := B7.out.trans (hb8.mono B7.out.size)
  clear hb8 Q4 B7
  go_wp2_with fail
  go_ret
  exact ⟨rfl, B8.out⟩
theorem cmpN_bd (l1 l2 : List Atm) : -1 ≤ cmpN l1 l2 ∧ cmpN l1 l2 ≤ 1 := by
  unfold cmpN
  split
  · exact cmpV_bd _ _
  · omega
set_option maxHeartbeats 4000000 in
theorem lcompare_any (v1 v2 : Value) (l1 l2 : List Atm) (w : World) (h1 : AS w v1 l1) (h2 : AS w v2 l2) (t1 : AT l1) (t2 : AT l2) (n1 : l1.length * 40 ≤ 140737488355328) (n2 : l2.length * 40 ≤ 140737488355328) (he : cmpE l1 l2 = 0) :
    Calls Tryd.prog 22 #[v1, v2] w fun e w' => e = .returned (.tuple #[.int .i64 (cmpN l1 l2), .bool true]) ∧ Below w.heap.size w w' := by
  have CP : Hid _ := compare_any v1 v2 l1 l2 w h1 h2 t1 t2 n1 n2
  rw [he] at CP
  obtain ⟨b1, b2⟩ := cmpN_bd l1 l2
  obtain ⟨q1, c1, rfl⟩ := h1.form
  obtain ⟨q2, c2, rfl⟩ := h2.form
  generalize cmpN l1 l2 = r at *
  clear h1 h2 t1 t2 he
  go_enter Tryd.func22, Tryd.ntmps22
  go_wp2_with fail
  refine Calls.mono CP.out ?_
  rintro e w1 ⟨rfl, hb1⟩
  have B1 : Hid (Below w.heap.size w w1) := hb1
  clear hb1 CP
  go_wp2_with fail
  exact bodyPost_ret (v := .tuple #[.int .i64 r, .bool true]) (by simp [results, Tryd.results22, go_sem]) rfl ⟨rfl, B1.out⟩
end Go.Proofs.YtpiikidpgjmmbaaDoor
