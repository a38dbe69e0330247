/- Values: the law ValueOrders, walked. -/
import Derived.Test.YtahcllncjpaijaaVt6
import Derived.Test.YtahcllncjpaijaaVe5
import Derived.Test.YtahcllncjpaijaaVm0
namespace Go.Proofs.Ytahcllncjpaijaa
open Go.RowKit

set_option maxHeartbeats 16000000 in
set_option maxRecDepth 100000 in
theorem valueOrders_any (v1 v2 v : Value) (l1 l2 : List Atm) (L : List Vx) (w : World) (h1 : AS w v1 l1) (h2 : AS w v2 l2) (t1 : AT l1) (t2 : AT l2) (n1 : l1.length * 40 ≤ 140737488355328) (n2 : l2.length * 40 ≤ 140737488355328) (h : VR w v L) (ht : VT L) :
    Calls Try.prog 4 #[v1, v2, v] w fun e w' => e = .returned (.bool true) ∧ Below w.heap.size w w' := by
  have C1 : Hid (∀ w1, Below w.heap.size w w1 → Calls Try.prog 20 #[v1] w1 fun e w' => ∃ p cap, e = .returned (.slice p l1.length cap) ∧ OwnG KA w' w1.heap.size (.slice p l1.length cap) l1 ∧ Below w1.heap.size w1 w') := fun w1 b => copyV_any v1 l1 w1 (GS.below h1 b) n1
  have C2 : Hid (∀ w1, Below w.heap.size w w1 → Calls Try.prog 20 #[v2] w1 fun e w' => ∃ p cap, e = .returned (.slice p l2.length cap) ∧ OwnG KA w' w1.heap.size (.slice p l2.length cap) l2 ∧ Below w1.heap.size w1 w') := fun w1 b => copyV_any v2 l2 w1 (GS.below h2 b) n2
  have K1 : Hid (∀ w1 u1 u2, AS w1 u1 l1 → AS w1 u2 l2 → Calls Try.prog 19 #[u1, u2] w1 fun e w' => e = .returned (.tuple #[.int .i64 (cmpN l1 l2), .int .i64 (cmpE l1 l2)]) ∧ Below w1.heap.size w1 w') := fun w1 u1 u2 a b => compare_any u1 u2 l1 l2 w1 a b t1 t2 n1 n2
  have K2 : Hid (∀ w1, Below w.heap.size w w1 → Calls Try.prog 21 #[v1, v2] w1 fun e w' => e = .returned (.tuple #[.int .i64 (cmpN l1 l2), .int .i64 (cmpE l1 l2)]) ∧ Below w1.heap.size w1 w') := fun w1 b => rcompareE_any v1 v2 l1 l2 w1 (GS.below h1 b) (GS.below h2 b) t1 t2 n1 n2
  have CE : Hid (∀ w1, Below w.heap.size w w1 → Calls Try.prog 10 #[v] w1 fun e w' => ∃ p c M, e = .returned (.slice p L.length c) ∧ CPV w1 w' (.slice p L.length c) L M L.length) := fun w1 b => copied_any v L w1 (h.below b) ht
  have O1 : Hid (∀ w1 u M, VR w1 u M → aL M = aL L → Calls Try.prog 22 #[u] w1 fun e w' => ∃ S, SoS (aL L) S ∧ AnsS w1 w' e S (allE (aL L))) := fun w1 u M hu e => by rw [← e]; exact vsort_any u M w1 hu (ht.of e)
  have O2 : Hid (∀ w1, Below w.heap.size w w1 → Calls Try.prog 23 #[v] w1 fun e w' => ∃ S, SoS (aL L) S ∧ AnsS w1 w' e S (allE (aL L))) := fun w1 b => rsort_any v L w1 (h.below b) ht
  have VS : Hid (∀ w1 u1 u2 M1 M2, VR w1 u1 M1 → VR w1 u2 M2 → aL M1 = aL M2 → VT M2 → Calls Try.prog 18 #[u1, u2] w1 fun e w' => e = .returned (.bool true) ∧ Below w1.heap.size w1 w') := fun w1 u1 u2 M1 M2 a b c d => values_same u1 u2 M1 M2 w1 a b c d
  have SX : Hid (∀ w1 b u, SPV w1 b u → Calls Try.prog 13 #[u] w1 fun e w' => e = .returned (.tuple #[]) ∧ Below b w1 w' ∧ (∀ j, some j ≠ u.ownBlock → w'.heap[j]? = w1.heap[j]?) ∧ ∀ b u, SPV w1 b u → SPV w' b u) := fun w1 b u hu => spoil_any w1 b u hu
  have HS : Hid (∀ w1, Below w.heap.size w w1 → VR w1 v L) := fun w1 b => h.below b
  have HT : Hid (VT L) := ht
  have SL : Hid (∀ S, SoS (aL L) S → S.length ≤ 4096) := fun S hs => by
    rcases hs with ⟨_, e⟩ | ⟨hz, T, U, e1, e2, e3, e4, e5⟩
    · rw [e]; simp
    · have := (allE_zero hz).1
      rw [e3, List.length_map, e4.length_eq]
      rw [e1, List.length_map] at this
      exact this
  obtain ⟨q1, c1, rfl⟩ := h1.form
  obtain ⟨q2, c2, rfl⟩ := h2.form
  obtain ⟨q3, c3, rfl⟩ := h.gs.form
  have hLm : L.length ≤ 140737488355328 := by have := ht.n; omega
  have B0 : Hid (Below w.heap.size w w) := Below.refl _ _
  generalize cmpN l1 l2 = cn at *
  generalize cmpE l1 l2 = ce at *
  generalize allE (aL L) = er at *
  clear h1 h2 t1 t2 n1 n2 h ht
  go_enter Try.func4, Try.ntmps4
  go_wp2_with fail
  refine (C1.out _ B0.out).mono ?_
  rintro e w1 ⟨p1, k1, rfl, ho, b⟩
  have B1 : Hid (Below w.heap.size w w1) := b
  have A1 : Hid (AS w1 (.slice p1 l1.length k1) l1) := ho.gs KA_ok.len
  clear ho b C1
  go_wp2_with fail
  refine (C2.out _ B1.out).mono ?_
  rintro e w2 ⟨p2, k2, rfl, ho, b⟩
  have B2 : Hid (Below w.heap.size w w2) := B1.out.trans (b.mono B1.out.size)
  have A2 : Hid (AS w2 (.slice p1 l1.length k1) l1) := GS.below A1.out b
  have D2 : Hid (AS w2 (.slice p2 l2.length k2) l2) := ho.gs KA_ok.len
  clear ho b C2 A1 B1
  go_wp2_with fail
  refine (K1.out _ _ _ A2.out D2.out).mono ?_
  rintro e w3 ⟨rfl, b⟩
  have B3 : Hid (Below w.heap.size w w3) := B2.out.trans (b.mono B2.out.size)
  clear b K1 A2 D2 B2
  go_wp2_with fail
  refine (K2.out _ B3.out).mono ?_
  rintro e w4 ⟨rfl, b⟩
  have B4 : Hid (Below w.heap.size w w4) := B3.out.trans (b.mono B3.out.size)
  clear b K2 B3
  have zc : (cn == cn) = true := by simp
  have zc2 : (cn != cn) = false := by simp
  have ze : (ce == ce) = true := by simp
  have ze2 : (ce != ce) = false := by simp
  go_wp2_with fail
  refine (CE.out _ B4.out).mono ?_
  rintro e w5 ⟨p5, k5, M5, rfl, cp⟩
  have B5 : Hid (Below w.heap.size w w5) := B4.out.trans (cp.bl.mono B4.out.size)
  have V5 : Hid (VR w5 (.slice p5 L.length k5) M5) := ⟨cp.own.gs KV_ok.len, fun x hx => (cp.each x hx).gs KA_ok.len⟩
  have E5 : Hid (aL M5 = aL L) := cp.full
  clear cp CE B4
  go_wp2_with fail
  refine (O1.out _ _ _ V5.out E5.out).mono ?_
  rintro e w6 ⟨S6, hs6, p6, k6, M6, rfl, ow6, av6, ea6, vt6, sp6, b6⟩
  have B6 : Hid (Below w.heap.size w w6) := B5.out.trans (b6.mono B5.out.size)
  have BB6 : Hid (Below w5.heap.size w5 w6) := b6
  have SQ6 : Hid (SQ w5 w6 (.slice p6 S6.length k6) M6) := ⟨ow6, sp6, b6⟩
  have V6 : Hid (VR w6 (.slice p6 S6.length k6) M6) := ⟨ow6.gs KV_ok.len, av6⟩
  have E6 : Hid (aL M6 = S6 ∧ SoS (aL L) S6) := ⟨ea6, hs6⟩
  have hS6 := SL.out S6 hs6
  have L6 : Hid (M6.length = S6.length) := by show _ = _; rw [← ea6, aL_len]
  clear hs6 ow6 av6 ea6 vt6 sp6 b6 O1
  go_wp2_with fail
  refine (O2.out _ B6.out).mono ?_
  rintro e w7 ⟨S7, hs7, p7, k7, M7, rfl, ow7, av7, ea7, vt7, sp7, b7⟩
  obtain rfl : S7 = S6 := hs7.one E6.out.2
  have B7 : Hid (Below w.heap.size w w7) := B6.out.trans (b7.mono B6.out.size)
  have BB7 : Hid (Below w5.heap.size w5 w7) := BB6.out.trans (b7.mono BB6.out.size)
  have SQ7 : Hid (SQ w5 w7 (.slice p6 S7.length k6) M6) := SQ6.out.below b7
  have Q7 : Hid _ := VS.out w7 _ _ M6 M7 (V6.out.below b7) ⟨ow7.gs KV_ok.len, av7⟩ (E6.out.1.trans ea7.symm) vt7
  clear hs7 ow7 av7 ea7 vt7 sp7 b7 O2 B6 BB6 SQ6 V6
  have zr : (er == er) = true := by simp
  have zr2 : (er != er) = false := by simp
  go_wp2_with fail
  refine Calls.mono Q7.out ?_
  rintro e w8 ⟨rfl, b⟩
  have SQ8 : Hid (SQ w5 w8 (.slice p6 S7.length k6) M6) := SQ7.out.below b
  clear b Q7 SQ7 B7 BB7
  go_wp2_with fail
  go_loopw [14] (fun v14 wx => ∃ (j : Nat) (wk : World), v14 = .int .i64 j ∧ wk = wx ∧ j ≤ S7.length ∧ Hid (SQ w5 wk (.slice p6 S7.length k6) M6)) (fun v14 _ => S7.length - (intOf v14).toNat)
  case atStart => exact ⟨0, _, rfl, rfl, Nat.zero_le _, SQ8⟩
  case round =>
    obtain ⟨j, wx, rfl, rfl, hj, HQ⟩ := hrel
    clear SQ8
    by_cases hjl : j < S7.length
    · have hjP : j < M6.length := by rw [L6.out]; exact hjl
      obtain ⟨Z, z, e3, z0⟩ := (HQ.out.own.gs KV_ok.len).atV hjP
      obtain rfl : p6 = some ⟨Z, z, none⟩ := e3
      have sp := HQ.out.sp _ (List.getElem_mem hjP)
      have CS : Hid _ := SX.out wx _ _ sp
      have NX : Hid (∀ wy, Below w5.heap.size wx wy → (∀ j', some j' ≠ (M6[j].v).ownBlock → wy.heap[j']? = wx.heap[j']?) → (∀ b u, SPV wx b u → SPV wy b u) → SQ w5 wy (.slice (some ⟨Z, z, none⟩) S7.length k6) M6) := fun wy a b c => HQ.out.next sp a b c
      unfold Vx.v at CS NX
      clear sp HQ
      generalize M6[j].q = mq at *
      generalize M6[j].a.length = ma at *
      generalize M6[j].c = mc at *
      go_wp2_with fail
      refine Calls.mono CS.out ?_
      rintro e wy ⟨rfl, a1, a2, a3⟩
      have N1 : Hid _ := NX.out wy a1 a2 a3
      clear a1 a2 a3 CS NX
      go_wp2_with fail
      go_roundw
      case rel => exact ⟨j + 1, _, by go_num, rfl, hjl, N1⟩
      case measure => simp [intOf]; omega
    · have B9 : Hid (Below w.heap.size w wx) := B5.out.trans (HQ.out.bl.mono B5.out.size)
      have Q9 : Hid _ := VS.out wx _ _ M5 L (V5.out.below HQ.out.bl) (HS.out wx B9.out) E5.out HT.out
      clear HQ
      go_wp2_with fail
      refine Calls.mono Q9.out ?_
      rintro e w9 ⟨rfl, b⟩
      have B10 : Hid (Below w.heap.size w w9) := B9.out.trans (b.mono B9.out.size)
      clear b Q9
      go_wp2_with fail
      go_ret
      exact ⟨rfl, B10.out⟩
end Go.Proofs.Ytahcllncjpaijaa
