/- Values: the law ValueBack, walked. -/
import Derived.Test.YtahcllncjpaijabDoorVn2
import Derived.Deep.Cut
import Derived.Deep.CutRange
import Derived.Deep.DeepCutAuto
namespace Go.Proofs.YtahcllncjpaijabDoor
open Go.RowKit

set_option maxHeartbeats 32000000 in
set_option maxRecDepth 100000 in
theorem valueBack_any (v u : Value) (s : ByteArray) (l : List Atm) (L : List Vx) (w : World) (h : AS w v l) (ht : AT l) (hl : l.length * 40 ≤ 140737488355328) (hmax : s.size ≤ maxLen) (hu : VR w u L) (hL : VT L) (hk : L1.KeysAt w) (hm : L1.MarksAt w) (hp : PowBelow w.heap.size w) :
    Calls Tryd.prog 3 #[v, .string s, u] w fun e w' => e = .returned (.bool true) ∧ Below w.heap.size w w' := by
  have PB : Hid (∀ w1, Below w.heap.size w w1 → PowBelow w1.heap.size w1) := fun w1 b w2 b2 => hp w2 (b.trans (b2.mono b.size))
  have WK : Hid (Calls Tryd.prog 4 #[] w fun e w' => e = .returned (.bool true) ∧ Below w.heap.size w w') := works_any w hp
  have P1 : Hid (∀ w1, Below w.heap.size w w1 → Calls Tryd.prog 5 #[v] w1 fun e w' => e = .returned (.tuple #[.string (prnS l), .int .i64 (chkV l)]) ∧ Below w1.heap.size w1 w') := fun w1 b => print_any v l w1 (GS.below h b) ht (by omega) (PB.out w1 b)
  have Q1 : Hid (∀ x : ByteArray, x.size ≤ maxLen → ∀ w1, Below w.heap.size w w1 → Calls Tryd.prog 6 #[.string x] w1 fun e w' => ∃ y, e = .returned (.tuple #[y, .int .i64 (psE x.data.toList)]) ∧ AS w' y (psA x.data.toList) ∧ Below w1.heap.size w1 w') := fun x hx w1 b => vparse_any x w1 hx (L1.KeysAt.below hk b) (L1.MarksAt.below hm b) (PB.out w1 b)
  have E1 : Hid (∀ y w1, AS w1 y l → Below w.heap.size w w1 → Calls Tryd.prog 7 #[v, y] w1 fun e w' => e = .returned (.bool true) ∧ Below w1.heap.size w1 w') := fun y w1 hy b => sameV_same w1 v y l (GS.below h b) hy (by omega)
  have P2 : Hid (∀ y w1, AS w1 y (psA s.data.toList) → Below w.heap.size w w1 → Calls Tryd.prog 5 #[y] w1 fun e w' => e = .returned (.tuple #[.string (prnS (psA s.data.toList)), .int .i64 (chkV (psA s.data.toList))]) ∧ Below w1.heap.size w1 w') := fun y w1 hy b => print_any y _ w1 hy (psA_at _).1 (by have := (psA_at s.data.toList).2; omega) (PB.out w1 b)
  have M1 : Hid (∀ w1, Below w.heap.size w w1 → Calls Tryd.prog 8 #[v] w1 fun e w' => AnsS w1 w' e (memL l) (memE l)) := fun w1 b => members_any v l w1 (GS.below h b) ht (by omega)
  have LI : Hid (∀ w1 y M, VR w1 y M → VT M → aL M = memL l → Calls Tryd.prog 9 #[y] w1 fun e w' => AnsV w1 w' e (listL (memL l)) (listE (memL l))) := fun w1 y M a b c => by have := list_any y M w1 a b; rw [c] at this; exact this
  have S1' : Hid (∀ w1, Below w.heap.size w w1 → Calls Tryd.prog 10 #[u] w1 fun e w' => ∃ S, SoS (aL L) S ∧ AnsS w1 w' e S (allE (aL L))) := fun w1 b => vsort_any u L w1 (hu.below b) hL
  have BK1 : Hid (chkV l = 0 → (prnS l).size ≤ 65536 → psE (prnS l).data.toList = 0 ∧ psA (prnS l).data.toList = l) := back_there
  have BK2 : Hid (psE s.data.toList = 0 → chkV (psA s.data.toList) = 0 ∧ prnS (psA s.data.toList) = s) := back_again
  have BK3 : Hid (memE l = 0 → listE (memL l) = 0 ∧ listL (memL l) = l) := mem_list
  have HU : Hid (∀ w1, Below w.heap.size w w1 → VR w1 u L) := fun w1 b => hu.below b
  have HLT : Hid (VT L) := hL
  have B0 : Hid (Below w.heap.size w w) := Below.refl _ _
  have hmx : (prnS l).size ≤ 65536 → (prnS l).size ≤ maxLen := fun e => by unfold maxLen; omega
  obtain ⟨q0, c0, rfl⟩ := h.form
  obtain ⟨q2, c2, rfl⟩ := hu.gs.form
  have hLm : L.length ≤ 140737488355328 := by have := hL.n; omega
  clear h ht hl hu hL hk hm hp PB
  go_enter Tryd.func3, Tryd.ntmps3
  go_upto_region 4 with (first
    | (go_at_call 4; refine WK.out.mono ?_; rintro e w1 ⟨rfl, b⟩; have B1 : Hid (Below w.heap.size w w1) := b; clear b)
    | (go_at_call 5; refine (P1.out _ B1.out).mono ?_; rintro e w2 ⟨rfl, b⟩; have B2 : Hid (Below w.heap.size w w2) := B1.out.trans (b.mono B1.out.size); clear b B1))
  obtain ⟨D, hD⟩ : ∃ D, D = decide (chkV l = 0 ∧ (prnS l).size ≤ 65536) := ⟨_, rfl⟩
  go_cut [7, 8, 33] from 20 (fun s7 s8 s33 wx => Hid (Below w.heap.size w wx) ∧ s7 = .string (prnS l) ∧ s8 = .int .i64 (chkV l) ∧ s33 = .bool D)
  case first =>
    by_cases hc : chkV l = 0
    · have hD2 : D = decide ((prnS l).size ≤ 65536) := by rw [hD]; simp [hc]
      have HD : Hid (D = decide ((prnS l).size ≤ 65536)) := hD2
      clear hD hD2 BK1
      generalize prnS l = tx at *
      generalize chkV l = ck at *
      subst hc
      by_cases hs : tx.size ≤ 65536
      · have HD2 : Hid (D = true) := by show _ = _; rw [HD.out]; simpa using hs
        clear HD
        go_wp2_with fail
        go_meet
        case rel => exact ⟨B2, rfl, rfl, by rw [HD2.out]; first | rfl | (simp; omega) | simp [hs]⟩
      · have HD2 : Hid (D = false) := by show _ = _; rw [HD.out]; simpa using hs
        clear HD
        go_wp2_with fail
        go_meet
        case rel => exact ⟨B2, rfl, rfl, by rw [HD2.out]; first | rfl | (simp; omega) | simp [hs]⟩
    · have HD : Hid (D = false) := by show _ = _; rw [hD]; simp [hc]
      clear hD BK1
      generalize chkV l = ck at *
      have hcb : (ck == 0) = false := by simpa using hc
      go_wp2_with fail
      go_meet
      case rel => exact ⟨B2, rfl, rfl, by rw [HD.out]⟩
  case rest =>
   obtain ⟨B2', rfl, rfl, rfl⟩ := hcut
   clear B2
   have B2 : Hid (Below w.heap.size w wc) := B2'
   clear B2'
   have HD : Hid (D = decide (chkV l = 0 ∧ (prnS l).size ≤ 65536)) := hD
   clear hD
   generalize wc = w2 at *
   go_upto_if 33 with fail
   go_cut [] from 7 (fun wx => Hid (Below w.heap.size w wx))
   case first =>
    cases D with
    | true =>
      have hcs : chkV l = 0 ∧ (prnS l).size ≤ 65536 := by have := HD.out; simpa using this.symm
      obtain ⟨hc, hs⟩ := hcs
      obtain ⟨e1, e2⟩ := BK1.out hc hs
      have Q2 : Hid (Calls Tryd.prog 6 #[.string (prnS l)] w2 fun e w' => ∃ y, e = .returned (.tuple #[y, .int .i64 0]) ∧ AS w' y l ∧ Below w2.heap.size w2 w') := by have := Q1.out _ (hmx hs) w2 B2.out; rw [e1, e2] at this; exact this
      clear e1 e2 HD BK1 hmx
      generalize prnS l = tx at *
      generalize chkV l = ck at *
      subst hc
      go_wp2_with (first
        | (go_at_call 6; refine Q2.out.mono ?_; rintro e w3 ⟨y, rfl, hy, b⟩; have B3 : Hid (Below w.heap.size w w3) := B2.out.trans (b.mono B2.out.size); have A3 : Hid (AS w3 y l) := hy; clear hy b)
        | (go_at_call 7; refine (E1.out _ _ A3.out B3.out).mono ?_; rintro e w4 ⟨rfl, b⟩; have B4 : Hid (Below w.heap.size w w4) := B3.out.trans (b.mono B3.out.size); clear b))
      go_meet
      case rel => exact B4
    | false =>
      clear HD BK1 hmx
      go_wp2_with fail
      go_meet
      case rel => exact B2
   case rest =>
    have B3 : Hid (Below w.heap.size w wc) := hcut
    clear hcut B2
    go_upto_if 53 with (go_at_call 6; refine (Q1.out s hmax _ B3.out).mono ?_; rintro e w4 ⟨y, rfl, hy, b⟩; have B4 : Hid (Below w.heap.size w w4) := B3.out.trans (b.mono B3.out.size); have A4 : Hid (AS w4 y (psA s.data.toList)) := hy; clear hy b)
    go_cut [] from 7 (fun wx => Hid (Below w.heap.size w wx))
    case first =>
      by_cases hz : psE s.data.toList = 0
      · obtain ⟨b1, b2⟩ := BK2.out hz
        have P3 : Hid (Calls Tryd.prog 5 #[y] w4 fun e w' => e = .returned (.tuple #[.string s, .int .i64 0]) ∧ Below w4.heap.size w4 w') := by have := P2.out y w4 A4.out B4.out; rw [b1, b2] at this; exact this
        have hss : (s.toList == s.toList) = true := by simp
        clear b1 b2
        generalize psE s.data.toList = pe at *
        subst hz
        go_wp2_with (go_at_call 5; refine P3.out.mono ?_; rintro e w5 ⟨rfl, b⟩; have B5 : Hid (Below w.heap.size w w5) := B4.out.trans (b.mono B4.out.size); clear b)
        go_meet
        case rel => exact B5
      · generalize psE s.data.toList = pe at *
        have hzb : (pe == 0) = false := by simpa using hz
        go_wp2_with fail
        go_meet
        case rel => exact B4
    case rest =>
      have B5 : Hid (Below w.heap.size w wc) := hcut
      clear hcut B3
      go_upto_if 72 with (go_at_call 8; refine (M1.out _ B5.out).mono ?_; rintro e w6 ⟨p6, c6, M6, rfl, ow6, av6, ea6, vt6, _, b⟩; have B6 : Hid (Below w.heap.size w w6) := B5.out.trans (b.mono B5.out.size); have V6 : Hid (VR w6 (.slice p6 (memL l).length c6) M6 ∧ VT M6 ∧ aL M6 = memL l) := ⟨⟨ow6.gs KV_ok.len, av6⟩, vt6, ea6⟩; clear ow6 av6 ea6 vt6 b)
      go_cut [] from 7 (fun wx => Hid (Below w.heap.size w wx))
      case first =>
        by_cases hz : memE l = 0
        · obtain ⟨b1, b2⟩ := BK3.out hz
          have L3 : Hid (Calls Tryd.prog 9 #[.slice p6 (memL l).length c6] w6 fun e w' => AnsV w6 w' e l 0) := by have := LI.out w6 _ M6 V6.out.1 V6.out.2.1 V6.out.2.2; rw [b1, b2] at this; exact this
          clear b1 b2 V6
          generalize memE l = me at *
          generalize (memL l).length = nl at *
          subst hz
          go_wp2_with (first
            | (go_at_call 9; refine L3.out.mono ?_; rintro e w7 ⟨p7, c7, rfl, o7, b⟩; have B7 : Hid (Below w.heap.size w w7) := B6.out.trans (b.mono B6.out.size); have A7 : Hid (AS w7 (.slice p7 l.length c7) l) := o7.gs KA_ok.len; clear o7 b)
            | (go_at_call 7; refine (E1.out _ _ A7.out B7.out).mono ?_; rintro e w8 ⟨rfl, b⟩; have B8 : Hid (Below w.heap.size w w8) := B7.out.trans (b.mono B7.out.size); clear b))
          go_meet
          case rel => exact B8
        · generalize memE l = me at *
          have hzb : (me == 0) = false := by simpa using hz
          go_wp2_with fail
          go_meet
          case rel => exact B6
      case rest =>
        have B7 : Hid (Below w.heap.size w wc) := hcut
        clear hcut B5 WK P1 Q1 E1 P2 M1 LI BK1 BK2 BK3
        go_upto_if 92 with (go_at_call 10; refine (S1'.out _ B7.out).mono ?_; rintro e w8 ⟨S, hs, p8, c8, M8, rfl, ow8, av8, ea8, vt8, _, b⟩; have B8 : Hid (Below w.heap.size w w8) := B7.out.trans (b.mono B7.out.size); have V8 : Hid (VR w8 (.slice p8 S.length c8) M8 ∧ VT M8 ∧ aL M8 = S) := ⟨⟨ow8.gs KV_ok.len, av8⟩, vt8, ea8⟩; have HSO : Hid (SoS (aL L) S) := hs; clear ow8 av8 ea8 vt8 b hs)
        by_cases hz : allE (aL L) = 0
        · have FA := HSO.out.facts hz
          have hSL : S.length = L.length := by rw [FA.1.length_eq, aL_len]
          have hLn : L.length ≤ 4096 := by have := (allE_zero hz).1; rw [aL_len] at this; exact this
          have FC : Hid (∀ i (h1 : i + 1 < S.length), cmpE (S[i]'(by omega)) S[i + 1] = 0 ∧ cmpN (S[i]'(by omega)) S[i + 1] ≤ 0) := FA.2
          have CN : Hid (∀ a, cntA a (aL L) = cntA a S) := fun a => HSO.out.cnt hz a
          have hM8 : Hid (M8.length = S.length) := by show _ = _; rw [← V8.out.2.2, aL_len]
          rw [hSL] at V8 ⊢
          have HSL : Hid (S.length = L.length) := hSL
          clear FA HSO hSL
          generalize allE (aL L) = er at *
          subst hz
          go_wp2_with fail
          go_loopw [14] (fun v14 wr => ∃ (i : Nat) (wk : World), v14 = .int .i64 i ∧ wk = wr ∧ 1 ≤ i ∧ i ≤ 4097 ∧ Hid (Below w8.heap.size w8 wk)) (fun v14 _ => L.length + 1 - (intOf v14).toNat)
          case atStart => exact ⟨1, _, rfl, rfl, Nat.le_refl _, by omega, Below.refl _ _⟩
          case round =>
            obtain ⟨i, wr, rfl, rfl, hi1, hi2, HB⟩ := hrel
            by_cases hlt : i < L.length
            · obtain ⟨im, him⟩ : ∃ im, i = im + 1 := ⟨i - 1, by omega⟩
              obtain ⟨X', o', aq, an, ac, bq, bn, bc, cn, e1, x1, x2, hcn, cp⟩ := cmp_pair V8.out FC.out HB.out im (by have := HSL.out; omega)
              rw [← him] at x2
              subst e1
              have CP : Hid (∀ W, Below wr.heap.size wr W → Calls Tryd.prog 11 #[.slice aq an ac, .slice bq bn bc] W fun e w' => e = .returned (.tuple #[.int .i64 cn, .bool true]) ∧ Below W.heap.size W w') := cp
              have KP : Hid (∀ W w5, Below wr.heap.size wr W → Below W.heap.size W w5 → w5.cell? ⟨X', o' + im, none⟩ = some (.slice aq an ac) ∧ w5.cell? ⟨X', o' + i, none⟩ = some (.slice bq bn bc) ∧ Below w8.heap.size w8 w5) := fun W w5 b b' => by
                have bb := b.trans (b'.mono b.size)
                exact ⟨(bb.cell (block_lt_of_cell x1)).trans x1, (bb.cell (block_lt_of_cell x2)).trans x2, HB.out.trans (bb.mono HB.out.size)⟩
              have hj1 : (i : Int) - 1 = (im : Int) := by omega
              have hj2 : IntKind.i64.wrap (im : Int) = (im : Int) := by rw [IntKind.wrap_i64]; omega
              have k1 : (0 : Int) ≤ (im : Int) := by omega
              have k2 : (im : Int) < (L.length : Int) := by omega
              have k3 : (0 : Int) ≤ (i : Int) := by omega
              have k4 : (i : Int) < (L.length : Int) := by omega
              clear cp him HB FC CN V8
              go_wp2_with fail
              go_region_held3 (fun w' => w'.cell? ⟨X', o' + im, none⟩ = some (.slice aq an ac) ∧ w'.cell? ⟨X', o' + i, none⟩ = some (.slice bq bn bc)) (go_keep) ((go_at_call 11; refine (CP.out _ (by first | exact (Below.refl _ _).drew | exact Below.refl _ _)).mono ?_; rintro e w5 ⟨rfl, b5⟩; obtain ⟨z1, z2, z3⟩ := KP.out _ w5 (by first | exact (Below.refl _ _).drew | exact Below.refl _ _) b5; have Z3 : Hid _ := z3; clear z3 b5))
              go_wp2_with fail
              go_roundw
              case rel => exact ⟨i + 1, _, by go_num, rfl, by omega, by omega, Z3⟩
              case measure => simp [intOf]; omega
            · have BW : Hid (Below w8.heap.size w8 wr) := HB
              clear HB FC
              go_wp2_with fail
              go_loopw [17] (fun v17 wr => ∃ (i : Nat) (wk : World), v17 = .int .i64 i ∧ wk = wr ∧ i ≤ L.length ∧ Hid (Below w8.heap.size w8 wk)) (fun v17 _ => L.length - (intOf v17).toNat)
              case atStart => exact ⟨0, _, rfl, rfl, Nat.zero_le _, BW⟩
              case round =>
                obtain ⟨i, wr, rfl, rfl, hi, HB⟩ := hrel
                clear BW
                by_cases hgo : i < L.length ∧ i < 60
                · obtain ⟨hiL, hi60⟩ := hgo
                  have k60 : (i : Int) < 60 := by omega
                  have k61 : decide ((i : Int) < 60) = true := by simpa using k60
                  have k62 : (i : Int) < (L.length : Int) := by omega
                  have I0 : Hid (Below w8.heap.size w8 wr) := HB
                  obtain ⟨nk, hnk⟩ : ∃ nk : Nat → Int, nk = nkA L[i].a (aL L) S := ⟨_, rfl⟩
                  have N0 : Hid (nk 0 = 0) := by show _ = _; rw [hnk]; exact nkA_zero _ _ _
                  have HNK : Hid (nk = nkA L[i].a (aL L) S) := hnk
                  have NF : Hid (nk L.length = 0) := by show _ = _; rw [hnk]; exact nkA_all (CN.out _) (by rw [aL_len]; exact Nat.le_refl _) (by have := HSL.out; omega)
                  clear HB hnk
                  go_wp2_with fail
                  go_loopw [18, 19] (fun v18 v19 wr => ∃ (k : Nat) (wk : World), v19 = .int .i64 k ∧ v18 = .int .i64 (nk k) ∧ wk = wr ∧ k ≤ L.length ∧ Hid (Below w8.heap.size w8 wk)) (fun _ v19 _ => L.length - (intOf v19).toNat)
                  case atStart => exact ⟨0, _, rfl, by rw [N0.out], rfl, Nat.zero_le _, I0⟩
                  case round =>
                    obtain ⟨k, wq, rfl, rfl, rfl, hk, HQ⟩ := hrel
                    clear I0 N0
                    by_cases hkL : k < L.length
                    · obtain ⟨X', o', Y, y, aq, an, ac, bq, bn, bc, xq, xn, xc, b1, b2, e1, e3, x1, x2, x3, c1, c2', hn1, hn2, hn3⟩ := same_pair V8.out (HU.out wq (B8.out.trans (HQ.out.mono B8.out.size))) HLT.out HQ.out i k hiL hkL (by have := HSL.out; omega) (by have := HSL.out; omega)
                      subst e1 e3
                      rw [← HNK.out] at hn1 hn2 hn3
                      have C1 : Hid (∀ W, Below wq.heap.size wq W → Calls Tryd.prog 7 #[.slice aq an ac, .slice bq bn bc] W fun e w' => e = .returned (.bool b1) ∧ Below W.heap.size W w') := c1
                      have C2 : Hid (∀ W, Below wq.heap.size wq W → Calls Tryd.prog 7 #[.slice xq xn xc, .slice bq bn bc] W fun e w' => e = .returned (.bool b2) ∧ Below W.heap.size W w') := c2'
                      have HN2 : Hid (nk (k + 1) = nk k + (if b1 = true then 1 else 0) - (if b2 = true then 1 else 0)) := hn1
                      have KP : Hid (∀ W w5, Below wq.heap.size wq W → Below W.heap.size W w5 → w5.cell? ⟨X', o' + k, none⟩ = some (.slice aq an ac) ∧ w5.cell? ⟨X', o' + i, none⟩ = some (.slice bq bn bc) ∧ w5.cell? ⟨Y, y + k, none⟩ = some (.slice xq xn xc) ∧ Below wq.heap.size wq w5 ∧ Below w8.heap.size w8 w5) := fun W w5 b b' => by
                        have bb := b.trans (b'.mono b.size)
                        exact ⟨(bb.cell (block_lt_of_cell x1)).trans x1, (bb.cell (block_lt_of_cell x2)).trans x2, (bb.cell (block_lt_of_cell x3)).trans x3, bb, HQ.out.trans (bb.mono HQ.out.size)⟩
                      have k1 : (0 : Int) ≤ (k : Int) := by omega
                      have k2 : (k : Int) < (L.length : Int) := by omega
                      have k3 : (0 : Int) ≤ (i : Int) := by omega
                      have k4 : (i : Int) < (L.length : Int) := by omega
                      clear c1 c2' hn1 HQ V8 HLT HNK NF CN
                      generalize nk k = nkk at *
                      cases b1 <;> cases b2
                      all_goals
                        go_wp2_with fail
                        go_region_held3 (fun w' => w'.cell? ⟨X', o' + k, none⟩ = some (.slice aq an ac) ∧ w'.cell? ⟨X', o' + i, none⟩ = some (.slice bq bn bc)) (go_keep) ((go_at_call 7; refine (C1.out _ (by first | exact (Below.refl _ _).drew | exact Below.refl _ _)).mono ?_; rintro e w5 ⟨rfl, b5⟩; obtain ⟨z1, z2, z3, z4, _⟩ := KP.out _ w5 (by first | exact (Below.refl _ _).drew | exact Below.refl _ _) b5; have BB5 : Hid _ := z4; clear b5 z4))
                        clear C1 x1 x2 x3
                        go_wp2_with fail
                        go_region_held3 (fun w' => w'.cell? ⟨Y, y + k, none⟩ = some (.slice xq xn xc) ∧ w'.cell? ⟨X', o' + i, none⟩ = some (.slice bq bn bc)) (go_keep) ((go_at_call 7; refine (C2.out _ (by first | exact BB5.out.drew | exact BB5.out)).mono ?_; rintro e w6 ⟨rfl, b6⟩; obtain ⟨y1, y2, y3, _, y4⟩ := KP.out _ w6 (by first | exact BB5.out.drew | exact BB5.out) b6; have BB6 : Hid _ := y4; clear b6 y4))
                        go_wp2_with fail
                        go_roundw
                        case rel => exact ⟨k + 1, _, by go_num, by rw [HN2.out]; simp, rfl, hkL, BB6⟩
                        case measure => simp [intOf]; omega
                    · obtain rfl : k = L.length := by omega
                      rw [NF.out]
                      go_wp2_with fail
                      go_roundw
                      case rel => exact ⟨i + 1, _, by go_num, rfl, by omega, HQ⟩
                      case measure => simp [intOf]; omega
                · have BZ : Hid (Below w.heap.size w wr) := B8.out.trans (HB.out.mono B8.out.size)
                  clear HB
                  by_cases hiL : i < L.length
                  · have hi60 : ¬ i < 60 := fun e => hgo ⟨hiL, e⟩
                    go_wp2_with fail
                    go_ret
                    exact ⟨rfl, BZ.out⟩
                  · go_wp2_with fail
                    go_ret
                    exact ⟨rfl, BZ.out⟩
        · have hS0 : S = [] := by
            rcases HSO.out with ⟨_, e⟩ | ⟨e, _⟩
            · exact e
            · exact absurd e hz
          subst hS0
          generalize allE (aL L) = er at *
          have hzb : (er != 0) = true := by simpa using hz
          go_wp2_with fail
          go_ret
          exact ⟨rfl, B8.out⟩
end Go.Proofs.YtahcllncjpaijabDoor
