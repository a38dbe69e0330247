/- Names, the reference: sure. -/
import Derived.Test.YtmkgcgdfgagdlaaDoorPm2
import Derived.Test.YtmkgcgdfgagdlaaDoorPr3
import Derived.BigRegion
import Derived.Deep.RegionLaw
import Derived.Deep.RegionWith
import Derived.Deep.CutRange
import Derived.Deep.DeepCutAuto
import Derived.Deep.RegionHeld3
namespace Go.Proofs.YtmkgcgdfgagdlaaDoor
open Go.RowKit

/-- The state of the inner loop. -/
structure RI (w1 wk : World) (g c : Nat) (O : List ByteArray) (p2 : Option Addr) (c2 : Nat) (L : List ByteArray) : Prop where
  o : OwnG KS wk w1.heap.size (.slice (some ⟨g, 0, none⟩) O.length c) O
  b : Below w1.heap.size w1 wk
  s : GS KS wk (.slice p2 L.length c2) L
  n : ∀ x, (Value.slice p2 L.length c2).ownBlock = some x → x < wk.heap.size ∧ x ≠ g
theorem RI.far {w1 wk wx : World} {g c : Nat} {O : List ByteArray} {p2 : Option Addr} {c2 : Nat} {L : List ByteArray} (h : RI w1 wk g c O p2 c2 L) (b : Below wk.heap.size wk wx) : RI w1 wx g c O p2 c2 L :=
  ⟨h.o.below b, h.b.trans (b.mono h.b.size), h.s.below b, fun x hx => ⟨Nat.lt_of_lt_of_le (h.n x hx).1 b.size, (h.n x hx).2⟩⟩
theorem RI.push {w1 wk w2 : World} {g c g2 c2' : Nat} {O : List ByteArray} {p2 : Option Addr} {c2 : Nat} {L : List ByteArray} {y : ByteArray} (h : RI w1 wk g c O p2 c2 L) (ho : OwnG KS w2 w1.heap.size (.slice (some ⟨g2, 0, none⟩) (O.length + 1) c2') (O ++ [y])) (hb : Below w1.heap.size wk w2)
    (hk : ∀ k, k < wk.heap.size → some k ≠ (Value.slice (some ⟨g, 0, none⟩) O.length c).ownBlock → w2.heap[k]? = wk.heap[k]?) (hg : (Value.slice (some ⟨g, 0, none⟩) O.length c).ownBlock = some g2 ∨ wk.heap.size ≤ g2) : RI w1 w2 g2 c2' (O ++ [y]) p2 c2 L := by
  have hs := hb.size
  refine ⟨by rw [List.length_append]; exact ho, h.b.trans hb, h.s.blk hs (fun x hx hl => hk x hl (fun e => (h.n x hx).2 (by simpa [Value.ownBlock] using e))), fun x hx => ?_⟩
  obtain ⟨h1, h2⟩ := h.n x hx
  refine ⟨Nat.lt_of_lt_of_le h1 hs, fun e => ?_⟩
  rcases hg with hg | hg
  · apply h2
    have : g = g2 := by simpa [Value.ownBlock] using hg
    omega
  · omega
theorem take_next {α : Type} {L : List α} {j : Nat} (h : j < L.length) : L.take (j + 1) = L.take j ++ [L[j]] := List.take_succ_eq_append_getElem h
set_option maxHeartbeats 16000000 in
set_option maxRecDepth 100000 in
theorem rsure_any (p : Option Addr) (cap : Nat) (l : List Opn) (hwh : wholeB l = true) (ht : ∀ c ∈ l, c.text.size ≤ maxLen) (hlm : l.length ≤ 256) (k : Nat) : k < l.length → ∀ w, OS w (.slice p l.length cap) l →
    Calls Tryd.prog 72 #[.slice p l.length cap, .int .i64 k] w fun e w' => ∃ q c, e = .returned (.slice q (rT l k).length c) ∧ OwnG KS w' w.heap.size (.slice q (rT l k).length c) (rT l k) ∧ Below w.heap.size w w' := by
  induction k using Nat.strongRecOn with
  | _ k IH0 =>
  intro hk w h
  obtain ⟨hpl, hpb⟩ := ptO_len (wholeB_ok hwh).2 hk
  have hPl : (ptO l k).length ≤ 256 := by
    have := (whA_PB (nsO l) k (by rw [whA_len, nsO_len]; exact hk)).1
    show ((whA (nsO l)).getD k (0, [])).2.length ≤ 256
    omega
  have PL : Hid ((opA l k).kind ≠ 5 → ((ptO l k).length : Int) = oprt (opA l k).kind) := fun h5 => by rw [hpl, opA_eq hk]; exact opB_n2 ((wholeB_ok hwh).1 _ (List.getElem_mem hk)) (by rw [← opA_eq hk]; exact h5)
  have IH : Hid (∀ q, q < k → ∀ wx, OS wx (.slice p l.length cap) l → Calls Tryd.prog 72 #[.slice p l.length cap, .int .i64 q] wx fun e w' => ∃ q' c, e = .returned (.slice q' (rT l q).length c) ∧ OwnG KS w' wx.heap.size (.slice q' (rT l q).length c) (rT l q) ∧ Below wx.heap.size wx w') := fun q hq wx hx => IH0 q hq (by omega) wx hx
  have TL : Hid (∀ q, q < k → (rT l q).length ≤ 256) := fun q hq => by have := rT_len hwh (k := q) (by omega); show _ ≤ _; omega
  have TG : Hid (∀ q, q < k → (rK l k).getD q [] = rT l q) := fun q hq => rK_get l k q hq
  have HT : Hid (rT l k = rS l k (rK l k)) := rfl
  have TK : Hid ((rT l k).length ≤ 257) := by have := rT_len hwh hk; show _ ≤ _; omega
  have JL : Hid ((opA l k).kind ≠ 3 → ∀ i, i ≤ (ptO l k).length → (rJ l k (rK l k) i).length ≤ 257) := fun _ i hi => by
    have h1 := rJ_len l k (rK l k) (cK l k) (rK_bd hwh k (by omega)) hpb i hi
    have h2 := sum_take (ptO l k) (cK l k) i
    have h3 := cuS_bd l hk
    unfold cuS at h3
    show _ ≤ _; omega
  have PO : Hid _ := rpartsOf_any (.slice p l.length cap) l k w h ht hlm hwh hk
  have HS : Hid (OS w (.slice p l.length cap) l) := h
  obtain ⟨X, o, rfl, x1, _, _, x4⟩ := h.atO hk
  rw [← opA_eq hk] at x1 x4
  have XK : Hid (∀ wx, OS wx (.slice (some ⟨X, o, none⟩) l.length cap) l → wx.cell? ⟨X, o + k * 4, none⟩ = some (.int .i64 (opA l k).kind)) := fun wx hx => by
    obtain ⟨X', o', e, y1, _⟩ := hx.atO hk
    injection e with e; injection e with e1 e2 _
    subst e1 e2
    rw [← opA_eq hk] at y1; exact y1
  have HPB : Hid (∀ x ∈ ptO l k, 0 ≤ x ∧ x < k) := hpb
  generalize rT l k = T at *
  clear h IH0 hwh ht hpl hpb
  by_cases k3 : (opA l k).kind = 3
  · have k3b : ((opA l k).kind == 3) = true := by simpa using k3
    have e1 : T = [(opA l k).text] := by rw [HT.out]; unfold rS; rw [if_pos k3]
    subst e1
    generalize (opA l k).kind = kd at *
    generalize (opA l k).text = tx at *
    clear PO IH TL TG HT JL XK HPB PL TK HS
    go_enter Tryd.func72, Tryd.ntmps72
    go_wp2_with fail
    go_ret
    exact ⟨_, _, rfl, OwnG.lit KS w [tx] _ rfl rfl (by show 1 ≤ maxLen; unfold maxLen; omega), (Below.refl _ _).alloc (Nat.le_refl _) _⟩
  · have k3b : ((opA l k).kind == 3) = false := by simpa using k3
    have HT2 : Hid (T = rJ l k (rK l k) (ptO l k).length) := by show T = _; rw [HT.out]; unfold rS; rw [if_neg k3]
    have JL2 : Hid (∀ i, i ≤ (ptO l k).length → (rJ l k (rK l k) i).length ≤ 257) := JL.out k3
    have NX : Hid (∀ i, rJ l k (rK l k) (i + 1) = rJ l k (rK l k) i ++ pcS l k (rK l k) i) := fun i => rfl
    have HPC : Hid (∀ i, pcS l k (rK l k) i = if ((opA l k).kind = 15 ∧ i = 1) ∨ ((opA l k).kind = 14 ∧ i = 2) then [] else if (opA l k).kind = 14 ∧ i = 1 then ((rK l k).getD (qP l k 1) []).filter (fun x => inB ((rK l k).getD (qP l k 2) []) x) else (rK l k).getD (qP l k i) []) := fun i => rfl
    have J0 : Hid (([] : List ByteArray) = rJ l k (rK l k) 0) := rfl
    have HQ : Hid (∀ i, qP l k i = ((ptO l k).getD i 0).toNat) := fun i => rfl
    clear HT JL x4
    obtain ⟨kd, hkd⟩ : ∃ kd, kd = (opA l k).kind := ⟨_, rfl⟩
    rw [← hkd] at k3 k3b x1 XK PL HPC
    generalize rJ l k (rK l k) = J at *
    generalize pcS l k (rK l k) = C at *
    generalize rK l k = R at *
    generalize qP l k = Q at *
    generalize ptO l k = P at *
    clear hkd
    go_enter Tryd.func72, Tryd.ntmps72
    go_wp2_with fail
    refine Calls.mono PO.out ?_
    rintro e w1 ⟨p1, c1, rfl, hi1, hb1⟩
    have I1 : Hid (IS w1 (.slice p1 P.length c1) P) := hi1
    have B1 : Hid (Below w.heap.size w w1) := hb1
    have S1 : Hid (OS w1 (.slice (some ⟨X, o, none⟩) l.length cap) l) := HS.out.below hb1
    clear hi1 hb1 PO HS x1
    have D0 : Hid (OwnG KS (w1.alloc (.cells #[] 9)) w1.heap.size (.slice (some ⟨w1.heap.size, 0, none⟩) 0 0) [] ∧ Below w1.heap.size w1 (w1.alloc (.cells #[] 9))) := ⟨OwnG.empty KS w1, (Below.refl _ _).alloc (Nat.le_refl _) _⟩
    go_wp2_with fail
    go_loopw [6, 7] (fun v6 v7 wr => ∃ (i g c : Nat) (O : List ByteArray) (wk : World), v7 = .int .i64 i ∧ v6 = .slice (some ⟨g, 0, none⟩) O.length c ∧ wk = wr ∧ i ≤ P.length ∧ Hid (O = J i) ∧ Hid (OwnG KS wk w1.heap.size (.slice (some ⟨g, 0, none⟩) O.length c) O ∧ Below w1.heap.size w1 wk)) (fun _ v7 _ => P.length - (intOf v7).toNat)
    case atStart => exact ⟨0, _, 0, [], _, rfl, rfl, rfl, Nat.zero_le _, J0, D0⟩
    case round =>
      obtain ⟨i, g, c, O, wk, rfl, rfl, rfl, hi, HO, HI⟩ := hrel
      clear D0 J0
      by_cases hlt : i < P.length
      · have Sk : Hid (OS wk (.slice (some ⟨X, o, none⟩) l.length cap) l) := S1.out.below HI.out.2
        have xk := XK.out wk Sk.out
        obtain ⟨X1, o1, rfl, hc⟩ := (I1.out.below HI.out.2).atI hlt
        obtain ⟨hq0, hq1⟩ := HPB.out P[i] (List.getElem_mem hlt)
        obtain ⟨q, hq⟩ := Int.eq_ofNat_of_zero_le hq0
        have hQi : Q i = q := by rw [HQ.out]; simp [List.getD, hlt, hq]
        rw [hq] at hc
        have hqk : q < k := by omega
        have IQ : Hid _ := IH.out q hqk wk Sk.out
        have LQ := TL.out q hqk
        have NXi : Hid (J (i + 1) = O ++ C i) := by show J (i + 1) = _; rw [NX.out, HO.out]
        have JLi : Hid (∀ j, j ≤ P.length → (J j).length ≤ 257) := JL2
        by_cases k15 : kd = 15
        · have k15b : (kd == 15) = true := by simpa using k15
          by_cases i1 : i = 1
          · have i1b : ((i : Int) == 1) = true := by simp; omega
            have HC : Hid (J (i + 1) = O) := by show J (i + 1) = _; rw [NXi.out, HPC.out, if_pos (Or.inl ⟨k15, i1⟩), List.append_nil]
            clear IQ NXi JLi NX HPC HQ TG TL IH JL2 HPB I1 S1 B1 PL TK HT2 XK Sk
            go_wp2_with fail
            go_roundw
            case rel => exact ⟨i + 1, g, c, O, _, by go_num, rfl, rfl, by omega, HC.out.symm, HI⟩
            case measure => simp [intOf]; omega
          · have i1b : ((i : Int) == 1) = false := by simp; omega
            have k14b : (kd == 14) = false := by rw [k15]; rfl
            have k14 : kd ≠ 14 := by omega
            have HC : Hid (J (i + 1) = O ++ rT l q) := by show J (i + 1) = _; rw [NXi.out, HPC.out, if_neg (fun h => h.elim (fun a => i1 a.2) (fun a => k14 a.1)), if_neg (fun h => k14 h.1), hQi, TG.out q hqk]
            clear k15 k14
            have OL : Hid (O.length ≤ 257) := by show _ ≤ _; rw [HO.out]; exact JL2.out i hi
            clear NXi JLi NX HPC HQ TG TL IH HPB PL TK HT2 B1 JL2 I1 Sk HO hQi hq0 hq1 hq
            go_wp2_with fail
            refine Calls.mono IQ.out ?_
            rintro e w2 ⟨p2, c2, rfl, ho2, hb2⟩
            have R0 : Hid (RI w1 w2 g c O p2 c2 (rT l q)) := ⟨HI.out.1.below hb2, HI.out.2.trans (hb2.mono HI.out.2.size), ho2.gs KS_ok.len, fun x hx => ⟨(ho2.lt hx).2, fun e => by have h1 := (ho2.lt hx).1; have h2 := (HI.out.1.lt (g := g) rfl).2; omega⟩⟩
            generalize rT l q = L at *
            clear ho2 hb2 HI IQ
            go_wp2_with fail
            go_loopw [6, 9] (fun v6 v9 wr => ∃ (j g' c' : Nat) (O' : List ByteArray) (wj : World), v9 = .int .i64 j ∧ v6 = .slice (some ⟨g', 0, none⟩) O'.length c' ∧ wj = wr ∧ j ≤ L.length ∧ Hid (O' = O ++ L.take j) ∧ Hid (RI w1 wj g' c' O' p2 c2 L)) (fun _ v9 _ => L.length - (intOf v9).toNat)
            case atStart => exact ⟨0, g, c, O, _, rfl, rfl, rfl, Nat.zero_le _, (by show O = _; simp), R0⟩
            case round =>
              obtain ⟨j, g', c', O', wj, rfl, rfl, rfl, hj, HO', HR⟩ := hrel
              clear R0
              by_cases hjl : j < L.length
              · obtain ⟨X2, o2, rfl, yc⟩ := HR.out.s.atS hjl
                have xj := XK.out wj (S1.out.below HR.out.b)
                have HN : Hid (O' ++ [L[j]] = O ++ L.take (j + 1)) := by show _ = _; rw [HO'.out, take_next hjl, List.append_assoc]
                have LS : Hid ((O'.length + 1) * KS.B ≤ 140737488355328) := by
                  show (O'.length + 1) * 16 ≤ _
                  have h1 := OL.out
                  rw [HO'.out, List.length_append, List.length_take]; omega
                have HRd : Hid (∀ n, RI w1 (wj.drewN n) g' c' O' (some ⟨X2, o2, none⟩) c2 L) := fun n => HR.out.far ⟨rfl, rfl, rfl, Nat.le_refl _, fun _ _ => rfl⟩
                generalize L[j] = y at *
                clear XK S1 HO' HC OL xk hc
                go_wp2_with fail
                go_quiet (fail)
                go_wp2_with (at_builtin; refine append_g KS KS_ok rfl (.tmp 89) (.tmp 94) 43 rfl w1.heap.size Tryd.underlying43 _ _ _ (.slice (some ⟨g', 0, none⟩) O'.length c') O' y _ rfl (HRd.out _).o _ rfl rfl rfl LS.out (HRd.out _).b.size ?_; intro g2 c3 w3 ho3 hb3 hk3 hg3)
                have H3 : Hid (RI w1 w3 g2 c3 (O' ++ [y]) (some ⟨X2, o2, none⟩) c2 L) := (HRd.out _).push ho3 hb3 hk3 hg3
                have hne : (O' ++ [y]).length = O'.length + 1 := by simp
                go_roundw
                case rel => exact ⟨j + 1, g2, c3, O' ++ [y], _, by go_num, by rw [hne], rfl, by omega, HN, H3⟩
                case measure => simp [intOf]; omega
              · have hje : j = L.length := by omega
                have HF : Hid (O' = J (i + 1)) := by show _ = _; rw [HO'.out, hje, List.take_length, HC.out]
                clear XK S1
                go_wp2_with fail
                go_roundw
                case rel => exact ⟨i + 1, g', c', O', _, by go_num, rfl, rfl, by omega, HF, ⟨HR.out.o, HR.out.b⟩⟩
                case measure => simp [intOf]; omega
        · have k15b : (kd == 15) = false := by simpa using k15
          by_cases k14 : kd = 14
          · have k14b : (kd == 14) = true := by simpa using k14
            by_cases i2 : i = 2
            · have i2b : ((i : Int) == 2) = true := by simp; omega
              have HC : Hid (J (i + 1) = O) := by show J (i + 1) = _; rw [NXi.out, HPC.out, if_pos (Or.inr ⟨k14, i2⟩), List.append_nil]
              clear IQ NXi JLi NX HPC HQ TG TL IH JL2 HPB I1 S1 B1 PL TK HT2 XK Sk
              go_wp2_with fail
              go_roundw
              case rel => exact ⟨i + 1, g, c, O, _, by go_num, rfl, rfl, by omega, HC.out.symm, HI⟩
              case measure => simp [intOf]; omega
            · have i2b : ((i : Int) == 2) = false := by simp; omega
              by_cases i1 : i = 1
              · have i1b : ((i : Int) == 1) = true := by simp; omega
                have hl3 : P.length = 3 := by
                  have := PL.out (by omega)
                  rw [k14, show oprt 14 = 3 by decide] at this; omega
                have hlt2 : 2 < P.length := by omega
                obtain ⟨hr0, hr1⟩ := HPB.out P[2] (List.getElem_mem hlt2)
                obtain ⟨q2, hq2⟩ := Int.eq_ofNat_of_zero_le hr0
                have hQ2 : Q 2 = q2 := by rw [HQ.out]; simp [List.getD, hlt2, hq2]
                have hqk2 : q2 < k := by omega
                have HC : Hid (J (i + 1) = O ++ (rT l q).filter (inB (rT l q2))) := by
                  show J (i + 1) = _
                  rw [NXi.out, HPC.out, if_neg (fun h => h.elim (fun a => k15 a.1) (fun a => i2 a.2)), if_pos ⟨k14, i1⟩]
                  rw [i1] at hQi
                  rw [hQi, hQ2, TG.out q hqk, TG.out q2 hqk2]
                have SQ : Hid (∀ wx, OS wx (.slice (some ⟨X, o, none⟩) l.length cap) l → _) := fun wx hx => IH.out q2 hqk2 wx hx
                have LM := TL.out q2 hqk2
                have hP2 : (2 : Int) < (P.length : Int) := by omega
                have HQ2 : Hid (P[2] = q2) := hq2
                have OL : Hid (O.length ≤ 257) := by show _ ≤ _; rw [HO.out]; exact JL2.out i hi
                clear k15 k14 i1 i2 hl3
                clear NXi JLi NX HPC HQ TG TL IH HPB PL TK HT2 B1 JL2 Sk HO hQi hq0 hq1 hq hr0 hr1 hq2 hQ2
                go_wp2_with fail
                refine Calls.mono IQ.out ?_
                rintro e w2 ⟨p2, c2, rfl, ho2, hb2⟩
                have R0 : Hid (RI w1 w2 g c O p2 c2 (rT l q)) := ⟨HI.out.1.below hb2, HI.out.2.trans (hb2.mono HI.out.2.size), ho2.gs KS_ok.len, fun x hx => ⟨(ho2.lt hx).2, fun e => by have h1 := (ho2.lt hx).1; have h2 := (HI.out.1.lt (g := g) rfl).2; omega⟩⟩
                generalize rT l q2 = M at *
                generalize rT l q = L at *
                clear ho2 hb2 HI IQ
                go_wp2_with fail
                go_loopw [6, 9] (fun v6 v9 wr => ∃ (j g' c' : Nat) (O' : List ByteArray) (wj : World), v9 = .int .i64 j ∧ v6 = .slice (some ⟨g', 0, none⟩) O'.length c' ∧ wj = wr ∧ j ≤ L.length ∧ Hid (O' = O ++ (L.take j).filter (inB M)) ∧ Hid (RI w1 wj g' c' O' p2 c2 L)) (fun _ v9 _ => L.length - (intOf v9).toNat)
                case atStart => exact ⟨0, g, c, O, _, rfl, rfl, rfl, Nat.zero_le _, (by show O = _; simp), R0⟩
                case round =>
                  obtain ⟨j, g', c', O', wj, rfl, rfl, rfl, hj, HO', HR⟩ := hrel
                  clear R0
                  by_cases hjl : j < L.length
                  · obtain ⟨X2, o2, rfl, yc⟩ := HR.out.s.atS hjl
                    have xj := XK.out wj (S1.out.below HR.out.b)
                    obtain ⟨X3, o3, e3, pc⟩ := (I1.out.below HR.out.b).atI hlt2
                    injection e3 with e3; injection e3 with e31 e32 _
                    subst e31 e32
                    rw [HQ2.out] at pc
                    have HN1 : Hid (inB M L[j] = true → O' ++ [L[j]] = O ++ (L.take (j + 1)).filter (inB M)) := fun h => by rw [HO'.out, take_next hjl, List.filter_append, List.append_assoc]; simp [h]
                    have HN0 : Hid (inB M L[j] = false → O' = O ++ (L.take (j + 1)).filter (inB M)) := fun h => by rw [HO'.out, take_next hjl, List.filter_append]; simp [h]
                    have LS : Hid ((O'.length + 1) * KS.B ≤ 140737488355328) := by
                      show (O'.length + 1) * 16 ≤ _
                      have h1 := OL.out
                      have h2 := List.length_filter_le (inB M) (L.take j)
                      rw [List.length_take] at h2
                      rw [HO'.out, List.length_append]; omega
                    have SU : Hid (∀ wx, Below wj.heap.size wj wx → Calls Tryd.prog 72 #[.slice (some ⟨X, o, none⟩) l.length cap, .int .i64 q2] wx fun e w' => ∃ q' c, e = .returned (.slice q' M.length c) ∧ GS KS w' (.slice q' M.length c) M ∧ Below wj.heap.size wj w') := fun wx b => by
                      refine Calls.mono (SQ.out wx ((S1.out.below HR.out.b).below b)) ?_
                      rintro e w' ⟨q', c, rfl, ho, hb⟩
                      exact ⟨q', c, rfl, ho.gs KS_ok.len, b.trans (hb.mono b.size)⟩
                    have IN : Hid (∀ wx u, GS KS wx u M → Calls Tryd.prog 42 #[u, .string L[j]] wx fun e w' => e = .returned (.bool (inB M L[j])) ∧ w' = wx) := fun wx u h => inG_any u M L[j] wx h (by omega)
                    have YC : Hid (∀ wx, Below wj.heap.size wj wx → wx.cell? ⟨X2, o2 + j, none⟩ = some (.string L[j])) := fun wx b => (b.cell (p := ⟨X2, o2 + j, none⟩) (block_lt_of_cell yc)).trans yc
                    have XC : Hid (∀ wx, Below wj.heap.size wj wx → wx.cell? ⟨X, o + k * 4, none⟩ = some (.int .i64 kd)) := fun wx b => (b.cell (p := ⟨X, o + k * 4, none⟩) (block_lt_of_cell xj)).trans xj
                    have PC : Hid (∀ wx, Below wj.heap.size wj wx → wx.cell? ⟨X1, o1 + 2, none⟩ = some (.int .i64 (q2 : Nat))) := fun wx b => (b.cell (p := ⟨X1, o1 + 2, none⟩) (block_lt_of_cell pc)).trans pc
                    have RF : Hid (∀ wx, Below wj.heap.size wj wx → RI w1 wx g' c' O' (some ⟨X2, o2, none⟩) c2 L) := fun wx b => HR.out.far b
                    have BR : Hid (Below wj.heap.size wj wj) := Below.refl _ _
                    have BD : Hid (∀ wx, Below wj.heap.size wj wx → Below wj.heap.size wj wx.drew) := fun wx b => ⟨b.os, b.tape, b.output, b.size, b.block⟩
                    generalize L[j] = y at *
                    clear XK S1 HO' HC OL xk hc SQ HQ2 I1 HR
                    go_upto_region 13 with fail
                    go_cut [88] (fun v88 wx => ∃ wz, v88 = .bool (!inB M y) ∧ wz = wx ∧ wz.cell? ⟨X2, o2 + j, none⟩ = some (.string y) ∧ Hid (RI w1 wz g' c' O' (some ⟨X2, o2, none⟩) c2 L))
                    case first =>
                      go_region_held3 (fun w' => w'.cell? ⟨X, o + k * 4, none⟩ = some (.int .i64 kd) ∧ w'.cell? ⟨X1, o1 + 2, none⟩ = some (.int .i64 (q2 : Nat)) ∧ w'.cell? ⟨X2, o2 + j, none⟩ = some (.string y)) (go_keep) (first | (go_at_call 72; refine Calls.mono (SU.out _ ?_) ?_; (first | exact BR.out | exact BD.out _ BR.out); rintro e w3 ⟨q3, c3, rfl, g3, b3⟩; have yc3 := YC.out _ b3; have xj3 := XC.out _ b3; have pc3 := PC.out _ b3; have G3 : Hid (GS KS w3 (.slice q3 M.length c3) M) := g3; have B3 : Hid (Below wj.heap.size wj w3) := b3; clear g3 b3) | (go_at_call 42; refine Calls.mono (IN.out _ _ ?_) ?_; (first | exact G3.out | exact G3.out.blk (Nat.le_refl _) (fun _ _ _ => rfl)); rintro e w4 ⟨rfl, rfl⟩))
                      all_goals
                        go_wp2_with fail
                        go_meet
                        first
                        | exact ⟨_, rfl, rfl, YC.out _ B3.out, RF.out _ B3.out⟩
                        | exact ⟨_, rfl, rfl, YC.out _ (BD.out _ B3.out), RF.out _ (BD.out _ B3.out)⟩
                    case rest =>
                      obtain ⟨wz, rfl, rfl, yz, HZ⟩ := hcut
                      have hb : inB M y = true ∨ inB M y = false := by cases inB M y <;> simp
                      rcases hb with hb | hb
                      · rw [hb]
                        have HN : Hid _ := HN1.out hb
                        clear HN1 HN0 SU IN YC RF BR BD hb
                        go_wp2_with (at_builtin; refine append_g KS KS_ok rfl (.tmp 89) (.tmp 94) 43 rfl w1.heap.size Tryd.underlying43 _ _ _ (.slice (some ⟨g', 0, none⟩) O'.length c') O' y _ rfl HZ.out.o _ rfl rfl rfl LS.out HZ.out.b.size ?_; intro g2 c3 w3 ho3 hb3 hk3 hg3)
                        have H3 : Hid (RI w1 w3 g2 c3 (O' ++ [y]) (some ⟨X2, o2, none⟩) c2 L) := HZ.out.push ho3 hb3 hk3 hg3
                        have hne : (O' ++ [y]).length = O'.length + 1 := by simp
                        go_roundw
                        case rel => exact ⟨j + 1, g2, c3, O' ++ [y], _, by go_num, by rw [hne], rfl, by omega, HN, H3⟩
                        case measure => simp [intOf]; omega
                      · rw [hb]
                        have HN : Hid _ := HN0.out hb
                        clear HN1 HN0 SU IN YC RF BR BD hb
                        go_wp2_with fail
                        go_roundw
                        case rel => exact ⟨j + 1, g', c', O', _, by go_num, rfl, rfl, by omega, HN, HZ⟩
                        case measure => simp [intOf]; omega
                  · have hje : j = L.length := by omega
                    have HF : Hid (O' = J (i + 1)) := by show _ = _; rw [HO'.out, hje, List.take_length, HC.out]
                    clear XK S1
                    go_wp2_with fail
                    go_roundw
                    case rel => exact ⟨i + 1, g', c', O', _, by go_num, rfl, rfl, by omega, HF, ⟨HR.out.o, HR.out.b⟩⟩
                    case measure => simp [intOf]; omega
              · have i1b : ((i : Int) == 1) = false := by simp; omega
                have HC : Hid (J (i + 1) = O ++ rT l q) := by show J (i + 1) = _; rw [NXi.out, HPC.out, if_neg (fun h => h.elim (fun a => i1 a.2) (fun a => i2 a.2)), if_neg (fun h => i1 h.2), hQi, TG.out q hqk]
                clear k15 k14
                have OL : Hid (O.length ≤ 257) := by show _ ≤ _; rw [HO.out]; exact JL2.out i hi
                clear NXi JLi NX HPC HQ TG TL IH HPB PL TK HT2 B1 JL2 I1 Sk HO hQi hq0 hq1 hq
                go_wp2_with fail
                refine Calls.mono IQ.out ?_
                rintro e w2 ⟨p2, c2, rfl, ho2, hb2⟩
                have R0 : Hid (RI w1 w2 g c O p2 c2 (rT l q)) := ⟨HI.out.1.below hb2, HI.out.2.trans (hb2.mono HI.out.2.size), ho2.gs KS_ok.len, fun x hx => ⟨(ho2.lt hx).2, fun e => by have h1 := (ho2.lt hx).1; have h2 := (HI.out.1.lt (g := g) rfl).2; omega⟩⟩
                generalize rT l q = L at *
                clear ho2 hb2 HI IQ
                go_wp2_with fail
                go_loopw [6, 9] (fun v6 v9 wr => ∃ (j g' c' : Nat) (O' : List ByteArray) (wj : World), v9 = .int .i64 j ∧ v6 = .slice (some ⟨g', 0, none⟩) O'.length c' ∧ wj = wr ∧ j ≤ L.length ∧ Hid (O' = O ++ L.take j) ∧ Hid (RI w1 wj g' c' O' p2 c2 L)) (fun _ v9 _ => L.length - (intOf v9).toNat)
                case atStart => exact ⟨0, g, c, O, _, rfl, rfl, rfl, Nat.zero_le _, (by show O = _; simp), R0⟩
                case round =>
                  obtain ⟨j, g', c', O', wj, rfl, rfl, rfl, hj, HO', HR⟩ := hrel
                  clear R0
                  by_cases hjl : j < L.length
                  · obtain ⟨X2, o2, rfl, yc⟩ := HR.out.s.atS hjl
                    have xj := XK.out wj (S1.out.below HR.out.b)
                    have HN : Hid (O' ++ [L[j]] = O ++ L.take (j + 1)) := by show _ = _; rw [HO'.out, take_next hjl, List.append_assoc]
                    have LS : Hid ((O'.length + 1) * KS.B ≤ 140737488355328) := by
                      show (O'.length + 1) * 16 ≤ _
                      have h1 := OL.out
                      rw [HO'.out, List.length_append, List.length_take]; omega
                    have HRd : Hid (∀ n, RI w1 (wj.drewN n) g' c' O' (some ⟨X2, o2, none⟩) c2 L) := fun n => HR.out.far ⟨rfl, rfl, rfl, Nat.le_refl _, fun _ _ => rfl⟩
                    generalize L[j] = y at *
                    clear XK S1 HO' HC OL xk hc
                    go_wp2_with fail
                    go_quiet (fail)
                    go_wp2_with (at_builtin; refine append_g KS KS_ok rfl (.tmp 89) (.tmp 94) 43 rfl w1.heap.size Tryd.underlying43 _ _ _ (.slice (some ⟨g', 0, none⟩) O'.length c') O' y _ rfl (HRd.out _).o _ rfl rfl rfl LS.out (HRd.out _).b.size ?_; intro g2 c3 w3 ho3 hb3 hk3 hg3)
                    have H3 : Hid (RI w1 w3 g2 c3 (O' ++ [y]) (some ⟨X2, o2, none⟩) c2 L) := (HRd.out _).push ho3 hb3 hk3 hg3
                    have hne : (O' ++ [y]).length = O'.length + 1 := by simp
                    go_roundw
                    case rel => exact ⟨j + 1, g2, c3, O' ++ [y], _, by go_num, by rw [hne], rfl, by omega, HN, H3⟩
                    case measure => simp [intOf]; omega
                  · have hje : j = L.length := by omega
                    have HF : Hid (O' = J (i + 1)) := by show _ = _; rw [HO'.out, hje, List.take_length, HC.out]
                    clear XK S1
                    go_wp2_with fail
                    go_roundw
                    case rel => exact ⟨i + 1, g', c', O', _, by go_num, rfl, rfl, by omega, HF, ⟨HR.out.o, HR.out.b⟩⟩
                    case measure => simp [intOf]; omega
          · have k14b : (kd == 14) = false := by simpa using k14
            have HC : Hid (J (i + 1) = O ++ rT l q) := by show J (i + 1) = _; rw [NXi.out, HPC.out, if_neg (fun h => h.elim (fun a => k15 a.1) (fun a => k14 a.1)), if_neg (fun h => k14 h.1), hQi, TG.out q hqk]
            clear k15 k14
            have OL : Hid (O.length ≤ 257) := by show _ ≤ _; rw [HO.out]; exact JL2.out i hi
            clear NXi JLi NX HPC HQ TG TL IH HPB PL TK HT2 B1 JL2 I1 Sk HO hQi hq0 hq1 hq
            go_wp2_with fail
            refine Calls.mono IQ.out ?_
            rintro e w2 ⟨p2, c2, rfl, ho2, hb2⟩
            have R0 : Hid (RI w1 w2 g c O p2 c2 (rT l q)) := ⟨HI.out.1.below hb2, HI.out.2.trans (hb2.mono HI.out.2.size), ho2.gs KS_ok.len, fun x hx => ⟨(ho2.lt hx).2, fun e => by have h1 := (ho2.lt hx).1; have h2 := (HI.out.1.lt (g := g) rfl).2; omega⟩⟩
            generalize rT l q = L at *
            clear ho2 hb2 HI IQ
            go_wp2_with fail
            go_loopw [6, 9] (fun v6 v9 wr => ∃ (j g' c' : Nat) (O' : List ByteArray) (wj : World), v9 = .int .i64 j ∧ v6 = .slice (some ⟨g', 0, none⟩) O'.length c' ∧ wj = wr ∧ j ≤ L.length ∧ Hid (O' = O ++ L.take j) ∧ Hid (RI w1 wj g' c' O' p2 c2 L)) (fun _ v9 _ => L.length - (intOf v9).toNat)
            case atStart => exact ⟨0, g, c, O, _, rfl, rfl, rfl, Nat.zero_le _, (by show O = _; simp), R0⟩
            case round =>
              obtain ⟨j, g', c', O', wj, rfl, rfl, rfl, hj, HO', HR⟩ := hrel
              clear R0
              by_cases hjl : j < L.length
              · obtain ⟨X2, o2, rfl, yc⟩ := HR.out.s.atS hjl
                have xj := XK.out wj (S1.out.below HR.out.b)
                have HN : Hid (O' ++ [L[j]] = O ++ L.take (j + 1)) := by show _ = _; rw [HO'.out, take_next hjl, List.append_assoc]
                have LS : Hid ((O'.length + 1) * KS.B ≤ 140737488355328) := by
                  show (O'.length + 1) * 16 ≤ _
                  have h1 := OL.out
                  rw [HO'.out, List.length_append, List.length_take]; omega
                have HRd : Hid (∀ n, RI w1 (wj.drewN n) g' c' O' (some ⟨X2, o2, none⟩) c2 L) := fun n => HR.out.far ⟨rfl, rfl, rfl, Nat.le_refl _, fun _ _ => rfl⟩
                generalize L[j] = y at *
                clear XK S1 HO' HC OL xk hc
                go_wp2_with fail
                go_quiet (fail)
                go_wp2_with (at_builtin; refine append_g KS KS_ok rfl (.tmp 89) (.tmp 94) 43 rfl w1.heap.size Tryd.underlying43 _ _ _ (.slice (some ⟨g', 0, none⟩) O'.length c') O' y _ rfl (HRd.out _).o _ rfl rfl rfl LS.out (HRd.out _).b.size ?_; intro g2 c3 w3 ho3 hb3 hk3 hg3)
                have H3 : Hid (RI w1 w3 g2 c3 (O' ++ [y]) (some ⟨X2, o2, none⟩) c2 L) := (HRd.out _).push ho3 hb3 hk3 hg3
                have hne : (O' ++ [y]).length = O'.length + 1 := by simp
                go_roundw
                case rel => exact ⟨j + 1, g2, c3, O' ++ [y], _, by go_num, by rw [hne], rfl, by omega, HN, H3⟩
                case measure => simp [intOf]; omega
              · have hje : j = L.length := by omega
                have HF : Hid (O' = J (i + 1)) := by show _ = _; rw [HO'.out, hje, List.take_length, HC.out]
                clear XK S1
                go_wp2_with fail
                go_roundw
                case rel => exact ⟨i + 1, g', c', O', _, by go_num, rfl, rfl, by omega, HF, ⟨HR.out.o, HR.out.b⟩⟩
                case measure => simp [intOf]; omega
      · have hie : i = P.length := by omega
        have e1 : O = T := by rw [HO.out, hie, HT2.out]
        subst e1
        have O1 : Hid (OwnG KS wk w.heap.size (.slice (some ⟨g, 0, none⟩) O.length c) O) := HI.out.1.low B1.out.size
        have B2 : Hid (Below w.heap.size w wk) := B1.out.trans (HI.out.2.mono B1.out.size)
        clear HI HO HT2 NX HPC HQ TG TL IH XK JL2 HPB I1 S1 B1 PL TK
        go_wp2_with fail
        go_ret
        exact ⟨_, _, rfl, O1.out, B2.out⟩
end Go.Proofs.YtmkgcgdfgagdlaaDoor
