/- The walk of the law NamesAsks. -/
import Derived.Test.YtmkgcgdfgagdlaaDoorPm3
namespace Go.Proofs.YtmkgcgdfgagdlaaDoor
open Go.RowKit

theorem filter_next {L : List ByteArray} {f : ByteArray → Bool} {j : Nat} (h : j < L.length) : (L.take (j + 1)).filter f = (L.take j).filter f ++ (if f L[j] = true then [L[j]] else []) := by
  rw [List.take_succ_eq_append_getElem h, List.filter_append]
  congr 1
  by_cases e : f L[j] = true <;> simp [e]
set_option maxHeartbeats 8000000 in
set_option maxRecDepth 100000 in
theorem rsureE_any (v : Value) (l : List Opn) (w : World) (h : OS w v l) (ht : ∀ c ∈ l, c.text.size ≤ maxLen) (hlm : l.length ≤ 1000000000000000) :
    Calls Tryd.prog 32 #[v] w fun e w' => AnsT w w' e (sureL l) (chkO l) := by
  have CK : Hid _ := rcheck_any v l w h ht hlm
  by_cases hc : chkO l = 0
  · have e1 : sureL l = (textsL l 3).filter (sureP l) := by unfold sureL; rw [if_pos hc]
    rw [e1, hc]
    rw [hc] at CK
    obtain ⟨hl, hwh, _⟩ := chkO_ok hc
    have hne := walk_ne (wholeB_ok hwh).2
    have hpf : ∀ x, inB (rT l (l.length - 1)) x = sureP l x := rT_sure hwh
    have hpl := rT_len hwh (k := l.length - 1) (by omega)
    have TX : Hid (∀ w1, Below w.heap.size w w1 → _) := fun w1 b => rtexts_any v l 3 w1 (h.below b) hl
    have hAl : (textsL l 3).length ≤ 256 := by have := textsL_len l 3; omega
    obtain ⟨p, cap, rfl⟩ := h.form
    have SR : Hid (∀ w1, Below w.heap.size w w1 → _) := fun w1 b => rsure_any p cap l hwh ht hl (l.length - 1) (by omega) w1 (h.below b)
    generalize textsL l 3 = A at *
    generalize rT l (l.length - 1) = M at *
    generalize sureP l = F at *
    have IN : Hid (∀ wx u y, GS KS wx u M → Calls Tryd.prog 42 #[u, .string y] wx fun e w' => e = .returned (.bool (F y)) ∧ w' = wx) := fun wx u y h => by
      have := inG_any u M y wx h (by omega)
      rw [hpf] at this; exact this
    have hi : (l.length : Int) - 1 = ((l.length - 1 : Nat) : Int) := by omega
    clear h ht hc e1 hwh hpf
    go_enter Tryd.func32, Tryd.ntmps32
    go_wp2_with fail
    refine Calls.mono CK.out ?_
    rintro e w1 ⟨rfl, hb1⟩
    have B1 : Hid (Below w.heap.size w w1) := hb1
    clear hb1 CK
    go_wp2_with fail
    refine Calls.mono (SR.out _ B1.out) ?_
    rintro e w2 ⟨p2, c2, rfl, ho2, hb2⟩
    have B2 : Hid (Below w.heap.size w w2) := B1.out.trans (hb2.mono B1.out.size)
    have M2 : Hid (GS KS w2 (.slice p2 M.length c2) M) := ho2.gs KS_ok.len
    clear ho2 hb2 SR B1
    go_wp2_with fail
    refine Calls.mono (TX.out _ B2.out) ?_
    rintro e w3 ⟨p3, c3, rfl, ho3, hb3⟩
    have B3 : Hid (Below w.heap.size w w3) := B2.out.trans (hb3.mono B2.out.size)
    have M3 : Hid (GS KS w3 (.slice p2 M.length c2) M) := M2.out.below hb3
    have A3 : Hid (GS KS w3 (.slice p3 A.length c3) A) := ho3.gs KS_ok.len
    clear ho3 hb3 TX M2 B2
    have D0 : Hid (OwnG KS (w3.alloc (.cells #[] 9)) w3.heap.size (.slice (some ⟨w3.heap.size, 0, none⟩) 0 0) [] ∧ Below w3.heap.size w3 (w3.alloc (.cells #[] 9))) := ⟨OwnG.empty KS w3, (Below.refl _ _).alloc (Nat.le_refl _) _⟩
    go_wp2_with fail
    go_loopw [7, 8] (fun v7 v8 wr => ∃ (k g c : Nat) (O : List ByteArray) (wk : World), v8 = .int .i64 k ∧ v7 = .slice (some ⟨g, 0, none⟩) O.length c ∧ wk = wr ∧ k ≤ A.length ∧ Hid (O = (A.take k).filter F) ∧ Hid (OwnG KS wk w3.heap.size (.slice (some ⟨g, 0, none⟩) O.length c) O ∧ Below w3.heap.size w3 wk)) (fun _ v8 _ => A.length - (intOf v8).toNat)
    case atStart => exact ⟨0, _, 0, [], _, rfl, rfl, rfl, Nat.zero_le _, rfl, D0⟩
    case round =>
      obtain ⟨k, g, cp, O, wk, rfl, rfl, rfl, hk, HO, HI⟩ := hrel
      clear D0
      by_cases hlt : k < A.length
      · obtain ⟨X, o, rfl, yc⟩ := (A3.out.below HI.out.2).atS hlt
        have HN : Hid _ := filter_next (f := F) hlt
        rw [← HO.out] at HN
        have LS : Hid ((O.length + 1) * KS.B ≤ 140737488355328) := by
          show (O.length + 1) * 16 ≤ _
          have h2 := List.length_filter_le F (A.take k)
          rw [List.length_take] at h2
          rw [HO.out]; omega
        have I1 : Hid _ := IN.out wk _ A[k] (M3.out.below HI.out.2)
        generalize A[k] = y at *
        have hb : F y = true ∨ F y = false := by cases F y <;> simp
        rcases hb with hb | hb
        · rw [hb] at I1 HN
          rw [if_pos rfl] at HN
          go_wp2_with fail
          refine Calls.mono I1.out ?_
          rintro e w4 ⟨rfl, hw4⟩
          rw [hw4]
          clear I1 hw4
          go_wp2_with (at_builtin; refine append_g KS KS_ok rfl (.tmp 34) (.tmp 39) 43 rfl w3.heap.size Tryd.underlying43 _ _ _ (.slice (some ⟨g, 0, none⟩) O.length cp) O y _ rfl HI.out.1 _ rfl rfl rfl LS.out HI.out.2.size ?_; intro g2 c2' w5 ho5 hb5 hk5 hg5)
          have H5 : Hid (OwnG KS w5 w3.heap.size (.slice (some ⟨g2, 0, none⟩) (O ++ [y]).length c2') (O ++ [y]) ∧ Below w3.heap.size w3 w5) := ⟨by rw [List.length_append]; exact ho5, HI.out.2.trans hb5⟩
          have hne2 : (O ++ [y]).length = O.length + 1 := by simp
          go_roundw
          case rel => exact ⟨k + 1, g2, c2', O ++ [y], _, by go_num, by rw [hne2], rfl, by omega, HN.out.symm, H5⟩
          case measure => simp [intOf]; omega
        · rw [hb] at I1 HN
          rw [if_neg (by decide), List.append_nil] at HN
          go_wp2_with fail
          refine Calls.mono I1.out ?_
          rintro e w4 ⟨rfl, hw4⟩
          rw [hw4]
          clear I1 hw4
          go_wp2_with fail
          go_roundw
          case rel => exact ⟨k + 1, g, cp, O, _, by go_num, rfl, rfl, by omega, HN.out.symm, HI⟩
          case measure => simp [intOf]; omega
      · have hke : k = A.length := by omega
        have e1 : O = A.filter F := by rw [HO.out, hke, List.take_length]
        have O1 : Hid (OwnG KS wk w.heap.size (.slice (some ⟨g, 0, none⟩) O.length cp) O) := HI.out.1.low B3.out.size
        have B4 : Hid (Below w.heap.size w wk) := B3.out.trans (HI.out.2.mono B3.out.size)
        have E1 : Hid (O = A.filter F) := e1
        clear HI HO e1 M3 A3 B3 IN
        go_wp2_with fail
        go_ret2
        rw [← E1.out]
        exact ⟨_, _, rfl, O1.out, B4.out⟩
  · have e1 : sureL l = [] := by unfold sureL; rw [if_neg hc]
    rw [e1]
    obtain ⟨p, cap, rfl⟩ := h.form
    generalize chkO l = c at *
    have h1 : (c == 0) = false := by simpa using hc
    have h2 : (c != 0) = true := by simpa using hc
    clear h ht e1
    go_enter Tryd.func32, Tryd.ntmps32
    go_wp2_with fail
    refine Calls.mono CK.out ?_
    rintro e w1 ⟨rfl, hb1⟩
    have B1 : Hid (Below w.heap.size w w1) := hb1
    clear hb1 CK
    go_wp2_with fail
    go_ret2
    exact ⟨none, 0, rfl, OwnG.nil _ _ _, B1.out⟩
set_option maxHeartbeats 8000000 in
set_option maxRecDepth 100000 in
theorem namesAsks_any (v : Value) (l : List Opn) (w : World) (h : OS w v l) (ht : ∀ c ∈ l, c.text.size ≤ maxLen) (hl : l.length * 40 ≤ 140737488355328) (hv : NV w) :
    Calls Tryd.prog 6 #[v] w fun e w' => e = .returned (.bool true) ∧ Below w.heap.size w w' := by
  have hlm : l.length ≤ 1000000000000000 := by omega
  have CE : Hid _ := copyExpr_any v l w h hl
  have A1 : Hid (∀ w1 u, Below w.heap.size w w1 → OS w1 u l → _) := fun w1 u b hu => asked_any u l w1 hu ht (hv.below b) hlm
  have A2 : Hid (∀ w1, Below w.heap.size w w1 → _) := fun w1 b => rasked_any v l w1 (h.below b) ht hlm
  have S1 : Hid (∀ w1 u, Below w.heap.size w w1 → OS w1 u l → _) := fun w1 u b hu => sure_any u l w1 hu ht (hv.below b) hlm
  have S2 : Hid (∀ w1, Below w.heap.size w w1 → _) := fun w1 b => rsureE_any v l w1 (h.below b) ht hlm
  have G1 : Hid (∀ w1 u, Below w.heap.size w w1 → OS w1 u l → _) := fun w1 u b hu => gates_any u l w1 hu ht (hv.below b) hlm
  have G2 : Hid (∀ w1, Below w.heap.size w w1 → _) := fun w1 b => rgates_any v l w1 (h.below b) ht hlm
  have ST : Hid (∀ w1 u1 u2 m, GS KS w1 u1 m → GS KS w1 u2 m → m.length ≤ 100000000000000000 → Calls Tryd.prog 22 #[u1, u2] w1 fun e w' => e = .returned (.bool true) ∧ Below w1.heap.size w1 w') := fun w1 u1 u2 m h1 h2 h3 => by
    refine (sameTextsG w1 u1 u2 m h1 h2 h3).mono ?_
    rintro e w' ⟨rfl, n, rfl⟩
    exact ⟨rfl, ⟨rfl, rfl, rfl, Nat.le_refl _, fun _ _ => rfl⟩⟩
  have SE : Hid (∀ w1 u, Below w.heap.size w w1 → OS w1 u l → _) := fun w1 u b hu => sameExpr_same w1 u v l hu (h.below b) (by omega)
  have L1 : Hid (∀ kd, (askL l kd).length ≤ 100000000000000000) := fun kd => by
    have := textsL_len l kd
    unfold askL
    split
    · omega
    · simp
  have L2 : Hid ((sureL l).length ≤ 100000000000000000) := by
    have h1 := textsL_len l 3
    have h2 := List.length_filter_le (sureP l) (textsL l 3)
    show _ ≤ _
    unfold sureL
    split
    · omega
    · simp
  obtain ⟨p, cap, rfl⟩ := h.form
  have LA := L1.out 3
  have LG := L1.out 18
  generalize askL l 3 = PA at *
  generalize askL l 18 = PG at *
  generalize sureL l = PS at *
  generalize chkO l = c at *
  have L3 : Hid (PA.length ≤ 100000000000000000) := LA
  have L4 : Hid (PG.length ≤ 100000000000000000) := LG
  clear h ht hv L1 LA LG
  go_enter Tryd.func6, Tryd.ntmps6
  go_wp2_with fail
  refine Calls.mono CE.out ?_
  rintro e w1 ⟨p1, c1, rfl, ho1, hb1⟩
  have O1 : Hid (OS w1 (.slice p1 l.length c1) l) := ho1.gs KO_ok.len
  have B1 : Hid (Below w.heap.size w w1) := hb1
  clear ho1 hb1 CE
  go_wp2_with fail
  refine Calls.mono (A1.out _ _ B1.out O1.out) ?_
  rintro e w2 ⟨pa2, ca2, rfl, hx2, hb2⟩
  have B2 : Hid (Below w.heap.size w w2) := B1.out.trans (hb2.mono B1.out.size)
  have O2 : Hid (OS w2 (.slice p1 l.length c1) l) := O1.out.below hb2
  have T2 : Hid (GS KS w2 (.slice pa2 PA.length ca2) PA) := hx2.gs KS_ok.len
  clear hx2 hb2 A1 B1 O1
  go_wp2_with fail
  refine Calls.mono (A2.out _ B2.out) ?_
  rintro e w3 ⟨pb3, cb3, rfl, hx3, hb3⟩
  have B3 : Hid (Below w.heap.size w w3) := B2.out.trans (hb3.mono B2.out.size)
  have O3 : Hid (OS w3 (.slice p1 l.length c1) l) := O2.out.below hb3
  have T3 : Hid (GS KS w3 (.slice pa2 PA.length ca2) PA) := T2.out.below hb3
  have U3 : Hid (GS KS w3 (.slice pb3 PA.length cb3) PA) := hx3.gs KS_ok.len
  clear hx3 hb3 A2 B2 O2 T2
  go_wp2_with fail
  refine Calls.mono (ST.out _ _ _ _ T3.out U3.out L3.out) ?_
  rintro e w4 ⟨rfl, hb4⟩
  have B4 : Hid (Below w.heap.size w w4) := B3.out.trans (hb4.mono B3.out.size)
  have O4 : Hid (OS w4 (.slice p1 l.length c1) l) := O3.out.below hb4
  clear hb4 B3 O3 T3 U3
  go_wp2_with fail
  refine Calls.mono (S1.out _ _ B4.out O4.out) ?_
  rintro e w5 ⟨pa5, ca5, rfl, hx5, hb5⟩
  have B5 : Hid (Below w.heap.size w w5) := B4.out.trans (hb5.mono B4.out.size)
  have O5 : Hid (OS w5 (.slice p1 l.length c1) l) := O4.out.below hb5
  have T5 : Hid (GS KS w5 (.slice pa5 PS.length ca5) PS) := hx5.gs KS_ok.len
  clear hx5 hb5 S1 B4 O4
  go_wp2_with fail
  refine Calls.mono (S2.out _ B5.out) ?_
  rintro e w6 ⟨pb6, cb6, rfl, hx6, hb6⟩
  have B6 : Hid (Below w.heap.size w w6) := B5.out.trans (hb6.mono B5.out.size)
  have O6 : Hid (OS w6 (.slice p1 l.length c1) l) := O5.out.below hb6
  have T6 : Hid (GS KS w6 (.slice pa5 PS.length ca5) PS) := T5.out.below hb6
  have U6 : Hid (GS KS w6 (.slice pb6 PS.length cb6) PS) := hx6.gs KS_ok.len
  clear hx6 hb6 S2 B5 O5 T5
  go_wp2_with fail
  refine Calls.mono (ST.out _ _ _ _ T6.out U6.out L2.out) ?_
  rintro e w7 ⟨rfl, hb7⟩
  have B7 : Hid (Below w.heap.size w w7) := B6.out.trans (hb7.mono B6.out.size)
  have O7 : Hid (OS w7 (.slice p1 l.length c1) l) := O6.out.below hb7
  clear hb7 B6 O6 T6 U6
  go_wp2_with fail
  refine Calls.mono (G1.out _ _ B7.out O7.out) ?_
  rintro e w8 ⟨pa8, ca8, rfl, hx8, hb8⟩
  have B8 : Hid (Below w.heap.size w w8) := B7.out.trans (hb8.mono B7.out.size)
  have O8 : Hid (OS w8 (.slice p1 l.length c1) l) := O7.out.below hb8
  have T8 : Hid (GS KS w8 (.slice pa8 PG.length ca8) PG) := hx8.gs KS_ok.len
  clear hx8 hb8 G1 B7 O7
  go_wp2_with fail
  refine Calls.mono (G2.out _ B8.out) ?_
  rintro e w9 ⟨pb9, cb9, rfl, hx9, hb9⟩
  have B9 : Hid (Below w.heap.size w w9) := B8.out.trans (hb9.mono B8.out.size)
  have O9 : Hid (OS w9 (.slice p1 l.length c1) l) := O8.out.below hb9
  have T9 : Hid (GS KS w9 (.slice pa8 PG.length ca8) PG) := T8.out.below hb9
  have U9 : Hid (GS KS w9 (.slice pb9 PG.length cb9) PG) := hx9.gs KS_ok.len
  clear hx9 hb9 G2 B8 O8 T8
  go_wp2_with fail
  refine Calls.mono (ST.out _ _ _ _ T9.out U9.out L4.out) ?_
  rintro e w10 ⟨rfl, hb10⟩
  have B10 : Hid (Below w.heap.size w w10) := B9.out.trans (hb10.mono B9.out.size)
  have O10 : Hid (OS w10 (.slice p1 l.length c1) l) := O9.out.below hb10
  clear hb10 B9 O9 T9 U9
  go_wp2_with fail
  refine Calls.mono (SE.out _ _ B10.out O10.out) ?_
  rintro e w11 ⟨rfl, hb11⟩
  have B11 : Hid (Below w.heap.size w w11) := B10.out.trans (hb11.mono B10.out.size)
  clear hb11 SE
  go_wp2_with fail
  go_ret
  exact ⟨rfl, B11.out⟩
end Go.Proofs.YtmkgcgdfgagdlaaDoor
