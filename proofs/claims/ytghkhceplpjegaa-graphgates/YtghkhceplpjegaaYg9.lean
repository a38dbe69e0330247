/- Graph: the order, by the library's heap. -/
import Derived.Test.YtghkhceplpjegaaYl0
import Derived.Test.YtghkhceplpjegaaYc9
namespace Go.Proofs.Ytghkhceplpjegaa
open Go.RowKit

def ODR (w : World) (N : Nat) (E : List (Nat × Nat)) (e : Ending) (w' : World) : Prop :=
  (rnL N E ≠ [] ∧ e = .returned (.tuple #[.slice none 0 0, .int .i64 150]) ∧ Below w.heap.size w w') ∨ (rnL N E = [] ∧ ∃ p c, e = .returned (.tuple #[.slice p N c, .int .i64 0]) ∧ OwnG KI w' w.heap.size (.slice p N c) (nI (orL N E)) ∧ Below w.heap.size w w')
/-- The ones of the first k that nobody leads to. -/
structure R0 (A : Nat → List Nat) (N k : Nat) (l : List Nat) : Prop where
  nd : l.Nodup
  is : ∀ x, x ∈ l ↔ x < k ∧ pcS A N x = 0
theorem R0.len {A : Nat → List Nat} {N k : Nat} {l : List Nat} (h : R0 A N k l) : l.length ≤ k := nodup_leN h.nd fun x hx => ((h.is x).1 hx).1
theorem R0.yes {A : Nat → List Nat} {N k : Nat} {l l' : List Nat} (h : R0 A N k l) (hk : pcS A N k = 0) (p : l'.Perm (k :: l)) : R0 A N (k + 1) l' := by
  refine ⟨p.nodup_iff.2 (List.nodup_cons.2 ⟨fun q => by have := ((h.is k).1 q).1; omega, h.nd⟩), fun x => ?_⟩
  rw [p.mem_iff, List.mem_cons, h.is]
  constructor
  · rintro (e | ⟨q1, q2⟩)
    · rw [e]; exact ⟨by omega, hk⟩
    · exact ⟨by omega, q2⟩
  · rintro ⟨q1, q2⟩
    by_cases e : x = k
    · exact Or.inl e
    · exact Or.inr ⟨by omega, q2⟩
theorem R0.no {A : Nat → List Nat} {N k : Nat} {l : List Nat} (h : R0 A N k l) (hk : pcS A N k ≠ 0) : R0 A N (k + 1) l := by
  refine ⟨h.nd, fun x => ?_⟩
  rw [h.is]
  constructor
  · rintro ⟨q1, q2⟩; exact ⟨by omega, q2⟩
  · rintro ⟨q1, q2⟩
    by_cases e : x = k
    · rw [e] at q2; exact absurd q2 hk
    · exact ⟨by omega, q2⟩
theorem R0.fin {N : Nat} {E : List (Nat × Nat)} (hg : GOK N E) {l : List Nat} (h : R0 (nx N E) N N l) : RDO N E [] l := ⟨h.nd, fun x => by rw [h.is, ← cnd_nil hg]⟩
theorem RDO.len {N : Nat} {E : List (Nat × Nat)} {D H : List Nat} (h : RDO N E D H) : H.length ≤ N := nodup_leN h.nd fun x hx => ((h.is x).1 hx).1
theorem RDY.len {N : Nat} {E : List (Nat × Nat)} (hg : GOK N E) {D H : List Nat} {n j : Nat} (h : RDY N (nx N E) E D n j H) : H.length ≤ N := nodup_leN h.nd fun x hx => by
  rcases (h.is x).1 hx with q | q
  · exact q.1
  · exact (hg.lt _ ((nx_mem hg).1 (List.mem_of_mem_take q.1))).2
theorem asz2 (d : Array Nat) : d.toList.length = d.size := by simp
set_option maxHeartbeats 32000000 in
set_option maxRecDepth 100000 in
theorem order_any (w : World) (N : Nat) (E : List (Nat × Nat)) (hg : GOK N E) (bb lb : Nat) (vs : List Sl) (hz : LZ w bb lb N vs (fun i => nI (nx N E i))) : Calls Try.prog 35 #[.slice (some ⟨lb, 0, none⟩) N N] w fun e w' => ODR w N E e w' := by
  have NB : N ≤ 4096 := hg.n
  have HG := hid hg
  have ZC := hid (fun wr (hb : Below w.heap.size w wr) i (hi : i < N) => LZ.cell (A := nx N E) (hz.below hb) hi)
  have AL := hid (fun i => nx_len N E i)
  have ta : ∀ (u : Value) (w : World), Sem.run Try.prog (Instr.typeAssert (.iface 3 u) 20 3 false) w = .ok u w := fun u w => by
    have hu : Try.prog.underlying 3 = some _ := Try.underlying3
    simp [Instr.typeAssert, run_underlying hu]
  clear hz hg
  go_enter Try.func35, Try.ntmps35
  go_upto_region 2 with (refine make_g KI KI_ok 0 rfl rfl w rfl (.tmp 15) (.tmp 15) 25 rfl Try.underlying25 N rfl rfl (by omega) (by decide) ?_; intro w1 ho1 hb1; have C1 : Hid (CT w w.heap.size N w1 (lfS (nx N E) 0 0)) := ⟨hb1, (LFR.zero ho1).eq fun x => by rw [lfS_zero, pcS_zero]; rfl⟩; clear ho1 hb1)
  obtain ⟨X, hX⟩ : ∃ X, X = w.heap.size := ⟨_, rfl⟩
  rw [← hX] at C1 ⊢
  clear hX
  go_wp2_with fail
  go_loopw [19] (fun v19 wr => ∃ (k : Nat) (wk : World), v19 = .int .i64 k ∧ wk = wr ∧ k ≤ N ∧ Hid (CT w X N wk (lfS (nx N E) k 0))) (fun v19 _ => N - (intOf v19).toNat)
  case atStart => exact ⟨0, _, rfl, rfl, Nat.zero_le _, C1⟩
  case round =>
    obtain ⟨k, wr, rfl, rfl, hk, HC⟩ := hrel
    clear C1
    by_cases hlt : k < N
    · obtain ⟨c0, _⟩ := ZC.out wr HC.out.bl k hlt
      have hki : (k : Int) < (N : Nat) := by omega
      have LK : (nx N E k).length ≤ N := AL.out k
      have HV := hid (fun j (hj : j < (nx N E k).length) => (HG.out.lt _ ((nx_mem HG.out).1 (List.getElem_mem hj))).2)
      have GA := hid (fun wq (hb : Below w.heap.size w wq) j (hj : j < (nI (nx N E k)).length) => GS.atI (ZC.out wq hb k hlt).2 hj)
      obtain ⟨m, hm⟩ : ∃ m, m = (nx N E k).length := ⟨_, rfl⟩
      have M1 : Hid ((nx N E k).length = m) := hm.symm
      rw [← hm] at c0 LK
      generalize (vs.getD k sl0).1 = pk at *
      generalize (vs.getD k sl0).2.2 = ck at *
      clear hm
      go_wp2_with fail
      go_loopw [27] (fun v27 wq => ∃ (j : Nat) (wk : World), v27 = .int .i64 j ∧ wk = wq ∧ j ≤ m ∧ Hid (CT w X N wk (lfS (nx N E) k j))) (fun v27 _ => m - (intOf v27).toNat)
      case atStart => exact ⟨0, _, rfl, rfl, Nat.zero_le _, HC⟩
      case round =>
        obtain ⟨j, wq, rfl, rfl, hj, HJ⟩ := hrel
        clear HC
        by_cases hlt2 : j < m
        · have j1 : j < (nx N E k).length := by have := M1.out; omega
          obtain ⟨Y, o, e1, c1⟩ := GA.out wq HJ.out.bl j (by rw [nI_len]; exact j1)
          rw [nI_at j1] at c1
          subst e1
          have hy := HV.out j j1
          obtain ⟨f1, f2⟩ := HJ.out.lf.at hy
          have N2 := hid (HJ.out.inc j1)
          have fb : 0 ≤ lfS (nx N E) k j (nx N E k)[j] ∧ lfS (nx N E) k j (nx N E k)[j] ≤ 4097 := by
            have := pcS_le (nx N E) k (nx N E k)[j]
            unfold lfS
            split <;> omega
          have hji : (j : Int) < (m : Nat) := by omega
          generalize lfS (nx N E) k j (nx N E k)[j] = fy at *
          generalize (nx N E k)[j] = y at *
          have hyi : (y : Int) < (N : Nat) := by omega
          clear c0 HJ
          go_wp2_with fail
          go_roundw
          case rel => exact ⟨j + 1, _, by go_num, rfl, by omega, N2⟩
          case measure => simp [intOf]; omega
        · obtain rfl : j = m := by omega
          have N3 : Hid (CT w X N wq (lfS (nx N E) (k + 1) 0)) := ⟨HJ.out.bl, HJ.out.lf.eq fun x => by rw [← M1.out, lfS_fin, lfS_zero]⟩
          go_wp2_with fail
          go_roundw
          case rel => exact ⟨k + 1, _, by go_num, rfl, by omega, N3⟩
          case measure => simp [intOf]; omega
    · obtain rfl : k = N := by omega
      have OS0 : Hid (OS w k X wr.heap.size (wr.alloc (.cells #[.slice none 0 0] 78)) (lfS (nx k E) k 0) (.slice none 0 0) #[] (.slice none 0 0) []) := OS.start HC.out
      have R00 : Hid (R0 (nx k E) k 0 (#[] : Array Nat).toList) := ⟨List.nodup_nil, fun x => by simp⟩
      clear HC
      generalize hWB : wr.alloc (.cells #[.slice none 0 0] 78) = WB at *
      go_wp2_with fail
      try rw [hWB]
      clear hWB
      obtain ⟨B, hB⟩ : ∃ B, B = wr.heap.size := ⟨_, rfl⟩
      rw [← hB] at OS0 ⊢
      clear hB
      have GS0 := hid (fun x => (lfS_zero (nx k E) k x))
      go_loopw [41] (fun v41 wq => ∃ (i : Nat) (v : Value) (d : Array Nat) (wk : World), v41 = .int .i64 i ∧ wk = wq ∧ i ≤ k ∧ Hid (OS w k X B wk (lfS (nx k E) k 0) v d (.slice none 0 0) []) ∧ Hid (R0 (nx k E) k i d.toList)) (fun v41 _ => k - (intOf v41).toNat)
      case atStart => exact ⟨0, _, _, _, rfl, rfl, Nat.zero_le _, OS0, R00⟩
      case round =>
        obtain ⟨i, v, d, wq, rfl, rfl, hi, HO, HR⟩ := hrel
        clear OS0 R00
        by_cases hlt : i < k
        · obtain ⟨f1, f2⟩ := HO.out.lf.at hlt
          rw [GS0.out i] at f1
          have hii : (i : Int) < (k : Nat) := by omega
          have hds : d.size ≤ 100000 := by have := HR.out.len; rw [asz2] at this; omega
          by_cases h0 : pcS (nx k E) k i = 0
          · rw [h0] at f1
            have PU := hid (HO.out.push hds i)
            have RY := hid (fun (d' : Array Nat) (p : d'.toList.Perm (i :: d.toList)) => HR.out.yes h0 p)
            clear HO HR h0
            go_wp2_with (go_at_call 59; refine PU.out.mono ?_; rintro e w5 ⟨rfl, v5, d5, os5, pm5, _⟩; have O5 := hid os5; have R5 := hid (RY.out d5 pm5); clear os5 pm5)
            go_roundw
            case rel => exact ⟨i + 1, _, _, _, by go_num, rfl, by omega, O5, R5⟩
            case measure => simp [intOf]; omega
          · have RN := hid (HR.out.no h0)
            have b0 : (((pcS (nx k E) k i : Nat) : Int) == 0) = false := by simp [h0]
            generalize pcS (nx k E) k i = fi at *
            clear HR
            go_wp2_with fail
            go_roundw
            case rel => exact ⟨i + 1, _, _, _, by go_num, rfl, by omega, HO, RN⟩
            case measure => simp [intOf]; omega
        · obtain rfl : i = k := by omega
          have RD := hid (HR.out.fin HG.out)
          have O1 : Hid (OS w i X B wq (fun x => (pcn i (nx i E) [] x : Nat)) v d (.slice none 0 0) []) := HO.out.eq fun x => by rw [lfS_zero, pcS_all]
          have K0 : Hid (KO i E []) := .nil
          clear HO HR GS0
          go_wp2_with fail
          go_loopw [10] (fun v10 wp => ∃ (D : List Nat) (q : Option Addr) (c : Nat) (v : Value) (d : Array Nat) (wk : World), v10 = .slice q D.length c ∧ wk = wp ∧ D.length ≤ i ∧ Hid (OS w i X B wk (fun x => (pcn i (nx i E) D x : Nat)) v d (.slice q D.length c) D) ∧ Hid (KO i E D) ∧ Hid (RDO i E D d.toList)) (fun v10 _ => i - lenV v10)
          case atStart => exact ⟨[], none, 0, _, _, _, rfl, rfl, Nat.zero_le _, O1, K0, RD⟩
          case round =>
            obtain ⟨D, q, c, v, d, wp, rfl, rfl, hD, HO, HK, HR⟩ := hrel
            clear O1 K0 RD
            obtain ⟨pv, cv, hv, _⟩ := HO.out.hp.row.form
            rw [Hq.nI_size] at hv
            subst hv
            have x0 : wp.cell? ⟨B, 0, none⟩ = some (.slice pv d.size cv) := cell_of_row _ _ _ _ _ _ HO.out.hp.box
            have hds : d.size ≤ 100000 := by have := HR.out.len; rw [asz2] at this; omega
            obtain ⟨sz, hsz⟩ : ∃ sz, sz = d.size := ⟨_, rfl⟩
            rw [← hsz] at x0 HO
            by_cases h0 : sz = 0
            · have hm : ∀ x, x < i → ¬ cnd E D x := fun x hx hc => by
                have := (HR.out.is x).2 ⟨hx, hc⟩
                rw [List.length_eq_zero_iff.1 ((asz2 d).trans (hsz.symm.trans h0))] at this
                cases this
              have FIN := HK.out.told HG.out hm
              have BL := hid HO.out.bl
              have OD := hid HO.out.od
              subst h0
              clear HR HK HO hm hsz
              rcases FIN with ⟨f1, f2⟩ | ⟨f1, f2, f3⟩
              · have f1i : (D.length : Int) < (i : Nat) := by omega
                have F2 := hid f2
                clear f2
                generalize D.length = dl at *
                go_wp2_with (go_at_call 60; refine (lenH_any _ _ _ _).mono ?_; rintro e w6 ⟨rfl, rfl⟩)
                go_ret2
                exact Or.inl ⟨F2.out, rfl, BL.out⟩
              · have F2 := hid f2
                rw [f3] at OD f1 ⊢
                clear f2 f3
                have f1i : ¬ ((orL i E).length : Int) < (i : Nat) := by omega
                rw [f1] at OD f1i ⊢
                go_wp2_with (go_at_call 60; refine (lenH_any _ _ _ _).mono ?_; rintro e w6 ⟨rfl, rfl⟩)
                go_ret2
                exact Or.inr ⟨F2.out, q, c, rfl, OD.out, BL.out⟩
            · obtain ⟨n, hn⟩ : ∃ n, sz = n + 1 := ⟨sz - 1, by omega⟩
              subst hn
              have PO := hid (HO.out.pop hds (n := n) hsz.symm)
              have TK := hid (fun (x : Nat) (d' : Array Nat) (p : d.toList.Perm (x :: d'.toList)) (hm : ∀ y ∈ d'.toList, x ≤ y) => (HR.out.perm p).take HK.out hm)
              clear HO HR h0 hsz
              go_upto_region 21 with (first | (go_at_call 60; refine (lenH_any _ _ _ _).mono ?_; rintro e w6 ⟨rfl, rfl⟩) | (go_at_call 61; refine PO.out.mono ?_; rintro e w7 ⟨x, v7, d7, rfl, os7, pm7, le7, _⟩; have O7 := hid os7; have T7 := hid (TK.out x d7 pm7 le7); clear os7 pm7 le7))
              have e0 : (nI D).length = D.length := nI_len D
              have LS : Hid (((nI D).length + 1) * KI.B ≤ 140737488355328) := by show (_ + 1) * 8 ≤ _; rw [nI_len]; omega
              have BS : Hid (w.heap.size ≤ w7.heap.size) := O7.out.bl.size
              have OD := hid O7.out.od
              have AP := hid (fun (g8 c8 : Nat) (w8 : World) h1 h2 h3 h4 => OS.app (w1 := w7) (w' := w8) (x := x) (g := g8) (cap := c8) O7.out (Below.refl _ _) h1 h2 h3 h4)
              obtain ⟨t1, t2, t3, t4⟩ := T7.out
              have T2 := hid t2
              have T3 := hid t3
              have T4 := hid t4
              clear O7 T7 TK PO t2 t3 t4 x0
              have KK := hid HK.out
              have c3 : Hid (D.length + 1 ≤ i) := by
                have := T3.out.len
                rw [List.length_append, List.length_singleton] at this
                exact this
              obtain ⟨R, hR⟩ : ∃ R, R = nI D := ⟨_, rfl⟩
              rw [← hR] at OD AP LS e0
              have EL : Hid (R.length = D.length) := e0
              rw [← e0] at OD ⊢
              clear e0
              have AQ : Hid (∀ (g8 c8 : Nat) (w8 : World), OwnG KI w8 w.heap.size (.slice (some ⟨g8, 0, none⟩) (R.length + 1) c8) (R ++ [(x : Int)]) → Below w.heap.size w7 w8 → (∀ k, k < w7.heap.size → some k ≠ (Value.slice q R.length c).ownBlock → w8.heap[k]? = w7.heap[k]?) → ((Value.slice q R.length c).ownBlock = some g8 ∨ w7.heap.size ≤ g8) → OS w i X B w8 (fun x => (pcn i (nx i E) D x : Nat)) v7 d7 (.slice (some ⟨g8, 0, none⟩) (R.length + 1) c8) (D ++ [x])) := fun g8 c8 w8 h1 h2 h3 h4 => AP.out g8 c8 w8 h1 h2 (by rw [EL.out] at h3; exact h3) (by rw [EL.out] at h4; exact h4)
              clear AP HK hR hD
              have hxi : (x : Int) < (i : Nat) := by omega
              have LK : (nx i E x).length ≤ i := AL.out x
              have HV := hid (fun j (hj : j < (nx i E x).length) => (HG.out.lt _ ((nx_mem HG.out).1 (List.getElem_mem hj))).2)
              have GA := hid (fun wq (hb : Below w.heap.size w wq) j (hj : j < (nI (nx i E x)).length) => GS.atI (ZC.out wq hb x t1).2 hj)
              have ZX := hid (fun wq (hb : Below w.heap.size w wq) => (ZC.out wq hb x t1).1)
              obtain ⟨m, hm⟩ : ∃ m, m = (nx i E x).length := ⟨_, rfl⟩
              have M1 : Hid ((nx i E x).length = m) := hm.symm
              rw [← hm] at ZX LK
              generalize (vs.getD x sl0).1 = pk at *
              generalize (vs.getD x sl0).2.2 = ck at *
              clear hm
              go_wp2_with (at_builtin; refine append_g KI KI_ok rfl (.tmp 60) (.tmp 62) 25 rfl w.heap.size Try.underlying25 w7 _ _ (.slice q R.length c) R (x : Int) _ rfl OD.out w7.heap.size rfl rfl rfl LS.out BS.out ?_; intro g8 c8 w8 ho8 hb8 hk8 hg8; have A8 := hid (AQ.out g8 c8 w8 ho8 hb8 hk8 hg8); have z8 := ZX.out w8 A8.out.bl; clear ho8 hb8 hk8 hg8)
              have A9 : Hid (OS w i X B w8 (lfJ i (nx i E) D x 0) v7 d7 (.slice (some ⟨g8, 0, none⟩) (R.length + 1) c8) (D ++ [x])) := A8.out.eq fun y => (lfJ_zero _ _ _ _ _).symm
              clear A8 AQ OD LS BS z8
              go_loopw [69] (fun v69 wq => ∃ (j : Nat) (v : Value) (d : Array Nat) (wk : World), v69 = .int .i64 j ∧ wk = wq ∧ j ≤ m ∧ Hid (OS w i X B wk (lfJ i (nx i E) D x j) v d (.slice (some ⟨g8, 0, none⟩) (R.length + 1) c8) (D ++ [x])) ∧ Hid (RDY i (nx i E) E D x j d.toList)) (fun v69 _ => m - (intOf v69).toNat)
              case atStart => exact ⟨0, _, _, _, rfl, rfl, Nat.zero_le _, A9, T4⟩
              case round =>
                obtain ⟨j, v, d, wq, rfl, rfl, hj, HO, HY⟩ := hrel
                clear A9 T4
                by_cases hlt2 : j < m
                · have j1 : j < (nx i E x).length := by have := M1.out; omega
                  obtain ⟨Y, o, e1, c1⟩ := GA.out wq HO.out.bl j (by rw [nI_len]; exact j1)
                  rw [nI_at j1] at c1
                  subst e1
                  have hy := HV.out j j1
                  obtain ⟨f1, f2⟩ := HO.out.lf.at hy
                  rw [lfJ_at j1] at f1
                  have fb := pcn_le i (nx i E) D (nx i E x)[j]
                  have hds : d.size ≤ 100000 := by have := HY.out.len HG.out; rw [asz2] at this; omega
                  have N2 : Hid (OS w i X B (wq.setCell ⟨X, (nx i E x)[j], none⟩ (.int .i64 ((pcn i (nx i E) D (nx i E x)[j] : Int) - 1))) (lfJ i (nx i E) D x (j + 1)) v d (.slice (some ⟨g8, 0, none⟩) (R.length + 1) c8) (D ++ [x])) := (HO.out.set _ _).eq fun z => by
                    rw [lfJ_succ j1]
                    unfold upF
                    split
                    · rename_i e; rw [e, lfJ_at j1]
                    · rfl
                  have hji : (j : Int) < (m : Nat) := by omega
                  obtain ⟨k1, _⟩ := N2.out.lf.at hy
                  have YP := hid (fun h1 => RDY.push HG.out KK.out (by
                    obtain ⟨z1, z2, z3, z4⟩ := T3.out.cut.resolve_left (by simp)
                    obtain ⟨e3, e4⟩ := List.append_inj' z3 rfl
                    rw [List.cons.injEq] at e4
                    rw [e3, e4.1]
                    exact z4.2.2.1) HY.out j1 h1)
                  have YS := hid (fun h1 => RDY.skip HY.out j1 h1)
                  have k2 : lfJ i (nx i E) D x (j + 1) (nx i E x)[j] = (pcn i (nx i E) D (nx i E x)[j] : Int) - 1 := by rw [lfJ_succ j1, if_pos rfl, lfJ_at j1]
                  rw [k2] at k1
                  clear k2
                  generalize pcn i (nx i E) D (nx i E x)[j] = p at *
                  generalize (nx i E x)[j] = y at *
                  have hyi : (y : Int) < (i : Nat) := by omega
                  clear HO HY
                  by_cases hp1 : p = 1
                  · have Y2 := hid (YP.out hp1)
                    subst hp1
                    have PU := hid (N2.out.push hds y)
                    clear YP YS
                    go_wp2_with (go_at_call 59; refine PU.out.mono ?_; rintro e w5 ⟨rfl, v5, d5, os5, pm5, _⟩; have O5 := hid os5; have R5 := hid (Y2.out.perm pm5.symm); clear os5 pm5)
                    go_roundw
                    case rel => exact ⟨j + 1, _, _, _, by go_num, rfl, by omega, O5, R5⟩
                    case measure => simp [intOf]; omega
                  · have Y2 := hid (YS.out hp1)
                    have b1 : (((p : Nat) : Int) - 1 == 0) = false := by simp; omega
                    clear YP YS
                    go_wp2_with fail
                    go_roundw
                    case rel => exact ⟨j + 1, _, _, _, by go_num, rfl, by omega, N2, Y2⟩
                    case measure => simp [intOf]; omega
                · obtain rfl : j = m := by omega
                  have cx : Hid (cnd E D x) := by
                    obtain ⟨z1, z2, z3, z4⟩ := T3.out.cut.resolve_left (by simp)
                    obtain ⟨e3, e4⟩ := List.append_inj' z3 rfl
                    rw [List.cons.injEq] at e4
                    show cnd E D x
                    rw [e3, e4.1]
                    exact z4.2.2.1
                  have N3 : Hid (OS w i X B wq (fun y => (pcn i (nx i E) (D ++ [x]) y : Nat)) v d (.slice (some ⟨g8, 0, none⟩) (R.length + 1) c8) (D ++ [x])) := HO.out.eq fun y => by rw [← M1.out, lfJ_fin t1 T2.out]
                  have Y3 := hid (RDY.fin HG.out t1 KK.out cx.out (by rw [M1.out]; exact HY.out))
                  have LL : Hid ((D ++ [x]).length = R.length + 1) := by show _ = _; rw [List.length_append, List.length_singleton, EL.out]
                  have LM : Hid (R.length + 1 ≤ i) := by show _ ≤ _; rw [EL.out]; exact c3.out
                  clear HO HY cx M1 c3 EL GA HV ZX
                  go_wp2_with fail
                  go_roundw
                  case rel => exact ⟨D ++ [x], _, _, _, _, _, by rw [LL.out], rfl, by rw [LL.out]; exact LM.out, by rw [LL.out]; exact N3, T3, Y3⟩
                  case measure => have h9 : R.length + 1 ≤ i := LM.out; have h8 := LL.out; rw [List.length_append, List.length_singleton] at h8; simp [lenV]; omega
end Go.Proofs.Ytghkhceplpjegaa
