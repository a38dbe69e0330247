/- Graph: the law GraphTarjan, whole. -/
import Derived.Test.YthhjknpfaghfbaaYm2
import Derived.Test.YthhjknpfaghfbaaYf6
import Derived.Test.YthhjknpfaghfbaaYm4
namespace Go.Proofs.Ythhjknpfaghfbaa
open Go.RowKit

theorem LFR.on {w : World} {base X N : Nat} {F G : Nat → Int} (h : LFR w base X N F) (k : ∀ x, x < N → F x = G x) : LFR w base X N G := by
  have e : (List.range N).map F = (List.range N).map G := List.map_congr_left fun x hx => k x (by simpa using hx)
  unfold LFR at *
  rw [← e]
  exact h
theorem CT.on {w : World} {X N : Nat} {wr : World} {F G : Nat → Int} (h : CT w X N wr F) (k : ∀ x, x < N → F x = G x) : CT w X N wr G := ⟨h.bl, h.lf.on k⟩
theorem CT.put {w : World} {X N : Nat} {wr : World} {F : Nat → Int} (h : CT w X N wr F) (x : Nat) (y : Int) : CT w X N (wr.setCell ⟨X, x, none⟩ (.int .i64 y)) (upF F x y) := ⟨h.bl.setCell (p := ⟨X, _, none⟩) h.lf.lt.1 _, h.lf.set _ _⟩
theorem TR.below {W : World} {n : Int} {bb : Nat} {q : Option Addr} {c : Nat} {L : List (Int × Int)} {wk w1 : World} (h : TR W n bb q c L wk) (k : Below wk.heap.size wk w1) : TR W n bb q c L w1 := ⟨bl3 h.bl k, boxkeep k h.bx, h.ow.below k, h.ge⟩
set_option maxRecDepth 100000 in
set_option maxHeartbeats 64000000 in
theorem tarjan_main (w : World) (N : Nat) (E : List (Nat × Nat)) (hg : GOK N E) (p : Option Addr) (c : Nat) (hv : GS KE w (.slice p E.length c) (eI E)) (hf : fitB N (eI E) = true) : Calls Try.prog 5 #[.agg #[.int .i64 N, .slice p E.length c]] w fun e w' => e = .returned (.bool true) ∧ Below w.heap.size w w' := by
  generalize hW : w.alloc (.cells #[.int .i64 N, .slice p E.length c] 24) = W
  obtain ⟨bw, c0⟩ := graph_box w N p E.length c hW
  have BW := hid bw
  have C0 := hid c0
  obtain ⟨d0, d1⟩ := c0 W (Below.refl _ _)
  have WK := hid (works_any W)
  have GV := hid (fun W' (hb : Below W.heap.size W W') => (hv.below bw).below hb)
  have FI := hid (fun W' (hb : Below W.heap.size W W') => fits_any W' N _ (eI E) (GV.out W' hb))
  have CO := hid (fun W' (hb : Below W.heap.size W W') => Components_any W' N _ (eI E) (GV.out W' hb))
  have WA := hid (fun W' (hb : Below W.heap.size W W') x (hx : x < N) y (hy : y < N) => way_any W' N E hg p c (GV.out W' hb) x y hx hy)
  rw [hf] at FI
  rw [cmA_ok hg, hg.chk] at CO
  unfold AnsP at CO
  have PTC := hid (cm_PT N E)
  generalize cmL N E = C at *
  have RO := hid (fun W' v (h : GS KE W' v (eI (heF C E))) => Round_any W' C.length v (eI (heF C E)) h)
  rw [rnA_ok (PTC.out.he hg), PTC.out.still hg, (PTC.out.he hg).chk] at RO
  rw [show nI ([] : List Nat) = [] from rfl] at RO
  unfold AnsI at RO
  have NB : N ≤ 4096 := hg.n
  have EB : E.length ≤ 16384 := hg.e
  have EL2 := hid (fun e (he : e ∈ E) => hg.lt e he)
  have HL := hid (fun j => Nat.le_trans (heF_len C (E.take j)) (by rw [List.length_take]; omega : (E.take j).length ≤ E.length))
  have CB : C.length ≤ 4096 := (PTC.out.he hg).n
  have CL := hid (fun i (hi : i < C.length) => nodup_leN (PTC.out.nd i hi) (PTC.out.lt i hi))
  obtain ⟨el, hel⟩ : ∃ el, el = E.length := ⟨_, rfl⟩
  have ME : Hid (E.length = el) := hel.symm
  obtain ⟨cn, hcn⟩ : ∃ cn, cn = C.length := ⟨_, rfl⟩
  have MC : Hid (C.length = cn) := hcn.symm
  rw [← hel] at hW d1 C0 GV FI CO WA EB HL ⊢
  rw [← hcn] at RO CO CB
  clear hel hcn hf hv bw c0
  go_enter Try.func5, Try.ntmps5
  go_upto_region 8 with (first
    | (go_at_call 20; refine WK.out.mono ?_; rintro e w1 ⟨rfl, hb1⟩; have B1 := hid hb1; obtain ⟨g0, g1⟩ := C0.out _ hb1; clear hb1)
    | (go_at_call 21; refine (FI.out _ B1.out).mono ?_; rintro e w2 ⟨rfl, hb2⟩; have B2 := hid (bl3 B1.out hb2); obtain ⟨g2, g3⟩ := C0.out _ B2.out; clear hb2)
    | (go_at_call 22; refine (CO.out _ B2.out).mono ?_; rintro e w4 ⟨q3, c3, vs, rfl, hl3, h3, r3, hb4⟩; have B4 := hid (bl3 B2.out hb4); have O3 := hid h3; have R3 := hid r3; have L3 := hid hl3; obtain ⟨g4, g5⟩ := C0.out _ B4.out; clear hb4 h3 r3 hl3))
  clear d0 d1 g0 g1 g2 g3 WK FI CO
  go_upto_region 9 with (refine make_g KI KI_ok 0 rfl rfl w4 rfl (.tmp 30) (.tmp 30) 25 rfl Try.underlying25 N rfl rfl (by omega) (by decide) ?_; intro w6 ho6 hb6; have K0 : Hid (CT w4 w4.heap.size N w6 (fun x => if x < 0 then -1 else 0)) := ⟨hb6, (LFR.zero ho6).eq fun x => by simp⟩; clear ho6 hb6)
  obtain ⟨X, hX⟩ : ∃ X, X = w4.heap.size := ⟨_, rfl⟩
  rw [← hX] at K0 ⊢
  have BB : Hid (Below w.heap.size w w4) := bl3 BW.out B4.out
  obtain ⟨sz, hsz⟩ : ∃ sz, sz = w.heap.size := ⟨_, rfl⟩
  have GC0 : Hid (∀ W', Below w4.heap.size w4 W' → W'.cell? ⟨sz, 0, none⟩ = some (.int .i64 N) ∧ W'.cell? ⟨sz, 1, none⟩ = some (.slice p el c)) := fun W' hb => by rw [hsz]; exact C0.out W' (bl3 B4.out hb)
  have GE := hid (fun wq (hb : Below w4.heap.size w4 wq) j (hj : j < E.length) => GS.atN (by rw [ME.out]; exact GV.out wq (bl3 B4.out hb) : GS KE wq (.slice p E.length c) (eI E)) hj)
  have GQ := hid (fun wq (hb : Below w4.heap.size w4 wq) j (hj : j < vs.length) => GS.atS (O3.out.below hb) hj)
  have GR := hid (fun wq (hb : Below w4.heap.size w4 wq) i (hi : i < cn) => (R3.out i hi).below hb)
  have WA2 := hid (fun wq (hb : Below w4.heap.size w4 wq) => WA.out wq (bl3 B4.out hb))
  rw [← hsz]
  clear hX hsz C0 GV BW hW g4 g5 B4 WA O3 R3
  go_wp2_with fail
  go_loopw [6] (fun v6 wr => ∃ (k : Nat) (wk : World), v6 = .int .i64 k ∧ wk = wr ∧ k ≤ N ∧ Hid (CT w4 X N wk (fun x => if x < k then -1 else 0))) (fun v6 _ => N - (intOf v6).toNat)
  case atStart => exact ⟨0, _, rfl, rfl, Nat.zero_le _, K0⟩
  case round =>
    obtain ⟨k, wr, rfl, rfl, hk, HK⟩ := hrel
    clear K0
    obtain ⟨d0, d1⟩ := GC0.out wr HK.out.bl
    by_cases hlt : k < N
    · obtain ⟨s1, s2⟩ := HK.out.lf.at hlt
      have N2 : Hid (CT w4 X N (wr.setCell ⟨X, k, none⟩ (.int .i64 (-1))) (fun x => if x < k + 1 then -1 else 0)) := (HK.out.put k (-1)).on fun x _ => by
        unfold upF
        by_cases e : x = k
        · rw [if_pos e, if_pos (by omega)]
        · rw [if_neg e]
          show (if x < k then (-1 : Int) else 0) = _
          by_cases q : x < k
          · rw [if_pos q, if_pos (by omega)]
          · rw [if_neg q, if_neg (by omega)]
      have hki : (k : Int) < (N : Nat) := by omega
      clear HK
      go_wp2_with fail
      go_roundw
      case rel => exact ⟨k + 1, _, by go_num, rfl, by omega, N2⟩
      case measure => simp [intOf]; omega
    · obtain rfl : k = N := by omega
      have K1 : Hid (CT w4 X k wr (ofF C 0 0)) := HK.out.on fun x hx => by rw [if_pos hx, ofF_start]
      clear HK hlt hk
      go_wp2_with fail
      go_loopw [7] (fun v7 wr => ∃ (i : Nat) (wk : World), v7 = .int .i64 i ∧ wk = wr ∧ i ≤ cn ∧ Hid (CT w4 X k wk (ofF C i 0))) (fun v7 _ => cn - (intOf v7).toNat)
      case atStart => exact ⟨0, _, rfl, rfl, Nat.zero_le _, K1⟩
      case round =>
        obtain ⟨i, wi, rfl, rfl, hi, HI⟩ := hrel
        clear K1 d0 d1
        by_cases hlt : i < cn
        · have i1 : i < C.length := by have := MC.out; omega
          have iv : i < vs.length := by have := L3.out; have := MC.out; omega
          obtain ⟨pa, ca, ea⟩ := (GR.out wi HI.out.bl i hlt).form
          have ec : C.getD i [] = C[i] := by simp [List.getD, i1]
          have ev : vs.getD i sl0 = vs[i] := by simp [List.getD, iv]
          rw [ec, ev, nI_len] at ea
          have GX : Hid (∀ wq, Below w4.heap.size w4 wq → ∃ Z o, q3 = some ⟨Z, o, none⟩ ∧ wq.cell? ⟨Z, o + i, none⟩ = some (.slice pa C[i].length ca)) := fun wq hb => by
            obtain ⟨Z, o, e1, e2⟩ := GQ.out wq hb i iv
            exact ⟨Z, o, e1, by rw [e2, ea]⟩
          have GY : Hid (∀ wq, Below w4.heap.size w4 wq → ∀ k (hk : k < C[i].length), ∃ Y o, pa = some ⟨Y, o, none⟩ ∧ wq.cell? ⟨Y, o + k, none⟩ = some (.int .i64 (C[i][k] : Nat))) := fun wq hb k hk => by
            have h9 := GR.out wq hb i hlt
            rw [ec, ev, ea] at h9
            have h8 : GS KI wq (.slice pa (nI C[i]).length ca) (nI C[i]) := by rw [nI_len]; exact h9
            obtain ⟨Y, o, e1, e2⟩ := h8.atI (k := k) (by rw [nI_len]; exact hk)
            rw [nI_at hk] at e2
            exact ⟨Y, o, e1, e2⟩
          have PUT := hid (fun k (hk : k < C[i].length) => And.intro (PTC.out.of_no i1 hk) (And.intro (PTC.out.lt i i1 _ (List.getElem_mem hk)) (fun x => PTC.out.of_put i1 hk x)))
          have NXT := hid (fun x => ofF_next i1 x)
          have cl := CL.out i i1
          have K2 := hid HI.out
          generalize C[i] = Ci at *
          obtain ⟨m, hm⟩ : ∃ m, m = Ci.length := ⟨_, rfl⟩
          have MM : Hid (Ci.length = m) := hm.symm
          have hii : (i : Int) < (cn : Nat) := by omega
          rw [← hm] at GX cl
          clear HI ea ec ev hm
          go_wp2_with fail
          go_loopw [8] (fun v8 wq => ∃ (j : Nat) (wk : World), v8 = .int .i64 j ∧ wk = wq ∧ j ≤ m ∧ Hid (CT w4 X k wk (ofF C i j))) (fun v8 _ => m - (intOf v8).toNat)
          case atStart => exact ⟨0, _, rfl, rfl, Nat.zero_le _, K2⟩
          case round =>
            obtain ⟨j, wq, rfl, rfl, hj, HJ⟩ := hrel
            clear K2
            obtain ⟨d0, d1⟩ := GC0.out wq HJ.out.bl
            obtain ⟨Z, oz, ez, cz⟩ := GX.out wq HJ.out.bl
            subst ez
            by_cases hlt2 : j < m
            · have j1 : j < Ci.length := by have := MM.out; omega
              obtain ⟨Y, oy, ey, cy⟩ := GY.out wq HJ.out.bl j j1
              subst ey
              obtain ⟨p1, p2, p3⟩ := PUT.out j j1
              obtain ⟨s1, s2⟩ := HJ.out.lf.at p2
              rw [p1] at s1
              have N2 : Hid (CT w4 X k (wq.setCell ⟨X, Ci[j], none⟩ (.int .i64 i)) (ofF C i (j + 1))) := (HJ.out.put Ci[j] i).on fun x _ => p3 x
              generalize Ci[j] = n at *
              have hni : (n : Int) < (k : Nat) := by omega
              have h1 : ¬ (n : Int) < 0 := by omega
              have h2 : ¬ (k : Int) ≤ (n : Nat) := by omega
              have hji : (j : Int) < (m : Nat) := by omega
              clear HJ p3 p1
              go_wp2_with fail
              go_roundw
              case rel => exact ⟨j + 1, _, by go_num, rfl, by omega, N2⟩
              case measure => simp [intOf]; omega
            · obtain rfl : j = m := by omega
              have N2 : Hid (CT w4 X k wq (ofF C (i + 1) 0)) := HJ.out.on fun x _ => by rw [← NXT.out x, MM.out]
              clear HJ
              go_wp2_with fail
              go_roundw
              case rel => exact ⟨i + 1, _, by go_num, rfl, by omega, N2⟩
              case measure => simp [intOf]; omega
        · obtain rfl : i = cn := by omega
          have KF : Hid (CT w4 X k wi (fun x => (pcI C x : Int))) := HI.out.on fun x hx => by
            rw [← MC.out]
            exact PTC.out.of_all hx
          have WI := hid KF.out.bl
          have PW := hid (fun x (hx : x < k) y (hy : y < k) => PTC.out.ways hx hy)
          clear HI hlt hi GQ GR CL
          have V0 : Hid (TR wi i wi.heap.size none 0 (eI (heF C (E.take 0))) (wi.alloc (.cells #[.int .i64 i, .slice none 0 0] 24))) := ⟨bal _ _, heap_alloc_new _ _, OwnG.nil _ _ _, Nat.le_refl _⟩
          go_upto_region 24 with fail
          obtain ⟨bb, hbb⟩ : ∃ bb, bb = wi.heap.size := ⟨_, rfl⟩
          rw [← hbb] at V0 ⊢
          generalize wi.alloc (.cells #[.int .i64 i, .slice none 0 0] 24) = V at *
          have BV := hid V0.out.bl
          clear hbb
          go_wp2_with fail
          go_loopw [11] (fun v11 wr => ∃ (x : Nat) (wk : World), v11 = .int .i64 x ∧ wk = wr ∧ x ≤ k ∧ Hid (Below V.heap.size V wk)) (fun v11 _ => k - (intOf v11).toNat)
          case atStart => exact ⟨0, _, rfl, rfl, Nat.zero_le _, Below.refl _ _⟩
          case round =>
            obtain ⟨x, wx, rfl, rfl, hx, HX⟩ := hrel
            have Bx := hid (bl3 WI.out (bl3 BV.out HX.out))
            obtain ⟨d0, d1⟩ := GC0.out wx Bx.out
            by_cases hlt : x < k
            · have hxi : (x : Int) < (k : Nat) := by omega
              go_wp2_with fail
              clear d0 d1 Bx
              go_loopw [12] (fun v12 wr => ∃ (y : Nat) (wk : World), v12 = .int .i64 y ∧ wk = wr ∧ y ≤ k ∧ Hid (Below V.heap.size V wk)) (fun v12 _ => k - (intOf v12).toNat)
              case atStart => exact ⟨0, _, rfl, rfl, Nat.zero_le _, HX⟩
              case round =>
                obtain ⟨y, wy, rfl, rfl, hy, HY⟩ := hrel
                clear HX
                have By := hid (bl3 WI.out (bl3 BV.out HY.out))
                obtain ⟨d0, d1⟩ := GC0.out wy By.out
                by_cases hlt2 : y < k
                · have hyi : (y : Int) < (k : Nat) := by omega
                  have L2 : LFR wy w4.heap.size X k (fun x => (pcI C x : Int)) := KF.out.lf.below (bl3 BV.out HY.out)
                  have e1 := cell_regrown (L2.at hlt).1
                  have e2 := cell_regrown (L2.at hlt2).1
                  have e3 := cell_regrown d0
                  have e4 := cell_regrown d1
                  have W1 : Hid (∀ d os, Calls Try.prog 23 #[.agg #[.int .i64 k, .slice p el c], .int .i64 x, .int .i64 y] (Sort.grow (redrawn wy d) os) fun e w'' => e = .returned (.bool (wayB E x y)) ∧ ∃ p : Regrown, w'' = Sort.grow (redrawn wy p.d) p.os) := fun d os => Calls.regrown_of (WA2.out _ (bl3 By.out (below_regrown wy d os)) x hlt y hlt2)
                  have W2 : Hid (∀ d os, Calls Try.prog 23 #[.agg #[.int .i64 k, .slice p el c], .int .i64 y, .int .i64 x] (Sort.grow (redrawn wy d) os) fun e w'' => e = .returned (.bool (wayB E y x)) ∧ ∃ p : Regrown, w'' = Sort.grow (redrawn wy p.d) p.os) := fun d os => Calls.regrown_of (WA2.out _ (bl3 By.out (below_regrown wy d os)) y hlt2 x hlt)
                  have N2 := hid (fun d os => bl3 HY.out (below_regrown wy d os))
                  have pw := PW.out x hlt y hlt2
                  have h1 : ¬ (pcI C x : Int) < 0 := by omega
                  have h2 : ¬ (pcI C y : Int) < 0 := by omega
                  generalize (pcI C x : Int) = px at *
                  generalize (pcI C y : Int) = py at *
                  generalize wayB E x y = bx at *
                  generalize wayB E y x = by' at *
                  clear HY L2 By
                  cases bx with
                  | false =>
                    rw [Bool.false_and] at pw
                    have q : (px == py) = false := by rw [← pw]; rfl
                    clear pw W2
                    go_wp2_with fail
                    refine tjff hxi hyi (by omega) (by omega) q e1 e2 e3 e4 W1.out ?_
                    intro dq osq
                    go_wp2_with fail
                    go_roundw
                    case rel => exact ⟨y + 1, _, by go_num, rfl, by omega, N2.out _ _⟩
                    case measure => simp [intOf]; omega
                  | true =>
                    rw [Bool.true_and] at pw
                    have q : (px == py) = by' := by rw [← pw]; rfl
                    clear pw
                    cases by' with
                    | false =>
                      go_wp2_with fail
                      refine tjtf hxi hyi (by omega) (by omega) q e1 e2 e3 e4 W1.out W2.out ?_
                      intro dq osq
                      go_wp2_with fail
                      go_roundw
                      case rel => exact ⟨y + 1, _, by go_num, rfl, by omega, N2.out _ _⟩
                      case measure => simp [intOf]; omega
                    | true =>
                      go_wp2_with fail
                      refine tjtt hxi hyi (by omega) (by omega) q e1 e2 e3 e4 W1.out W2.out ?_
                      intro dq osq
                      go_wp2_with fail
                      go_roundw
                      case rel => exact ⟨y + 1, _, by go_num, rfl, by omega, N2.out _ _⟩
                      case measure => simp [intOf]; omega
                · obtain rfl : y = k := by omega
                  go_wp2_with fail
                  go_roundw
                  case rel => exact ⟨x + 1, _, by go_num, rfl, by omega, HY⟩
                  case measure => simp [intOf]; omega
            · obtain rfl : x = k := by omega
              have U0 : Hid (TR wi i bb none 0 (eI (heF C (E.take 0))) wx) := V0.out.below HX.out
              have PC := hid (fun wq (hb : Below wi.heap.size wi wq) y (hy : y < x) => (LFR.at (KF.out.lf.below hb : LFR wq w4.heap.size X x (fun x => (pcI C x : Int))) hy).1)
              clear HX V0 Bx BV KF PW WA2
              go_wp2_with fail
              go_loopw [13] (fun v13 wq => ∃ (j : Nat) (L : List (Int × Int)) (q : Option Addr) (cq : Nat) (wk : World), v13 = .int .i64 j ∧ wk = wq ∧ j ≤ el ∧ Hid (L = eI (heF C (E.take j))) ∧ Hid (TR wi i bb q cq L wk)) (fun v13 _ => el - (intOf v13).toNat)
              case atStart => exact ⟨0, _, none, 0, _, rfl, rfl, Nat.zero_le _, rfl, U0⟩
              case round =>
                obtain ⟨j, L, q, cq, wq, rfl, rfl, hj, HQ, HT⟩ := hrel
                clear U0 d0 d1
                have Bq := hid (bl3 WI.out HT.out.bl)
                obtain ⟨d0, d1⟩ := GC0.out wq Bq.out
                have x1 : wq.cell? ⟨bb, 1, none⟩ = some (.slice q L.length cq) := cell_of_row _ _ _ _ _ _ HT.out.bx
                have x0 : wq.cell? ⟨bb, 0, none⟩ = some (.int .i64 i) := cell_of_row _ _ _ _ _ _ HT.out.bx
                by_cases hlt : j < el
                · have j1 : j < E.length := by have := ME.out; omega
                  obtain ⟨Y1, o1, f1, c1, c2⟩ := GE.out wq Bq.out j j1
                  subst f1
                  have ha := (EL2.out _ (List.getElem_mem j1)).1
                  have hb := (EL2.out _ (List.getElem_mem j1)).2
                  have p1 := PC.out wq HT.out.bl _ ha
                  have p2 := PC.out wq HT.out.bl _ hb
                  have HY := hid (fun h => heF_yes (C := C) j1 h)
                  have HN := hid (fun h => heF_no (C := C) j1 h)
                  have LL : L.length ≤ 16384 := by
                    have := HL.out j
                    rw [HQ.out, eI_len]; omega
                  generalize pcI C E[j].1 = pa at *
                  generalize pcI C E[j].2 = pb at *
                  generalize E[j].1 = a at *
                  generalize E[j].2 = b at *
                  have hai : (a : Int) < (x : Nat) := by omega
                  have hbi : (b : Int) < (x : Nat) := by omega
                  have hji : (j : Int) < (el : Nat) := by omega
                  by_cases he : pa = pb
                  · subst he
                    have N2 := hid (fun nq => HT.out.below (drew_below wq nq))
                    have L2 : Hid (L = eI (heF C (E.take (j + 1)))) := by show _ = _; rw [HN.out rfl]; exact HQ.out
                    clear HT HY HN HQ Bq
                    go_wp2_with fail
                    go_quiet (fail)
                    go_wp2_with fail
                    all_goals
                      go_roundw
                      case rel => exact ⟨j + 1, L, q, cq, _, by go_num, rfl, by omega, L2, N2.out _⟩
                      case measure => simp [intOf]; omega
                  · have b1 : ((pa : Int) != (pb : Int)) = true := by simp; omega
                    have L2 : Hid (L ++ [((pa : Int), (pb : Int))] = eI (heF C (E.take (j + 1)))) := by
                      show _ = _
                      rw [HY.out he, HQ.out]
                      unfold eI
                      rw [List.map_append]
                      rfl
                    have BL := hid HT.out.bl
                    have OW := hid (fun nq => HT.out.ow.below (drew_below wq nq))
                    have LS : Hid ((L.length + 1) * KE.B ≤ 140737488355328) := by show (_ + 1) * 16 ≤ _; omega
                    have BS : Hid (wi.heap.size ≤ wq.heap.size) := HT.out.bl.size
                    have PU := hid (fun nq w8 g8 c8 => (HT.out.below (drew_below wq nq)).push (x := ((pa : Int), (pb : Int))) (w1 := wq.drewN nq) (w8 := w8) (g8 := g8) (c8 := c8) (Below.refl _ _))
                    have x2 : ∀ nq ob, ((wq.drewN nq).alloc ob).cell? ⟨bb, 1, none⟩ = some (.slice q L.length cq) := fun nq ob => ((bal (wq.drewN nq) ob).cell (p := ⟨bb, 1, none⟩) (lt_of_heap HT.out.bx)).trans x1
                    clear HT HY HN HQ Bq
                    go_wp2_with fail
                    go_quiet (fail)
                    go_wp2_with (at_builtin; refine append_g KE KE_ok rfl (.tmp 160) (.tmp 164) 22 rfl wi.heap.size Try.underlying22 (wq.drewN nq) _ _ (.slice q L.length cq) L ((pa : Int), (pb : Int)) _ rfl (OW.out nq) wq.heap.size rfl rfl rfl LS.out BS.out ?_; intro g8 c8 w8 ho8 hb8 hk8 hg8; obtain ⟨k1, k2, k3⟩ := PU.out nq w8 g8 c8 ho8 hb8 hk8; have K8 := hid k1; clear k1 ho8 hb8 hk8 hg8)
                    all_goals
                      go_roundw
                      case rel => exact ⟨j + 1, L ++ [((pa : Int), (pb : Int))], some ⟨g8, 0, none⟩, c8, _, by go_num, rfl, by omega, L2, by first | exact K8.out | (have := K8.out; simp only [List.length_append, List.length_singleton] at this ⊢; exact this)⟩
                      case measure => simp [intOf]; omega
                · obtain rfl : j = el := by omega
                  have GSF : Hid (GS KE wq (.slice q L.length cq) (eI (heF C E))) := by
                    have h9 := HT.out.ow.gs KE_ok.len
                    have h8 := HQ.out
                    rw [List.take_of_length_le (by rw [ME.out]; exact Nat.le_refl _)] at h8
                    show GS _ _ _ _
                    rw [← h8]
                    exact h9
                  have RF := hid (RO.out wq _ GSF.out)
                  have BE := hid (bl3 BB.out Bq.out)
                  generalize L.length = ll at *
                  clear HT HQ Bq GSF RO
                  go_wp2_with (go_at_call 24; refine RF.out.mono ?_; rintro e w9 ⟨q9, c9, rfl, _, b9⟩; have B9 := hid b9; clear b9)
                  go_ret
                  exact ⟨rfl, bl3 BE.out B9.out⟩
end Go.Proofs.Ythhjknpfaghfbaa
namespace Go.Proofs.Ythhjknpfaghfbaa
open Go.RowKit

set_option maxRecDepth 100000 in
set_option maxHeartbeats 16000000 in
theorem graphTarjan_any (w : World) (n : Int) (v : Value) (l : List (Int × Int)) (hv : GS KE w v l) : Calls Try.prog 5 #[.agg #[.int .i64 n, v]] w fun e w' => e = .returned (.bool true) ∧ Below w.heap.size w w' := by
  obtain ⟨p, c, rfl⟩ := hv.form
  by_cases hm : fitB n l = true
  · obtain ⟨N, E, rfl, rfl, hg, _, _⟩ := fitB_ok hm
    rw [eI_len] at hv ⊢
    exact tarjan_main w N E hg p c hv hm
  have hf : fitB n l = false := by simpa using hm
  generalize hW : w.alloc (.cells #[.int .i64 n, .slice p l.length c] 24) = W
  obtain ⟨bw, c0⟩ := graph_box w n p l.length c hW
  have BW := hid bw
  have C0 := hid c0
  obtain ⟨d0, d1⟩ := c0 W (Below.refl _ _)
  have WK := hid (works_any W)
  have FI := hid (fun W' (hb : Below W.heap.size W W') => fits_any W' n _ l ((hv.below bw).below hb))
  rw [hf] at FI
  generalize l.length = m at *
  clear hv hm hf bw c0
  go_enter Try.func5, Try.ntmps5
  go_wp2_with (first
    | (go_at_call 20; refine WK.out.mono ?_; rintro e w1 ⟨rfl, hb1⟩; have B1 := hid hb1; obtain ⟨g0, g1⟩ := C0.out _ hb1; clear hb1)
    | (go_at_call 21; refine (FI.out _ B1.out).mono ?_; rintro e w2 ⟨rfl, hb2⟩; have B2 := hid (bl3 B1.out hb2); clear hb2))
  go_ret
  exact ⟨rfl, bl3 BW.out B2.out⟩
end Go.Proofs.Ythhjknpfaghfbaa
