/- Graph: the document's Longest. -/
import Derived.Test.YthhjknpfaghfbaaYk10
import Derived.Test.YthhjknpfaghfbaaYh5
namespace Go.Proofs.Ythhjknpfaghfbaa
open Go.RowKit

/-- The document's two rows. -/
structure K3 (V : World) (N X Y : Nat) (F G : Nat → Int) (wr : World) : Prop where
  bl : Below V.heap.size V wr
  f : LFR wr V.heap.size X N F
  g : LFR wr V.heap.size Y N G
  ne : X ≠ Y
theorem K3.put {V wr : World} {N X Y : Nat} {F G : Nat → Int} (h : K3 V N X Y F G wr) (x : Nat) (a b : Int) : K3 V N X Y (upF F x a) (upF G x b) ((wr.setCell ⟨X, x, none⟩ (.int .i64 a)).setCell ⟨Y, x, none⟩ (.int .i64 b)) :=
  ⟨(h.bl.setCell (p := ⟨X, x, none⟩) h.f.lt.1 _).setCell (p := ⟨Y, x, none⟩) h.g.lt.1 _, (h.f.set x a).far (set_far h.ne), (h.g.far (set_far fun e => h.ne e.symm)).set x b, h.ne⟩
theorem K3.at2 {V wr : World} {N X Y : Nat} {F G : Nat → Int} (h : K3 V N X Y F G wr) {x : Nat} (hx : x < N) (a : Int) : (wr.setCell ⟨X, x, none⟩ (.int .i64 a)).cell? ⟨Y, x, none⟩ = some (.int .i64 (G x)) ∧ (wr.setCell ⟨X, x, none⟩ (.int .i64 a)).frozen? ⟨Y, x, none⟩ = false := (h.g.far (set_far fun e => h.ne e.symm)).at hx
theorem K3.drew {V wr : World} {N X Y : Nat} {F G : Nat → Int} (h : K3 V N X Y F G wr) (n : Nat) : K3 V N X Y F G (wr.drewN n) := ⟨h.bl.trans ((drew_below wr n).mono h.bl.size), h.f.far rfl, h.g.far rfl, h.ne⟩
theorem LFR.only {w : World} {base X N : Nat} {F G : Nat → Int} (h : LFR w base X N F) (k : ∀ x, x < N → F x = G x) : LFR w base X N G := by
  have e : (List.range N).map F = (List.range N).map G := List.map_congr_left fun x hx => k x (by simpa using hx)
  unfold LFR at *
  rw [← e]
  exact h
theorem K3.only {V wr : World} {N X Y : Nat} {F G F' G' : Nat → Int} (h : K3 V N X Y F G wr) (k : ∀ x, x < N → F x = F' x) (l : ∀ x, x < N → G x = G' x) : K3 V N X Y F' G' wr := ⟨h.bl, h.f.only k, h.g.only l, h.ne⟩
theorem mx_up {F : Nat → Int} {k m : Nat} (h : mxF F k = m) (q : F m < F k) : mxF F (k + 1) = k := by
  rw [mxF, h, if_pos (Or.inr (by simpa using q))]
theorem mx_stay {F : Nat → Int} {k m : Nat} (h : mxF F k = m) (q : ¬ F m < F k) : mxF F (k + 1) = m := by
  rw [mxF, h, if_neg]
  rintro (e | e)
  · omega
  · exact q (by simpa using e)
theorem mx_one {F : Nat → Int} {k : Nat} (h : mxF F k = -1) : mxF F (k + 1) = k := (mx_put (Or.inl h)).1
set_option maxRecDepth 100000 in
set_option maxHeartbeats 64000000 in
theorem rLongest_main (w : World) (N : Nat) (E : List (Nat × Nat)) (hg : GOK N E) (p : Option Addr) (c : Nat) (hv : GS KE w (.slice p E.length c) (eI E)) (pu : Option Addr) (cu : Nat) (ws : List Int) (hu : GS KI w (.slice pu ws.length cu) ws) (hw : wtB N ws = true) (hr : rnL N E = []) : Calls Try.prog 12 #[.agg #[.int .i64 N, .slice p E.length c], .slice pu ws.length cu] w fun e w' => AnsW w (loS N E (wtF ws)) (nI (loW N E (wtF ws))) 0 e w' := by
  generalize hW : w.alloc (.cells #[.int .i64 N, .slice p E.length c] 24) = W
  obtain ⟨bw, c0⟩ := graph_box w N p E.length c hW
  have BW := hid bw
  have C0 := hid c0
  have CK := hid (rcheck_any W N _ (eI E) (hv.below bw))
  rw [hg.chk] at CK
  obtain ⟨d0, d1⟩ := c0 W (Below.refl _ _)
  have hl2 : ws.length = N := (wtB_W hw).1
  have hWO := (wtB_W hw).2
  have NB : N ≤ 4096 := hg.n
  have EB : E.length ≤ 16384 := hg.e
  have HG := hid hg
  have OR := hid (fun W' (hb : Below W.heap.size W W') => rOrder_any W' N _ (eI E) ((hv.below BW.out).below hb))
  rw [(orE_yes hg hr).1, (orE_yes hg hr).2] at OR
  unfold AnsI at OR
  obtain ⟨kD, lD⟩ := orL_ko hg hr
  rw [nI_len, lD] at OR
  have GE := hid (fun wq (hb : Below W.heap.size W wq) j (hj : j < E.length) => GS.atN ((hv.below BW.out).below hb) hj)
  have GU := hid (fun wq (hb : Below W.heap.size W wq) k (hk : k < N) => (by
    have h9 := hu.below (bl3 BW.out hb)
    rw [hl2, ← wt_map hl2] at h9
    exact far_at h9 hk : ∃ X o, pu = some ⟨X, o, none⟩ ∧ wq.cell? ⟨X, o + k, none⟩ = some (.int .i64 (wtF ws k))))
  have EL2 := hid (fun e (he : e ∈ E) => hg.lt e he)
  have WO := hid hWO
  have WY := hid (lo_way hg hr hWO)
  have SM : Hid (loS N E (wtF ws) = sgF (loF N E (wtF ws)).1 N) := rfl
  have LF := hid (fun F G (h : LG (nx N E) (wtF ws) F G (orL N E)) => lo_fin hg hr hWO h)
  have ST := hid (fun F G i (hi : i < (orL N E).length) (h : LG (nx N E) (wtF ws) F G ((orL N E).drop (i + 1))) => And.intro (rh_step hg kD lD hi h) (rh_bd hg kD lD hWO hi h))
  have LT := hid kD.lt
  have LD := hid lD
  have RT := hid (fun k (hk : k < E.length) x F => rh_take hk x F)
  have L0 : Hid (LG (nx N E) (wtF ws) (fun _ => 0) (fun _ => 0) ((orL N E).drop N)) := by
    show LG _ _ _ _ _
    rw [List.drop_of_length_le (by omega)]
    exact .nil
  rw [hl2]
  generalize loS N E (wtF ws) = S at *
  generalize loW N E (wtF ws) = LW at *
  generalize loF N E (wtF ws) = LO at *
  generalize orL N E = D at *
  generalize wtF ws = Wt at *
  obtain ⟨el, hel⟩ : ∃ el, el = E.length := ⟨_, rfl⟩
  have ME : Hid (E.length = el) := hel.symm
  rw [← hel] at hW d1 C0 CK OR EB ⊢
  clear hel hw hWO hr hg hl2 hu hv bw c0 kD lD
  go_enter Try.func12, Try.ntmps12
  go_upto_region 6 with (go_at_call 37; refine CK.out.mono ?_; rintro e w6 ⟨rfl, hb6⟩; have B6 := hid hb6; obtain ⟨g0, g1⟩ := C0.out _ hb6; clear hb6)
  clear CK d0 d1
  go_wp2_with fail
  go_loopw [8] (fun v8 wr => ∃ (k : Nat), v8 = .int .i64 k ∧ w6 = wr ∧ k ≤ N) (fun v8 _ => N - (intOf v8).toNat)
  case atStart => exact ⟨0, rfl, rfl, Nat.zero_le _⟩
  case round =>
    obtain ⟨k, rfl, rfl, hk⟩ := hrel
    by_cases hlt : k < N
    · obtain ⟨Z, o, e1, c1⟩ := GU.out w6 B6.out k hlt
      subst e1
      have wo := WO.out k hlt
      generalize Wt k = y at *
      have h1 : ¬ y < 0 := by omega
      have h2 : ¬ 1099511627776 < y := by omega
      have hki : (k : Int) < (N : Nat) := by omega
      go_wp2_with fail
      go_roundw
      case rel => exact ⟨k + 1, by go_num, by first | rfl | trivial, by omega⟩
      case measure => simp [intOf]; omega
    · obtain rfl : k = N := by omega
      clear hlt hk
      go_upto_region 14 with (go_at_call 38; refine (OR.out _ B6.out).mono ?_; rintro e w8 ⟨q8, c8, rfl, h8, hb8⟩; have B8 := hid (bl3 B6.out hb8); have O8 := hid h8; obtain ⟨g2, g3⟩ := C0.out _ B8.out; clear hb8 h8)
      go_upto_region 16 with (first
        | (refine make_g KI KI_ok 0 rfl rfl w8 rfl (.tmp 59) (.tmp 59) 25 rfl Try.underlying25 k rfl rfl (by omega) (by decide) ?_; intro w9 ho9 hb9; have O9 := hid ho9; have B9 := hid hb9; obtain ⟨y0, y1⟩ := C0.out _ (bl3 B8.out hb9); clear ho9 hb9)
        | (refine make_g KI KI_ok 0 rfl rfl w9 rfl (.tmp 62) (.tmp 62) 25 rfl Try.underlying25 k rfl rfl (by omega) (by decide) ?_; intro w10 ho10 hb10; have K0 : Hid (K3 w8 k w8.heap.size w9.heap.size (fun _ => 0) (fun _ => 0) w10) := ⟨bl3 B9.out hb10, (LFR.zero O9.out : LFR w9 w8.heap.size w8.heap.size k (fun _ => 0)).far (hb10.block _ (LFR.zero O9.out : LFR w9 w8.heap.size w8.heap.size k (fun _ => 0)).lt.2), OwnG.low (LFR.zero ho10) B9.out.size, Nat.ne_of_lt (LFR.zero O9.out : LFR w9 w8.heap.size w8.heap.size k (fun _ => 0)).lt.2⟩; obtain ⟨z0, z1⟩ := C0.out _ (bl3 (bl3 B8.out B9.out) hb10); clear ho10 hb10))
      obtain ⟨X, hX⟩ : ∃ X, X = w8.heap.size := ⟨_, rfl⟩
      obtain ⟨Y, hY⟩ : ∃ Y, Y = w9.heap.size := ⟨_, rfl⟩
      rw [← hX, ← hY] at K0
      rw [← hX, ← hY]
      obtain ⟨sz, hsz⟩ : ∃ sz, sz = w.heap.size := ⟨_, rfl⟩
      have BB : Hid (Below w.heap.size w w8) := bl3 BW.out B8.out
      have GC0 : Hid (∀ W', Below w8.heap.size w8 W' → W'.cell? ⟨sz, 0, none⟩ = some (.int .i64 k) ∧ W'.cell? ⟨sz, 1, none⟩ = some (.slice p el c)) := fun W' hb => by rw [hsz]; exact C0.out W' (bl3 B8.out hb)
      have GE2 := hid (fun wq (hb : Below w8.heap.size w8 wq) => GE.out wq (bl3 B8.out hb))
      have GU2 := hid (fun wq (hb : Below w8.heap.size w8 wq) => GU.out wq (bl3 B8.out hb))
      have GD := hid (fun wq (hb : Below w8.heap.size w8 wq) j (hj : j < (nI D).length) => GS.atI (O8.out.below hb) hj)
      rw [← hsz] at z0 z1 ⊢
      clear hX hY hsz C0 GE GU BW hW g0 g1 g2 g3 y0 y1 B6 B8 B9 O8 O9 OR
      go_wp2_with fail
      clear z0 z1
      go_loopw [12] (fun v12 wr => ∃ (i : Nat) (F G : Nat → Int) (wk : World), v12 = .int .i64 ((i : Int) - 1) ∧ wk = wr ∧ i ≤ k ∧ Hid (LG (nx k E) Wt F G (D.drop i)) ∧ Hid (K3 w8 k X Y F G wk)) (fun v12 _ => (intOf v12 + 1).toNat)
      case atStart => exact ⟨k, _, _, _, by first | rfl | simp, rfl, Nat.le_refl _, L0, K0⟩
      case round =>
        obtain ⟨i, F, G, wr, rfl, rfl, hi, HL, HK⟩ := hrel
        clear K0 L0
        obtain ⟨d0, d1⟩ := GC0.out wr HK.out.bl
        cases i with
        | succ j =>
          have ej : ((j + 1 : Nat) : Int) - 1 = (j : Nat) := by omega
          rw [ej]
          have j1 : j < D.length := by have := LD.out; omega
          have hx : D[j] < k := LT.out _ (List.getElem_mem j1)
          obtain ⟨Z4, o4, e4, c4⟩ := GD.out wr HK.out.bl j (by rw [nI_len]; exact j1)
          rw [nI_at j1] at c4
          subst e4
          obtain ⟨s1, s2, s3⟩ := ST.out F G j j1 HL.out
          have S1 := hid s1
          have S2 := hid (And.intro s2 s3)
          obtain ⟨Z5, o5, e5, c5⟩ := GU2.out wr HK.out.bl D[j] hx
          have wx := WO.out D[j] hx
          have PT2 := hid (fun a b => HK.out.put D[j] a b)
          have f1 := (HK.out.f.at hx)
          have f2 := fun a => (HK.out.at2 hx a)
          generalize D[j] = x at *
          have hxi : (x : Int) < (k : Nat) := by omega
          have hji : (j : Int) < (k : Nat) := by omega
          have R0 : Hid ((0, -1) = rhP F (tg (E.take 0) x)) := rfl
          clear s1 s2 s3 ej
          go_wp2_with fail
          go_loopw [14, 15, 16] (fun v14 v15 v16 wq => ∃ (a : Nat) (b h : Int), v14 = .int .i64 b ∧ v15 = .int .i64 h ∧ v16 = .int .i64 a ∧ wr = wq ∧ a ≤ el ∧ Hid ((b, h) = rhP F (tg (E.take a) x))) (fun _ _ v16 _ => el - (intOf v16).toNat)
          case atStart => exact ⟨0, 0, -1, rfl, rfl, rfl, rfl, Nat.zero_le _, R0⟩
          case round =>
            obtain ⟨a, b, h, rfl, rfl, rfl, rfl, ha, HR⟩ := hrel
            clear R0
            by_cases hlt : a < el
            · have a1 : a < E.length := by have := ME.out; omega
              obtain ⟨Y1, o1, e1, c1, c2⟩ := GE2.out wr HK.out.bl a a1
              subst e1
              have hy := (EL2.out _ (List.getElem_mem a1)).2
              have fy := (HK.out.f.at hy).1
              have rt := RT.out a a1 x F
              rw [← HR.out] at rt
              have RTh := hid rt
              have hai : (a : Int) < (el : Nat) := by omega
              have hyn : (E[a].2 : Int) < (k : Nat) := by omega
              clear rt HR
              by_cases hq : E[a].1 = x
              · have b0 : ((E[a].1 : Int) == (x : Int)) = true := by simp [hq]
                by_cases hgt : b < F E[a].2
                · have N1 : Hid ((F E[a].2, (E[a].2 : Int)) = rhP F (tg (E.take (a + 1)) x)) := by
                    show _ = _
                    rw [RTh.out, if_pos hq.symm, if_pos (Or.inl hgt)]
                  generalize F E[a].2 = fv at *
                  generalize E[a].1 = ea at *
                  generalize E[a].2 = y at *
                  clear RTh HK HL S1 S2 PT2 f1 f2 c4 c5 hq
                  go_wp2_with fail
                  go_roundw
                  case rel => exact ⟨a + 1, fv, y, rfl, by first | rfl | trivial, by go_num, by first | rfl | trivial, by omega, N1⟩
                  case measure => simp [intOf]; omega
                · by_cases hput : F E[a].2 = b ∧ 0 ≤ h ∧ (E[a].2 : Int) < h
                  · obtain ⟨p1, p2, p3⟩ := hput
                    have N1 : Hid ((F E[a].2, (E[a].2 : Int)) = rhP F (tg (E.take (a + 1)) x)) := by
                      show _ = _
                      rw [RTh.out, if_pos hq.symm, if_pos (Or.inr ⟨p1, p2, p3⟩)]
                    have b2 : (F E[a].2 == b) = true := by simp [p1]
                    generalize F E[a].2 = fv at *
                    generalize E[a].1 = ea at *
                    generalize E[a].2 = y at *
                    clear RTh HK HL S1 S2 PT2 f1 f2 c4 c5 hq p1
                    go_wp2_with fail
                    go_roundw
                    case rel => exact ⟨a + 1, fv, y, rfl, by first | rfl | trivial, by go_num, by first | rfl | trivial, by omega, N1⟩
                    case measure => simp [intOf]; omega
                  · have N1 : Hid ((b, h) = rhP F (tg (E.take (a + 1)) x)) := by
                      show _ = _
                      rw [RTh.out, if_pos hq.symm, if_neg (fun q => q.elim hgt hput)]
                    by_cases p1 : F E[a].2 = b
                    · have b2 : (F E[a].2 == b) = true := by simp [p1]
                      by_cases p2 : 0 ≤ h
                      · have p3 : ¬ (E[a].2 : Int) < h := fun q => hput ⟨p1, p2, q⟩
                        generalize F E[a].2 = fv at *
                        generalize E[a].1 = ea at *
                        generalize E[a].2 = y at *
                        clear RTh HK HL S1 S2 PT2 f1 f2 c4 c5 hq p1 hput
                        go_wp2_with fail
                        go_roundw
                        case rel => exact ⟨a + 1, b, h, rfl, by first | rfl | trivial, by go_num, by first | rfl | trivial, by omega, N1⟩
                        case measure => simp [intOf]; omega
                      · generalize F E[a].2 = fv at *
                        generalize E[a].1 = ea at *
                        generalize E[a].2 = y at *
                        clear RTh HK HL S1 S2 PT2 f1 f2 c4 c5 hq p1 hput
                        go_wp2_with fail
                        go_roundw
                        case rel => exact ⟨a + 1, b, h, rfl, by first | rfl | trivial, by go_num, by first | rfl | trivial, by omega, N1⟩
                        case measure => simp [intOf]; omega
                    · have b2 : (F E[a].2 == b) = false := by simp [p1]
                      generalize F E[a].2 = fv at *
                      generalize E[a].1 = ea at *
                      generalize E[a].2 = y at *
                      clear RTh HK HL S1 S2 PT2 f1 f2 c4 c5 hq p1 hput
                      go_wp2_with fail
                      go_roundw
                      case rel => exact ⟨a + 1, b, h, rfl, by first | rfl | trivial, by go_num, by first | rfl | trivial, by omega, N1⟩
                      case measure => simp [intOf]; omega
              · have b0 : ((E[a].1 : Int) == (x : Int)) = false := by simp; omega
                have N1 : Hid ((b, h) = rhP F (tg (E.take (a + 1)) x)) := by
                  show _ = _
                  rw [RTh.out, if_neg (fun q => hq q.symm)]
                generalize F E[a].2 = fv at *
                generalize E[a].1 = ea at *
                generalize E[a].2 = y at *
                clear RTh HK HL S1 S2 PT2 f1 f2 c4 c5 hq
                go_wp2_with fail
                go_roundw
                case rel => exact ⟨a + 1, b, h, rfl, by first | rfl | trivial, by go_num, by first | rfl | trivial, by omega, N1⟩
                case measure => simp [intOf]; omega
            · obtain rfl : a = el := by omega
              have HE : (b, h) = rhP F (tg E x) := by
                have := HR.out
                rw [List.take_of_length_le (by rw [ME.out]; exact Nat.le_refl _)] at this
                exact this
              have eb : (rhP F (tg E x)).1 = b := by rw [← HE]
              have eh : (rhP F (tg E x)).2 = h := by rw [← HE]
              have s2 := S2.out
              rw [eb] at s2
              have S3 := S1.out
              rw [eb, eh] at S3
              have S4 := hid S3
              have P4 := hid (PT2.out (Wt x + b) h)
              subst e5
              obtain ⟨f3, f4⟩ := f1
              have f5 := (f2 (Wt x + b)).1
              have f6 := (f2 (Wt x + b)).2
              generalize Wt x = vx at *
              generalize F x = fx at *
              generalize G x = gx at *
              clear HE eb eh S1 S2 S3 PT2 HR HK HL f2 hlt ha
              go_wp2_with fail
              go_roundw
              case rel => exact ⟨j, _, _, _, by first | rfl | go_num, rfl, by omega, S4, P4⟩
              case measure => simp [intOf]
        | zero =>
          have HL0 : LG (nx k E) Wt F G D := HL.out
          obtain ⟨q1, q2⟩ := LF.out F G HL0
          have K9 := hid (HK.out.only q1 q2)
          have em : ((0 : Nat) : Int) - 1 = -1 := rfl
          rw [em]
          have M0 : Hid ((-1 : Int) = mxF LO.1 0) := rfl
          have SG := hid (fun m (h : mxF LO.1 k = (m : Nat)) => (sg_at h : sgF LO.1 k = LO.1 m))
          generalize LO.1 = F at *
          generalize LO.2 = G at *
          clear HL HK HL0 q1 q2 LF ST RT WO GU2 GE2 GD LT EL2 em hi
          go_wp2_with fail
          go_loopw [18, 19] (fun v18 v19 wq => ∃ (a : Nat) (t : Int) (wk : World), v18 = .int .i64 t ∧ v19 = .int .i64 a ∧ wk = wq ∧ a ≤ k ∧ Hid (t = mxF F a) ∧ Hid (K3 w8 k X Y F G wk)) (fun _ v19 _ => k - (intOf v19).toNat)
          case atStart => exact ⟨0, -1, _, rfl, rfl, rfl, Nat.zero_le _, M0, K9⟩
          case round =>
            obtain ⟨a, t, wq, rfl, rfl, rfl, ha, HM, HK⟩ := hrel
            clear M0 K9 d0 d1
            obtain ⟨d0, d1⟩ := GC0.out wq HK.out.bl
            by_cases hlt : a < k
            · have hai : (a : Int) < (k : Nat) := by omega
              have f1 := (HK.out.f.at hlt).1
              have N2 := hid (fun nq => HK.out.drew nq)
              rcases mx_cases F a with ⟨h0, h1⟩ | ⟨z, h1, h2⟩
              · have ht : t = -1 := by rw [HM.out]; exact h1
                have M2 := hid (mx_one h1)
                subst ht
                generalize F a = fa at *
                clear h0 h1 HM HK
                go_wp2_with fail
                go_quiet (fail)
                go_wp2_with fail
                all_goals
                  go_roundw
                  case rel => exact ⟨a + 1, a, _, by first | rfl | trivial, by go_num, rfl, by omega, M2.out.symm, N2.out _⟩
                  case measure => simp [intOf]; omega
              · have ht : t = z := by rw [HM.out]; exact h1
                have hz : z < k := by omega
                have f2 := (HK.out.f.at hz).1
                have hzi : (z : Int) < (k : Nat) := by omega
                have hz0 : ¬ (z : Int) < 0 := by omega
                subst ht
                by_cases hgt : F z < F a
                · have M2 := hid (mx_up h1 hgt)
                  generalize F a = fa at *
                  generalize F z = fz at *
                  clear h1 HM HK
                  go_wp2_with fail
                  go_quiet (fail)
                  go_wp2_with fail
                  all_goals
                    go_roundw
                    case rel => exact ⟨a + 1, a, _, by first | rfl | trivial, by go_num, rfl, by omega, M2.out.symm, N2.out _⟩
                    case measure => simp [intOf]; omega
                · have M2 := hid (mx_stay h1 hgt)
                  generalize F a = fa at *
                  generalize F z = fz at *
                  clear h1 HM HK
                  go_wp2_with fail
                  go_quiet (fail)
                  go_wp2_with fail
                  all_goals
                    go_roundw
                    case rel => exact ⟨a + 1, z, _, by first | rfl | trivial, by go_num, rfl, by omega, M2.out.symm, N2.out _⟩
                    case measure => simp [intOf]; omega
            · obtain rfl : a = k := by omega
              rw [← HM.out] at WY SG
              have BQ := hid (bl3 BB.out HK.out.bl)
              rcases mx_cases F a with ⟨h0, h1⟩ | ⟨z, h1, h2⟩
              · have ht : t = -1 := by rw [HM.out]; exact h1
                have hS : S = 0 := by
                  rw [SM.out]; unfold sgF; rw [h1]; rfl
                have hL : LW = [] := by
                  rcases WY.out 0 with ⟨_, e⟩ | ⟨y, e, _⟩
                  · exact e.symm
                  · rw [ht] at e
                    have e : (-1 : Int) = y := e
                    omega
                subst ht hS hL
                clear h0 h1 HM HK WY SG SM hlt ha
                go_wp2_with fail
                go_ret3
                exact AnsW.none BQ.out
              · have ht : t = z := by rw [HM.out]; exact h1
                have hS : S = F z := by rw [SM.out]; exact SG.out z ht
                have hz0 : ¬ (z : Int) < 0 := by omega
                have hzi : (z : Int) < (a : Nat) := by omega
                have KQ := hid HK.out
                subst ht
                have GF := hid (fun wz (hb : Below wq.heap.size wq wz) => (LFR.at (KQ.out.f.below hb : LFR wz w8.heap.size X a F) h2).1)
                have GG := hid (fun wz (hb : Below wq.heap.size wq wz) y (hy : y < a) => (LFR.at (KQ.out.g.below hb : LFR wz w8.heap.size Y a G) hy).1)
                have SE : Hid (F z = S) := hS.symm
                have J0 : Hid (gw G 0 (z : Int) = ([], (z : Int))) := rfl
                have R0 : Hid (RW wq (some ⟨wq.heap.size, 0, none⟩) 0 [] (wq.alloc (.cells #[] 3))) := ⟨bal _ _, OwnG.empty KI wq⟩
                obtain ⟨B0, hB0⟩ : ∃ B0, B0 = wq.heap.size := ⟨_, rfl⟩
                clear HM HK h1 SG SM hlt ha hS
                go_wp2_with fail
                rw [← hB0] at R0 ⊢
                clear d0 d1 hB0
                go_loopw [20, 21] (fun v20 v21 wr => ∃ (j : Nat) (zz : Int) (P : Option Addr) (cp : Nat) (L : List Nat) (wk : World), v20 = .slice P L.length cp ∧ v21 = .int .i64 zz ∧ wk = wr ∧ Hid (gw G j (z : Int) = (L, zz)) ∧ Hid (RW wq P cp (nI L) wk)) (fun v20 _ _ => a - lenW v20)
                case atStart => exact ⟨0, z, _, 0, [], _, rfl, rfl, rfl, J0, R0⟩
                case round =>
                  obtain ⟨j, zz, P, cp, L, wr, rfl, rfl, rfl, HJ, HR⟩ := hrel
                  clear J0 R0
                  have WJ := WY.out j
                  rw [HJ.out] at WJ
                  rcases WJ with ⟨h1, h3⟩ | ⟨y, h1, h3, h4, h5⟩
                  · have h1 : zz = -1 := h1
                    have h3 : L = LW := h3
                    subst h1 h3
                    have f1 := GF.out wr HR.out.bl
                    rw [SE.out] at f1
                    have FIN : Hid (AnsW w S (nI L) 0 (.returned (.tuple #[.int .i64 S, .slice P L.length cp, .int .i64 0])) wr) := by
                      have h9 := HR.out.od.gs KI_ok.len
                      refine ⟨P, cp, by rw [nI_len], h9, bl3 BQ.out HR.out.bl⟩
                    clear HJ HR WY GF GG
                    go_wp2_with fail
                    go_ret3
                    exact FIN.out
                  · have h1 : zz = y := h1
                    have h5 : L.length = j := h5
                    subst h1
                    have hy0 : (0 : Int) ≤ (y : Nat) := by omega
                    have CZ := hid (fun wz (hb : Below wq.heap.size wq wz) => GG.out wz hb y h3)
                    have hyi : (y : Int) < (a : Nat) := by omega
                    have HN := hid (gw_step HJ.out)
                    generalize G y = gy at *
                    have LS : Hid (((nI L).length + 1) * KI.B ≤ 140737488355328) := by show (_ + 1) * 8 ≤ _; rw [nI_len]; omega
                    have BS : Hid (wq.heap.size ≤ wr.heap.size) := HR.out.bl.size
                    have OD := hid HR.out.od
                    have BL := hid HR.out.bl
                    obtain ⟨K, hK⟩ : ∃ K, K = nI L := ⟨_, rfl⟩
                    have EL : K.length = L.length := by rw [hK, nI_len]
                    have AP : Hid (∀ (g8 c8 : Nat) (w8 : World), OwnG KI w8 wq.heap.size (.slice (some ⟨g8, 0, none⟩) (K.length + 1) c8) (K ++ [(y : Int)]) → Below wq.heap.size wr w8 → RW wq (some ⟨g8, 0, none⟩) c8 (nI (L ++ [y])) w8) := fun g8 c8 w8 h1 h2 => ⟨BL.out.trans h2, by
                      have e : nI (L ++ [y]) = K ++ [(y : Int)] := by rw [nI_app, ← hK]; rfl
                      rw [e, List.length_append]; exact h1⟩
                    rw [← hK] at OD LS
                    have LL : Hid ((L ++ [y]).length = K.length + 1) := by show _ = _; rw [List.length_append, List.length_singleton, EL]
                    have h3L : Hid (L.length < a) := by show _ < _; omega
                    have ELh := hid EL
                    rw [← EL]
                    clear HJ HR hK EL h4 h5
                    go_wp2_with (at_builtin; refine append_g KI KI_ok rfl (.tmp 169) (.tmp 171) 25 rfl wq.heap.size Try.underlying25 wr _ _ (.slice P K.length cp) K (y : Int) _ rfl OD.out wr.heap.size rfl rfl rfl LS.out BS.out ?_; intro g8 c8 w8 ho8 hb8 hk8 hg8; have A8 := hid (AP.out g8 c8 w8 ho8 hb8); have z8 := CZ.out w8 A8.out.bl; clear ho8 hb8 hk8 hg8)
                    go_roundw
                    case rel => exact ⟨j + 1, gy, some ⟨g8, 0, none⟩, c8, L ++ [y], _, by rw [LL.out], rfl, rfl, HN.out, A8.out⟩
                    case measure => have h5 := h3L.out; have h6 := ELh.out; simp [lenW]; omega
end Go.Proofs.Ythhjknpfaghfbaa
