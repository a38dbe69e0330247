/- Graph: Circle of the program. -/
import Derived.Test.YtkmokoiilmdfbaaYf4
import Derived.Test.YtkmokoiilmdfbaaYj4
namespace Go.Proofs.Ytkmokoiilmdfbaa
open Go.RowKit Go.Shelf
attribute [local go_sem] Oper.semAt_some

/-- While the circle is gathered. -/
structure RC (w : World) (g c : Nat) (L : List Nat) (W : World) : Prop where
  bl : Below w.heap.size w W
  od : OwnG KI W w.heap.size (.slice (some ⟨g, 0, none⟩) L.length c) (nI L)
set_option maxRecDepth 100000 in
set_option maxHeartbeats 16000000 in
theorem Circle_any (w : World) (n : Int) (v : Value) (l : List (Int × Int)) (hv : GS KE w v l) (x : Int) : Calls Try.prog 26 #[.agg #[.int .i64 n, v], .int .i64 x] w fun e w' => AnsI w (ciA n l x) (ciE n l x) e w' := by
  obtain ⟨p, c, rfl⟩ := hv.form
  generalize hW : w.alloc (.cells #[.int .i64 n, .slice p l.length c] 24) = W
  obtain ⟨bw, c0⟩ := graph_boxF w n p l.length c hW
  have BW := hid bw
  have C0 := hid c0
  have CK := hid (checkWith_any W n _ l (hv.below bw) x)
  obtain ⟨d0, d1⟩ := c0 W (Below.refl _ _)
  clear bw c0
  by_cases h0 : nxE n l x = 0
  · obtain ⟨N, E, i, rfl, rfl, hg, rfl, hi⟩ := nxE_ok h0
    rw [h0] at CK
    have LN := hid (fun W' (hb : Below W.heap.size W W') => lanesOf_any W' N _ E hg ((hv.below BW.out).below hb))
    have LT := hid (fun W' v (h : GS KE W' v (eI (tu E))) => lanesOf_any W' N v (tu E) (tu_ok hg) h)
    have TU := hid (fun W' (hb : Below W.heap.size W W') => (turned_any W' N _ (eI E) ((hv.below BW.out).below hb) (by rw [eI_len]; exact hg.e)).mono (R' := fun e w' => ∃ p c, e = .returned (.agg #[.int .i64 N, .slice p (eI E).length c]) ∧ GS KE w' (.slice p (eI E).length c) (eI (tu E)) ∧ Below W'.heap.size W' w') fun e w' ⟨p, c, h1, h2, h3⟩ => ⟨p, c, h1, by rw [← eI_tu]; exact h2.gs KE_ok.len, h3⟩)
    have FA := hid (fun W' bb lb vs (h : LZ W' bb lb N vs (fun i => nI (nx N (tu E) i))) => far_any W' N E (tu E) (tu_ok hg) (fun x y => by rw [nx_mem (tu_ok hg), tu_mem]) bb lb vs h i hi)
    rw [eI_len] at C0 CK LN TU d1 hW ⊢
    obtain ⟨m, hm⟩ : ∃ m, m = E.length := ⟨_, rfl⟩
    rw [← hm] at C0 CK LN TU d1 hW ⊢
    have HG := hid hg
    have NB : N ≤ 4096 := hg.n
    obtain ⟨sz, hsz⟩ : ∃ sz, sz = w.heap.size := ⟨_, rfl⟩
    have C1 : Hid (∀ W', Below W.heap.size W W' → W'.cell? ⟨sz, 0, none⟩ = some (.int .i64 N) ∧ W'.cell? ⟨sz, 1, none⟩ = some (.slice p m c)) := by rw [hsz]; exact C0
    have hii : (i : Int) < (N : Nat) := by omega
    clear h0 hg hv hm C0
    go_enter Try.func26, Try.ntmps26
    go_upto_region 4 with (go_at_call 43; refine CK.out.mono ?_; rintro e w1 ⟨rfl, hb1⟩; have X1 := hid hb1; clear hb1)
    try rw [← hsz] at d0 d1
    try rw [← hsz]
    clear hW CK d0 d1
    obtain ⟨d0, d1⟩ := C1.out w1 X1.out
    have BD : Hid (Below W.heap.size W w1.drew) := bl3 X1.out (drew_below w1 1)
    have AD : Hid (∀ ob, Below W.heap.size W (w1.drew.alloc ob)) := fun ob => bl3 BD.out (bal _ _)
    clear hsz
    go_cut [7, 8] from 17 to 23 (fun v7 v8 wx => ∃ (la X k : Nat) (F : Nat → Int) (vsA : List Sl) (wk : World), v7 = .slice (some ⟨la, 0, none⟩) N N ∧ v8 = .slice (some ⟨X, 0, none⟩) N N ∧ wk = wx ∧ Hid (Below W.heap.size W wk ∧ LZ wk W.heap.size la N vsA (fun i => nI (nx N E i)) ∧ LFR wk W.heap.size X N F ∧ FK N E (nx N (tu E)) i k F []))
    case first =>
      go_region_held3 (fun w' => w'.cell? ⟨sz, 0, none⟩ = some (.int .i64 N) ∧ w'.cell? ⟨sz, 1, none⟩ = some (.slice p m c)) (first | exact C1.out _ BD.out | exact C1.out _ X5.out | exact C1.out _ X4.out | exact C1.out _ X3.out | exact C1.out _ X2.out | go_keep) (first
        | (go_at_call 54; refine (FA.out _ _ _ _ ZB.out).mono ?_; rintro e w5 ⟨X, F, k, rfl, fk, lf, b5⟩; have X5 : Hid (Below W.heap.size W w5) := bl3 X4.out b5; have L5 : Hid (LFR w5 W.heap.size X N F) := OwnG.low lf X4.out.size; have K5 := hid fk; have B5 := hid b5; obtain ⟨u0, u1⟩ := C1.out _ X5.out; clear fk lf b5)
        | (go_at_call 44; refine (LT.out _ _ G3.out).mono ?_; rintro e w4 ⟨lb, vsB, rfl, hz4, hb4⟩; have X4 : Hid (Below W.heap.size W w4) := bl3 X3.out hb4; have ZB := hid hz4; have B4 := hid hb4; obtain ⟨z0, z1⟩ := C1.out _ X4.out; clear hz4 hb4)
        | (go_at_call 51; refine (TU.out _ X2.out).mono ?_; rintro e w3 ⟨p3, c3, rfl, g3, b3⟩; have X3 : Hid (Below W.heap.size W w3) := bl3 X2.out b3; have G3 := hid g3; have B3 := hid b3; obtain ⟨y0, y1⟩ := C1.out _ X3.out; clear g3 b3)
        | (go_at_call 44; refine (LN.out _ BD.out).mono ?_; rintro e w2 ⟨la, vsA, rfl, hz2, hb2⟩; have X2 : Hid (Below W.heap.size W w2) := bl3 BD.out hb2; have ZA := hid (hz2.low (base' := W.heap.size) BD.out.size); obtain ⟨x0, x1⟩ := C1.out _ X2.out; clear hz2 hb2)
        | fail)
      all_goals
        go_wp2_with fail
        go_meet
        case rel => exact ⟨la, X, k, F, vsA, _, rfl, rfl, rfl, X5.out, ZA.out.below (bl3 B3.out (bl3 B4.out B5.out)), L5.out, K5.out⟩
    obtain ⟨la, X, k, F, vsA, w5, rfl, rfl, rfl, HB⟩ := hcut
    obtain ⟨x5, z5, l5, k5⟩ := HB.out
    have X5 := hid x5
    have ZC := hid (fun wr (hb : Below w5.heap.size w5 wr) y (hy : y < N) => LZ.cell (A := nx N E) (z5.below hb) hy)
    have NR := hid (fun wr (hb : Below w5.heap.size w5 wr) y (hy : y < N) => nearest_any wr N _ _ (nx N E y) F (ZC.out wr hb y hy).2 (OwnG.gs KI_ok.len (OwnG.below l5 hb)) (fun q hq => (HG.out.lt _ ((nx_mem HG.out).1 hq)).2) (Nat.le_trans (nx_len N E y) NB) NB (fun q => k5.fi.lo q))
    have FI0 := hid k5.fi
    have FST := hid (fun (b : Nat) h1 h2 h3 => CQ.start (b := b) k5 h1 h2 h3)
    have C50 := hid (nr_first HG.out k5.fi)
    have BB := hid (bl3 BW.out x5)
    clear HB x5 z5 l5 k5 C1 LN LT TU FA BD AD X1 d0 d1
    obtain ⟨z0, z1⟩ := ZC.out w5 (Below.refl _ _) i hi
    have N0 := hid (NR.out w5 (Below.refl _ _) i hi)
    clear z1
    rcases C50.out with ⟨q1, q2⟩ | ⟨b, q1, q2, q3, q4⟩
    · have RES : Hid (∀ w', Below w5.heap.size w5 w' → AnsI w (ciA N (eI E) i) (ciE N (eI E) i) (.returned (.tuple #[.slice none 0 0, .int .i64 4])) w') := fun w' hb => by
        rw [(ciE_no HG.out hi q2).1, (ciE_no HG.out hi q2).2]
        exact AnsI.none (bl3 BB.out hb)
      rw [q1] at N0
      clear FST NR ZC
      generalize (vsA.getD i sl0).1 = pk at *
      generalize (vsA.getD i sl0).2.2 = ck at *
      generalize (nx N E i).length = mk at *
      go_wp2_with (go_at_call 55; refine N0.out.mono ?_; rintro e w6 ⟨rfl, hb6⟩; have B6 := hid hb6; clear hb6)
      go_ret2
      exact RES.out _ B6.out
    · have EY := hid (ciE_yes HG.out hi q4)
      rw [q1] at N0
      have S0 := hid (FST.out b q1 q2 q3)
      clear FST q4
      have bne : ¬ (b : Int) = -1 := by omega
      have bne2 : ((b : Int) == -1) = false := by simp
      generalize hpk : (vsA.getD i sl0).1 = pk at z0 N0
      generalize hck : (vsA.getD i sl0).2.2 = ck at z0 N0
      generalize hmk : (nx N E i).length = mk at z0 N0
      clear hpk hck hmk
      go_upto_region 8 with (go_at_call 55; refine N0.out.mono ?_; rintro e w6 ⟨rfl, hb6⟩; have B6 := hid hb6; clear hb6)
      have Q0 : Hid (RC w5 w6.heap.size 1 [i] (w6.alloc (.cells #[.int .i64 (i : Nat)] 3))) := ⟨bl3 B6.out (bal _ _), own_of (l := nI [i]) (heap_alloc_new _ _) B6.out.size (by show 1 ≤ maxLen; decide)⟩
      generalize hw7 : w6.alloc (.cells #[.int .i64 (i : Nat)] 3) = w7 at Q0
      go_wp2_with fail
      try rw [hw7]
      clear hw7
      obtain ⟨g, hg⟩ : ∃ g, g = w6.heap.size := ⟨_, rfl⟩
      rw [← hg] at Q0 ⊢
      clear hg B6 N0 z0 q1
      have LE0 : Hid ((ciR N E i).length = (nI (ciR N E i)).length) := (nI_len _).symm
      generalize hR : ciR N E i = R at *
      go_loopw [9, 10] (fun v9 v10 wr => ∃ (a : Nat) (L : List Nat) (sl g c : Nat) (wk : World), v9 = .int .i64 a ∧ v10 = .slice (some ⟨g, 0, none⟩) sl c ∧ wk = wr ∧ Hid (L.length = sl) ∧ Hid (CQ N E F i R L a) ∧ Hid (RC w5 g c L wk)) (fun v9 _ _ => (F (intOf v9).toNat).toNat)
      case atStart => exact ⟨b, [i], 1, g, 1, _, rfl, rfl, rfl, rfl, S0, Q0⟩
      case round =>
        obtain ⟨a, L, sl, g, c, wr, rfl, rfl, rfl, HL, HC, HR⟩ := hrel
        clear S0 Q0
        by_cases ha : a = i
        · subst ha
          have e := HC.out.fin
          have FIN : Hid (AnsI w (ciA N (eI E) a) (ciE N (eI E) a) (.returned (.tuple #[.slice (some ⟨g, 0, none⟩) sl c, .int .i64 0])) wr) := by
            rw [EY.out.1, EY.out.2]
            have h9 := HR.out.od
            rw [HL.out] at h9
            have h8 : sl = (nI R).length := by rw [nI_len, ← e, HL.out]
            refine ⟨some ⟨g, 0, none⟩, c, by rw [← h8], ?_, bl3 BB.out HR.out.bl⟩
            rw [← h8, ← e]
            exact h9.gs KI_ok.len
          clear HC HR HL e
          have haa : ((a : Int) != a) = false := by simp
          go_wp2_with fail
          go_ret2
          exact FIN.out
        · obtain ⟨b2, r1, r2, r3⟩ := HC.out.step HG.out FI0.out ha
          have R3 := hid r3
          have R2 := hid r2
          have hai : ((a : Int) != (i : Int)) = true := by simp; omega
          have hai2 : ¬ (a : Int) = (i : Int) := by omega
          have hal : a < N := HC.out.lt
          have haN : (a : Int) < (N : Nat) := by omega
          have GE := hid HC.out.ge
          have ZX := hid (fun wq (hb : Below w5.heap.size w5 wq) => (ZC.out wq hb a hal).1)
          have NX := hid (fun wq (hb : Below w5.heap.size w5 wq) => NR.out wq hb a hal)
          rw [r1] at NX
          have LS : Hid (((nI L).length + 1) * KI.B ≤ 140737488355328) := by
            have := HC.out.sum
            have := HC.out.ge
            show (_ + 1) * 8 ≤ _
            rw [nI_len]; omega
          have BS : Hid (w5.heap.size ≤ wr.heap.size) := HR.out.bl.size
          have OD := hid HR.out.od
          have BL := hid HR.out.bl
          obtain ⟨K, hK⟩ : ∃ K, K = nI L := ⟨_, rfl⟩
          have EL : Hid (K.length = sl) := by show _ = _; rw [hK, nI_len, HL.out]
          rw [← hK] at OD LS
          rw [HL.out] at OD
          have AP : Hid (∀ (g8 c8 : Nat) (w8 : World), OwnG KI w8 w5.heap.size (.slice (some ⟨g8, 0, none⟩) (K.length + 1) c8) (K ++ [(a : Int)]) → Below w5.heap.size wr w8 → RC w5 g8 c8 (L ++ [a]) w8) := fun g8 c8 w8 h1 h2 => ⟨BL.out.trans h2, by rw [nI_app, ← hK, List.length_append, List.length_singleton, HL.out, ← EL.out]; exact h1⟩
          have LL : Hid ((L ++ [a]).length = sl + 1) := by show _ = _; rw [List.length_append, List.length_singleton, HL.out]
          generalize (vsA.getD a sl0).1 = pa at *
          generalize (vsA.getD a sl0).2.2 = ca at *
          generalize (nx N E a).length = ma at *
          clear HC HR HL hK r1 r3 r2
          have EL2 := EL.out
          subst EL2
          go_wp2_with (first
            | (at_builtin; refine append_g KI KI_ok rfl (.tmp 37) (.tmp 39) 25 rfl w5.heap.size Try.underlying25 wr _ _ _ K (a : Int) _ rfl OD.out wr.heap.size rfl rfl rfl LS.out BS.out ?_; intro g8 c8 w8 ho8 hb8 hk8 hg8; have A8 := hid (AP.out g8 c8 w8 ho8 hb8); have z8 := ZX.out w8 A8.out.bl; clear ho8 hb8 hk8 hg8)
            | (go_at_call 55; refine (NX.out w8 A8.out.bl).mono ?_; rintro e w9 ⟨rfl, hb9⟩; have A9 : Hid (RC w5 g8 c8 (L ++ [a]) w9) := ⟨bl3 A8.out.bl hb9, A8.out.od.below hb9⟩; clear hb9))
          all_goals
            go_roundw
            case rel => exact ⟨b2, L ++ [a], K.length + 1, g8, c8, _, rfl, rfl, rfl, LL.out, R3.out, A9⟩
            case measure => have h1 := R2.out; have h2 := R3.out.ge; have h3 := GE.out; simp [intOf]; omega
  · rw [(ciE_bad h0).1, (ciE_bad h0).2]
    generalize nxE n l x = r at *
    have b1 : (r != 0) = true := by simp [h0]
    go_enter Try.func26, Try.ntmps26
    go_wp2_with (go_at_call 43; refine CK.out.mono ?_; rintro e w6 ⟨rfl, hb6⟩; have B6 := hid hb6; clear hb6)
    go_ret2
    exact AnsI.none (bl3 BW.out B6.out)
end Go.Proofs.Ytkmokoiilmdfbaa
