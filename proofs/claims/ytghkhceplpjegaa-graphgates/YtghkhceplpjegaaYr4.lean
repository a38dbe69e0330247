/- Graph: the law GraphGates, where the graph is right and small. -/
import Derived.Test.YtghkhceplpjegaaYr2
import Derived.Test.YtghkhceplpjegaaYr3
import Derived.Test.YtghkhceplpjegaaYq7
import Derived.Test.YtghkhceplpjegaaYm2
namespace Go.Proofs.Ytghkhceplpjegaa
open Go.RowKit

set_option maxRecDepth 100000 in
set_option maxHeartbeats 64000000 in
theorem gates_main (w : World) (N : Nat) (E : List (Nat × Nat)) (hg : GOK N E) (p : Option Addr) (c : Nat) (hv : GS KE w (.slice p E.length c) (eI E)) (at0 : Int) (hN : 0 < N) (hf : fitB N (eI E) = true) : Calls Try.prog 8 #[.agg #[.int .i64 N, .slice p E.length c], .int .i64 at0] w fun e w' => e = .returned (.bool true) ∧ Below w.heap.size w w' := by
  have NB : N ≤ 4096 := hg.n
  have EB : E.length ≤ 16384 := hg.e
  generalize hW : w.alloc (.cells #[.int .i64 N, .slice p E.length c] 24) = W
  obtain ⟨bw, c0⟩ := graph_box w N p E.length c hW
  have BW := hid bw
  have C0 := hid c0
  obtain ⟨d0, d1⟩ := c0 W (Below.refl _ _)
  have GV := hid (fun W' (hb : Below W.heap.size W W') => (hv.below bw).below hb)
  have WK := hid (works_any W)
  have FI := hid (fun W' (hb : Below W.heap.size W W') => fits_any W' N _ (eI E) (GV.out W' hb))
  rw [hf] at FI
  obtain ⟨r, hr0, hr⟩ := gg_idx at0 N hN
  have GT2 := hid (fun W' (hb : Below W.heap.size W W') => Gates_main W' N E hg p c (GV.out W' hb) r hr)
  have WA := hid (fun W' (hb : Below W.heap.size W W') y (hy : y < N) => way_any W' N E hg p c (GV.out W' hb) r y hr hy)
  have WO := hid (fun W' (hb : Below W.heap.size W W') d => wolaw_any W' N E EB p c (GV.out W' hb) d)
  have WN := hid (fun W' d q cq (h : GS KE W' (.slice q (woL E d).length cq) (eI (woL E d))) y (hy : y < N) => way_any W' N (woL E d) (woL_ok hg d) q cq h r y hr hy)
  have GYES := hid (fun n v (h : GA E r n v) h1 h2 => ga_yes hg.lt hr h h1 h2)
  obtain ⟨el, hel⟩ : ∃ el, el = E.length := ⟨_, rfl⟩
  rw [← hel] at C0 d1 hW GV FI GT2 WA WO ⊢
  clear hg hv hel bw c0 hf
  have hu1 : IntKind.u64.wrap (N : Int) = (N : Int) := by simp [IntKind.wrap, IntKind.signed, IntKind.bits]; omega
  have hu2 : IntKind.i64.wrap (r : Int) = (r : Int) := IntWalk.i64_in _ (by omega)
  have hn0 : ((N : Int) == 0) = false := by simp; omega
  have hn1 : ¬ (N : Int) = 0 := by omega
  go_enter Try.func8, Try.ntmps8
  go_upto_region 5 with (first
    | (go_at_call 20; refine WK.out.mono ?_; rintro e w1 ⟨rfl, hb1⟩; have B1 := hid hb1; obtain ⟨g0, g1⟩ := C0.out _ hb1; clear hb1)
    | (go_at_call 21; refine (FI.out _ B1.out).mono ?_; rintro e w2 ⟨rfl, hb2⟩; have B2 := hid (bl3 B1.out hb2); obtain ⟨g2, g3⟩ := C0.out _ B2.out; clear hb2))
  clear d0 d1 g0 g1 WK FI
  go_upto_region 6 with fail
  clear hu1 hu2 hr0 hn0 hn1
  go_upto_region 7 with (go_at_call 18; refine (GT2.out _ B2.out).mono ?_; rintro e w4 ⟨q, cq, F, rfl, g4, ga, hb4⟩; have G4 := hid g4; have GA4 := hid ga; have B4 := hid (bl3 B2.out hb4); obtain ⟨g4, g5⟩ := C0.out _ B4.out; clear hb4 ga)
  clear g2 g3 GT2 B1 B2
  obtain ⟨Y, oy, e0, _⟩ := far_at (F := F) G4.out hN
  subst e0
  have FA : Hid (∀ wq, Below w4.heap.size w4 wq → ∀ i, i < N → wq.cell? ⟨Y, oy + i, none⟩ = some (.int .i64 (F i))) := fun wq hb i hi => by
    obtain ⟨X, o, e1, hc⟩ := far_at (F := F) (G4.out.below hb) hi
    injection e1 with e1
    injection e1 with e1 e2 _
    rw [e1, e2]
    exact hc
  have C4 := hid (fun wq (hb : Below w4.heap.size w4 wq) => C0.out wq (bl3 B4.out hb))
  have WA4 := hid (fun wq (hb : Below w4.heap.size w4 wq) y (hy : y < N) => WA.out wq (bl3 B4.out hb) y hy)
  have WO4 := hid (fun wq (hb : Below w4.heap.size w4 wq) d => WO.out wq (bl3 B4.out hb) d)
  have BB : Hid (Below w.heap.size w w4) := bl3 BW.out B4.out
  obtain ⟨sz, hsz⟩ : ∃ sz, sz = w.heap.size := ⟨_, rfl⟩
  rw [← hsz] at C4
  rw [← hsz]
  clear hsz C0 WA WO BW B4 hW GV G4
  clear g4 g5
  obtain ⟨g6, g7⟩ := C4.out w4 (Below.refl _ _)
  go_wp2_with fail
  clear g6 g7
  go_loopw [7] (fun v7 wr => ∃ (n : Nat) (wk : World), v7 = .int .i64 n ∧ wk = wr ∧ n ≤ N ∧ Hid (Below w4.heap.size w4 wk)) (fun v7 _ => N - (intOf v7).toNat)
  case atStart => exact ⟨0, _, rfl, rfl, Nat.zero_le _, Below.refl _ _⟩
  case round =>
    obtain ⟨n, wr, rfl, rfl, hn, HB⟩ := hrel
    obtain ⟨d0, d1⟩ := C4.out wr HB.out
    by_cases hlt : n < N
    · have hni : (n : Int) < (N : Nat) := by omega
      by_cases hnr : n = r
      · have q1 : ((n : Int) == (r : Nat)) = true := by simp [hnr]
        have q3 := FA.out wr HB.out n hlt
        rw [ga_no (GA4.out n) (Or.inl hnr)] at q3
        clear hnr
        go_wp2_with fail
        go_roundw
        case rel => exact ⟨n + 1, _, by go_num, rfl, by omega, HB⟩
        case measure => simp [intOf]; omega
      · have q1 : ((n : Int) == (r : Nat)) = false := by simp; omega
        have q2 : ¬ (n : Int) = (r : Nat) := by omega
        have WY := hid (WA4.out wr HB.out n hlt)
        cases hw : wayB E r n with
        | false =>
          rw [hw] at WY
          have Q3 := hid (fun wq (hb : Below w4.heap.size w4 wq) => FA.out wq hb n hlt)
          rw [ga_no (GA4.out n) (Or.inr hw)] at Q3
          clear hw hnr
          go_wp2_with (go_at_call 23; refine WY.out.mono ?_; rintro e w5 ⟨rfl, hb5⟩; have B5 := hid (bl3 HB.out hb5); have q3 := Q3.out _ B5.out; clear hb5)
          go_roundw
          case rel => exact ⟨n + 1, _, by go_num, rfl, by omega, B5⟩
          case measure => simp [intOf]; omega
        | true =>
          rw [hw] at WY
          obtain ⟨g, hF, hgN, hgn, hl⟩ := GYES.out n _ (GA4.out n) hnr hw
          have HL := hid hl
          have HR := hid (way_yes.1 hw)
          have Q3 := hid (fun wq (hb : Below w4.heap.size w4 wq) => FA.out wq hb n hlt)
          rw [hF] at Q3
          clear hw hl hF
          go_upto_region 15 with (go_at_call 23; refine WY.out.mono ?_; rintro e w5 ⟨rfl, hb5⟩; have B5 := hid (bl3 HB.out hb5); have q3 := Q3.out _ B5.out; clear hb5)
          clear q1 q2 d0 d1 WY HB
          have n3 : ¬ (g : Int) < 0 := by omega
          have n4 : ¬ (N : Int) ≤ (g : Nat) := by omega
          have n5 : ((g : Int) == (n : Nat)) = false := by simp; omega
          have n6 : ¬ (g : Int) = (n : Nat) := by omega
          clear q3
          refine gg15 hni n3 n4 n5 n6 (fun d os => Q3.out _ (bl3 B5.out (below_regrown w5 d os))) (fun d os => (C4.out _ (bl3 B5.out (below_regrown w5 d os))).1) ?_
          intro dd os
          have B6 := hid (bl3 B5.out (below_regrown w5 dd os))
          generalize Sort.grow (redrawn w5 dd) os = w6 at *
          clear n3 n4 n5 n6 B5
          go_wp2_with fail
          go_loopw [8] (fun v8 wq => ∃ (d : Nat) (wk : World), v8 = .int .i64 d ∧ wk = wq ∧ d ≤ N ∧ Hid (Below w4.heap.size w4 wk)) (fun v8 _ => N - (intOf v8).toNat)
          case atStart => exact ⟨0, _, rfl, rfl, Nat.zero_le _, B6⟩
          case round =>
            obtain ⟨d, wq, rfl, rfl, hd, HD⟩ := hrel
            clear B6
            obtain ⟨d0, d1⟩ := C4.out wq HD.out
            by_cases hlt2 : d < N
            · have hdi : (d : Int) < (N : Nat) := by omega
              by_cases hdn : d = n
              · have q1 : ((d : Int) == (n : Nat)) = true := by simp [hdn]
                clear hdn
                go_wp2_with fail
                go_roundw
                case rel => exact ⟨d + 1, _, by go_num, rfl, by omega, HD⟩
                case measure => simp [intOf]; omega
              · have q1 : ((d : Int) == (n : Nat)) = false := by simp; omega
                have q2 : ¬ (d : Int) = (n : Nat) := by omega
                by_cases hdr : d = r
                · have q3 : ((d : Int) == (r : Nat)) = true := by simp [hdr]
                  clear hdr
                  go_wp2_with fail
                  go_roundw
                  case rel => exact ⟨d + 1, _, by go_num, rfl, by omega, HD⟩
                  case measure => simp [intOf]; omega
                · have q3 : ((d : Int) == (r : Nat)) = false := by simp; omega
                  have q4 : ¬ (d : Int) = (r : Nat) := by omega
                  have WO5 := hid (WO4.out wq HD.out d)
                  have WN5 := hid (fun W' q cq h => WN.out W' d q cq h n hlt)
                  have WN6 := hid (fun W' q cq h => WN.out W' d q cq h g hgN)
                  go_upto_region 22 with (first
                    | (go_at_call 30; refine WO5.out.mono ?_; rintro e w7 ⟨q7, c7, rfl, g7, hb7⟩; have G7 := hid g7; have B7 := hid (bl3 HD.out hb7); clear g7 hb7)
                    | (go_at_call 23; refine (WN5.out _ _ _ G7.out).mono ?_; rintro e w8 ⟨rfl, hb8⟩; have B8 := hid (bl3 B7.out hb8); clear hb8))
                  clear q1 q2 q3 q4 d0 d1 HD WO5 WN5 G7 B7
                  have E8 := hid (fun d' os => bl3 B8.out (below_regrown w8 d' os))
                  by_cases hdg : d = g
                  · subst hdg
                    rw [gg_at HL.out hdr]
                    refine gg22a hni (fun d' os => Q3.out _ (E8.out d' os)) ?_
                    intro dd2 os2
                    have B9 := hid (E8.out dd2 os2)
                    generalize Sort.grow (redrawn w8 dd2) os2 = w9 at *
                    clear E8 B8
                    go_wp2_with fail
                    go_roundw
                    case rel => exact ⟨d + 1, _, by go_num, rfl, by omega, B9⟩
                    case measure => simp [intOf]; omega
                  · have r1 : ((d : Int) == (g : Nat)) = false := by simp; omega
                    have r2 : ¬ (d : Int) = (g : Nat) := by omega
                    cases hb : wayB (woL E d) r n with
                    | true =>
                      refine gg22b hni r1 r2 (fun d' os => Q3.out _ (E8.out d' os)) ?_
                      intro dd2 os2
                      have B9 := hid (E8.out dd2 os2)
                      generalize Sort.grow (redrawn w8 dd2) os2 = w9 at *
                      clear E8 B8
                      go_wp2_with fail
                      go_roundw
                      case rel => exact ⟨d + 1, _, by go_num, rfl, by omega, B9⟩
                      case measure => simp [intOf]; omega
                    | false =>
                      have r3 : ((d : Int) != (g : Nat)) = true := by simp; omega
                      rw [gg_of HR.out HL.out hdr hdn hdg hb] at WN6
                      refine gg22c hni r1 r3 r2 (fun W' hb => ⟨Q3.out _ (bl3 B8.out hb), C4.out _ (bl3 B8.out hb)⟩) (fun W' hb => WO4.out W' (bl3 B8.out hb) d) (fun W' q c h => WN6.out W' q c h) ?_
                      intro w9 _ _ _ _ _ _ _ _ _ _ _ _ _ _ _ _ _ _ _ _ _ _ _ _ _ _ _ _ _ _ _ hb9
                      have B9 := hid (bl3 B8.out hb9)
                      clear E8 B8 hb9
                      go_wp2_with fail
                      go_roundw
                      case rel => exact ⟨d + 1, _, by go_num, rfl, by omega, B9⟩
                      case measure => simp [intOf]; omega
            · obtain rfl : d = N := by omega
              go_wp2_with fail
              go_roundw
              case rel => exact ⟨n + 1, _, by go_num, rfl, by omega, HD⟩
              case measure => simp [intOf]; omega
    · obtain rfl : n = N := by omega
      go_wp2_with fail
      go_ret
      exact ⟨rfl, bl3 BB.out HB.out⟩
end Go.Proofs.Ytghkhceplpjegaa
