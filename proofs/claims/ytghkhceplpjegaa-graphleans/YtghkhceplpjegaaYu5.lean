/- Graph: the document's Gates, walked, where the graph and the root are right. -/
import Derived.Test.YtghkhceplpjegaaYu3
import Derived.Test.YtghkhceplpjegaaYu4
import Derived.Test.YtghkhceplpjegaaYf8
namespace Go.Proofs.Ytghkhceplpjegaa
open Go.RowKit

set_option maxRecDepth 100000 in
set_option maxHeartbeats 64000000 in
theorem rGates_main (w : World) (N : Nat) (E : List (Nat × Nat)) (hg : GOK N E) (p : Option Addr) (c : Nat) (hv : GS KE w (.slice p E.length c) (eI E)) (r : Nat) (hr : r < N) : Calls Try.prog 19 #[.agg #[.int .i64 N, .slice p E.length c], .int .i64 r] w fun e w' => ∃ bo, e = .returned (.tuple #[.slice (some ⟨bo, 0, none⟩) N N, .int .i64 0]) ∧ GS KI w' (.slice (some ⟨bo, 0, none⟩) N N) ((List.range N).map (gdF N E r)) ∧ Below w.heap.size w w' := by
  have NB : N ≤ 4096 := hg.n
  generalize hW : w.alloc (.cells #[.int .i64 N, .slice p E.length c] 24) = W
  obtain ⟨bw, c0⟩ := graph_box w N p E.length c hW
  have BW := hid bw
  have C0 := hid c0
  obtain ⟨d0, d1⟩ := c0 W (Below.refl _ _)
  have CK := hid (rcheck_any W N _ (eI E) (hv.below bw))
  rw [hg.chk] at CK
  have ND := hid (fun W' => rnode_any W' N (r : Int) p E.length c)
  have ndr : ndB N (r : Int) = true := by unfold ndB; simp; omega
  rw [ndr] at ND
  have CW := hid (fun W' u (d : Int) (hb : Below w.heap.size w W') (hu : GS KI W' u [(r : Int)]) => ways_any W' N _ E hg (hv.below hb) u [r] hu (fun f hf => by rw [List.mem_singleton] at hf; rw [hf]; exact hr) (by simp) d)
  obtain ⟨el, hel⟩ : ∃ el, el = E.length := ⟨_, rfl⟩
  rw [← hel] at C0 d1 hW CW ND CK ⊢
  clear hg hv hel ndr bw c0
  go_enter Try.func19, Try.ntmps19
  go_upto_region 1 with fail
  go_upto_region 4 with (go_at_call 37; refine CK.out.mono ?_; rintro e w1 ⟨rfl, b1⟩; have B1 := hid b1; obtain ⟨x0, x1⟩ := C0.out _ b1; clear b1)
  go_upto_region 6 with (go_at_call 49; refine (ND.out _).mono ?_; rintro e w2 ⟨rfl, b2⟩; have B2 := hid (bl3 B1.out b2); obtain ⟨y0, y1⟩ := C0.out _ B2.out; clear b2)
  clear x0 x1 d0 d1 CK ND B1
  have LIT : Hid (∀ W', Below W.heap.size W W' → GS KI (W'.alloc (.cells #[.int .i64 (r : Nat)] 3)) (.slice (some ⟨W'.heap.size, 0, none⟩) 1 1) [(r : Int)] ∧ Below W.heap.size W (W'.alloc (.cells #[.int .i64 (r : Nat)] 3))) := fun W' hb => ⟨(own_of (l := [(r : Int)]) (base := W'.heap.size) (heap_alloc_new _ _) (Nat.le_refl _) (by show 1 ≤ maxLen; decide)).gs KI_ok.len, bl3 hb (bal _ _)⟩
  go_upto_region 7 with (go_at_call 42; refine (CW.out _ _ (-1) (bl3 BW.out (LIT.out _ B2.out).2) (LIT.out _ B2.out).1).mono ?_; rintro e w3 ⟨bs, rfl, o3, b3⟩; have O3 : Hid (LFB w3 W.heap.size bs N (wyB E (-1) [r])) := OwnG.low o3 (LIT.out _ B2.out).2.size; have B3 := hid (bl3 (LIT.out _ B2.out).2 b3); obtain ⟨z0, z1⟩ := C0.out _ B3.out; clear o3 b3)
  clear y0 y1
  go_upto_region 8 with (refine make_g KI KI_ok 0 rfl rfl w3 rfl (.tmp 30) (.tmp 30) 25 rfl Try.underlying25 N rfl rfl (by omega) (by decide) ?_; intro w4 ho hb; have O4 := hid ho; have B4 := hid hb; obtain ⟨u0, u1⟩ := C0.out _ (bl3 B3.out hb); clear ho hb)
  go_upto_region 9 with (refine make_g KI KI_ok 0 rfl rfl w4 rfl (.tmp 33) (.tmp 33) 25 rfl Try.underlying25 N rfl rfl (by omega) (by decide) ?_; intro w5 ho hb; have O5 := hid ho; have B5 := hid hb; obtain ⟨v0, v1⟩ := C0.out _ (bl3 (bl3 B3.out B4.out) hb); clear ho hb)
  go_upto_region 10 with (refine make_g KT KT_ok sl0 rfl rfl w5 rfl (.tmp 36) (.tmp 36) 73 rfl Try.underlying73 N rfl rfl (by omega) (by decide) ?_; intro w6 ho hb; have O6 := hid ho; have B6 := hid hb; clear ho hb)
  clear z0 z1 u0 u1 v0 v1
  have G0 : Hid (DG W N bs w3.heap.size w4.heap.size w5.heap.size (wyB E (-1) [r]) (o1F 0) (dpF E r 0) (fun _ => sl0) (hhB E r 0) (goB E r) w6) := by
    have s3 := B3.out.size
    have s4 := B4.out.size
    have s5 := B5.out.size
    have l4 := LFR.lt (LFR.zero O4.out)
    refine ⟨bl3 B3.out (bl3 B4.out (bl3 B5.out B6.out)), OwnG.below O3.out (bl3 B4.out (bl3 B5.out B6.out)), ?_, ?_, ?_, fun i hi => (hhB_zero hi).elim, by omega⟩
    · exact ((LFR.zero (OwnG.below O4.out (bl3 B5.out B6.out))).eq fun x => by unfold o1F; rw [if_neg (by omega)]).low (by omega)
    · exact ((LFR.zero (OwnG.below O5.out B6.out)).eq fun x => by unfold dpF ris; simp).low (by omega)
    · exact OwnG.low (LFT.none O6.out) (by omega)
  obtain ⟨sz, hsz⟩ : ∃ sz, sz = w.heap.size := ⟨_, rfl⟩
  obtain ⟨bo, hbo⟩ : ∃ bo, bo = w3.heap.size := ⟨_, rfl⟩
  obtain ⟨bd, hbd⟩ : ∃ bd, bd = w4.heap.size := ⟨_, rfl⟩
  obtain ⟨bt, hbt⟩ : ∃ bt, bt = w5.heap.size := ⟨_, rfl⟩
  rw [← hbo, ← hbd, ← hbt] at G0
  rw [← hbo, ← hbd, ← hbt, ← hsz]
  rw [← hsz] at C0
  clear hbo hbd hbt hsz O3 O4 O5 O6 B2 B3 B4 B5 B6 hW
  go_wp2_with fail
  go_loopw [11] (fun v11 wr => ∃ (n : Nat) (V : Nat → Sl) (wk : World), v11 = .int .i64 n ∧ wk = wr ∧ n ≤ N ∧ Hid (DG W N bs bo bd bt (wyB E (-1) [r]) (o1F n) (dpF E r n) V (hhB E r n) (goB E r) wk)) (fun v11 _ => N - (intOf v11).toNat)
  case atStart => exact ⟨0, _, _, rfl, rfl, Nat.zero_le _, G0⟩
  case round =>
    obtain ⟨n, V, wr, rfl, rfl, hn, HD⟩ := hrel
    clear G0
    obtain ⟨d0, d1⟩ := C0.out wr HD.out.bl
    by_cases hlt : n < N
    · have hni : (n : Int) < (N : Nat) := by omega
      obtain ⟨o0, o1⟩ := HD.out.ou.at hlt
      have HD1 := hid ((HD.out.out n (-1)).eq (D' := dpF E r n) (fun x _ => o1F_succ n x) (fun x _ => rfl))
      generalize o1F n n = on at *
      clear HD
      go_upto_region 14 with fail
      clear o0 o1 d0 d1
      generalize wr.setCell ⟨bo, n, none⟩ (.int .i64 (-1)) = w1 at *
      have a0 := (HD1.out.al.at hlt).1
      by_cases hnr : n = r
      · have NX := hid ((HD1.out.eq (F' := o1F (n + 1)) (fun x _ => rfl) (fun x _ => dpF_skip (Or.inl hnr) x)).less fun i hi => hhB_skip (Or.inl hnr) hi)
        have q1 : ((n : Int) == (r : Nat)) = true := by simp [hnr]
        clear HD1 hnr a0
        go_wp2_with fail
        go_roundw
        case rel => exact ⟨n + 1, V, _, by go_num, rfl, by omega, NX⟩
        case measure => simp [intOf]; omega
      · have q1 : ((n : Int) == (r : Nat)) = false := by simp; omega
        have q2 : ¬ (n : Int) = (r : Nat) := by omega
        cases hA : wyB E (-1) [r] n with
        | false =>
          rw [hA] at a0
          have NX := hid ((HD1.out.eq (F' := o1F (n + 1)) (fun x _ => rfl) (fun x _ => dpF_skip (Or.inr hA) x)).less fun i hi => hhB_skip (Or.inr hA) hi)
          clear HD1 hnr hA
          go_wp2_with fail
          go_roundw
          case rel => exact ⟨n + 1, V, _, by go_num, rfl, by omega, NX⟩
          case measure => simp [intOf]; omega
        | true =>
          rw [hA] at a0
          have GB := hid (fun k => goB_is (k := k) hnr hA)
          obtain ⟨d0, d1⟩ := C0.out w1 HD1.out.bl
          clear hnr hA
          go_upto_region 15 with fail
          clear a0 q1 q2
          go_upto_region 16 with (refine make_g KB KB_ok false rfl rfl w1 rfl (.tmp 60) (.tmp 60) 49 rfl Try.underlying49 N rfl rfl (by omega) (by decide) ?_; intro w2 ho hb; have O2 := hid (LFB.none ho); have B2 := hid hb; obtain ⟨t0, t1⟩ := LFT.at (OwnG.below HD1.out.lo hb : LFT w2 W.heap.size bt N V) hlt; clear ho hb)
          clear d0 d1 t0 t1
          obtain ⟨bn, hbn⟩ : ∃ bn, bn = w1.heap.size := ⟨_, rfl⟩
          have BS : Hid (Below W.heap.size W (w2.setCell ⟨bt, n, none⟩ (.slice (some ⟨bn, 0, none⟩) N N))) := (bl3 HD1.out.bl B2.out).setCell (p := ⟨bt, n, none⟩) HD1.out.lo.lt.1 _
          rw [← hbn]
          have O2' : Hid (LFB w2 w1.heap.size bn N (fun _ => false)) := by rw [hbn]; exact O2.out
          have hws : Hid ((w2.setCell ⟨bt, n, none⟩ (.slice (some ⟨bn, 0, none⟩) N N)).heap.size = w2.heap.size) := by show _ = _; simp [World.setCell]
          have DR := hid (fun w3 bx h2 b2 => HD1.out.row n (W1 := w2) (W2 := w3) (bn := bn) (bx := bx) (T := wyB E n [r]) O2'.out B2.out h2 b2)
          rw [← hws.out] at DR
          generalize w2.setCell ⟨bt, n, none⟩ (.slice (some ⟨bn, 0, none⟩) N N) = ws at *
          obtain ⟨d0, d1⟩ := C0.out ws BS.out
          clear hbn O2 O2' B2 hws
          go_upto_region 18 with (go_at_call 42; refine (CW.out _ _ (n : Nat) (bl3 BW.out (LIT.out _ BS.out).2) (LIT.out _ BS.out).1).mono ?_; rintro e w3 ⟨bx, rfl, o3, b3⟩; have I0 := hid (DR.out w3 bx (OwnG.low o3 (bal ws _).size) (bl3 (bal ws _) b3)); clear o3 b3)
          clear d0 d1 DR BS
          go_wp2_with fail
          go_loopw [13] (fun v13 wq => ∃ (k : Nat) (wk : World), v13 = .int .i64 k ∧ wk = wq ∧ k ≤ N ∧ Hid (DI W w1 N bs bd bt bn bx (wyB E (-1) [r]) (wyB E n [r]) (dpJ E r n k) (upV V n (some ⟨bn, 0, none⟩, N, N)) (rwF E r n k) wk)) (fun v13 _ => N - (intOf v13).toNat)
          case atStart => exact ⟨0, _, rfl, rfl, Nat.zero_le _, I0.out.eq (fun x _ => dpJ_zero E r n x) (fun x _ => rwF_zero E r n x)⟩
          case round =>
            obtain ⟨k, wq, rfl, rfl, hk, HI⟩ := hrel
            clear I0
            obtain ⟨d0, d1⟩ := C0.out wq HI.out.bl
            by_cases hlt2 : k < N
            · have hki : (k : Int) < (N : Nat) := by omega
              go_upto_region 20 with fail
              clear d0 d1
              refine dg20 HI.out (by unfold upV; rw [if_pos rfl]) hlt hlt2 (GB.out k) ?_
              intro w8 _ _ _ _ _ _ _ _ _ _ _ _ _ _ _ _ _ _ _ _ _ _ _ _ _ _ _ hI
              have HJ := hid hI
              have t9 := (hI.lo.at hlt).1
              have t1 : upV V n (some ⟨bn, 0, none⟩, N, N) n = (some ⟨bn, 0, none⟩, N, N) := by unfold upV; rw [if_pos rfl]
              rw [t1] at t9
              have t0 : w8.cell? ⟨bt, n, none⟩ = some (.slice (some ⟨bn, 0, none⟩) N N) := t9
              clear t9
              have t2 := (hI.rn.at hlt2).1
              have t3 : upB (rwF E r n k) k (goB E r n k) k = goB E r n k := by unfold upB; rw [if_pos rfl]
              rw [t3] at t2
              obtain ⟨t4, t5⟩ := hI.de.at hlt2
              rw [dpJ_at] at t4
              obtain ⟨f0, f1⟩ := dpF_bd E r n k
              have RW := hid (rwF_succ E r n k)
              clear HI hI t1 t3
              cases hgo : goB E r n k with
              | true =>
                rw [hgo] at t2
                have NX := hid ((HJ.out.deep k (dpF E r n k + 1)).eq (fun x _ => dpJ_yes hgo x) (fun x _ => RW.out x))
                generalize dpF E r n k = f at *
                clear HJ hgo RW
                go_wp2_with fail
                go_roundw
                case rel => exact ⟨k + 1, _, by go_num, rfl, by omega, NX⟩
                case measure => simp [intOf]; omega
              | false =>
                rw [hgo] at t2
                have NX := hid (HJ.out.eq (fun x _ => dpJ_no hgo x) (fun x _ => RW.out x))
                clear HJ hgo RW t4 t5 f0 f1
                go_wp2_with fail
                go_roundw
                case rel => exact ⟨k + 1, _, by go_num, rfl, by omega, NX⟩
                case measure => simp [intOf]; omega
            · obtain rfl : k = N := by omega
              have NX := hid (HD1.out.next (H' := hhB E r (n + 1)) (HI.out.eq (fun x hx => dpJ_all hx) (fun x hx => rwF_all hx)) (fun i h1 h2 => hhB_next h1 h2))
              clear HI HD1
              go_wp2_with fail
              go_roundw
              case rel => exact ⟨n + 1, _, _, by go_num, rfl, by omega, NX⟩
              case measure => simp [intOf]; omega
    · obtain rfl : n = N := by omega
      have G1 := hid (HD.out.eq (F' := o2F n E r 0) (D' := dpF E r n) (fun x hx => o2F_zero n E r hx) (fun x _ => rfl))
      clear HD hlt hn
      go_wp2_with fail
      clear d0 d1
      go_loopw [14] (fun v14 wq => ∃ (k : Nat) (wk : World), v14 = .int .i64 k ∧ wk = wq ∧ k ≤ n ∧ Hid (DG W n bs bo bd bt (wyB E (-1) [r]) (o2F n E r k) (dpF E r n) V (hhB E r n) (goB E r) wk)) (fun v14 _ => n - (intOf v14).toNat)
      case atStart => exact ⟨0, _, rfl, rfl, Nat.zero_le _, G1⟩
      case round =>
        obtain ⟨k, wq, rfl, rfl, hk, HD⟩ := hrel
        clear G1
        obtain ⟨d0, d1⟩ := C0.out wq HD.out.bl
        by_cases hlt : k < n
        · have hki : (k : Int) < (n : Nat) := by omega
          have a0 := (HD.out.al.at hlt).1
          by_cases hkr : k = r
          · have NX := hid (HD.out.eq (D' := dpF E r n) (fun x _ => o2F_skip (Or.inl hkr) x) (fun x _ => rfl))
            have q1 : ((k : Int) == (r : Nat)) = true := by simp [hkr]
            clear HD hkr a0
            go_wp2_with fail
            go_roundw
            case rel => exact ⟨k + 1, _, by go_num, rfl, by omega, NX⟩
            case measure => simp [intOf]; omega
          · have q1 : ((k : Int) == (r : Nat)) = false := by simp; omega
            have q2 : ¬ (k : Int) = (r : Nat) := by omega
            cases hA : wyB E (-1) [r] k with
            | false =>
              rw [hA] at a0
              have NX := hid (HD.out.eq (D' := dpF E r n) (fun x _ => o2F_skip (Or.inr hA) x) (fun x _ => rfl))
              clear HD hkr hA
              go_wp2_with fail
              go_roundw
              case rel => exact ⟨k + 1, _, by go_num, rfl, by omega, NX⟩
              case measure => simp [intOf]; omega
            | true =>
              rw [hA] at a0
              obtain ⟨o0, o1⟩ := HD.out.ou.at hlt
              generalize o2F n E r k k = ok at o0
              have I0 := hid ((HD.out.out k (r : Nat)).eq (D' := dpF E r n) (fun x _ => o3F_zero n E r k x) (fun x _ => rfl))
              have KR := hid (And.intro hkr hA)
              clear HD hkr hA
              go_upto_region 28 with fail
              clear a0 q1 q2 o0 o1 d0 d1
              generalize wq.setCell ⟨bo, k, none⟩ (.int .i64 (r : Nat)) = w1 at *
              go_wp2_with fail
              go_loopw [15] (fun v15 wz => ∃ (m : Nat) (wk : World), v15 = .int .i64 m ∧ wk = wz ∧ m ≤ n ∧ Hid (DG W n bs bo bd bt (wyB E (-1) [r]) (o3F n E r k m) (dpF E r n) V (hhB E r n) (goB E r) wk)) (fun v15 _ => n - (intOf v15).toNat)
              case atStart => exact ⟨0, _, rfl, rfl, Nat.zero_le _, I0⟩
              case round =>
                obtain ⟨m, wz, rfl, rfl, hm, HI⟩ := hrel
                clear I0
                obtain ⟨d0, d1⟩ := C0.out wz HI.out.bl
                by_cases hlt2 : m < n
                · have hmi : (m : Int) < (n : Nat) := by omega
                  have hb := bsG_lt (E := E) (k := k) hr hm
                  go_upto_region 31 with fail
                  clear d0 d1
                  have hc : (goB E r m k && (decide (bsG n E r k m = r) || decide (dpF E r n (bsG n E r k m) < dpF E r n m))) = (decide (m ≠ r) && (wyB E (-1) [r] m && (goB E r m k && (decide (bsG n E r k m = r) || decide (dpF E r n (bsG n E r k m) < dpF E r n m))))) := by
                    by_cases e1 : m = r
                    · rw [goB_no (Or.inl e1)]; simp
                    · cases e2 : wyB E (-1) [r] m with
                      | false => rw [goB_no (Or.inr e2)]; simp
                      | true => simp [e1]
                  have hgc : (goB E r m k && (decide (bsG n E r k m = r) || decide (dpF E r n (bsG n E r k m) < dpF E r n m))) = true ↔ (goB E r m k = true ∧ (bsG n E r k m = r ∨ dpF E r n (bsG n E r k m) < dpF E r n m)) := by
                    simp only [Bool.and_eq_true, Bool.or_eq_true, decide_eq_true_iff]
                  refine dg31 HI.out (fun h1 h2 => hhB_all hlt2 h1 h2) hlt2 hlt (o3F_at n E r k m) hb hc ?_
                  generalize (goB E r m k && (decide (bsG n E r k m = r) || decide (dpF E r n (bsG n E r k m) < dpF E r n m))) = g at *
                  intro w8 _ _ _ _ _ _ _ _ _ _ _ _ _ _ _ _ _ _ _ _ _ _ _ _ _ _ _ _ _ _ _ _ _ _ _ _ _ _ _ hI
                  have HJ := hid hI
                  obtain ⟨t4, t5⟩ := hI.ou.at hlt
                  generalize o3F n E r k m k = f at t4
                  clear HI hI hc hb
                  cases g with
                  | true =>
                    have NX := hid ((HJ.out.out k (m : Nat)).eq (D' := dpF E r n) (fun x _ => o3F_yes (hgc.1 rfl) x) (fun x _ => rfl))
                    clear HJ hgc
                    go_wp2_with fail
                    go_roundw
                    case rel => exact ⟨m + 1, _, by go_num, rfl, by omega, NX⟩
                    case measure => simp [intOf]; omega
                  | false =>
                    have NX := hid (HJ.out.eq (D' := dpF E r n) (fun x _ => o3F_no (fun q => by have := hgc.2 q; cases this) x) (fun x _ => rfl))
                    clear HJ hgc t4 t5
                    go_wp2_with fail
                    go_roundw
                    case rel => exact ⟨m + 1, _, by go_num, rfl, by omega, NX⟩
                    case measure => simp [intOf]; omega
                · obtain rfl : m = n := by omega
                  have NX := hid (HI.out.eq (D' := dpF E r m) (fun x _ => o3F_all KR.out.1 KR.out.2 x) (fun x _ => rfl))
                  clear HI KR
                  go_wp2_with fail
                  go_roundw
                  case rel => exact ⟨k + 1, _, by go_num, rfl, by omega, NX⟩
                  case measure => simp [intOf]; omega
        · obtain rfl : k = n := by omega
          have FIN := hid (HD.out.ou.eqN fun x hx => o2F_all hx)
          have FB := hid HD.out.bl
          clear HD
          go_wp2_with fail
          go_ret2
          exact ⟨bo, rfl, OwnG.gs KI_ok.len FIN.out, bl3 BW.out FB.out⟩
end Go.Proofs.Ytghkhceplpjegaa
