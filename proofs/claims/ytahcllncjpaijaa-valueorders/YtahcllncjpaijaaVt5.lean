/- Values: the reference's Sort of right values. -/
import Derived.Test.YtahcllncjpaijaaVt4
namespace Go.Proofs.Ytahcllncjpaijaa
open Go.RowKit

set_option maxHeartbeats 16000000 in
set_option maxRecDepth 100000 in
theorem rsort_ok (v : Value) (L : List Vx) (w : World) (T : List Vt) (h : VR w v L) (ht : VT L) (hz : allE (aL L) = 0) (hT : aL L = T.map flV) (hr : ∀ t ∈ T, RT t) :
    Calls Try.prog 23 #[v] w fun e w' => ∃ S, S.Perm T ∧ Srt S ∧ AnsS w w' e (S.map flV) 0 := by
  obtain ⟨p, cap, rfl⟩ := h.gs.form
  have hlen : T.length = L.length := by rw [← aL_len L, hT, List.length_map]
  have hn : L.length ≤ 4096 := by have := (allE_zero hz).1; rw [aL_len] at this; exact this
  have CA : Hid (Calls Try.prog 27 #[.slice p L.length cap] w fun e w' => e = .returned (.int .i64 0) ∧ Below w.heap.size w w') := by have := rfirst_any (.slice p L.length cap) L w h ht; rw [(allE_zero hz).2] at this; exact this
  have HV : Hid (∀ w', Below w.heap.size w w' → VR w' (.slice p L.length cap) L) := fun w' b => h.below b
  have HA : Hid (∀ k (h1 : k < L.length) (h2 : k < T.length), L[k].a = flV T[k]) := fun k h1 h2 => by
    have e1 := aL_at h1
    rw [← e1]
    simp [hT]
  have HR : Hid (∀ t ∈ T, RT t) := hr
  have HVT : Hid (∀ t ∈ T, AT (flV t)) := fun t htm => by
    have : flV t ∈ aL L := by rw [hT]; exact List.mem_map.2 ⟨t, htm, rfl⟩
    obtain ⟨x, hx, e⟩ := List.mem_map.1 this
    rw [← e]; exact ht.t x hx
  have HLN : Hid (T.length = L.length) := hlen
  clear h ht hz hT hr hlen
  generalize hnn : L.length = n at CA hn ⊢
  have HN : Hid (L.length = n) := hnn
  clear hnn
  go_enter Try.func23, Try.ntmps23
  go_wp2_with (go_at_call 27; refine CA.out.mono ?_; rintro e w1 ⟨rfl, b⟩; have B1 : Hid (Below w.heap.size w w1) := b; clear b)
  have S0 : Hid (S3 w (w1.alloc (.cells #[] 24)) (.slice (some ⟨w1.heap.size, 0, none⟩) 0 0) T [] [] 0) := ⟨(OwnG.empty KV w1).low B1.out.size, rfl, (fun x hx => by cases hx), List.Perm.refl _, List.Pairwise.nil, B1.out.alloc B1.out.size _⟩
  generalize World.alloc _ _ = w2 at *
  clear CA B1
  go_loopw [5, 6] (fun v5 v6 wr => ∃ (i ml cp : Nat) (q : Option Addr) (S : List Vt) (M : List Vx) (wk : World), v5 = .slice q ml cp ∧ v6 = .int .i64 i ∧ wk = wr ∧ i ≤ n ∧ ml ≤ i ∧ Hid (M.length = ml ∧ S.length = ml) ∧ Hid (S3 w wk (.slice q ml cp) T S M i)) (fun _ v6 _ => n - (intOf v6).toNat)
  case atStart => exact ⟨0, 0, 0, _, [], [], _, rfl, rfl, rfl, Nat.zero_le _, Nat.zero_le _, ⟨rfl, rfl⟩, S0⟩
  case round =>
    obtain ⟨i, ml, cp, q, S, M, wr, rfl, rfl, rfl, hi, hml, HM, HS⟩ := hrel
    clear S0
    by_cases hlt : i < n
    · have hiL : i < L.length := by rw [HN.out]; exact hlt
      have hiT : i < T.length := by rw [HLN.out]; exact hiL
      obtain ⟨X, o, e1, x0⟩ := (HV.out wr HS.out.bl).gs.atV hiL
      obtain rfl : p = some ⟨X, o, none⟩ := e1
      have ea := HA.out i hiL hiT
      obtain ⟨t, htt⟩ : ∃ t, t = T[i] := ⟨_, rfl⟩
      have rt : RT t := by rw [htt]; exact HR.out _ (List.getElem_mem _)
      have att : AT (flV t) := by rw [htt]; exact HVT.out _ (List.getElem_mem _)
      have HTI : Hid (T.take (i + 1) = T.take i ++ [t]) := by show _ = _; rw [List.take_add_one, List.getElem?_eq_getElem hiT, htt]; rfl
      obtain ⟨lq, hlq⟩ : ∃ lq, lq = L[i].q := ⟨_, rfl⟩
      obtain ⟨lc, hlc⟩ : ∃ lc, lc = L[i].c := ⟨_, rfl⟩
      have hfl : (flV t).length = szV t := rfl
      have XA : Hid (∀ w', Below w.heap.size w w' → w'.cell? ⟨X, o + i, none⟩ = some (.slice lq (szV t) lc) ∧ AS w' (.slice lq (szV t) lc) (flV t)) := fun w' b => by
        have vr := HV.out w' b
        obtain ⟨X', o', e', y0⟩ := vr.gs.atV hiL
        injection e' with e'
        injection e' with a1 a2 _
        subst a1 a2
        have av := vr.av _ (List.getElem_mem hiL)
        unfold Vx.v at av
        rw [ea, ← htt, ← hlq, ← hlc, hfl] at y0 av
        exact ⟨y0, av⟩
      have hsz := rt.sz
      have HRT : Hid (RT t ∧ AT (flV t)) := ⟨rt, att⟩
      have SW : Hid (∀ s ∈ S, RT s ∧ AT (flV s)) := fun s hs => by
        have := List.mem_of_mem_take (HS.out.pm.subset hs)
        exact ⟨HR.out s this, HVT.out s this⟩
      clear x0 ea rt att hlq hlc hfl htt
      have P0 : Hid (S3 w wr (.slice q ml cp) T S M i ∧ ∀ j (hj : j < S.length), ml ≤ j → 0 < cmpV S[j] t) := ⟨HS.out, fun j hj h9 => by have := HM.out.2; omega⟩
      clear HS
      go_wp2_with fail
      go_loopw [7] (fun v7 wr => ∃ (a : Nat) (wk : World), v7 = .int .i64 a ∧ wk = wr ∧ a ≤ ml ∧ Hid (S3 w wk (.slice q ml cp) T S M i ∧ ∀ j (hj : j < S.length), a ≤ j → 0 < cmpV S[j] t)) (fun v7 _ => (intOf v7).toNat)
      case atStart => exact ⟨ml, _, rfl, rfl, Nat.le_refl _, P0⟩
      case round =>
        obtain ⟨a, wq, rfl, rfl, ha, HP⟩ := hrel
        clear P0
        by_cases ha0 : 0 < a
        · obtain ⟨am, ham⟩ : ∃ am, a = am + 1 := ⟨a - 1, by omega⟩
          obtain ⟨s3, s4⟩ := HP.out
          have hm1 := HM.out.1
          have hm2 := HM.out.2
          obtain ⟨X', o', e', y0⟩ := (s3.ow.gs KV_ok.len).atV (k := am) (by omega)
          obtain rfl : q = some ⟨X', o', none⟩ := e'
          have o'0 : o' = 0 := by
            rcases s3.ow.2 with ⟨e, _⟩ | ⟨g', cap', cur', e, _⟩
            · cases e
            · injection e with e _ _
              injection e with e
              injection e with _ e _
          subst o'0
          rw [Nat.zero_add] at y0
          have ex := s3.ea _ (List.getElem_mem (show am < M.length by omega))
          have et := s3.tree (k := am) (by omega) (by omega)
          obtain ⟨s, hs⟩ : ∃ s, s = S[am]'(by omega) := ⟨_, rfl⟩
          have rs := SW.out s (by rw [hs]; exact List.getElem_mem _)
          have ax : AS wq M[am].v M[am].a := ex.gs KA_ok.len
          unfold Vx.v at ax
          rw [et, ← hs] at ax y0
          obtain ⟨mq, hmq⟩ : ∃ mq, mq = M[am].q := ⟨_, rfl⟩
          obtain ⟨mc, hmc⟩ : ∃ mc, mc = M[am].c := ⟨_, rfl⟩
          have hfs : (flV s).length = szV s := rfl
          rw [← hmq, ← hmc, hfs] at ax y0
          obtain ⟨x0, at0⟩ := XA.out wq s3.bl
          have CM : Hid (∀ W, Below wq.heap.size wq W → Calls Try.prog 37 #[.slice mq (szV s) mc, .slice lq (szV t) lc] W fun e w' => e = .returned (.int .i64 (cmpV s t)) ∧ Below W.heap.size W w') := fun W b => rcompare_any (szV s) s t _ _ W (Nat.le_refl _) (GS.below ax b) (GS.below at0 b) rs.1 HRT.out.1 rs.2 HRT.out.2
          have KP : Hid (∀ W w5, Below wq.heap.size wq W → Below W.heap.size W w5 → S3 w w5 (.slice (some ⟨X', 0, none⟩) ml cp) T S M i ∧ w5.cell? ⟨X', am, none⟩ = some (.slice mq (szV s) mc) ∧ w5.cell? ⟨X, o + i, none⟩ = some (.slice lq (szV t) lc)) := fun W w5 b b' => by
            have bb := b.trans (b'.mono b.size)
            exact ⟨s3.below bb, (bb.cell (block_lt_of_cell y0)).trans y0, (bb.cell (block_lt_of_cell x0)).trans x0⟩
          have UP : Hid (0 < cmpV s t → ∀ j (hj : j < S.length), am ≤ j → 0 < cmpV S[j] t) := fun hc j hj h9 => by
            by_cases e : j = am
            · subst e; rw [← hs]; exact hc
            · exact s4 j hj (by omega)
          have LO : Hid (¬ 0 < cmpV s t → (∀ u ∈ S.take a, cmpV u t ≤ 0) ∧ ∀ j (hj : j < S.length), a ≤ j → 0 < cmpV S[j] t) := fun hc => ⟨by
            rw [ham]
            exact srt_low s3.sr (fun u hu => (SW.out u hu).1.wf) HRT.out.1.wf (by omega) (by rw [← hs]; omega), s4⟩
          have hcb := cmpV_bd s t
          have hj1 : (a : Int) - 1 = (am : Int) := by omega
          have hj2 : IntKind.i64.wrap (am : Int) = (am : Int) := by rw [IntKind.wrap_i64]; omega
          have k1 : (0 : Int) ≤ (am : Int) := by omega
          have k2 : (am : Int) < (ml : Int) := by omega
          have k3 : (0 : Int) ≤ (i : Int) := by omega
          have k4 : (i : Int) < (n : Int) := by omega
          have k5 : (0 : Int) < (a : Int) := by omega
          have HAM : Hid (a = am + 1) := ham
          generalize cmpV s t = cc at *
          clear HP s3 s4 hm1 hm2 ex et rs ax hs hmq hmc hfs at0 ham
          by_cases hc : 0 < cc
          · have U1 : Hid _ := UP.out hc
            clear UP LO
            go_wp2_with fail
            go_region_held3 (fun w' => w'.cell? ⟨X', am, none⟩ = some (.slice mq (szV s) mc) ∧ w'.cell? ⟨X, o + i, none⟩ = some (.slice lq (szV t) lc)) (go_keep) ((go_at_call 37; refine (CM.out _ (by first | exact (Below.refl _ _).drew | exact Below.refl _ _)).mono ?_; rintro e w5 ⟨rfl, b5⟩; obtain ⟨z1, z2, z3⟩ := KP.out _ w5 (by first | exact (Below.refl _ _).drew | exact Below.refl _ _) b5; have Z1 : Hid _ := z1; clear z1 b5))
            go_wp2_with fail
            go_roundw
            case rel => have := HAM.out; exact ⟨am, _, by go_num, rfl, by omega, ⟨Z1.out, U1.out⟩⟩
            case measure => have := HAM.out; simp [intOf]; omega
          · have L1 : Hid _ := LO.out hc
            have hc2 : cc ≤ 0 := by omega
            have hc3 : decide (0 < cc) = false := by simpa using hc
            clear UP LO
            go_wp2_with fail
            go_region_held3 (fun w' => w'.cell? ⟨X', am, none⟩ = some (.slice mq (szV s) mc) ∧ w'.cell? ⟨X, o + i, none⟩ = some (.slice lq (szV t) lc)) (go_keep) ((go_at_call 37; refine (CM.out _ (by first | exact (Below.refl _ _).drew | exact Below.refl _ _)).mono ?_; rintro e w5 ⟨rfl, b5⟩; obtain ⟨z1, z2, z3⟩ := KP.out _ w5 (by first | exact (Below.refl _ _).drew | exact Below.refl _ _) b5; have Z1 : Hid _ := z1; clear z1 b5))
            go_upto_region 13 with fail
            have O5 : Hid (OwnG KV w5 w.heap.size (.slice (some ⟨X', 0, none⟩) ml cp) M) := Z1.out.ow
            have B5 : Hid (w.heap.size ≤ w5.heap.size) := Z1.out.bl.size
            have LS : Hid ((M.length + 1) * KV.B ≤ 140737488355328) := by show (_ + 1) * 24 ≤ _; have := HM.out.1; omega
            have ST : Hid (∀ g8 c8 w8, OwnG KV w8 w.heap.size (.slice (some ⟨g8, 0, none⟩) (M.length + 1) c8) (M ++ [zVx]) → Below w.heap.size w5 w8 → (∀ j, j < w5.heap.size → some j ≠ (Value.slice (some ⟨X', 0, none⟩) ml cp).ownBlock → w8.heap[j]? = w5.heap[j]?) → S4 w w8 g8 (ml + 1) c8 M ml) := fun g8 c8 w8 o8 b8 k8 => by have := S4.start Z1.out o8 b8 k8; rw [HM.out.1] at this; exact this
            go_upto_region 15 with (at_builtin; refine append_g KV KV_ok rfl (.tmp 43) (.tmp 44) 22 rfl w.heap.size Try.underlying22 _ _ _ (.slice (some ⟨X', 0, none⟩) ml cp) M zVx _ rfl O5.out _ rfl rfl rfl LS.out B5.out ?_; intro g8 c8 w8 o8 b8 k8 _; have Q8 : Hid (S4 w w8 g8 (ml + 1) c8 M ml) := ST.out g8 c8 w8 o8 b8 k8; rw [HM.out.1]; clear o8 b8 k8)
            clear ST O5 B5 LS
            go_loopw [8] (fun v8 wr => ∃ (k : Nat) (wk : World), v8 = .int .i64 k ∧ wk = wr ∧ a ≤ k ∧ k ≤ ml ∧ Hid (S4 w wk g8 (ml + 1) c8 M k)) (fun v8 _ => (intOf v8).toNat)
            case atStart => exact ⟨ml, _, by go_num, rfl, by omega, Nat.le_refl _, Q8⟩
            case round =>
              obtain ⟨k, wx, rfl, rfl, hak, hkm, HK⟩ := hrel
              clear Q8
              by_cases hka : a < k
              · obtain ⟨km, hkm2⟩ : ∃ km, k = km + 1 := ⟨k - 1, by omega⟩
                have hmM : km < M.length := by rw [HM.out.1]; omega
                obtain ⟨⟨u1, c1⟩, fz, ca⟩ := HK.out.at (by rw [HM.out.1]; exact hkm)
                have c2 := ca km hmM (by omega)
                have f1 := fz k
                have N1 : Hid (S4 w (wx.setCell ⟨g8, k, none⟩ (.slice M[km].q M[km].a.length M[km].c)) g8 (ml + 1) c8 M km) := by
                  have := HK.out.next (by omega) (by rw [HM.out.1]; exact hkm)
                  have e : k - 1 = km := by omega
                  simp only [e] at this
                  exact this
                have hj1 : (k : Int) - 1 = (km : Int) := by omega
                have k1 : km < ml + 1 := by omega
                have HKM : Hid (k = km + 1) := hkm2
                generalize M[km].q = mq at *
                generalize M[km].a.length = ma at *
                generalize M[km].c = mc at *
                clear HK hkm2 fz ca
                go_wp2_with fail
                go_roundw
                case rel => have := HKM.out; exact ⟨km, _, by go_num, rfl, by omega, by omega, N1⟩
                case measure => have := HKM.out; simp [intOf]; omega
              · obtain rfl : k = a := by omega
                obtain ⟨x9, at9⟩ := XA.out wx HK.out.bl
                have CV : Hid (Calls Try.prog 20 #[.slice lq (szV t) lc] wx fun e w' => ∃ p' c', e = .returned (.slice p' (flV t).length c') ∧ OwnG KA w' wx.heap.size (.slice p' (flV t).length c') (flV t) ∧ Below wx.heap.size wx w') := copyV_any _ _ wx at9 (by have e : (flV t).length = szV t := rfl; have := HRT.out.1.sz; omega)
                have FI : Hid (∀ w9 p' c', OwnG KA w9 wx.heap.size (.slice p' (flV t).length c') (flV t) → Below wx.heap.size wx w9 → S3 w (w9.setCell ⟨g8, k, none⟩ (.slice p' (flV t).length c')) (.slice (some ⟨g8, 0, none⟩) (ml + 1) c8) T (S.take k ++ t :: S.drop k) (M.take k ++ ⟨flV t, p', c'⟩ :: M.drop k) (i + 1) ∧ (∃ u, w9.cell? ⟨g8, k, none⟩ = some u) ∧ w9.frozen? ⟨g8, k, none⟩ = false) := fun w9 p' c' ho b9 => by
                  have h4 := HK.out.below b9
                  have hl := HM.out.1
                  obtain ⟨c1, fz, _⟩ := h4.at (by rw [HM.out.1]; exact hkm)
                  exact ⟨h4.fin Z1.out (by rw [HM.out.1]; exact hkm) (ho.low HK.out.bl.size) HTI.out L1.out.1 L1.out.2, c1, fz k⟩
                have hfl : (flV t).length = szV t := rfl
                have HL2 : Hid (∀ p' c', (M.take k ++ (⟨flV t, p', c'⟩ : Vx) :: M.drop k).length = ml + 1 ∧ (S.take k ++ t :: S.drop k).length = ml + 1) := fun p' c' => by have h1 := HM.out.1; have h2 := HM.out.2; constructor <;> simp <;> omega
                rw [hfl] at CV FI
                generalize szV t = nt at *
                clear HK at9 hfl
                go_wp2_with (go_at_call 20; refine CV.out.mono ?_; rintro e w9 ⟨p', c', rfl, ho, b9⟩; obtain ⟨i1, ⟨u1, i2⟩, i3⟩ := FI.out w9 p' c' ho b9; have I1 : Hid _ := i1; clear i1 ho b9)
                go_roundw
                case rel => exact ⟨i + 1, ml + 1, c8, _, _, _, _, rfl, by go_num, rfl, hlt, by omega, HL2.out p' c', I1⟩
                case measure => simp [intOf]; omega
        · have HA0 : Hid (a = 0) := by show _ = _; omega
          have Z0 : Hid (S3 w wq (.slice q ml cp) T S M i) := HP.out.1
          have L1 : Hid ((∀ u ∈ S.take a, cmpV u t ≤ 0) ∧ ∀ j (hj : j < S.length), a ≤ j → 0 < cmpV S[j] t) := ⟨fun u hu => by rw [HA0.out] at hu; simp at hu, HP.out.2⟩
          have ha1 : decide ((0 : Int) < (a : Int)) = false := by simp; omega
          clear HP
          go_wp2_with fail
          go_quiet (fail)
          have Z1 : Hid (S3 w (wq.drewN nq) (.slice q ml cp) T S M i) := Z0.out.below (below_drewN (Below.refl _ _) _)
          generalize wq.drewN nq = w5 at *
          clear Z0
          have O5 : Hid (OwnG KV w5 w.heap.size (.slice q ml cp) M) := Z1.out.ow
          have B5 : Hid (w.heap.size ≤ w5.heap.size) := Z1.out.bl.size
          have LS : Hid ((M.length + 1) * KV.B ≤ 140737488355328) := by show (_ + 1) * 24 ≤ _; have := HM.out.1; omega
          have ST : Hid (∀ g8 c8 w8, OwnG KV w8 w.heap.size (.slice (some ⟨g8, 0, none⟩) (M.length + 1) c8) (M ++ [zVx]) → Below w.heap.size w5 w8 → (∀ j, j < w5.heap.size → some j ≠ (Value.slice q ml cp).ownBlock → w8.heap[j]? = w5.heap[j]?) → S4 w w8 g8 (ml + 1) c8 M ml) := fun g8 c8 w8 o8 b8 k8 => by have := S4.start Z1.out o8 b8 k8; rw [HM.out.1] at this; exact this
          go_upto_region 15 with (at_builtin; refine append_g KV KV_ok rfl (.tmp 43) (.tmp 44) 22 rfl w.heap.size Try.underlying22 _ _ _ (.slice q ml cp) M zVx _ rfl O5.out _ rfl rfl rfl LS.out B5.out ?_; intro g8 c8 w8 o8 b8 k8 _; have Q8 : Hid (S4 w w8 g8 (ml + 1) c8 M ml) := ST.out g8 c8 w8 o8 b8 k8; rw [HM.out.1]; clear o8 b8 k8)
          clear ST O5 B5 LS
          go_loopw [8] (fun v8 wr => ∃ (k : Nat) (wk : World), v8 = .int .i64 k ∧ wk = wr ∧ a ≤ k ∧ k ≤ ml ∧ Hid (S4 w wk g8 (ml + 1) c8 M k)) (fun v8 _ => (intOf v8).toNat)
          case atStart => exact ⟨ml, _, by go_num, rfl, by omega, Nat.le_refl _, Q8⟩
          case round =>
            obtain ⟨k, wx, rfl, rfl, hak, hkm, HK⟩ := hrel
            clear Q8
            by_cases hka : a < k
            · obtain ⟨km, hkm2⟩ : ∃ km, k = km + 1 := ⟨k - 1, by omega⟩
              have hmM : km < M.length := by rw [HM.out.1]; omega
              obtain ⟨⟨u1, c1⟩, fz, ca⟩ := HK.out.at (by rw [HM.out.1]; exact hkm)
              have c2 := ca km hmM (by omega)
              have f1 := fz k
              have N1 : Hid (S4 w (wx.setCell ⟨g8, k, none⟩ (.slice M[km].q M[km].a.length M[km].c)) g8 (ml + 1) c8 M km) := by
                have := HK.out.next (by omega) (by rw [HM.out.1]; exact hkm)
                have e : k - 1 = km := by omega
                simp only [e] at this
                exact this
              have hj1 : (k : Int) - 1 = (km : Int) := by omega
              have k1 : km < ml + 1 := by omega
              have HKM : Hid (k = km + 1) := hkm2
              generalize M[km].q = mq at *
              generalize M[km].a.length = ma at *
              generalize M[km].c = mc at *
              clear HK hkm2 fz ca
              go_wp2_with fail
              go_roundw
              case rel => have := HKM.out; exact ⟨km, _, by go_num, rfl, by omega, by omega, N1⟩
              case measure => have := HKM.out; simp [intOf]; omega
            · obtain rfl : k = a := by omega
              obtain ⟨x9, at9⟩ := XA.out wx HK.out.bl
              have CV : Hid (Calls Try.prog 20 #[.slice lq (szV t) lc] wx fun e w' => ∃ p' c', e = .returned (.slice p' (flV t).length c') ∧ OwnG KA w' wx.heap.size (.slice p' (flV t).length c') (flV t) ∧ Below wx.heap.size wx w') := copyV_any _ _ wx at9 (by have e : (flV t).length = szV t := rfl; have := HRT.out.1.sz; omega)
              have FI : Hid (∀ w9 p' c', OwnG KA w9 wx.heap.size (.slice p' (flV t).length c') (flV t) → Below wx.heap.size wx w9 → S3 w (w9.setCell ⟨g8, k, none⟩ (.slice p' (flV t).length c')) (.slice (some ⟨g8, 0, none⟩) (ml + 1) c8) T (S.take k ++ t :: S.drop k) (M.take k ++ ⟨flV t, p', c'⟩ :: M.drop k) (i + 1) ∧ (∃ u, w9.cell? ⟨g8, k, none⟩ = some u) ∧ w9.frozen? ⟨g8, k, none⟩ = false) := fun w9 p' c' ho b9 => by
                have h4 := HK.out.below b9
                have hl := HM.out.1
                obtain ⟨c1, fz, _⟩ := h4.at (by rw [HM.out.1]; exact hkm)
                exact ⟨h4.fin Z1.out (by rw [HM.out.1]; exact hkm) (ho.low HK.out.bl.size) HTI.out L1.out.1 L1.out.2, c1, fz k⟩
              have hfl : (flV t).length = szV t := rfl
              have HL2 : Hid (∀ p' c', (M.take k ++ (⟨flV t, p', c'⟩ : Vx) :: M.drop k).length = ml + 1 ∧ (S.take k ++ t :: S.drop k).length = ml + 1) := fun p' c' => by have h1 := HM.out.1; have h2 := HM.out.2; constructor <;> simp <;> omega
              rw [hfl] at CV FI
              generalize szV t = nt at *
              clear HK at9 hfl
              go_wp2_with (go_at_call 20; refine CV.out.mono ?_; rintro e w9 ⟨p', c', rfl, ho, b9⟩; obtain ⟨i1, ⟨u1, i2⟩, i3⟩ := FI.out w9 p' c' ho b9; have I1 : Hid _ := i1; clear i1 ho b9)
              go_roundw
              case rel => exact ⟨i + 1, ml + 1, c8, _, _, _, _, rfl, by go_num, rfl, hlt, by omega, HL2.out p' c', I1⟩
              case measure => simp [intOf]; omega
    · obtain rfl : i = n := by omega
      obtain ⟨cl1, cl2⟩ := HM.out
      have FIN : Hid (AnsS w wr (.returned (.tuple #[.slice q ml cp, .int .i64 0])) (S.map flV) 0 ∧ S.Perm T ∧ Srt S) := by
        have s3 := HS.out
        have hTi : T.take i = T := List.take_of_length_le (by rw [HLN.out, HN.out]; exact Nat.le_refl _)
        have pm := s3.pm
        rw [hTi] at pm
        have hl9 : (S.map flV).length = ml := by rw [List.length_map]; exact cl2
        have hin : ∀ x ∈ M, ∃ t ∈ T, x.a = flV t := fun x hx => by
          have : x.a ∈ aL M := List.mem_map.2 ⟨x, hx, rfl⟩
          rw [s3.eq] at this
          obtain ⟨t, ht, e⟩ := List.mem_map.1 this
          exact ⟨t, pm.subset ht, e.symm⟩
        refine ⟨⟨q, cp, M, by rw [hl9], by rw [hl9]; exact s3.ow, fun x hx => (s3.ea x hx).gs KA_ok.len, s3.eq, ⟨by omega, fun x hx => ?_, fun x hx => ?_⟩, fun x hx => SPV.own (s3.ea x hx), s3.bl⟩, pm, s3.sr⟩
        · obtain ⟨t, ht, e⟩ := hin x hx
          rw [e]
          have := (HR.out t ht).sz
          have e2 : (flV t).length = szV t := rfl
          omega
        · obtain ⟨t, ht, e⟩ := hin x hx
          rw [e]; exact HVT.out t ht
      clear HS
      go_wp2_with fail
      exact bodyPost_ret (v := .tuple #[.slice q ml cp, .int .i64 0]) (by simp [results, Try.results23, go_sem]) rfl ⟨S, FIN.out.2.1, FIN.out.2.2, FIN.out.1⟩
end Go.Proofs.Ytahcllncjpaijaa
