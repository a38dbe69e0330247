/- Depend: the document's Circle; the law DependCircles. -/
import Derived.Test.YtjgmnbiigfpbcaaDd2
namespace Go.Proofs.Ytjgmnbiigfpbcaa
open Go.RowKit

/-- The way from i on, so far. -/
structure Orb (L : List Int) (i : Nat) (Q : List Nat) (z : Nat) : Prop where
  way : ∀ R, Way (gL L i) z R → Way (gL L i) i (Q ++ R)
  at_ : itn (fL L) Q.length i = some z
  no : ∀ j, 1 ≤ j → j ≤ Q.length → itn (fL L) j i ≠ some i
theorem Orb.start (L : List Int) (i : Nat) : Orb L i [] i := ⟨fun _ h => h, rfl, fun j h1 h2 => by simp at h2; omega⟩
theorem Orb.next {L : List Int} {i z y : Nat} {Q : List Nat} (h : Orb L i Q z) (hy : fL L z = some y) (hn : y ≠ i) : Orb L i (Q ++ [z]) y := by
  have hg : gL L i z = some y := by unfold gL; rw [hy, if_neg (by simpa using hn)]
  have hi : itn (fL L) (Q.length + 1) i = some y := by rw [it_last, h.at_]; exact hy
  refine ⟨fun R hR => ?_, by rw [List.length_append]; exact hi, fun j h1 h2 => ?_⟩
  · rw [List.append_assoc]; exact h.way _ (.next z y R hg hR)
  · rw [List.length_append] at h2
    by_cases e : j = Q.length + 1
    · rw [e, hi]; simpa using hn
    · exact h.no j h1 (by simp at h2; omega)
theorem Orb.done {L : List Int} {i z : Nat} {Q : List Nat} (h : Orb L i Q z) (hy : fL L z = some i) : Way (gL L i) i (Q ++ [z]) ∧ Cyc (fL L) i := by
  refine ⟨h.way _ (.last z (by unfold gL; rw [hy, if_pos rfl])), Q.length + 1, by omega, ?_⟩
  rw [it_last, h.at_]; exact hy
/-- Who comes back does so within as many steps as there are numbers. -/
theorem cyc_len {L : List Int} (hr : rlB L = true) {i : Nat} (hi : i < L.length) (hc : Cyc (fL L) i) : ∃ p, 1 ≤ p ∧ p ≤ L.length ∧ itn (fL L) p i = some i := by
  obtain ⟨R, hR⟩ := (gL_ends hc).way
  have hl := hR.len (gL_bd hr i) hi
  have hne := hR.ne
  have hpos := List.length_pos_iff.2 hne
  refine ⟨R.length, hpos, hl, ?_⟩
  have hre := gL_it (hR.reach (R.length - 1) (by omega))
  have hlast := hR.last_none hne
  rw [List.getLast_eq_getElem] at hlast
  have hzc : Cyc (fL L) (R[R.length - 1]'(by omega)) := cyc_step hc hre
  have hf : fL L (R[R.length - 1]'(by omega)) = some i := by
    unfold gL at hlast
    split at hlast
    · assumption
    · exact absurd (by rw [it_one]; exact hlast) (cyc_never hzc 1)
  rw [show R.length = R.length - 1 + 1 by omega, it_last, hre]
  exact hf
theorem Orb.not_end {L : List Int} {i z : Nat} {Q : List Nat} (h : Orb L i Q z) (hy : fL L z = none) : ¬ Cyc (fL L) i := fun hc =>
  cyc_never hc (Q.length + 1) (by rw [it_last, h.at_]; exact hy)
theorem Orb.not_long {L : List Int} (hr : rlB L = true) {i z : Nat} (hi : i < L.length) {Q : List Nat} (h : Orb L i Q z) (hq : L.length ≤ Q.length) : ¬ Cyc (fL L) i := fun hc => by
  obtain ⟨p, h1, h2, h3⟩ := cyc_len hr hi hc
  exact h.no p h1 (by omega) h3
theorem Orb.lt {L : List Int} (hr : rlB L = true) {i z : Nat} (hi : i < L.length) {Q : List Nat} (h : Orb L i Q z) : z < L.length := (fL_bd hr).steps _ _ _ hi h.at_
set_option maxRecDepth 100000 in
set_option maxHeartbeats 16000000 in
theorem rcircle_any (L : List Int) (p : Option Addr) (c : Nat) (w : World) (h : GS KI w (.slice p L.length c) L) (hmax : L.length ≤ 140737488355328) : Calls Try.prog 14 #[.slice p L.length c] w fun e w' => ∃ R q cc, e = .returned (.tuple #[.slice q R.length cc, .int .i64 (cirE L)]) ∧ OwnG KI w' w.heap.size (.slice q R.length cc) (nI R) ∧ CirO L R ∧ Below w.heap.size w w' := by
  have HG := hid h
  have HE : Hid (cirE L = if 4096 < L.length then 3 else if rlB L then 0 else 1) := rfl
  have B0 : Hid (Below w.heap.size w w) := Below.refl _ _
  by_cases hl : 4096 < L.length
  · have HN : Hid (cirE L = 3) := by show _ = _; rw [HE.out, if_pos hl]
    have HO : Hid (CirO L []) := ⟨fun e => (by rw [HN.out] at e; cases e), fun _ => rfl⟩
    have hl2 : (4096 : Int) < L.length := by omega
    rw [HN.out]
    generalize hLn : L.length = n at *
    clear h HG HE HN hLn
    go_enter Try.func14, Try.ntmps14
    go_wp2
    go_ret2
    exact ⟨[], none, 0, rfl, OwnG.nil _ _ _, HO.out, B0.out⟩
  · have hl2 : ¬ (4096 : Int) < L.length := by omega
    have hn : L.length ≤ 4096 := by omega
    clear h
    obtain ⟨n, hnn⟩ : ∃ n, n = L.length := ⟨_, rfl⟩
    rw [← hnn] at hn hl2 ⊢
    have HNN := hid hnn
    clear hnn hmax hl
    go_enter Try.func14, Try.ntmps14
    go_wp2
    go_loop [4] (fun v4 => ∃ k : Nat, k ≤ n ∧ v4 = .int .i64 k ∧ Hid (∀ j (hj : j < L.length), j < k → -1 ≤ L[j] ∧ L[j] < L.length)) (fun v4 => n - (intOf v4).toNat)
    case atStart => exact ⟨0, Nat.zero_le _, rfl, fun j _ hj => absurd hj (Nat.not_lt_zero _)⟩
    case round =>
      obtain ⟨k, hk, rfl, HV⟩ := hrel
      by_cases hlt : k < n
      · have hkL : k < L.length := by have := HNN.out; omega
        obtain ⟨Y, o, e1, hc⟩ := HG.out.atI hkL
        have BAD : Hid (¬ (-1 ≤ L[k] ∧ L[k] < L.length) → CirO L [] ∧ cirE L = 1) := fun hb => by
          have e : cirE L = 1 := by rw [HE.out, if_neg (by have := HNN.out; omega), rlB_no hkL hb]; rfl
          exact ⟨⟨fun q => (by rw [e] at q; cases q), fun _ => rfl⟩, e⟩
        have GOOD : Hid ((-1 ≤ L[k] ∧ L[k] < L.length) → ∀ j (hj : j < L.length), j < k + 1 → -1 ≤ L[j] ∧ L[j] < L.length) := fun hb j hj hjk => by
          by_cases e : j = k
          · subst e; exact hb
          · exact HV.out j hj (by omega)
        subst e1
        rw [← HNN.out] at BAD
        have GOOD2 : Hid ((-1 ≤ L[k] ∧ L[k] < (n : Int)) → ∀ j (hj : j < L.length), j < k + 1 → -1 ≤ L[j] ∧ L[j] < L.length) := fun hb => GOOD.out (by rw [← HNN.out]; exact hb)
        generalize L[k] = x at *
        by_cases h1 : x < -1
        · obtain ⟨hO, hE⟩ := BAD.out (by omega)
          have HO := hid hO
          have HE2 := hid hE
          clear hE hO
          go_wp2
          go_ret2
          rw [HE2.out]
          exact ⟨[], none, 0, rfl, OwnG.nil _ _ _, HO.out, B0.out⟩
        · by_cases h2 : (n : Int) ≤ x
          · obtain ⟨hO, hE⟩ := BAD.out (by omega)
            have HO := hid hO
            have HE2 := hid hE
            clear hE hO
            go_wp2
            go_ret2
            rw [HE2.out]
            exact ⟨[], none, 0, rfl, OwnG.nil _ _ _, HO.out, B0.out⟩
          · have V2 := hid (GOOD2.out (by omega))
            go_wp2
            go_round
            case rel => exact ⟨k + 1, by omega, by go_num, V2⟩
            case measure => simp [intOf]; omega
      · have RL : Hid (rlB L = true) := rlB_all fun j hj => HV.out j hj (by have := HNN.out; omega)
        have E0 : Hid (cirE L = 0) := by show _ = _; rw [HE.out, if_neg (by have := HNN.out; omega), RL.out]; rfl
        have hle : ¬ (k : Int) < n := by omega
        clear HV HE
        go_wp2
        go_loopw [5] (fun v5 wr => ∃ (i : Nat) (wk : World), i ≤ n ∧ v5 = .int .i64 i ∧ wk = wr ∧ Hid (∀ j, j < i → ¬ Cyc (fL L) j) ∧ Hid (Below w.heap.size w wk)) (fun v5 _ => n - (intOf v5).toNat)
        case atStart => exact ⟨0, _, Nat.zero_le _, rfl, rfl, fun j hj => absurd hj (Nat.not_lt_zero _), B0⟩
        case round =>
          obtain ⟨i, wr, hi, rfl, rfl, HC, HB⟩ := hrel
          by_cases hil : i < n
          · have hiL : i < L.length := by have := HNN.out; omega
            obtain ⟨Y, o, e1, hcell⟩ := HG.out.slot (by omega : 0 < L.length)
            subst e1
            have CE : Hid (∀ W, Below w.heap.size w W → ∀ j (hj : j < L.length), W.cell? ⟨Y, o + j, none⟩ = some (.int .i64 (eO (fL L j)))) := fun W hb j hj => by
              rw [fL_at hj, eO_oI (rlB_at RL.out hj).1]
              exact (hb.cell (p := ⟨Y, o + j, none⟩) hcell.1).trans (hcell.2 j hj)
            have ci := CE.out wr HB.out i hiL
            have ca : ∀ ob, (wr.alloc ob).cell? ⟨Y, o + i, none⟩ = some (.int .i64 (eO (fL L i))) := fun ob => CE.out _ (bl3 HB.out (bal _ _)) i hiL
            have O0 : Hid (OwnG KI (wr.alloc (.cells #[.int .i64 i] 3)) wr.heap.size (.slice (some ⟨wr.heap.size, 0, none⟩) 1 1) (nI ([] ++ [i]))) := ⟨rfl, Or.inr ⟨wr.heap.size, 1, #[.int .i64 i], rfl, Nat.le_refl _, heap_alloc_new wr _, Nat.le_refl _, by decide, rfl, rfl⟩⟩
            have BA : Hid (Below wr.heap.size wr (wr.alloc (.cells #[.int .i64 i] 3))) := bal _ _
            clear hcell
            go_wp2
            go_loopw [6, 7] (fun v6 v7 wr2 => ∃ (Q : List Nat) (z : Nat) (S : List Int) (q : Option Addr) (cc : Nat) (wk : World), v6 = .slice q S.length cc ∧ v7 = .int .i64 (eO (fL L z)) ∧ wk = wr2 ∧ Q.length ≤ n ∧ Hid (S = nI (Q ++ [z])) ∧ Hid (Orb L i Q z) ∧ Hid (OwnG KI wk wr.heap.size (.slice q S.length cc) S) ∧ Hid (Below wr.heap.size wr wk)) (fun v6 _ _ => n + 2 - slN v6)
            case atStart => exact ⟨[], i, nI ([] ++ [i]), _, _, _, rfl, rfl, rfl, Nat.zero_le _, rfl, Orb.start L i, O0, BA⟩
            case round =>
              obtain ⟨Q, z, S, q, cc, wr2, rfl, rfl, rfl, hQ, HS, HOr, HO, HB2⟩ := hrel
              clear O0 BA ci ca
              have hSl : S.length = Q.length + 1 := by rw [HS.out, nI_len]; simp
              have hzl := HOr.out.lt RL.out hiL
              cases hf : fL L z with
              | none =>
                have NC := hid (HOr.out.not_end hf)
                have h0 : eO (none : Option Nat) = -1 := rfl
                rw [h0]
                have NC2 : Hid (∀ j, j < i + 1 → ¬ Cyc (fL L) j) := fun j hj => by
                  by_cases e : j = i
                  · subst e; exact NC.out
                  · exact HC.out j (by omega)
                have hii : ¬ (-1 : Int) = i := by omega
                have hib : ((-1 : Int) == i) = false := by simp
                clear hf h0
                go_wp2
                go_roundw
                case rel => exact ⟨i + 1, _, by omega, by go_num, rfl, NC2, bl3 HB.out HB2.out⟩
                case measure => simp [intOf]; omega
              | some y =>
                have h0 : eO (some y) = (y : Int) := rfl
                rw [h0]
                have hyl : y < L.length := fL_bd RL.out z y hzl hf
                by_cases hyi : y = i
                · obtain ⟨hW, hCy⟩ := HOr.out.done (by rw [hf, hyi])
                  have HO2 : Hid (CirO L (Q ++ [z])) := ⟨fun _ => ⟨RL.out, by have := HNN.out; omega, Or.inr ⟨i, ⟨hiL, hCy, fun j hj hc => by
                    by_cases e : j < i
                    · exact absurd hc (HC.out j e)
                    · omega⟩, hW⟩⟩, fun q => absurd E0.out q⟩
                  subst hyi
                  have hb1 : ((y : Int) != y) = false := by simp
                  have LQ : Hid (S.length = (Q ++ [z]).length) := by show _ = _; rw [HS.out, nI_len]
                  clear hf h0 hW hCy hSl
                  go_wp2
                  go_ret2
                  rw [E0.out]
                  exact ⟨Q ++ [z], q, cc, by rw [← LQ.out]; rfl, by rw [← LQ.out, ← HS.out]; exact HO.out.low HB.out.size, HO2.out, bl3 HB.out HB2.out⟩
                · have hyi2 : ¬ (y : Int) = i := by omega
                  have hb1 : ((y : Int) != i) = true := by simpa using hyi2
                  have hb2 : ((y : Int) == i) = false := by simpa using hyi2
                  by_cases hq : Q.length + 1 ≤ n
                  · have hSi : (S.length : Int) ≤ n := by omega
                    have LS : Hid ((S.length + 1) * KI.B ≤ 140737488355328) := by show (S.length + 1) * 8 ≤ _; omega
                    have OR2 := hid (HOr.out.next hf hyi)
                    have HS2 : Hid (S ++ [(y : Int)] = nI ((Q ++ [z]) ++ [y])) := by show _ = _; rw [nI_snoc, HS.out]
                    have CY : Hid (∀ W, Below w.heap.size w W → W.cell? ⟨Y, o + y, none⟩ = some (.int .i64 (eO (fL L y)))) := fun W hb => CE.out W hb y hyl
                    have hyn : (y : Int) < n := by have := HNN.out; omega
                    have HSL := hid hSl
                    have ZB : Hid (Below w.heap.size w wr2) := bl3 HB.out HB2.out
                    clear hf h0 hyi hSl
                    go_wp2_with (at_builtin; refine append_g KI KI_ok rfl (.tmp 57) (.tmp 59) 35 rfl wr.heap.size Try.underlying35 wr2 _ _ (.slice q S.length cc) S (y : Int) _ rfl HO.out wr2.heap.size rfl rfl rfl LS.out HB2.out.size ?_; intro g5 cp5 w5 ho5 hb5 hk5 hg5; have O5 := hid ho5; have B5 : Hid (Below wr.heap.size wr w5) := HB2.out.trans hb5; have c5 := CY.out w5 (bl3 HB.out B5.out); clear ho5 hb5 hk5 hg5)
                    go_roundw
                    case rel => exact ⟨Q ++ [z], y, S ++ [(y : Int)], some ⟨g5, 0, none⟩, cp5, _, by rw [List.length_append]; rfl, rfl, rfl, by rw [List.length_append]; exact hq, HS2, OR2, by rw [List.length_append]; exact O5.out, B5⟩
                    case measure => have := HSL.out; simp [slN]; omega
                  · have hSi : ¬ (S.length : Int) ≤ n := by omega
                    have NC := hid (HOr.out.not_long RL.out hiL (by have := HNN.out; omega))
                    have NC2 : Hid (∀ j, j < i + 1 → ¬ Cyc (fL L) j) := fun j hj => by
                      by_cases e : j = i
                      · subst e; exact NC.out
                      · exact HC.out j (by omega)
                    clear hf h0 hyi hSl
                    go_wp2
                    go_roundw
                    case rel => exact ⟨i + 1, _, by omega, by go_num, rfl, NC2, bl3 HB.out HB2.out⟩
                    case measure => simp [intOf]; omega
          · have HO : Hid (CirO L []) := ⟨fun _ => ⟨RL.out, by have := HNN.out; omega, Or.inl ⟨rfl, fun j hj => HC.out j (by have := HNN.out; omega)⟩⟩, fun _ => rfl⟩
            have hii : ¬ (i : Int) < n := by omega
            go_wp2
            go_ret2
            rw [E0.out]
            exact ⟨[], none, 0, rfl, OwnG.nil _ _ _, HO.out, HB.out⟩
set_option maxRecDepth 100000 in
set_option maxHeartbeats 16000000 in
theorem dependCircles_any (v : Value) (L : List Int) (w : World) (hl : GS KI w v L) (hsz : L.length * 8 ≤ 140737488355328) : Calls Try.prog 4 #[v] w fun e w' => e = .returned (.bool true) ∧ Below w.heap.size w w' := by
  obtain ⟨p, c, hv⟩ := hl.form
  subst hv
  have WK := hid (fun W => works_any W)
  have HL := hid hl
  have LB : Hid ((([] : List Int).length + L.length) * KI.B ≤ 140737488355328) := by show (0 + L.length) * 8 ≤ _; omega
  have CF : Hid (∀ (W : World) (q : Option Addr) (cc : Nat), GS KI W (.slice q L.length cc) L → Calls Try.prog 13 #[.slice q L.length cc] W fun e w' => ∃ R q cc, e = .returned (.tuple #[.slice q R.length cc, .int .i64 (cirE L)]) ∧ OwnG KI w' W.heap.size (.slice q R.length cc) (nI R) ∧ CirO L R ∧ Below W.heap.size W w') := fun W q cc k => circleF_any L q cc W k (by omega)
  have RF : Hid (∀ (W : World) (q : Option Addr) (cc : Nat), GS KI W (.slice q L.length cc) L → Calls Try.prog 14 #[.slice q L.length cc] W fun e w' => ∃ R q cc, e = .returned (.tuple #[.slice q R.length cc, .int .i64 (cirE L)]) ∧ OwnG KI w' W.heap.size (.slice q R.length cc) (nI R) ∧ CirO L R ∧ Below W.heap.size W w') := fun W q cc k => rcircle_any L q cc W k (by omega)
  have OF : Hid (∀ (W : World) (b : Nat) (u : Value), OwnG KI W b u ([] ++ L) → ∃ q cc, u = .slice q L.length cc ∧ GS KI W (.slice q L.length cc) L) := fun W b u ho => by
    rw [List.nil_append] at ho
    obtain ⟨q, cc, e, _⟩ := ho.form
    subst e
    exact ⟨q, cc, rfl, ho.gs KI_ok.len⟩
  have IN1 : Hid (∀ (W : World) (v u : Value) (R : List Nat), CirO L R → GS KI W v (nI R) → GS KI W u (nI R) → Calls Try.prog 15 #[v, u] W fun e w' => e = .returned (.bool true) ∧ Below W.heap.size W w') := fun W v u R hO hv hu => by
    have hRl : R.length ≤ 140737488355328 := by
      by_cases e : cirE L = 0
      · have := (hO.1 e).2.2.len (hO.1 e).1; omega
      · rw [hO.2 e]; simp
    have := ints_any W v u _ _ hv hu (by rw [nI_len]; exact hRl)
    rw [decide_eq_true rfl] at this; exact this
  have IN2 : Hid (∀ (W : World) (v u : Value), GS KI W v L → GS KI W u L → Calls Try.prog 15 #[v, u] W fun e w' => e = .returned (.bool true) ∧ Below W.heap.size W w') := fun W v u hv hu => by
    have := ints_any W v u _ _ hv hu (by omega)
    rw [decide_eq_true rfl] at this; exact this
  have hee : (cirE L == cirE L) = true := by simp
  generalize hce : cirE L = ce at *
  clear hl hce
  go_enter Try.func4, Try.ntmps4
  go_wp2_with (first | (at_builtin; refine append_gs KI KI_ok rfl (.tmp 8) (.tmp 9) 35 rfl w.heap.size Try.underlying35 _ _ _ [] L rfl rfl (OwnG.empty KI w) (HL.out.below (bal _ _)) LB.out (by simp) ?_; intro u w2 ho2 hb2 hk2; clear hk2; obtain ⟨q2, c2, rfl, hg2⟩ := OF.out _ _ _ ho2; have G2 := hid hg2; have B2 : Hid (Below w.heap.size w w2) := (bal w _).trans hb2; clear ho2 hb2 hg2) | (go_at_call 13; refine (CF.out _ _ _ G2.out).mono ?_; rintro e w3 ⟨R, q3, c3, rfl, ho3, hO, hb3⟩; have O3 := hid (ho3.gs KI_ok.len); have HO := hid hO; have B3 := hid (bl3 B2.out hb3); replace G2 := hid (G2.out.below hb3); clear ho3 hO hb3) | (go_at_call 14; refine (RF.out _ _ _ (HL.out.below B3.out)).mono ?_; rintro e w4 ⟨R4, q4, c4, rfl, ho4, hO4, hb4⟩; obtain rfl := HO.out.uniq hO4; have O4 := hid (ho4.gs KI_ok.len); replace O3 := hid (O3.out.below hb4); have B4 := hid (bl3 B3.out hb4); replace G2 := hid (G2.out.below hb4); clear ho4 hO4 hb4) | (go_at_call 15; refine (IN1.out _ _ _ _ HO.out O3.out O4.out).mono ?_; clear IN1; rintro e w5 ⟨rfl, hb5⟩; have B5 := hid (bl3 B4.out hb5); replace G2 := hid (G2.out.below hb5); clear hb5) | (go_at_call 15; refine (IN2.out _ _ _ G2.out (HL.out.below B5.out)).mono ?_; clear IN2; rintro e w6 ⟨rfl, hb6⟩; have B6 := hid (bl3 B5.out hb6); clear hb6) | (go_at_call 9; refine (WK.out _).mono ?_; rintro e w7 ⟨rfl, hb7⟩; have B7 := hid (bl3 B6.out hb7); clear hb7))
  go_ret
  exact ⟨rfl, B7.out⟩
end Go.Proofs.Ytjgmnbiigfpbcaa
