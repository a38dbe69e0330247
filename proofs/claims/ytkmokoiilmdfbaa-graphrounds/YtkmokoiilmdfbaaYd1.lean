/- Graph: the document's Reach. -/
import Derived.Test.YtkmokoiilmdfbaaYc9
namespace Go.Proofs.Ytkmokoiilmdfbaa
open Go.RowKit

def addF (S : Nat → Bool) (F : List Nat) (x : Nat) : Bool := S x || decide (x ∈ F)
theorem addF_snoc {S : Nat → Bool} {F : List Nat} {x : Nat} : adP (addF S F) x = addF S (F ++ [x]) := by
  funext y
  rw [Bool.eq_iff_iff]
  simp only [adP, addF, Bool.or_eq_true, decide_eq_true_eq, List.mem_append, List.mem_singleton]
  constructor
  · rintro ((h | h) | h) <;> simp [h]
  · rintro (h | h | h) <;> simp [h]
theorem reL_told {N : Nat} {E : List (Nat × Nat)} {F : List Nat} : ris N (bF ((List.range N).map (addF (wyB E (-1) F) F))) = reL N E F := by
  refine ris_congr fun x hx => ?_
  have : bF ((List.range N).map (addF (wyB E (-1) F) F)) x = addF (wyB E (-1) F) F x := by simp [bF, List.getD, hx]
  rw [this, Bool.eq_iff_iff, wy_rc, addF, Bool.or_eq_true, decide_eq_true_eq]
  exact Or.comm
set_option maxRecDepth 100000 in
set_option maxHeartbeats 16000000 in
theorem rReach_any (w : World) (n : Int) (v : Value) (l : List (Int × Int)) (hv : GS KE w v l) (u : Value) (F : List Int) (hu : GS KI w u F) (hFl : F.length ≤ 140737488355328) : Calls Try.prog 17 #[.agg #[.int .i64 n, v], u] w fun e w' => AnsI w (reA n l F) (reE n l F) e w' := by
  obtain ⟨p, c, rfl⟩ := hv.form
  obtain ⟨pf, cf, rfl⟩ := hu.form
  generalize hW : w.alloc (.cells #[.int .i64 n, .slice p l.length c] 24) = W
  have BW : Hid (Below w.heap.size w W) := by rw [← hW]; exact bal _ _
  have C0 : Hid (∀ W', Below W.heap.size W W' → W'.cell? ⟨w.heap.size, 0, none⟩ = some (.int .i64 n) ∧ W'.cell? ⟨w.heap.size, 1, none⟩ = some (.slice p l.length c)) := fun W' hb => by
    have e : W'.heap[w.heap.size]? = some (.cells #[.int .i64 n, .slice p l.length c] 24) := (hb.block _ (by rw [← hW, asz]; omega)).trans (by rw [← hW]; exact heap_alloc_new _ _)
    exact ⟨cell_of_row _ _ _ _ _ _ e, cell_of_row _ _ _ _ _ _ e⟩
  have CK := hid (rcheck_any W n _ l (hv.below BW.out))
  obtain ⟨d0, d1⟩ := C0.out W (Below.refl _ _)
  have HE : Hid (reE n l F = if chkG n l = 0 then (if 4096 < F.length then 3 else if F.all (ndB n) then 0 else 1) else chkG n l) := rfl
  by_cases h0 : chkG n l = 0
  · rw [h0] at CK
    rw [if_pos h0] at HE
    by_cases h1 : 4096 < F.length
    · rw [if_pos h1] at HE
      rw [reE_no (by rw [HE.out]; omega), HE.out]
      have a1 : (4096 : Int) < (F.length : Nat) := by omega
      clear h1 HE
      generalize F.length = fl at *
      go_enter Try.func17, Try.ntmps17
      go_wp2_with (go_at_call 12; refine CK.out.mono ?_; rintro e w6 ⟨rfl, hb6⟩; have B6 := hid hb6; clear hb6)
      go_ret2
      exact AnsI.none (bl3 BW.out B6.out)
    · rw [if_neg h1] at HE
      have a1 : ¬ (4096 : Int) < (F.length : Nat) := by omega
      have a2 : F.length ≤ 4096 := by omega
      have A1 := hid (fun w' (hb : Below w.heap.size w w') j (hj : j < F.length) => GS.atI (hu.below hb) hj)
      have IN := hid (fun W' x => rnode_any W' n x p l.length c)
      have GE := hid (hv.below BW.out)
      have GF := hid hu
      have H0 := hid h0
      obtain ⟨fl, hfl⟩ : ∃ fl, fl = F.length := ⟨_, rfl⟩
      have M1 : Hid (F.length = fl) := hfl.symm
      rw [← hfl] at a1 a2 ⊢
      clear hv hu h0 h1 hfl hFl
      go_enter Try.func17, Try.ntmps17
      go_wp2_with (go_at_call 12; refine CK.out.mono ?_; rintro e w6 ⟨rfl, hb6⟩; have B6 := hid hb6; clear hb6)
      clear d0 d1 CK
      go_loopw [7] (fun v7 wr => ∃ (j : Nat) (wk : World), v7 = .int .i64 j ∧ wk = wr ∧ j ≤ fl ∧ Hid ((F.take j).all (ndB n) = true) ∧ Hid (Below W.heap.size W wk)) (fun v7 _ => fl - (intOf v7).toNat)
      case atStart => exact ⟨0, _, rfl, rfl, Nat.zero_le _, rfl, B6⟩
      case round =>
        obtain ⟨j, wr, rfl, rfl, hj, HA, HB⟩ := hrel
        clear B6
        obtain ⟨d0, d1⟩ := C0.out wr HB.out
        by_cases hlt : j < fl
        · have j1 : j < F.length := by have := M1.out; omega
          obtain ⟨X, o, e1, c1⟩ := A1.out wr (bl3 BW.out HB.out) j j1
          have X0 : Hid (∀ W', Below wr.heap.size wr W' → W'.cell? ⟨X, o + j, none⟩ = some (.int .i64 F[j])) := fun W' hb => by
            obtain ⟨X2, o2, e2, c2⟩ := A1.out W' (bl3 (bl3 BW.out HB.out) hb) j j1
            rw [e1] at e2
            injection e2 with e2
            injection e2 with e2 e3 _
            subst e2 e3
            exact c2
          subst e1
          have NX := hid (fun h => all_snoc j1 HA.out (p := ndB n) h)
          have NO := hid (fun h => all_no j1 (p := ndB n) h)
          have hji : (j : Int) < (fl : Nat) := by omega
          have hj0 : (0 : Int) ≤ (j : Nat) := by omega
          have I2 := hid (fun W' => IN.out W' F[j])
          have BD : Hid (Below wr.heap.size wr wr.drew) := drew_below wr 1
          generalize F[j] = x at *
          have SS : Hid (∀ W', Below wr.heap.size wr W' → W'.cell? ⟨w.heap.size, 0, none⟩ = some (.int .i64 n) ∧ W'.cell? ⟨w.heap.size, 1, none⟩ = some (.slice p l.length c) ∧ W'.cell? ⟨X, o + j, none⟩ = some (.int .i64 x)) := fun W' hb => ⟨(C0.out W' (bl3 HB.out hb)).1, (C0.out W' (bl3 HB.out hb)).2, X0.out W' hb⟩
          cases hx : ndB n x with
          | false =>
            rw [hx] at I2
            rw [NO.out hx] at HE
            have e1 : reE n l F = 1 := HE.out
            have EA := hid (And.intro (reE_no (n := n) (e := l) (F := F) (by rw [e1]; omega)) e1)
            clear hx NX NO e1
            go_wp2_with fail
            go_region_held3 (fun w' => w'.cell? ⟨w.heap.size, 0, none⟩ = some (.int .i64 n) ∧ w'.cell? ⟨w.heap.size, 1, none⟩ = some (.slice p l.length c) ∧ w'.cell? ⟨X, o + j, none⟩ = some (.int .i64 x)) (go_keep) (first | (go_at_call 42; refine (I2.out _).mono ?_; rintro e w7 ⟨rfl, hb7⟩; have B7 := hid (bl3 BD.out hb7); obtain ⟨y0, y1, y2⟩ := SS.out w7 B7.out; clear hb7) | fail)
            all_goals
              go_wp2_with fail
              go_ret2
              rw [EA.out.1, EA.out.2]
              exact AnsI.none (bl3 BW.out (bl3 HB.out B7.out))
          | true =>
            rw [hx] at I2
            have N2 := hid (NX.out hx)
            clear hx NX NO
            go_wp2_with fail
            go_region_held3 (fun w' => w'.cell? ⟨w.heap.size, 0, none⟩ = some (.int .i64 n) ∧ w'.cell? ⟨w.heap.size, 1, none⟩ = some (.slice p l.length c) ∧ w'.cell? ⟨X, o + j, none⟩ = some (.int .i64 x)) (go_keep) (first | (go_at_call 42; refine (I2.out _).mono ?_; rintro e w7 ⟨rfl, hb7⟩; have B7 := hid (bl3 BD.out hb7); obtain ⟨y0, y1, y2⟩ := SS.out w7 B7.out; clear hb7) | fail)
            all_goals
              go_wp2_with fail
              go_roundw
              case rel => exact ⟨j + 1, _, by go_num, rfl, by omega, N2, bl3 HB.out B7.out⟩
              case measure => simp [intOf]; omega
        · obtain rfl : j = fl := by omega
          have hall : F.all (ndB n) = true := by
            have := HA.out
            rw [List.take_of_length_le (by rw [M1.out]; exact Nat.le_refl _)] at this
            exact this
          obtain ⟨N, E, F0, rfl, rfl, hg, rfl, hF0, hE0, hA0⟩ := reE_ok H0.out (by rw [M1.out]; exact a2) hall
          have EA := hid (And.intro hA0 hE0)
          have HG := hid hg
          have HF := hid hF0
          have M2 : Hid (F0.length = j) := by have := M1.out; rw [nI_len] at this; exact this
          have CW := hid (fun W' (hb : Below W.heap.size W W') => ways_any W' N _ E hg (GE.out.below hb) _ F0 (GF.out.below (bl3 BW.out hb)) hF0 (by rw [M2.out]; exact a2) (-1))
          rw [eI_len] at CW C0 d1
          rw [nI_len, M2.out] at CW
          have a5 : N ≤ 4096 := hg.n
          have RT := hid (reL_told (N := N) (E := E) (F := F0))
          have GA := hid (fun w' (hb : Below w.heap.size w w') k (hk : k < (nI F0).length) => GS.atI (GF.out.below hb) hk)
          clear HE hE0 hA0 hall HA H0 hg hF0 hW IN A1
          generalize hel : E.length = el at *
          have HEL := hid hel
          clear hel
          go_wp2_with (go_at_call 49; refine (CW.out _ HB.out).mono ?_; rintro e w8 ⟨bs, rfl, o8, b8⟩; have O8 := hid o8; have B8 := hid (bl3 HB.out b8); clear o8 b8)
          have O9 : Hid (OwnG KB w8 w.heap.size (.slice (some ⟨bs, 0, none⟩) N N) ((List.range N).map (addF (wyB E (-1) F0) (F0.take 0)))) := by
            have h := O8.out.low (bl3 BW.out HB.out).size
            have e : wyB E (-1) F0 = addF (wyB E (-1) F0) (F0.take 0) := by funext y; simp [addF]
            rw [e] at h
            exact h
          have B9 := hid (bl3 BW.out B8.out)
          clear O8 B8 CW d0 d1
          go_loopw [9] (fun v9 wq => ∃ (k : Nat) (wk : World), v9 = .int .i64 k ∧ wk = wq ∧ k ≤ j ∧ Hid (OwnG KB wk w.heap.size (.slice (some ⟨bs, 0, none⟩) N N) ((List.range N).map (addF (wyB E (-1) F0) (F0.take k)))) ∧ Hid (Below w.heap.size w wk)) (fun v9 _ => j - (intOf v9).toNat)
          case atStart => exact ⟨0, _, rfl, rfl, Nat.zero_le _, O9, B9⟩
          case round =>
            obtain ⟨k, wq, rfl, rfl, hk, HO, HQ⟩ := hrel
            clear O9 B9
            by_cases hlt2 : k < j
            · have k1 : k < F0.length := by have := M2.out; omega
              obtain ⟨X, o, e1, c1⟩ := GA.out wq HQ.out k (by rw [nI_len]; exact k1)
              rw [nI_at k1] at c1
              subst e1
              have hx : F0[k] < N := HF.out _ (List.getElem_mem k1)
              have N1 : Hid (OwnG KB (wq.setCell ⟨bs, F0[k], none⟩ (.bool true)) w.heap.size (.slice (some ⟨bs, 0, none⟩) N N) ((List.range N).map (addF (wyB E (-1) F0) (F0.take (k + 1))))) := by
                have h := HO.out.set1 rfl KB_ok.len (k := F0[k]) true (.bool true) rfl
                rw [rmap_set, addF_snoc, ← List.take_succ_eq_append_getElem k1] at h
                exact h
              have B1 : Hid (Below w.heap.size w (wq.setCell ⟨bs, F0[k], none⟩ (.bool true))) := HQ.out.setCell (p := ⟨bs, F0[k], none⟩) (HO.out.lt rfl).1 _
              obtain ⟨Y, o2, e2, c2⟩ := (HO.out.gs KB_ok.len).atB (k := F0[k]) (by simpa using hx)
              injection e2 with e2
              injection e2 with e2 e3 _
              subst e2 e3
              rw [Nat.zero_add] at c2
              have fz := own_frozen HO.out
              have hki : (k : Int) < (j : Nat) := by omega
              generalize ((List.range N).map (addF (wyB E (-1) F0) (F0.take k)))[F0[k]]'(by simpa using hx) = bb at *
              generalize F0[k] = x at *
              have hxi : (x : Int) < (N : Nat) := by omega
              go_wp2
              go_roundw
              case rel => exact ⟨k + 1, _, by go_num, rfl, by omega, N1, B1⟩
              case measure => simp [intOf]; omega
            · obtain rfl : k = j := by omega
              have OF : Hid (OwnG KB wq w.heap.size (.slice (some ⟨bs, 0, none⟩) N N) ((List.range N).map (addF (wyB E (-1) F0) F0))) := by
                have h := HO.out
                rw [List.take_of_length_le (by rw [M2.out]; exact Nat.le_refl _)] at h
                exact h
              have TD := hid ((told_any wq _ _ (OF.out.gs KB_ok.len) (by simp; omega)).mono (R' := fun e w' => ∃ p c, e = .returned (.slice p (nI (reL N E F0)).length c) ∧ OwnG KI w' wq.heap.size (.slice p (nI (reL N E F0)).length c) (nI (reL N E F0)) ∧ Below wq.heap.size wq w') fun e w' ⟨p, c, h1, h2, h3⟩ => by
                rw [List.length_map, List.length_range, RT.out] at h1 h2
                exact ⟨p, c, h1, h2, h3⟩)
              clear HO
              go_wp2_with (go_at_call 50; refine TD.out.mono ?_; rintro e w6 ⟨p6, c6, rfl, o6, b6⟩; have O6 := hid o6; have B6 := hid b6; clear o6 b6)
              go_ret2
              rw [EA.out.1, EA.out.2]
              exact ⟨p6, c6, rfl, O6.out.gs KI_ok.len, bl3 HQ.out B6.out⟩
  · rw [if_neg h0] at HE
    rw [reE_no (by rw [HE.out]; exact h0), HE.out]
    clear HE
    generalize chkG n l = r at *
    have b1 : (r != 0) = true := by simp [h0]
    go_enter Try.func17, Try.ntmps17
    go_wp2_with (go_at_call 12; refine CK.out.mono ?_; rintro e w6 ⟨rfl, hb6⟩; have B6 := hid hb6; clear hb6)
    go_ret2
    exact AnsI.none (bl3 BW.out B6.out)
end Go.Proofs.Ytkmokoiilmdfbaa
