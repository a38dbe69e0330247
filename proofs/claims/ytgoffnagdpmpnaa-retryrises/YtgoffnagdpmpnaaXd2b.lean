/- Retry: the law RetryRises: its walk. -/
import Derived.Test.YtgoffnagdpmpnaaXd2
namespace Go.Proofs.Ytgoffnagdpmpnaa
open Go.RowKit Go.Maps

def lw (wt : Nat → Int) : Nat → Int
  | 0 => 0
  | j + 1 => wt j
/-- The policy's box, and the times, behind calls. -/
def GG (B : World → Prop) (v : Value) (l : List Int) (w : World) : Prop := B w ∧ GS KI w v l
/-- What the calls of one round answer. -/
structure RC2 (pv : Value) (c : Int) (tl : List Int) (wt : Nat → Int) (j : Nat) : Prop where
  wat : ∀ w', Calls Try.prog 9 #[pv, .int .i64 ((j : Int) + 1)] w' fun e w'' => e = .returned (.tuple #[.int .i64 (wt j), .int .i64 0]) ∧ Below w'.heap.size w' w''
  cap : wt j ≤ c
  fit : ∀ (h : j + 1 < tl.length), (∀ w', Calls Try.prog 11 #[pv, .int .i64 ((j : Int) + 1), .int .i64 tl[j]] w' fun e w'' => e = .returned (.tuple #[.int .i64 tl[j + 1], .int .i64 0]) ∧ Below w'.heap.size w' w'') ∧
    (∀ w', Calls Try.prog 13 #[pv, .int .i64 ((j : Int) + 1), .int .i64 tl[j], .int .i64 tl[j + 1]] w' fun e w'' => e = .returned (.tuple #[.bool true, .int .i64 0]) ∧ Below w'.heap.size w' w'') ∧
    (tl[j] < tl[j + 1] → ∀ w', Calls Try.prog 13 #[pv, .int .i64 ((j : Int) + 1), .int .i64 tl[j], .int .i64 (tl[j + 1] - 1)] w' fun e w'' => e = .returned (.tuple #[.bool false, .int .i64 0]) ∧ Below w'.heap.size w' w'') ∧
    (0 ≤ tl[j + 1] ∧ tl[j + 1] ≤ 1099511627776)
  out : ∀ (h : j + 1 = tl.length) w', Calls Try.prog 11 #[pv, .int .i64 ((j : Int) + 1), .int .i64 tl[j]] w' fun e w'' => (∃ d, e = .returned (.tuple #[.int .i64 d, .int .i64 3])) ∧ Below w'.heap.size w' w''
theorem rc2 {p : Pol} {a : Int} (hp : polB p = true) (ht : timB a = true) {j : Nat} (hj : j < nwt p) : RC2 (polV p) p.c (timL p a) (wtP p) j := by
  obtain ⟨h1, h2, h3⟩ := rz (a := a) hp ht hj
  refine ⟨fun w' => ?_, h1.2.2, fun h => ?_, fun h w' => ?_⟩
  · have := wait_any p ((j : Int) + 1) w'
    rw [h1.1, h1.2.1] at this
    exact this
  · obtain ⟨g1, g2, g3, g4, g5⟩ := h2 h
    refine ⟨fun w' => ?_, fun w' => ?_, fun q w' => ?_, ?_⟩
    · have := due_any p ((j : Int) + 1) (timL p a)[j] w'
      rw [g1, g2] at this
      exact this
    · have := may_any p ((j : Int) + 1) (timL p a)[j] (timL p a)[j + 1] w'
      rw [g3, g4] at this
      exact this
    · have := may_any p ((j : Int) + 1) (timL p a)[j] ((timL p a)[j + 1] - 1) w'
      rw [(g5 q).1, (g5 q).2] at this
      exact this
    · rw [← g2]; exact due_bd _ _
  · have := due_any p ((j : Int) + 1) (timL p a)[j] w'
    rw [h3 h] at this
    exact this.mono (fun e w'' ⟨q1, q2⟩ => ⟨⟨_, q1⟩, q2⟩)
set_option maxHeartbeats 8000000 in
set_option maxRecDepth 100000 in
theorem retryRises_any (p : Pol) (a : Int) (w : World) : Calls Try.prog 7 #[polV p, .int .i64 a] w fun e w' => e = .returned (.bool true) ∧ Below w.heap.size w w' := by
  have WK := hid works_any
  have TM := hid (fun w' => times_any p a w')
  have P0 := hid (BP.box w p)
  have PN : Hid (∀ w1 w2, BP w p w1 → Below w1.heap.size w1 w2 → BP w p w2) := fun w1 w2 h k => h.next k
  have PC : Hid (∀ w1, BP w p w1 → w1.cell? ⟨w.heap.size, 0, none⟩ = some (.int .i64 p.t) ∧ w1.cell? ⟨w.heap.size, 1, none⟩ = some (.int .i64 p.b) ∧ w1.cell? ⟨w.heap.size, 2, none⟩ = some (.int .i64 p.f) ∧ w1.cell? ⟨w.heap.size, 3, none⟩ = some (.int .i64 p.c)) := fun w1 h => h.2
  have PB : Hid (∀ w1, BP w p w1 → Below w.heap.size w w1) := fun w1 h => h.1
  by_cases hE : timE p a = 0
  · have hp : polB p = true := by
      cases e : polB p with
      | true => rfl
      | false => rw [(timE_no e a).1] at hE; cases hE
    have ht : timB a = true := by
      cases e : timB a with
      | true => rfl
      | false => rw [(timE_rng hp e).1] at hE; cases hE
    have hL := (timE_ok hp ht).2
    have l0 : 0 < (timL p a).length := by rw [hL]; simp
    have l1 : (timL p a)[0] = a := by simp [hL]
    have l2 : (timL p a).length ≤ nwt p + 1 := by
      have := tmL_len a (wts p)
      have := wts_len p
      rw [hL]; simp; omega
    have l3 : nwt p ≤ 63 := by have := pol_bd hp; unfold nwt; omega
    have pmx := nwt_t hp
    have RC := hid (fun j (hj : j < nwt p) => rc2 (a := a) hp ht hj)
    have UP : Hid (∀ j, j < nwt p → lw (wtP p) j ≤ wtP p j) := fun j hj => by
      cases j with
      | zero => exact (wt_bd hp 0).1
      | succ j => exact wt_up hp (by unfold nwt at hj; omega) j
    have WE : Hid (∀ w', Calls Try.prog 9 #[polV p, .int .i64 (max p.t 1)] w' fun e w'' => e = .returned (.tuple #[.int .i64 0, .int .i64 4]) ∧ Below w'.heap.size w' w'') := fun w' => by
      obtain ⟨q1, q2⟩ := watE_none hp (k := max p.t 1) (by omega) (by omega)
      have := wait_any p (max p.t 1) w'
      rw [q1, q2] at this
      exact this
    have WB0 : Hid (wtP p 0 = p.b) := rfl
    rw [hE] at TM
    clear hL ht
    generalize BP w p = B at *
    generalize timL p a = tl at *
    generalize nwt p = m at *
    generalize wtP p = wt at *
    obtain ⟨pt, pb, pf, pc⟩ := p
    simp only [polV] at *
    clear hE hp
    go_enter Try.func7, Try.ntmps7
    go_upto_region 4 with (first | (go_at_call 17; refine (WK.out _).mono ?_; rintro e w1 ⟨rfl, hb⟩; have B1 := hid (PN.out _ _ P0.out hb); obtain ⟨C0, C1, C2, C3⟩ := PC.out _ B1.out; clear hb P0) | (go_at_call 18; refine (TM.out _).mono ?_; rintro e w2 ⟨v, rfl, ho, hb⟩; obtain ⟨q, cq, rfl, _⟩ := ho.form; have B2 := hid (PN.out _ _ B1.out hb); have S2 := hid (ho.gs KI_ok.len); clear hb ho C0 C1 C2 C3))
    clear TM WK B1
    obtain ⟨X, o, hqq, hq4⟩ := S2.out.atI l0
    clear hq4
    subst hqq
    have G2 : Hid (GG B (.slice (some ⟨X, o, none⟩) tl.length cq) tl w2) := ⟨B2.out, S2.out⟩
    have GN : Hid (∀ w1 w2, GG B (.slice (some ⟨X, o, none⟩) tl.length cq) tl w1 → Below w1.heap.size w1 w2 → GG B (.slice (some ⟨X, o, none⟩) tl.length cq) tl w2) := fun w1 w2 h k => ⟨PN.out _ _ h.1 k, h.2.below k⟩
    have GC : Hid (∀ w1, GG B (.slice (some ⟨X, o, none⟩) tl.length cq) tl w1 → w1.cell? ⟨w.heap.size, 0, none⟩ = some (.int .i64 pt) ∧ w1.cell? ⟨w.heap.size, 1, none⟩ = some (.int .i64 pb) ∧ w1.cell? ⟨w.heap.size, 2, none⟩ = some (.int .i64 pf) ∧ w1.cell? ⟨w.heap.size, 3, none⟩ = some (.int .i64 pc)) := fun w1 h => PC.out _ h.1
    have GL : Hid (∀ w1, GG B (.slice (some ⟨X, o, none⟩) tl.length cq) tl w1 → ∀ j (hj : j < tl.length), w1.cell? ⟨X, o + j, none⟩ = some (.int .i64 tl[j])) := fun w1 h j hj => by
      obtain ⟨X', o', e, hc⟩ := h.2.atI hj
      injection e with e
      injection e with e1 e2 _
      subst e1 e2
      exact hc
    have GB : Hid (∀ w1, GG B (.slice (some ⟨X, o, none⟩) tl.length cq) tl w1 → Below w.heap.size w w1) := fun w1 h => PB.out _ h.1
    have GD : Hid (∀ w1, GG B (.slice (some ⟨X, o, none⟩) tl.length cq) tl w1 → GG B (.slice (some ⟨X, o, none⟩) tl.length cq) tl w1.drew) := fun w1 h => GN.out _ _ h (Below.refl _ _).drew
    generalize GG B (.slice (some ⟨X, o, none⟩) tl.length cq) tl = G at *
    clear B2 S2 PN PC PB
    have C0 := GL.out _ G2.out 0 l0
    rw [l1, Nat.add_zero] at C0
    obtain ⟨E0, E1, E2, E3⟩ := GC.out _ G2.out
    have z1 : ((tl.length : Int) == 0) = false := by rw [beq_eq_false_iff_ne]; omega
    have z2 : ¬ (tl.length : Int) = 0 := by omega
    have z3 : ¬ (m : Int) + 1 < (tl.length : Int) := by omega
    have z4 : (0 : Int) < (tl.length : Int) := by omega
    by_cases hpt : pt < 1
    · obtain rfl : m = 0 := by omega
      have hm1 : max pt 1 = 1 := by omega
      rw [hm1] at WE
      have l4 : ¬ (1 : Int) < (tl.length : Int) := by omega
      clear pmx hm1
      go_wp2_with fail
      go_loopw [7, 8] (fun v7 v8 wr => v8 = .int .i64 1 ∧ wr = w2) (fun _ _ _ => 0)
      case atStart => exact ⟨rfl, rfl⟩
      case round =>
        obtain ⟨rfl, rfl⟩ := hrel
        go_wp2_with (go_at_call 9; refine (WE.out _).mono ?_; rintro e w3 ⟨rfl, hb⟩; have G3 := hid (GN.out _ _ G2.out hb); clear hb)
        go_ret
        exact ⟨rfl, GB.out _ G3.out⟩
    · obtain rfl : pt = (m : Int) + 1 := by omega
      rw [show max ((m : Int) + 1) 1 = (m : Int) + 1 by omega] at WE
      go_wp2_with fail
      go_loopw [7, 8] (fun v7 v8 wr => ∃ (j : Nat) (wk : World), v8 = .int .i64 ((j : Int) + 1) ∧ v7 = .int .i64 (lw wt j) ∧ wk = wr ∧ j ≤ m ∧ Hid (G wk)) (fun _ v8 _ => m + 1 - (intOf v8).toNat)
      case atStart => exact ⟨0, _, rfl, rfl, rfl, Nat.zero_le _, G2⟩
      case round =>
        obtain ⟨j, wr, rfl, rfl, rfl, hj, HG⟩ := hrel
        clear E0 E1 E2 E3 C0
        obtain ⟨E0, E1, E2, E3⟩ := GC.out _ HG.out
        by_cases hlt : j < m
        · obtain ⟨R1, R2, R3, R4⟩ := RC.out j hlt
          have hup := UP.out j hlt
          have W1 := hid R1
          have W0 : Hid (j = 0 → wt j = pb) := fun e => by rw [e]; exact WB0.out
          have LN0 : Hid (lw wt (j + 1) = wt j) := rfl
          clear RC R1 UP WB0
          generalize lw wt j = lj at *
          generalize hwj : wt j = wj at *
          have LN : Hid (lw wt (j + 1) = wj) := LN0.out
          clear hwj LN0
          generalize hkk : (j : Int) + 1 = kk at *
          obtain ⟨kn, rfl⟩ : ∃ kn : Nat, kk = (kn : Int) := ⟨j + 1, by omega⟩
          have KK := hid hkk
          have k1 : (kn : Int) - 1 = (j : Int) := by omega
          have k7 : (0 : Int) ≤ (kn : Int) := by omega
          have k8 : IntKind.i64.wrap (kn : Int) = (kn : Int) := by simp [IntKind.wrap, IntKind.bits, IntKind.signed]; omega
          have KN : Hid (kn = j + 1) := by show _ = _; omega
          have k2 : IntKind.i64.wrap (j : Int) = (j : Int) := by simp [IntKind.wrap, IntKind.bits, IntKind.signed]; omega
          have k3 : (0 : Int) ≤ (j : Int) := by omega
          have k4 : (1 : Int) ≤ (kn : Int) ∧ (kn : Int) ≤ 64 := by omega
          obtain ⟨k4, k5⟩ := k4
          have k6 : (kn : Int) < (m : Int) + 1 := by omega
          by_cases hj0 : j = 0
          · skip
            have kb : ((kn : Int) == 1) = true := by rw [beq_iff_eq]; omega
            have wb : (wj == pb) = true := by rw [beq_iff_eq]; exact W0.out (by omega)
            have wb2 : (wj != pb) = false := by simp [bne, wb]
            clear W0 hj0
            have nb : ¬ pc < wj := by omega
            have nb2 : ¬ wj < lj := by omega
            by_cases hA : j + 1 < tl.length
            · obtain ⟨D0, M0, M1, y0, y1⟩ := R3 hA
              have D := hid D0
              have M := hid M0
              have CX : Hid (∀ w', G w' → w'.cell? ⟨X, o + j, none⟩ = some (.int .i64 tl[j]) ∧ w'.cell? ⟨X, o + kn, none⟩ = some (.int .i64 tl[j + 1])) := fun w' h => ⟨GL.out w' h j (by omega), by rw [KN.out]; exact GL.out w' h (j + 1) hA⟩
              have hA2 : (kn : Int) < (tl.length : Int) := by omega
              have hA3 : (j : Int) < (tl.length : Int) := by omega
              by_cases hxy : tl[j] < tl[j + 1]
              · have M2 := hid (M1 hxy)
                clear R3 R4 D0 M0 M1 GL
                generalize tl[j] = x at *
                generalize tl[j + 1] = y at *
                clear hkk
                go_upto_region 17 with (go_at_call 9; refine (W1.out _).mono ?_; rintro e w3 ⟨rfl, hb⟩; have G3 := hid (GN.out _ _ HG.out hb); clear hb E0 E1 E2 E3; obtain ⟨E0, E1, E2, E3⟩ := GC.out _ G3.out)
                obtain ⟨cx, cy⟩ := CX.out _ G3.out
                go_region_held3 (fun w' => (w'.cell? ⟨w.heap.size, 0, none⟩ = some (.int .i64 ((m : Int) + 1)) ∧ w'.cell? ⟨w.heap.size, 1, none⟩ = some (.int .i64 pb) ∧ w'.cell? ⟨w.heap.size, 2, none⟩ = some (.int .i64 pf) ∧ w'.cell? ⟨w.heap.size, 3, none⟩ = some (.int .i64 pc)) ∧ w'.cell? ⟨X, o + j, none⟩ = some (.int .i64 x) ∧ w'.cell? ⟨X, o + kn, none⟩ = some (.int .i64 y)) (go_keep) (first | (go_at_call 11; refine (D.out _).mono ?_; rintro e w4 ⟨rfl, hb⟩; have G4 := hid (GN.out _ _ (by first | exact G3.out | exact GD.out _ G3.out) hb); obtain ⟨f4a, f4b, f4c, f4d⟩ := GC.out _ G4.out; obtain ⟨f4x, f4y⟩ := CX.out _ G4.out; clear hb))
                all_goals
                  go_upto_region 18 with fail
                  go_region_held3 (fun w' => (w'.cell? ⟨w.heap.size, 0, none⟩ = some (.int .i64 ((m : Int) + 1)) ∧ w'.cell? ⟨w.heap.size, 1, none⟩ = some (.int .i64 pb) ∧ w'.cell? ⟨w.heap.size, 2, none⟩ = some (.int .i64 pf) ∧ w'.cell? ⟨w.heap.size, 3, none⟩ = some (.int .i64 pc)) ∧ w'.cell? ⟨X, o + j, none⟩ = some (.int .i64 x) ∧ w'.cell? ⟨X, o + kn, none⟩ = some (.int .i64 y)) (go_keep) (first | (go_at_call 13; refine (M.out _).mono ?_; rintro e w5 ⟨rfl, hb⟩; have G5 := hid (GN.out _ _ (by first | exact G4.out | exact GD.out _ G4.out) hb); obtain ⟨f5a, f5b, f5c, f5d⟩ := GC.out _ G5.out; obtain ⟨f5x, f5y⟩ := CX.out _ G5.out; clear hb))
                  all_goals
                    go_wp2_with fail
                    go_quiet (fail)
                    go_upto_region 22 with fail
                    have hyw : IntKind.i64.wrap (y - 1) = y - 1 := by simp [IntKind.wrap, IntKind.bits, IntKind.signed]; omega
                    generalize hw6 : World.drewN _ _ = w5d
                    have G6d : Hid (G w5d) := by rw [← hw6]; exact GN.out _ _ G5.out (drew_below _ _)
                    clear hw6 cx cy f4a f4b f4c f4d f4x f4y f5a f5b f5c f5d f5x f5y
                    obtain ⟨h6a, h6b, h6c, h6d⟩ := GC.out _ G6d.out
                    obtain ⟨h6x, h6y⟩ := CX.out _ G6d.out
                    go_region_held3 (fun w' => (w'.cell? ⟨w.heap.size, 0, none⟩ = some (.int .i64 ((m : Int) + 1)) ∧ w'.cell? ⟨w.heap.size, 1, none⟩ = some (.int .i64 pb) ∧ w'.cell? ⟨w.heap.size, 2, none⟩ = some (.int .i64 pf) ∧ w'.cell? ⟨w.heap.size, 3, none⟩ = some (.int .i64 pc)) ∧ w'.cell? ⟨X, o + j, none⟩ = some (.int .i64 x) ∧ w'.cell? ⟨X, o + kn, none⟩ = some (.int .i64 y)) (go_keep) (first | (go_at_call 13; refine (M2.out _).mono ?_; rintro e w6 ⟨rfl, hb⟩; have G6 := hid (GN.out _ _ (by first | exact G6d.out | exact GD.out _ G6d.out) hb); obtain ⟨f6a, f6b, f6c, f6d⟩ := GC.out _ G6.out; obtain ⟨f6x, f6y⟩ := CX.out _ G6.out; clear hb))
                    all_goals
                      go_wp2_with fail
                      go_roundw
                      case rel => exact ⟨j + 1, _, by rw [← KK.out]; go_num, by rw [LN.out], rfl, by omega, G6⟩
                      case measure => have := KK.out; simp [intOf]; omega
              · skip
                clear R3 R4 D0 M0 M1 GL
                generalize tl[j] = x at *
                generalize tl[j + 1] = y at *
                clear hkk
                go_upto_region 17 with (go_at_call 9; refine (W1.out _).mono ?_; rintro e w3 ⟨rfl, hb⟩; have G3 := hid (GN.out _ _ HG.out hb); clear hb E0 E1 E2 E3; obtain ⟨E0, E1, E2, E3⟩ := GC.out _ G3.out)
                obtain ⟨cx, cy⟩ := CX.out _ G3.out
                go_region_held3 (fun w' => (w'.cell? ⟨w.heap.size, 0, none⟩ = some (.int .i64 ((m : Int) + 1)) ∧ w'.cell? ⟨w.heap.size, 1, none⟩ = some (.int .i64 pb) ∧ w'.cell? ⟨w.heap.size, 2, none⟩ = some (.int .i64 pf) ∧ w'.cell? ⟨w.heap.size, 3, none⟩ = some (.int .i64 pc)) ∧ w'.cell? ⟨X, o + j, none⟩ = some (.int .i64 x) ∧ w'.cell? ⟨X, o + kn, none⟩ = some (.int .i64 y)) (go_keep) (first | (go_at_call 11; refine (D.out _).mono ?_; rintro e w4 ⟨rfl, hb⟩; have G4 := hid (GN.out _ _ (by first | exact G3.out | exact GD.out _ G3.out) hb); obtain ⟨f4a, f4b, f4c, f4d⟩ := GC.out _ G4.out; obtain ⟨f4x, f4y⟩ := CX.out _ G4.out; clear hb))
                all_goals
                  go_upto_region 18 with fail
                  go_region_held3 (fun w' => (w'.cell? ⟨w.heap.size, 0, none⟩ = some (.int .i64 ((m : Int) + 1)) ∧ w'.cell? ⟨w.heap.size, 1, none⟩ = some (.int .i64 pb) ∧ w'.cell? ⟨w.heap.size, 2, none⟩ = some (.int .i64 pf) ∧ w'.cell? ⟨w.heap.size, 3, none⟩ = some (.int .i64 pc)) ∧ w'.cell? ⟨X, o + j, none⟩ = some (.int .i64 x) ∧ w'.cell? ⟨X, o + kn, none⟩ = some (.int .i64 y)) (go_keep) (first | (go_at_call 13; refine (M.out _).mono ?_; rintro e w5 ⟨rfl, hb⟩; have G5 := hid (GN.out _ _ (by first | exact G4.out | exact GD.out _ G4.out) hb); obtain ⟨f5a, f5b, f5c, f5d⟩ := GC.out _ G5.out; obtain ⟨f5x, f5y⟩ := CX.out _ G5.out; clear hb))
                  all_goals
                    go_wp2_with fail
                    go_quiet (fail)
                    go_wp2_with fail
                    go_roundw
                    case rel => exact ⟨j + 1, _, by rw [← KK.out]; go_num, by rw [LN.out], rfl, by omega, GN.out _ _ G5.out (drew_below _ _)⟩
                    case measure => have := KK.out; simp [intOf]; omega
            · by_cases hB : j + 1 = tl.length
              · have D := hid (R4 hB)
                have CX : Hid (∀ w', G w' → w'.cell? ⟨X, o + j, none⟩ = some (.int .i64 tl[j]) ∧ True) := fun w' h => ⟨GL.out w' h j (by omega), trivial⟩
                have hA2 : ¬ (kn : Int) < (tl.length : Int) := by omega
                have hA3 : (j : Int) < (tl.length : Int) := by omega
                clear R3 R4 GL
                generalize tl[j] = x at *
                clear l1 l0 hA
                generalize tl.length = N at *
                have hA4 : ((kn : Int) == (N : Int)) = true := by rw [beq_iff_eq]; omega
                clear hB
                clear hkk
                go_upto_region 26 with (go_at_call 9; refine (W1.out _).mono ?_; rintro e w3 ⟨rfl, hb⟩; have G3 := hid (GN.out _ _ HG.out hb); clear hb E0 E1 E2 E3; obtain ⟨E0, E1, E2, E3⟩ := GC.out _ G3.out)
                obtain ⟨cx, _⟩ := CX.out _ G3.out
                go_region_held3 (fun w' => (w'.cell? ⟨w.heap.size, 0, none⟩ = some (.int .i64 ((m : Int) + 1)) ∧ w'.cell? ⟨w.heap.size, 1, none⟩ = some (.int .i64 pb) ∧ w'.cell? ⟨w.heap.size, 2, none⟩ = some (.int .i64 pf) ∧ w'.cell? ⟨w.heap.size, 3, none⟩ = some (.int .i64 pc)) ∧ w'.cell? ⟨X, o + j, none⟩ = some (.int .i64 x)) (go_keep) (first | (go_at_call 11; refine (D.out _).mono ?_; rintro e w4 ⟨⟨dd, rfl⟩, hb⟩; have G4 := hid (GN.out _ _ (by first | exact G3.out | exact GD.out _ G3.out) hb); obtain ⟨f4a, f4b, f4c, f4d⟩ := GC.out _ G4.out; obtain ⟨f4x, _⟩ := CX.out _ G4.out; clear hb))
                all_goals
                  go_wp2_with fail
                  go_roundw
                  case rel => exact ⟨j + 1, _, by rw [← KK.out]; go_num, by rw [LN.out], rfl, by omega, G4⟩
                  case measure => have := KK.out; simp [intOf]; omega
              · have hA2 : ¬ (kn : Int) < (tl.length : Int) := by omega
                have hA4 : ((kn : Int) == (tl.length : Int)) = false := by rw [beq_eq_false_iff_ne]; omega
                have hA5 : ¬ (kn : Int) = (tl.length : Int) := by omega
                clear R3 R4 GL
                clear hkk
                go_wp2_with (go_at_call 9; refine (W1.out _).mono ?_; rintro e w3 ⟨rfl, hb⟩; have G3 := hid (GN.out _ _ HG.out hb); clear hb E0 E1 E2 E3; obtain ⟨E0, E1, E2, E3⟩ := GC.out _ G3.out)
                go_roundw
                case rel => exact ⟨j + 1, _, by rw [← KK.out]; go_num, by rw [LN.out], rfl, by omega, G3⟩
                case measure => have := KK.out; simp [intOf]; omega
          · skip
            have kb : ((kn : Int) == 1) = false := by rw [beq_eq_false_iff_ne]; omega
            have kb2 : ¬ (kn : Int) = 1 := by omega
            clear W0 hj0
            have nb : ¬ pc < wj := by omega
            have nb2 : ¬ wj < lj := by omega
            by_cases hA : j + 1 < tl.length
            · obtain ⟨D0, M0, M1, y0, y1⟩ := R3 hA
              have D := hid D0
              have M := hid M0
              have CX : Hid (∀ w', G w' → w'.cell? ⟨X, o + j, none⟩ = some (.int .i64 tl[j]) ∧ w'.cell? ⟨X, o + kn, none⟩ = some (.int .i64 tl[j + 1])) := fun w' h => ⟨GL.out w' h j (by omega), by rw [KN.out]; exact GL.out w' h (j + 1) hA⟩
              have hA2 : (kn : Int) < (tl.length : Int) := by omega
              have hA3 : (j : Int) < (tl.length : Int) := by omega
              by_cases hxy : tl[j] < tl[j + 1]
              · have M2 := hid (M1 hxy)
                clear R3 R4 D0 M0 M1 GL
                generalize tl[j] = x at *
                generalize tl[j + 1] = y at *
                clear hkk
                go_upto_region 17 with (go_at_call 9; refine (W1.out _).mono ?_; rintro e w3 ⟨rfl, hb⟩; have G3 := hid (GN.out _ _ HG.out hb); clear hb E0 E1 E2 E3; obtain ⟨E0, E1, E2, E3⟩ := GC.out _ G3.out)
                obtain ⟨cx, cy⟩ := CX.out _ G3.out
                go_region_held3 (fun w' => (w'.cell? ⟨w.heap.size, 0, none⟩ = some (.int .i64 ((m : Int) + 1)) ∧ w'.cell? ⟨w.heap.size, 1, none⟩ = some (.int .i64 pb) ∧ w'.cell? ⟨w.heap.size, 2, none⟩ = some (.int .i64 pf) ∧ w'.cell? ⟨w.heap.size, 3, none⟩ = some (.int .i64 pc)) ∧ w'.cell? ⟨X, o + j, none⟩ = some (.int .i64 x) ∧ w'.cell? ⟨X, o + kn, none⟩ = some (.int .i64 y)) (go_keep) (first | (go_at_call 11; refine (D.out _).mono ?_; rintro e w4 ⟨rfl, hb⟩; have G4 := hid (GN.out _ _ (by first | exact G3.out | exact GD.out _ G3.out) hb); obtain ⟨f4a, f4b, f4c, f4d⟩ := GC.out _ G4.out; obtain ⟨f4x, f4y⟩ := CX.out _ G4.out; clear hb))
                all_goals
                  go_upto_region 18 with fail
                  go_region_held3 (fun w' => (w'.cell? ⟨w.heap.size, 0, none⟩ = some (.int .i64 ((m : Int) + 1)) ∧ w'.cell? ⟨w.heap.size, 1, none⟩ = some (.int .i64 pb) ∧ w'.cell? ⟨w.heap.size, 2, none⟩ = some (.int .i64 pf) ∧ w'.cell? ⟨w.heap.size, 3, none⟩ = some (.int .i64 pc)) ∧ w'.cell? ⟨X, o + j, none⟩ = some (.int .i64 x) ∧ w'.cell? ⟨X, o + kn, none⟩ = some (.int .i64 y)) (go_keep) (first | (go_at_call 13; refine (M.out _).mono ?_; rintro e w5 ⟨rfl, hb⟩; have G5 := hid (GN.out _ _ (by first | exact G4.out | exact GD.out _ G4.out) hb); obtain ⟨f5a, f5b, f5c, f5d⟩ := GC.out _ G5.out; obtain ⟨f5x, f5y⟩ := CX.out _ G5.out; clear hb))
                  all_goals
                    go_wp2_with fail
                    go_quiet (fail)
                    go_upto_region 22 with fail
                    have hyw : IntKind.i64.wrap (y - 1) = y - 1 := by simp [IntKind.wrap, IntKind.bits, IntKind.signed]; omega
                    generalize hw6 : World.drewN _ _ = w5d
                    have G6d : Hid (G w5d) := by rw [← hw6]; exact GN.out _ _ G5.out (drew_below _ _)
                    clear hw6 cx cy f4a f4b f4c f4d f4x f4y f5a f5b f5c f5d f5x f5y
                    obtain ⟨h6a, h6b, h6c, h6d⟩ := GC.out _ G6d.out
                    obtain ⟨h6x, h6y⟩ := CX.out _ G6d.out
                    go_region_held3 (fun w' => (w'.cell? ⟨w.heap.size, 0, none⟩ = some (.int .i64 ((m : Int) + 1)) ∧ w'.cell? ⟨w.heap.size, 1, none⟩ = some (.int .i64 pb) ∧ w'.cell? ⟨w.heap.size, 2, none⟩ = some (.int .i64 pf) ∧ w'.cell? ⟨w.heap.size, 3, none⟩ = some (.int .i64 pc)) ∧ w'.cell? ⟨X, o + j, none⟩ = some (.int .i64 x) ∧ w'.cell? ⟨X, o + kn, none⟩ = some (.int .i64 y)) (go_keep) (first | (go_at_call 13; refine (M2.out _).mono ?_; rintro e w6 ⟨rfl, hb⟩; have G6 := hid (GN.out _ _ (by first | exact G6d.out | exact GD.out _ G6d.out) hb); obtain ⟨f6a, f6b, f6c, f6d⟩ := GC.out _ G6.out; obtain ⟨f6x, f6y⟩ := CX.out _ G6.out; clear hb))
                    all_goals
                      go_wp2_with fail
                      go_roundw
                      case rel => exact ⟨j + 1, _, by rw [← KK.out]; go_num, by rw [LN.out], rfl, by omega, G6⟩
                      case measure => have := KK.out; simp [intOf]; omega
              · skip
                clear R3 R4 D0 M0 M1 GL
                generalize tl[j] = x at *
                generalize tl[j + 1] = y at *
                clear hkk
                go_upto_region 17 with (go_at_call 9; refine (W1.out _).mono ?_; rintro e w3 ⟨rfl, hb⟩; have G3 := hid (GN.out _ _ HG.out hb); clear hb E0 E1 E2 E3; obtain ⟨E0, E1, E2, E3⟩ := GC.out _ G3.out)
                obtain ⟨cx, cy⟩ := CX.out _ G3.out
                go_region_held3 (fun w' => (w'.cell? ⟨w.heap.size, 0, none⟩ = some (.int .i64 ((m : Int) + 1)) ∧ w'.cell? ⟨w.heap.size, 1, none⟩ = some (.int .i64 pb) ∧ w'.cell? ⟨w.heap.size, 2, none⟩ = some (.int .i64 pf) ∧ w'.cell? ⟨w.heap.size, 3, none⟩ = some (.int .i64 pc)) ∧ w'.cell? ⟨X, o + j, none⟩ = some (.int .i64 x) ∧ w'.cell? ⟨X, o + kn, none⟩ = some (.int .i64 y)) (go_keep) (first | (go_at_call 11; refine (D.out _).mono ?_; rintro e w4 ⟨rfl, hb⟩; have G4 := hid (GN.out _ _ (by first | exact G3.out | exact GD.out _ G3.out) hb); obtain ⟨f4a, f4b, f4c, f4d⟩ := GC.out _ G4.out; obtain ⟨f4x, f4y⟩ := CX.out _ G4.out; clear hb))
                all_goals
                  go_upto_region 18 with fail
                  go_region_held3 (fun w' => (w'.cell? ⟨w.heap.size, 0, none⟩ = some (.int .i64 ((m : Int) + 1)) ∧ w'.cell? ⟨w.heap.size, 1, none⟩ = some (.int .i64 pb) ∧ w'.cell? ⟨w.heap.size, 2, none⟩ = some (.int .i64 pf) ∧ w'.cell? ⟨w.heap.size, 3, none⟩ = some (.int .i64 pc)) ∧ w'.cell? ⟨X, o + j, none⟩ = some (.int .i64 x) ∧ w'.cell? ⟨X, o + kn, none⟩ = some (.int .i64 y)) (go_keep) (first | (go_at_call 13; refine (M.out _).mono ?_; rintro e w5 ⟨rfl, hb⟩; have G5 := hid (GN.out _ _ (by first | exact G4.out | exact GD.out _ G4.out) hb); obtain ⟨f5a, f5b, f5c, f5d⟩ := GC.out _ G5.out; obtain ⟨f5x, f5y⟩ := CX.out _ G5.out; clear hb))
                  all_goals
                    go_wp2_with fail
                    go_quiet (fail)
                    go_wp2_with fail
                    go_roundw
                    case rel => exact ⟨j + 1, _, by rw [← KK.out]; go_num, by rw [LN.out], rfl, by omega, GN.out _ _ G5.out (drew_below _ _)⟩
                    case measure => have := KK.out; simp [intOf]; omega
            · by_cases hB : j + 1 = tl.length
              · have D := hid (R4 hB)
                have CX : Hid (∀ w', G w' → w'.cell? ⟨X, o + j, none⟩ = some (.int .i64 tl[j]) ∧ True) := fun w' h => ⟨GL.out w' h j (by omega), trivial⟩
                have hA2 : ¬ (kn : Int) < (tl.length : Int) := by omega
                have hA3 : (j : Int) < (tl.length : Int) := by omega
                clear R3 R4 GL
                generalize tl[j] = x at *
                clear l1 l0 hA
                generalize tl.length = N at *
                have hA4 : ((kn : Int) == (N : Int)) = true := by rw [beq_iff_eq]; omega
                clear hB
                clear hkk
                go_upto_region 26 with (go_at_call 9; refine (W1.out _).mono ?_; rintro e w3 ⟨rfl, hb⟩; have G3 := hid (GN.out _ _ HG.out hb); clear hb E0 E1 E2 E3; obtain ⟨E0, E1, E2, E3⟩ := GC.out _ G3.out)
                obtain ⟨cx, _⟩ := CX.out _ G3.out
                go_region_held3 (fun w' => (w'.cell? ⟨w.heap.size, 0, none⟩ = some (.int .i64 ((m : Int) + 1)) ∧ w'.cell? ⟨w.heap.size, 1, none⟩ = some (.int .i64 pb) ∧ w'.cell? ⟨w.heap.size, 2, none⟩ = some (.int .i64 pf) ∧ w'.cell? ⟨w.heap.size, 3, none⟩ = some (.int .i64 pc)) ∧ w'.cell? ⟨X, o + j, none⟩ = some (.int .i64 x)) (go_keep) (first | (go_at_call 11; refine (D.out _).mono ?_; rintro e w4 ⟨⟨dd, rfl⟩, hb⟩; have G4 := hid (GN.out _ _ (by first | exact G3.out | exact GD.out _ G3.out) hb); obtain ⟨f4a, f4b, f4c, f4d⟩ := GC.out _ G4.out; obtain ⟨f4x, _⟩ := CX.out _ G4.out; clear hb))
                all_goals
                  go_wp2_with fail
                  go_roundw
                  case rel => exact ⟨j + 1, _, by rw [← KK.out]; go_num, by rw [LN.out], rfl, by omega, G4⟩
                  case measure => have := KK.out; simp [intOf]; omega
              · have hA2 : ¬ (kn : Int) < (tl.length : Int) := by omega
                have hA4 : ((kn : Int) == (tl.length : Int)) = false := by rw [beq_eq_false_iff_ne]; omega
                have hA5 : ¬ (kn : Int) = (tl.length : Int) := by omega
                clear R3 R4 GL
                clear hkk
                go_wp2_with (go_at_call 9; refine (W1.out _).mono ?_; rintro e w3 ⟨rfl, hb⟩; have G3 := hid (GN.out _ _ HG.out hb); clear hb E0 E1 E2 E3; obtain ⟨E0, E1, E2, E3⟩ := GC.out _ G3.out)
                go_roundw
                case rel => exact ⟨j + 1, _, by rw [← KK.out]; go_num, by rw [LN.out], rfl, by omega, G3⟩
                case measure => have := KK.out; simp [intOf]; omega
        · obtain rfl : j = m := by omega
          go_wp2_with (go_at_call 9; refine (WE.out _).mono ?_; rintro e w3 ⟨rfl, hb⟩; have G3 := hid (GN.out _ _ HG.out hb); clear hb)
          go_ret
          exact ⟨rfl, GB.out _ G3.out⟩
  · have hL : timL p a = [] := by unfold timL; rw [if_neg hE]
    rw [hL] at TM
    have hE2 : (timE p a == 0) = false := by simpa using hE
    have hE3 : (timE p a != 0) = true := by simpa using hE
    generalize timE p a = er at *
    generalize BP w p = B at *
    obtain ⟨pt, pb, pf, pc⟩ := p
    simp only [polV] at *
    clear hL
    go_enter Try.func7, Try.ntmps7
    go_wp2_with (first | (go_at_call 17; refine (WK.out _).mono ?_; rintro e w1 ⟨rfl, hb⟩; have B1 := hid (PN.out _ _ P0.out hb); obtain ⟨C0, C1, C2, C3⟩ := PC.out _ B1.out; clear hb P0) | (go_at_call 18; refine (TM.out _).mono ?_; rintro e w2 ⟨v, rfl, ho, hb⟩; obtain ⟨q, cq, rfl, _⟩ := ho.form; have B2 := hid (PN.out _ _ B1.out hb); clear hb ho C0 C1 C2 C3))
    go_ret
    exact ⟨rfl, PB.out _ B2.out⟩
end Go.Proofs.Ytgoffnagdpmpnaa
