/- The walk of the law FailAgrees. -/
import Derived.Test.YtaleagkhblokgaaDoorMx3
import Derived.Test.YtaleagkhblokgaaDoorFx18
namespace Go.Proofs.YtaleagkhblokgaaDoor
open Go.RowKit

theorem dpS_app : ∀ (a b : List Cr) (S : List Int), dpS S (a ++ b) = dpS (dpS S a) b
  | [], b, S => by rw [List.nil_append, dpS]
  | c :: r, b, S => by rw [List.cons_append, dpS, dpS, dpS_app r b]
theorem dpS_len : ∀ (l : List Cr) (S : List Int) (t : Int), walkC S.length l = some t → ((dpS S l).length : Int) = t
  | [], S, t, h => by rw [walkC] at h; injection h
  | c :: r, S, t, h => by
    obtain ⟨⟨hcb, hcn⟩, hwn⟩ := walk_step h
    obtain ⟨hn0, hn1⟩ := crB_n hcb
    rw [dpS]
    exact dpS_len r _ t (by rw [← hwn]; congr 1; simp; omega)
theorem deep_bd {l : List Cr} (h : chk l = 0) : 1 ≤ deepV l ∧ deepV l ≤ l.length := by
  obtain ⟨h1, h2⟩ := deepV_dK h
  have hl := whA_len l
  have h3 := dK_bd (whA_PB l) l.length (by omega) _ (mem_getD (S := dK (whA l) l.length) (j := l.length - 1) (by rw [dK_len (by omega)]; omega))
  rw [h2] at h3; exact h3
theorem deep_wrap {l : List Cr} {n : ByteArray} (h : chk l = 0) (hn : nameB n = true) (hl : l.length < 1024) : deepV (wrapL n l) = deepV l + 1 := by
  obtain ⟨_, hw⟩ := chk_ok h
  have e0 : wrapE n l = 0 := by unfold wrapE; rw [if_pos hn, h]
  have e1 : wrapL n l = l ++ [⟨9, 1, n⟩] := by
    unfold wrapL arL; rw [if_pos e0]
    have : [l].flatten = l := by simp
    rw [this, if_neg (by omega)]; rfl
  have h1 := dpS_len l [] 1 hw
  obtain ⟨d, hd⟩ : ∃ d, dpS [] l = [d] := by
    match hx : dpS [] l, h1 with
    | [d], _ => exact ⟨d, rfl⟩
    | [], e => simp at e
    | a :: b :: r, e => simp at e; omega
  have hb := deep_bd h
  unfold deepV at hb ⊢
  rw [e1, dpS_app, hd]
  rw [hd] at hb
  simp only [List.getD_cons_zero] at hb ⊢
  rw [dpS, dpS]
  simp [mxL]
  omega
theorem sub_last {l : List Cr} {j : Nat} (hj : j < l.length) : ∃ N, (subL l j).length = N + 1 ∧ ∀ (hN : N < (subL l j).length), (subL l j)[N] = l[j] := by
  have hb := whA_fb hj
  obtain ⟨q, hq⟩ : ∃ q : Nat, frA (whA l) j = q := ⟨(frA (whA l) j).toNat, by omega⟩
  have e : subL l j = (l.drop q).take (j + 1 - q) := by unfold subL; rw [hq]; rfl
  rw [hq] at hb
  rw [e]
  refine ⟨j - q, by simp; omega, fun hN => ?_⟩
  simp
  congr 1
  omega
theorem kd_bd (k : Int) : ∃ K : Int, 1 ≤ K ∧ K ≤ 11 ∧ K = wrap64 (1 + wrap64 ((IntKind.u64.wrap k).tmod 11)) := by
  have h0 : 0 ≤ IntKind.u64.wrap k := by simp [IntKind.wrap, IntKind.signed, IntKind.bits]; omega
  have e : (IntKind.u64.wrap k).tmod 11 = (IntKind.u64.wrap k) % 11 := Int.tmod_eq_emod_of_nonneg h0
  refine ⟨_, ?_, ?_, rfl⟩
  · rw [e]; simp [wrap64]; omega
  · rw [e]; simp [wrap64]; omega
structure LG (w wk : World) (f : Value) (l : List Cr) : Prop where
  bl : Below w.heap.size w wk
  fv : FV wk
  f : CS wk f l
theorem LG.below {w wk w' : World} {f : Value} {l : List Cr} (h : LG w wk f l) (b : Below wk.heap.size wk w') : LG w w' f l :=
  ⟨h.bl.trans (b.mono h.bl.size), h.fv.below b, h.f.below b⟩
set_option maxHeartbeats 16000000 in
set_option maxRecDepth 100000 in
theorem failAgrees_any (v : Value) (l : List Cr) (k : Int) (w : World) (h : CS w v l) (ht : ∀ c ∈ l, c.text.size ≤ maxLen) (hl : l.length ≤ 1000000000000000) (hv : FV w) :
    Calls Tryd.prog 8 #[v, .int .i64 k] w fun e w' => e = .returned (.bool true) ∧ Below w.heap.size w w' := by
  have WK := works_any w hv
  obtain ⟨pf, cf, rfl⟩ := h.form
  have L0 : Hid (LG w w (.slice pf l.length cf) l) := ⟨Below.refl _ _, hv, h⟩
  have CF : Hid (∀ w', LG w w' (.slice pf l.length cf) l → Calls Tryd.prog 31 #[.slice pf l.length cf] w' fun e w'' => e = .returned (.int .i64 (chk l)) ∧ Below w'.heap.size w' w'') := fun w' L => check_any _ l w' L.f ht L.fv hl
  obtain ⟨K, hK1, hK2, hKe⟩ := kd_bd k
  have HKE : Hid (K = wrap64 (1 + wrap64 ((IntKind.u64.wrap k).tmod 11))) := hKe
  clear hKe h hv
  by_cases hc : chk l = 0
  rotate_left
  · have z1 : (chk l == 0) = false := by simpa using hc
    have z2 : (chk l != 0) = true := by simpa using hc
    generalize chk l = x at *
    clear ht
    go_enter Tryd.func8, Tryd.ntmps8
    go_wp2_with fail
    refine WK.mono ?_
    rintro e w1 ⟨rfl, hb1⟩
    have L1 : Hid (LG w w1 (.slice pf l.length cf) l) := L0.out.below hb1
    clear hb1 WK
    go_wp2_with fail
    refine (CF.out _ L1.out).mono ?_
    rintro e w2 ⟨rfl, hb2⟩
    have B2 : Hid (Below w.heap.size w w2) := L1.out.bl.trans (hb2.mono L1.out.bl.size)
    clear hb2
    go_wp2_with fail
    go_ret
    exact ⟨rfl, B2.out⟩
  have hl1 := (chk_ok hc).1
  have tl := chk_text hc
  have hKK : isK K = true := by rw [isK_iff]; omega
  have hE : hasE l K = 0 := by unfold hasE; rw [if_pos hc, if_pos hKK]
  have hB : hasB l K = hasK l K := by unfold hasB; rw [hE]; simp
  have HA : Hid (∀ w', LG w w' (.slice pf l.length cf) l → Calls Tryd.prog 22 #[.slice pf l.length cf, .int .i64 K] w' fun e w'' => AnsB w' w'' e (hasK l K) 0) := fun w' L => by
    have := has_any _ l K w' L.f tl hl L.fv
    rw [hB, hE] at this; exact this
  have FI : Hid (∀ w', LG w w' (.slice pf l.length cf) l → Calls Tryd.prog 24 #[.slice pf l.length cf, .int .i64 K] w' fun e w'' => Ans w' w'' e (firL l K) (firE l K)) := fun w' L => first_any _ l K w' L.f tl hl L.fv
  have FE : Hid (firE l K = if hasK l K = true then 0 else 4) := by show _ = _; unfold firE; rw [if_pos hE]
  have FF : Hid (hasK l K = true → ∃ N, (firL l K).length = N + 1 ∧ ∀ (hN : N < (firL l K).length), (firL l K)[N].kind = K) := fun hk => by
    have he : firE l K = 0 := by rw [FE.out, if_pos hk]
    have e : firL l K = subL l (firS l K l.length).toNat := by unfold firL; rw [if_pos he]
    have hf := fir_FST hk
    obtain ⟨N, h1, h2⟩ := sub_last (l := l) (j := (firS l K l.length).toNat) (by have := hf.r; omega)
    rw [e]
    refine ⟨N, h1, fun hN => ?_⟩
    rw [h2 hN, ← knd_at]; exact hf.k
  have FX : Hid (hasK l K = true → isV l (firL l K) = true ∧ chk (firL l K) = 0 ∧ (firL l K).length ≤ l.length) := fun hk => first_facts hc (by rw [FE.out, if_pos hk])
  have ISX : Hid (hasK l K = true → ∀ w' a, LG w w' (.slice pf l.length cf) l → CS w' a (firL l K) → Calls Tryd.prog 32 #[.slice pf l.length cf, a] w' fun e w'' => e = .returned (.bool true) ∧ Below w'.heap.size w' w'') := fun hk w' a L X => by
    obtain ⟨x1, x2, x3⟩ := FX.out hk
    have := lawIs_any _ a l (firL l K) w' L.f X tl (chk_text x2) hl (by omega) L.fv
    rw [isB_ok hc x2, x1] at this; exact this
  have LE : Hid (∀ w', LG w w' (.slice pf l.length cf) l → Calls Tryd.prog 13 #[.slice pf l.length cf] w' fun e w'' => ∃ p cap, e = .returned (.tuple #[.slice p (lvK l l.length).length cap, .int .i64 0]) ∧ Below w'.heap.size w' w'') := fun w' L => by
    have := leaves_any _ l w' L.f tl hl L.fv
    have e2 : leavL l = lvK l l.length := by unfold leavL; rw [if_pos hc]
    rw [e2, hc] at this
    refine Calls.mono this fun e w'' ⟨p, cap, us, h1, h2, h3⟩ => ⟨p, cap, h1, h3⟩
  have DP : Hid (∀ w', LG w w' (.slice pf l.length cf) l → Calls Tryd.prog 35 #[.slice pf l.length cf] w' fun e w'' => e = .returned (.tuple #[.int .i64 (deepV l), .int .i64 0]) ∧ Below w'.heap.size w' w'') := fun w' L => by
    have := deep_any _ l w' L.f tl L.fv hl
    have e2 : deepA l = deepV l := by unfold deepA; rw [if_pos hc]
    rw [e2, hc] at this; exact this
  have nA : nameB ⟨#[97]⟩ = true := by decide +kernel
  have WR : Hid (∀ w', LG w w' (.slice pf l.length cf) l → Calls Tryd.prog 33 #[.string ⟨#[97]⟩, .slice pf l.length cf] w' fun e w'' => Ans w' w'' e (wrapL ⟨#[97]⟩ l) 0) := fun w' L => by
    have := wrap_any ⟨#[97]⟩ _ l w' (by unfold maxLen; decide) L.f tl hl L.fv
    have e0 : wrapE ⟨#[97]⟩ l = 0 := by unfold wrapE; rw [if_pos nA, hc]
    rw [e0] at this; exact this
  have DW : Hid (l.length < 1024 → ∀ w' a, FV w' → CS w' a (wrapL ⟨#[97]⟩ l) → Calls Tryd.prog 35 #[a] w' fun e w'' => e = .returned (.tuple #[.int .i64 (deepV l + 1), .int .i64 0]) ∧ Below w'.heap.size w' w'') := fun hl2 w' a fv cs => by
    obtain ⟨_, f1, _, _, f4⟩ := wrap_facts (m := l) hc hc nA hl2
    have := deep_any a _ w' cs (chk_text f1) fv (by omega)
    have e2 : deepA (wrapL ⟨#[97]⟩ l) = deepV (wrapL ⟨#[97]⟩ l) := by unfold deepA; rw [if_pos f1]
    rw [e2, f1, deep_wrap hc nA hl2] at this; exact this
  obtain ⟨dv, hdv⟩ : ∃ dv, dv = deepV l := ⟨_, rfl⟩
  have hdb := deep_bd hc
  rw [← hdv] at DP DW hdb
  obtain ⟨hd1, hd2⟩ := hdb
  have LS : Hid (∀ j (hj : j < l.length), (lvK l (j + 1)).length = (lvK l j).length + if l[j].n = 0 then 1 else 0) := fun j hj => by
    rw [lvK_succ hj]; split <;> simp
  have LLE : Hid (∀ j, (lvK l j).length ≤ j) := lvK_le l
  have LZ : Hid ((lvK l 0).length = 0) := by show _ = _; simp [lvK]
  rw [hc] at CF
  clear hc ht tl nA hE hB hKK hdv
  cases hk : hasK l K with
  | false =>
    have hfe : firE l K = 4 := by rw [FE.out, hk]; rfl
    rw [hk] at HA
    rw [hfe] at FI
    clear FE FF FX ISX hfe hk
    go_enter Tryd.func8, Tryd.ntmps8
    go_wp2_with fail
    refine WK.mono ?_
    rintro e w1 ⟨rfl, hb1⟩
    have L1 : Hid (LG w w1 (.slice pf l.length cf) l) := L0.out.below hb1
    clear hb1 WK
    go_wp2_with fail
    refine (CF.out _ L1.out).mono ?_
    rintro e w2 ⟨rfl, hb2⟩
    have L2 : Hid (LG w w2 (.slice pf l.length cf) l) := L1.out.below hb2
    clear hb2
    rw [← HKE.out]
    go_wp2_with fail
    refine Calls.mono (HA.out _ L2.out) ?_
    rintro e w3 ⟨rfl, hb3⟩
    have L3 : Hid (LG w w3 (.slice pf l.length cf) l) := L2.out.below hb3
    clear hb3
    go_wp2_with fail
    refine Calls.mono (FI.out _ L3.out) ?_
    rintro e w4 ⟨p4, c4, rfl, ho4, hb4⟩
    have L4 : Hid (LG w w4 (.slice pf l.length cf) l) := L3.out.below hb4
    have X4 : Hid (CS w4 (.slice p4 (firL l K).length c4) (firL l K)) := ho4.cs
    clear hb4 ho4 L1 L2 L3 L0 CF HA FI
    obtain ⟨w5, hw5⟩ : ∃ w5, w5 = w4 := ⟨_, rfl⟩
    rw [← hw5] at L4 ⊢
    have L5 : Hid (LG w w5 (.slice pf l.length cf) l) := L4
    clear hw5 L4 X4
    go_wp2_with fail
    go_loop [9, 10] (fun a b => ∃ (j n : Nat), j ≤ l.length ∧ n ≤ j ∧ a = .int .i64 n ∧ b = .int .i64 j ∧ Hid (n = (lvK l j).length)) (fun _ b => l.length - (intOf b).toNat)
    case atStart => exact ⟨0, 0, Nat.zero_le _, Nat.zero_le _, rfl, rfl, LZ.out.symm⟩
    case round =>
      obtain ⟨j, n, hj, hnj, rfl, rfl, HN⟩ := hrel
      by_cases hlt : j < l.length
      · obtain ⟨X, o, rfl, x1, x2, x3⟩ := L5.out.f.at hlt
        have hS := LS.out j hlt
        obtain ⟨c, hcc⟩ : ∃ c, c = l[j] := ⟨_, rfl⟩
        rw [← hcc] at x1 x2 x3 hS
        have hj1 : n ≤ 1024 := by omega
        by_cases hn0 : c.n = 0
        · rw [hn0] at x2
          rw [if_pos hn0] at hS
          have HN2 : Hid (n + 1 = (lvK l (j + 1)).length) := by show _ = _; rw [hS, ← HN.out]
          clear hS hcc hn0 HN
          go_wp2
          go_round
          case rel => exact ⟨j + 1, n + 1, by omega, by omega, by go_num, by go_num, HN2⟩
          case measure => simp [intOf]; omega
        · rw [if_neg hn0] at hS
          have z0 : (c.n == 0) = false := by simpa using hn0
          have HN2 : Hid (n = (lvK l (j + 1)).length) := by show _ = _; rw [hS, ← HN.out]; omega
          clear hS hcc hn0 HN
          go_wp2
          go_round
          case rel => exact ⟨j + 1, n, by omega, by omega, rfl, by go_num, HN2⟩
          case measure => simp [intOf]; omega
      · obtain rfl : j = l.length := by omega
        have hnl : n = (lvK l l.length).length := HN.out
        rw [← hnl] at LE
        clear hnl HN
        go_wp2_with fail
        refine (LE.out _ L5.out).mono ?_
        rintro e w6 ⟨p6, c6, rfl, hb6⟩
        have L6 : Hid (LG w w6 (.slice pf l.length cf) l) := L5.out.below hb6
        clear hb6 L5
        go_wp2_with fail
        refine (DP.out _ L6.out).mono ?_
        rintro e w7 ⟨rfl, hb7⟩
        have L7 : Hid (LG w w7 (.slice pf l.length cf) l) := L6.out.below hb7
        clear hb7 L6
        go_wp2_with fail
        refine Calls.mono (WR.out _ L7.out) ?_
        rintro e w8 ⟨p8, c8, rfl, ho8, hb8⟩
        have L8 : Hid (LG w w8 (.slice pf l.length cf) l) := L7.out.below hb8
        have O8 : Hid (CS w8 (.slice p8 (wrapL ⟨#[97]⟩ l).length c8) (wrapL ⟨#[97]⟩ l)) := ho8.cs
        clear hb8 ho8 L7
        by_cases hlf : l.length < 1024
        · have hlfi : ¬ (l.length : Int) ≥ 1024 := by omega
          have DX := DW.out hlf _ _ L8.out.fv O8.out
          clear DW
          go_wp2_with fail
          refine DX.mono ?_
          rintro e w9 ⟨rfl, hb9⟩
          have B9 : Hid (Below w.heap.size w w9) := L8.out.bl.trans (hb9.mono L8.out.bl.size)
          clear hb9 DX
          go_wp2_with fail
          go_ret
          exact ⟨rfl, B9.out⟩
        · have hlfi : (l.length : Int) ≥ 1024 := by omega
          clear DW
          go_wp2_with fail
          go_ret
          exact ⟨rfl, L8.out.bl⟩
  | true =>
    have hfe : firE l K = 0 := by rw [FE.out, hk]; rfl
    have ISY := ISX.out hk
    have ISZ : Hid _ := ISY
    obtain ⟨N, hN1, hN2⟩ := FF.out hk
    have hNl : N + 1 ≤ 1024 := by have := (FX.out hk).2.2; omega
    rw [hk] at HA
    rw [hfe] at FI
    clear FE FF FX ISX ISY hfe hk
    go_enter Tryd.func8, Tryd.ntmps8
    go_wp2_with fail
    refine WK.mono ?_
    rintro e w1 ⟨rfl, hb1⟩
    have L1 : Hid (LG w w1 (.slice pf l.length cf) l) := L0.out.below hb1
    clear hb1 WK
    go_wp2_with fail
    refine (CF.out _ L1.out).mono ?_
    rintro e w2 ⟨rfl, hb2⟩
    have L2 : Hid (LG w w2 (.slice pf l.length cf) l) := L1.out.below hb2
    clear hb2
    rw [← HKE.out]
    go_wp2_with fail
    refine Calls.mono (HA.out _ L2.out) ?_
    rintro e w3 ⟨rfl, hb3⟩
    have L3 : Hid (LG w w3 (.slice pf l.length cf) l) := L2.out.below hb3
    clear hb3
    go_wp2_with fail
    refine Calls.mono (FI.out _ L3.out) ?_
    rintro e w4 ⟨p4, c4, rfl, ho4, hb4⟩
    have L4 : Hid (LG w w4 (.slice pf l.length cf) l) := L3.out.below hb4
    have X4 : Hid (CS w4 (.slice p4 (firL l K).length c4) (firL l K)) := ho4.cs
    clear hb4 ho4 L1 L2 L3 L0 CF HA FI
    obtain ⟨X, o, rfl, x1, x2, x3⟩ := X4.out.at (k := N) (by omega)
    have XL := block_lt_of_cell x1
    rw [hN2 (by omega)] at x1
    have NE : Hid (∀ w', Below w4.heap.size w4 w' → w'.cell? ⟨X, o + N * 3, none⟩ = some (.int .i64 K)) := fun w' b => (b.cell (p := ⟨X, o + N * 3, none⟩) XL).trans x1
    have IS4 := ISZ.out _ _ L4.out X4.out
    rw [hN1] at IS4 ⊢
    clear x1 x2 x3 hN2 hN1 X4 XL
    go_wp2_with fail
    refine IS4.mono ?_
    rintro e w5 ⟨rfl, hb5⟩
    have L5 : Hid (LG w w5 (.slice pf l.length cf) l) := L4.out.below hb5
    have y1 := NE.out _ hb5
    clear hb5 IS4 L4 NE
    go_wp2_with fail
    go_loop [9, 10] (fun a b => ∃ (j n : Nat), j ≤ l.length ∧ n ≤ j ∧ a = .int .i64 n ∧ b = .int .i64 j ∧ Hid (n = (lvK l j).length)) (fun _ b => l.length - (intOf b).toNat)
    case atStart => exact ⟨0, 0, Nat.zero_le _, Nat.zero_le _, rfl, rfl, LZ.out.symm⟩
    case round =>
      obtain ⟨j, n, hj, hnj, rfl, rfl, HN⟩ := hrel
      by_cases hlt : j < l.length
      · obtain ⟨X, o, rfl, x1, x2, x3⟩ := L5.out.f.at hlt
        have hS := LS.out j hlt
        obtain ⟨c, hcc⟩ : ∃ c, c = l[j] := ⟨_, rfl⟩
        rw [← hcc] at x1 x2 x3 hS
        have hj1 : n ≤ 1024 := by omega
        by_cases hn0 : c.n = 0
        · rw [hn0] at x2
          rw [if_pos hn0] at hS
          have HN2 : Hid (n + 1 = (lvK l (j + 1)).length) := by show _ = _; rw [hS, ← HN.out]
          clear hS hcc hn0 HN
          go_wp2
          go_round
          case rel => exact ⟨j + 1, n + 1, by omega, by omega, by go_num, by go_num, HN2⟩
          case measure => simp [intOf]; omega
        · rw [if_neg hn0] at hS
          have z0 : (c.n == 0) = false := by simpa using hn0
          have HN2 : Hid (n = (lvK l (j + 1)).length) := by show _ = _; rw [hS, ← HN.out]; omega
          clear hS hcc hn0 HN
          go_wp2
          go_round
          case rel => exact ⟨j + 1, n, by omega, by omega, rfl, by go_num, HN2⟩
          case measure => simp [intOf]; omega
      · obtain rfl : j = l.length := by omega
        have hnl : n = (lvK l l.length).length := HN.out
        rw [← hnl] at LE
        clear hnl HN
        go_wp2_with fail
        refine (LE.out _ L5.out).mono ?_
        rintro e w6 ⟨p6, c6, rfl, hb6⟩
        have L6 : Hid (LG w w6 (.slice pf l.length cf) l) := L5.out.below hb6
        clear hb6 L5
        go_wp2_with fail
        refine (DP.out _ L6.out).mono ?_
        rintro e w7 ⟨rfl, hb7⟩
        have L7 : Hid (LG w w7 (.slice pf l.length cf) l) := L6.out.below hb7
        clear hb7 L6
        go_wp2_with fail
        refine Calls.mono (WR.out _ L7.out) ?_
        rintro e w8 ⟨p8, c8, rfl, ho8, hb8⟩
        have L8 : Hid (LG w w8 (.slice pf l.length cf) l) := L7.out.below hb8
        have O8 : Hid (CS w8 (.slice p8 (wrapL ⟨#[97]⟩ l).length c8) (wrapL ⟨#[97]⟩ l)) := ho8.cs
        clear hb8 ho8 L7
        by_cases hlf : l.length < 1024
        · have hlfi : ¬ (l.length : Int) ≥ 1024 := by omega
          have DX := DW.out hlf _ _ L8.out.fv O8.out
          clear DW
          go_wp2_with fail
          refine DX.mono ?_
          rintro e w9 ⟨rfl, hb9⟩
          have B9 : Hid (Below w.heap.size w w9) := L8.out.bl.trans (hb9.mono L8.out.bl.size)
          clear hb9 DX
          go_wp2_with fail
          go_ret
          exact ⟨rfl, B9.out⟩
        · have hlfi : (l.length : Int) ≥ 1024 := by omega
          clear DW
          go_wp2_with fail
          go_ret
          exact ⟨rfl, L8.out.bl⟩
end Go.Proofs.YtaleagkhblokgaaDoor
