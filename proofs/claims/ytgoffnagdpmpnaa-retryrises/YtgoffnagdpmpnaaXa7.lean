/- Retry: Total; the document's Times and Total. -/
import Derived.Test.YtgoffnagdpmpnaaXa6
namespace Go.Proofs.Ytgoffnagdpmpnaa
open Go.RowKit

theorem tot_no {p : Pol} (h : polB p = false) : totN p = 0 := by simp [totN, h]
theorem tot_ok {p : Pol} (h : polB p = true) : totN p = ((wts p).take (nwt p)).sum := by rw [totN, if_pos h, List.take_of_length_le (by rw [wts_len]; exact Nat.le_refl _)]
set_option maxHeartbeats 8000000 in
theorem total_any (p : Pol) (w : World) : Calls Try.prog 20 #[polV p] w fun e w' => e = .returned (.tuple #[.int .i64 (totN p), .int .i64 (chkE p)]) ∧ Below w.heap.size w w' := by
  have CK := fun w' => check_any p w'
  cases hp : polB p with
  | false =>
    have E := hid (tot_no hp)
    have F := hid (chk_no hp)
    rw [chk_no hp] at CK
    generalize totN p = nr at *
    generalize chkE p = er at *
    obtain ⟨pt, pb, pf, pc⟩ := p
    simp only [polV] at *
    clear hp
    go_enter Try.func20, Try.ntmps20
    go_wp2_with (go_at_call 15; refine (CK _).mono ?_; rintro e w1 ⟨rfl, hb⟩; have B1 := hid hb; clear hb)
    go_ret2
    exact ⟨ret_two E.out.symm F.out.symm, bl2 B1.out⟩
  | true =>
    have E := hid (tot_ok hp)
    have F := hid (chk_ok hp)
    rw [chk_ok hp] at CK
    have WB := hid (wts_bd hp)
    have SB := hid (sum_bd hp)
    have SS := hid (sum_take_succ (wts p))
    have WL := hid (wts_len p)
    have HM : nwt p ≤ 63 := by have := pol_bd hp; unfold nwt; omega
    have WT2 : Hid (∀ w', Calls Try.prog 38 #[polV p] w' fun e w'' => ∃ pp cp, e = .returned (.slice pp (nwt p) cp) ∧ GS KI w'' (.slice pp (nwt p) cp) (wts p) ∧ Below w'.heap.size w' w'') := fun w' => (waits_row p w' hp).mono (fun e w'' ⟨pp, cp, h1, h2⟩ => ⟨pp, cp, h1, h2.own.gs KI_ok.len, h2.bel⟩)
    have BXF : Hid (∀ w1, _ → _) := fun w1 hb => box_far (w := w) (w1 := w1) (p := p) (T := 23) hb
    generalize totN p = nr at *
    generalize chkE p = er at *
    generalize wts p = ws at *
    generalize nwt p = m at *
    clear hp
    obtain ⟨pt, pb, pf, pc⟩ := p
    simp only [polV] at *
    go_enter Try.func20, Try.ntmps20
    go_wp2_with (first | (go_at_call 15; refine (CK _).mono ?_; rintro e w1 ⟨rfl, hb⟩; have B1 := hid hb; obtain ⟨C0, C1, C2, C3⟩ := BXF.out _ hb; clear hb) | (go_at_call 38; refine (WT2.out _).mono ?_; rintro e w3 ⟨pp, cp, rfl, ho, hb⟩; have O3 := hid ho; have B3 := hid hb; clear ho hb))
    have BB := hid (bl3 (bl2 B1.out) B3.out)
    clear B1 B3 C0 C1 C2 C3 BXF CK WT2
    go_loopw [5, 16] (fun v5 v16 wr => ∃ (k : Nat), v16 = .int .i64 k ∧ v5 = .int .i64 (ws.take k).sum ∧ k ≤ m ∧ wr = w3) (fun _ v16 _ => m - (intOf v16).toNat)
    case atStart => exact ⟨0, rfl, by simp, Nat.zero_le _, rfl⟩
    case round =>
      obtain ⟨k, rfl, rfl, hk, rfl⟩ := hrel
      by_cases hlt : k < m
      · have hk2 : k < ws.length := by have := WL.out; omega
        obtain ⟨y0, y1⟩ := WB.out k hk2
        obtain ⟨s0, s1⟩ := SB.out k
        have HN := hid (SS.out k hk2)
        obtain ⟨X, o, hpp, hc⟩ := O3.out.atI hk2
        subst hpp
        generalize ws[k] = y at *
        generalize (ws.take k).sum = s at *
        go_wp2
        go_roundw
        case rel => exact ⟨k + 1, by go_num, by rw [HN.out], by omega, by first | rfl | trivial⟩
        case measure => simp [intOf]; omega
      · obtain rfl : k = m := by omega
        generalize (ws.take k).sum = s at *
        go_wp2
        go_ret2
        exact ⟨ret_two E.out.symm F.out.symm, BB.out⟩
theorem wts_rt (p : Pol) (k : Nat) (h : k < (wts p).length) : wtP p (((k : Int) + 1) - 1).toNat = (wts p)[k] := by rw [wts_at]; congr 1; omega
set_option maxHeartbeats 8000000 in
theorem rtotal_any (p : Pol) (w : World) : Calls Try.prog 21 #[polV p] w fun e w' => e = .returned (.tuple #[.int .i64 (totN p), .int .i64 (chkE p)]) ∧ Below w.heap.size w w' := by
  have CK := fun w' => rcheck_any p w'
  cases hp : polB p with
  | false =>
    have E := hid (tot_no hp)
    have F := hid (chk_no hp)
    rw [chk_no hp] at CK
    generalize totN p = nr at *
    generalize chkE p = er at *
    obtain ⟨pt, pb, pf, pc⟩ := p
    simp only [polV] at *
    clear hp
    go_enter Try.func21, Try.ntmps21
    go_wp2_with (go_at_call 16; refine (CK _).mono ?_; rintro e w1 ⟨rfl, hb⟩; have B1 := hid hb; clear hb)
    go_ret2
    exact ⟨ret_two E.out.symm F.out.symm, bl2 B1.out⟩
  | true =>
    have E := hid (tot_ok hp)
    have F := hid (chk_ok hp)
    rw [chk_ok hp] at CK
    have WB := hid (wts_bd hp)
    have SB := hid (sum_bd hp)
    have SS := hid (sum_take_succ (wts p))
    have WL := hid (wts_len p)
    have HM : nwt p ≤ 63 := by have := pol_bd hp; unfold nwt; omega
    have HT : Hid (nwt p = (p.t - 1).toNat) := rfl
    have RT : Hid (∀ k (h : k < (wts p).length) w', Calls Try.prog 39 #[polV p, .int .i64 ((k : Int) + 1)] w' fun e w'' => e = .returned (.int .i64 (wts p)[k]) ∧ Below w'.heap.size w' w'') := fun k h w' => by
      rw [← wts_rt p k h]
      exact rwt_any p _ w' hp ⟨by omega, by rw [wts_len] at h; omega⟩
    have BXF : Hid (∀ w1, _ → _) := fun w1 hb => box_far (w := w) (w1 := w1) (p := p) (T := 23) hb
    generalize totN p = nr at *
    generalize chkE p = er at *
    generalize wts p = ws at *
    generalize nwt p = m at *
    clear hp
    obtain ⟨pt, pb, pf, pc⟩ := p
    simp only [polV] at *
    go_enter Try.func21, Try.ntmps21
    go_wp2_with (go_at_call 16; refine (CK _).mono ?_; rintro e w1 ⟨rfl, hb⟩; have B1 := hid hb; clear hb)
    clear CK
    go_loopw [5, 6] (fun v5 v6 wr => ∃ (k : Nat) (wk : World), v6 = .int .i64 ((k : Int) + 1) ∧ v5 = .int .i64 (ws.take k).sum ∧ k ≤ m ∧ wk = wr ∧ Hid (Below w1.heap.size w1 wk)) (fun _ v6 _ => (m + 1) - (intOf v6).toNat)
    case atStart => exact ⟨0, _, rfl, by simp, Nat.zero_le _, rfl, Below.refl _ _⟩
    case round =>
      obtain ⟨k, wr, rfl, rfl, hk, rfl, HB⟩ := hrel
      obtain ⟨C0, C1, C2, C3⟩ := BXF.out _ (B1.out.trans (HB.out.mono B1.out.size))
      by_cases hlt : (k : Int) + 1 < pt
      · have hkm : k < m := by have := HT.out; omega
        have hk2 : k < ws.length := by have := WL.out; omega
        obtain ⟨y0, y1⟩ := WB.out k hk2
        obtain ⟨s0, s1⟩ := SB.out k
        have HN := hid (SS.out k hk2)
        have RK := hid (RT.out k hk2)
        generalize ws[k] = y at *
        generalize (ws.take k).sum = s at *
        go_wp2_with (go_at_call 39; refine (RK.out _).mono ?_; rintro e w2 ⟨rfl, hb⟩; have B2 := hid hb; clear hb)
        go_roundw
        case rel => exact ⟨k + 1, _, by go_num, by rw [HN.out], by omega, rfl, bl3 HB.out B2.out⟩
        case measure => simp [intOf]; omega
      · obtain rfl : k = m := by have := HT.out; omega
        generalize (ws.take k).sum = s at *
        go_wp2
        go_ret2
        exact ⟨ret_two E.out.symm F.out.symm, bl3 (bl2 B1.out) HB.out⟩
/-- The row of the document's Times so far. -/
structure RI (base : Nat) (W wk : World) (v : Value) (S : List Int) : Prop where
  own : OwnG KI wk base v S
  bel : Below base W wk
theorem RI.call {base : Nat} {W wk w2 : World} {v : Value} {S : List Int} (h : RI base W wk v S) (hs : base ≤ W.heap.size) (k : Below wk.heap.size wk w2) : RI base W w2 v S := ⟨h.own.below k, h.bel.trans (k.mono (Nat.le_trans hs h.bel.size))⟩
set_option maxHeartbeats 8000000 in
theorem rtimes_any (p : Pol) (a : Int) (w : World) : Calls Try.prog 19 #[polV p, .int .i64 a] w fun e w' => ∃ v, e = .returned (.tuple #[v, .int .i64 (timE p a)]) ∧ OwnG KI w' w.heap.size v (timL p a) ∧ Below w.heap.size w w' := by
  have CK := fun w' => rcheck_any p w'
  cases hp : polB p with
  | false =>
    have E := hid (timE_no hp a)
    generalize timE p a = er at *
    generalize timL p a = tl at *
    rw [chk_no hp] at CK
    obtain ⟨pt, pb, pf, pc⟩ := p
    simp only [polV] at *
    clear hp
    go_enter Try.func19, Try.ntmps19
    go_wp2_with (go_at_call 16; refine (CK _).mono ?_; rintro e w1 ⟨rfl, hb⟩; have B1 := hid hb; clear hb)
    go_ret2
    exact ⟨_, ret_sv E.out.1.symm, by rw [E.out.2]; exact OwnG.nil _ _ _, bl2 B1.out⟩
  | true =>
    rw [chk_ok hp] at CK
    cases ht : timB a with
    | false =>
      have hq := timB_f ht
      have E := hid (timE_rng hp ht)
      generalize timE p a = er at *
      generalize timL p a = tl at *
      obtain ⟨pt, pb, pf, pc⟩ := p
      simp only [polV] at *
      clear hp ht
      rcases hq with hq | hq
      all_goals
        first | have hq0 : ¬ (a : Int) < 0 := by omega | skip
        go_enter Try.func19, Try.ntmps19
        go_wp2_with (go_at_call 16; refine (CK _).mono ?_; rintro e w1 ⟨rfl, hb⟩; have B1 := hid hb; clear hb)
        go_ret2
        exact ⟨_, ret_sv E.out.1.symm, by rw [E.out.2]; exact OwnG.nil _ _ _, bl2 B1.out⟩
    | true =>
      obtain ⟨t0, t1⟩ := timB_t ht
      have TE := hid (timE_ok hp ht)
      have WB := hid (wts_bd hp)
      have WL := hid (wts_len p)
      have HM : nwt p ≤ 63 := by have := pol_bd hp; unfold nwt; omega
      have HT : Hid (nwt p = (p.t - 1).toNat) := rfl
      have RT : Hid (∀ k (h : k < (wts p).length) w', Calls Try.prog 39 #[polV p, .int .i64 ((k : Int) + 1)] w' fun e w'' => e = .returned (.int .i64 (wts p)[k]) ∧ Below w'.heap.size w' w'') := fun k h w' => by
        rw [← wts_rt p k h]
        exact rwt_any p _ w' hp ⟨by omega, by rw [wts_len] at h; omega⟩
      have BXF : Hid (∀ w1, _ → _) := fun w1 hb => box_far (w := w) (w1 := w1) (p := p) (T := 23) hb
      generalize timE p a = er at *
      generalize timL p a = tl at *
      generalize wts p = ws at *
      generalize nwt p = m at *
      clear hp ht
      obtain ⟨pt, pb, pf, pc⟩ := p
      simp only [polV] at *
      go_enter Try.func19, Try.ntmps19
      go_wp2_with (go_at_call 16; refine (CK _).mono ?_; rintro e w1 ⟨rfl, hb⟩; have B1 := hid hb; clear hb)
      generalize hW : w1.alloc _ = W
      have R0 : Hid (RI w1.heap.size w1 W (.slice (some ⟨w1.heap.size, 0, none⟩) 1 1) [a]) := by
        show RI _ _ _ _ _
        rw [← hW]; exact ⟨OwnG.lit KI w1 [a] _ rfl rfl (by show 1 ≤ maxLen; unfold maxLen; omega), (Below.refl _ _).alloc (Nat.le_refl _) _⟩
      clear hW CK
      go_loopw [1, 7, 8] (fun v1 v7 v8 wr => ∃ (k : Nat) (x : Int) (v : Value) (S : List Int) (wk : World), v8 = .int .i64 ((k : Int) + 1) ∧ v1 = .int .i64 x ∧ v = v7 ∧ wk = wr ∧ k ≤ m ∧ (0 ≤ x ∧ x ≤ 1099511627776) ∧ Hid (a :: tmL a ws = S ++ tmL x (ws.drop k)) ∧ Hid (S.length = k + 1) ∧ Hid (RI w1.heap.size w1 wk v S)) (fun _ _ v8 _ => (m + 1) - (intOf v8).toNat)
      case atStart => exact ⟨0, a, _, [a], _, rfl, rfl, rfl, rfl, Nat.zero_le _, ⟨t0, t1⟩, rfl, rfl, R0⟩
      case round =>
        obtain ⟨k, x, v, S, wr, rfl, rfl, rfl, rfl, hk, ⟨x0, x1⟩, HE, HL, HR⟩ := hrel
        obtain ⟨C0, C1, C2, C3⟩ := BXF.out _ (B1.out.trans (HR.out.bel.mono B1.out.size))
        by_cases hlt : (k : Int) + 1 < pt
        · have hkm : k < m := by have := HT.out; omega
          have hk2 : k < ws.length := by have := WL.out; omega
          obtain ⟨y0, y1⟩ := WB.out k hk2
          obtain ⟨D1, D2⟩ := tmL_drop x ws k hk2
          have RK := hid (RT.out k hk2)
          by_cases hbr : 1099511627776 < x + ws[k]
          · have HF : Hid (tl = S) := by rw [TE.out.2, HE.out, D1 hbr, List.append_nil]; exact rfl
            clear D1 D2
            generalize ws[k] = y at *
            go_wp2_with (go_at_call 39; refine (RK.out _).mono ?_; rintro e w2 ⟨rfl, hb⟩; have R2 := hid (HR.out.call (Nat.le_refl _) hb); clear hb)
            go_ret2
            exact ⟨_, ret_sv TE.out.1.symm, by rw [HF.out]; exact R2.out.own.low (bl2 B1.out).size, bl3 (bl2 B1.out) R2.out.bel⟩
          · have HN : Hid (a :: tmL a ws = (S ++ [x + ws[k]]) ++ tmL (x + ws[k]) (ws.drop (k + 1))) := by show _ = _; rw [HE.out, D2 hbr]; simp
            have LS : Hid ((S.length + 1) * 8 ≤ 140737488355328) := by show (_ : Nat) ≤ _; rw [HL.out]; omega
            have LN : Hid ((S ++ [x + ws[k]]).length = k + 1 + 1) := by show _ = _; rw [List.length_append, HL.out]; rfl
            clear D1 D2
            generalize ws[k] = y at *
            go_wp2_with (first | (go_at_call 39; refine (RK.out _).mono ?_; rintro e w2 ⟨rfl, hb⟩; have R2 := hid (HR.out.call (Nat.le_refl _) hb); clear hb) | (at_builtin; refine append_g KI KI_ok rfl (.tmp 36) (.tmp 38) 39 rfl w1.heap.size Try.underlying39 w2 _ _ v S (x + y) _ rfl R2.out.own _ rfl rfl rfl LS.out R2.out.bel.size ?_; intro g2 c2 w6 ho2 hb2 hk2 hg2; have T2 : Hid (RI w1.heap.size w1 w6 _ _) := ⟨ho2, R2.out.bel.trans hb2⟩; clear ho2 hb2 hk2 hg2))
            go_roundw
            case rel => exact ⟨k + 1, x + y, _, _, _, by go_num, rfl, rfl, rfl, by omega, ⟨by omega, by omega⟩, HN, LN, T2⟩
            case measure => simp [intOf]; omega
        · obtain rfl : k = m := by have := HT.out; omega
          have HF : Hid (tl = S) := by rw [TE.out.2, HE.out, List.drop_of_length_le (by have := WL.out; omega), tmL, List.append_nil]; exact rfl
          go_wp2
          go_ret2
          exact ⟨_, ret_sv TE.out.1.symm, by rw [HF.out]; exact HR.out.own.low (bl2 B1.out).size, bl3 (bl2 B1.out) HR.out.bel⟩
end Go.Proofs.Ytgoffnagdpmpnaa
