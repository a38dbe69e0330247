/- The law ClockEach, walked. -/
import Derived.Test.YteiadigafkollaaLw9
namespace Go.Proofs.Yteiadigafkollaa
open Go.RowKit Go.Sort Go.Shelf

theorem seq_drop {num ev a : Int} {l : List (Int × Int)} {j : Nat} (hj : j < l.length) (h : seqOK num ev a (l.drop j)) : (l[j].1 = num → l[j].2 = a ∧ seqOK num ev (a + ev) (l.drop (j + 1)) ∧ cnt num (l.drop j) = cnt num (l.drop (j + 1)) + 1) ∧ (l[j].1 ≠ num → seqOK num ev a (l.drop (j + 1)) ∧ cnt num (l.drop j) = cnt num (l.drop (j + 1))) := by
  rw [List.drop_eq_getElem_cons hj] at h ⊢
  constructor
  · intro e
    rw [seqOK, if_pos e] at h
    exact ⟨h.1, h.2, by rw [cnt, if_pos e]; omega⟩
  · intro e
    rw [seqOK, if_neg e] at h
    exact ⟨h, by rw [cnt, if_neg e]; omega⟩
theorem cnt_le (num : Int) : ∀ l : List (Int × Int), cnt num l ≤ l.length
  | [] => Nat.le_refl _
  | f :: r => by have := cnt_le num r; rw [cnt, List.length_cons]; split <;> omega
theorem TS.at {w : World} {p : Option Addr} {n cap k : Nat} {L : List Tm} (h : TS w (.slice p n cap) L) (hk : k < L.length) : ∃ X, p = some ⟨X, 0, none⟩ ∧ w.cell? ⟨X, k * 3, none⟩ = some (.int .i64 L[k].num) ∧ w.cell? ⟨X, k * 3 + 1, none⟩ = some (.int .i64 L[k].tm) ∧ w.cell? ⟨X, k * 3 + 2, none⟩ = some (.int .i64 L[k].ev) := by
  obtain ⟨p1, cap1, hv, hc⟩ := h
  injection hv with e1 e2 e3
  subst e1
  exact hc k hk
theorem FS.at {w : World} {p : Option Addr} {n cap k : Nat} {l : List (Int × Int)} (h : FS w (.slice p n cap) l) (hk : k < l.length) : ∃ X, p = some ⟨X, 0, none⟩ ∧ w.cell? ⟨X, k * 2, none⟩ = some (.int .i64 l[k].1) ∧ w.cell? ⟨X, k * 2 + 1, none⟩ = some (.int .i64 l[k].2) := by
  obtain ⟨p1, cap1, hv, hc⟩ := h
  injection hv with e1 e2 e3
  subst e1
  exact hc k hk
set_option maxHeartbeats 16000000 in
set_option maxRecDepth 100000 in
theorem clockEach_any (w : World) (p : Option Addr) (cap : Nat) (cs : List (Int × Int × Int)) (x : Int) (h : ArgC w p cs) (hl : cs.length ≤ 100000000000000000) :
    Calls Try.prog 5 #[.slice p cs.length cap, .int .i64 x] w fun e w' => e = .returned (.bool true) ∧ Below w.heap.size w w' := by
  have HA : Hid (ArgC w p cs) := h
  have WK := works_any w
  clear h
  go_enter Try.func5, Try.ntmps5
  go_wp2_with (first | (go_at_call 8; refine WK.mono ?_; rintro e w1 ⟨rfl, hb1⟩; have HB1 : Hid (Below w.heap.size w w1) := hb1; clear hb1) | (go_at_call 12; refine (played_any _ _ _ _ (HA.out.below HB1.out) hl).mono ?_; rintro e w2 ⟨b, rfl, hpr⟩; obtain ⟨xo, now, given, L, hst, hgm⟩ := hpr.st HB1.out; have HS : Hid (ST w w2 b xo now given L) := hst; have hg0 := hst.ok.giv; have hn0 := hst.ok.now0.1; have hn1 := hst.ok.now0.2; clear hst hpr))
  clear WK HB1 HA
  have HO : Hid (Ok now given L) := HS.out.ok
  have hlen : L.length ≤ 1024 := HS.out.ok.len
  have LT : Hid (b < w2.heap.size ∧ ∀ X, xo = some X → X < w2.heap.size) := HS.out.lt
  refine (pending_pl HS.out).mono ?_
  rintro e w3 ⟨p3, c3, rfl, ht3, hb3⟩
  have P3 : Hid (PL w3 w2.heap.size (.slice p3 L.length c3) L) := ht3
  have HS3 : Hid (ST w w3 b xo now given L) := HS.out.below hb3
  clear ht3 hb3 HS
  go_wp2_with (go_at_call 17; refine (now_st HS3.out).mono ?_; rintro e w4 ⟨rfl, rfl⟩)
  by_cases hx : 0 ≤ x ∧ x ≤ 1099511627776 - now
  · have hnn := due_nn (now + x) L (fun t ht => (HO.out.rng t ht).2.2.2.2.1)
    by_cases hd : 4096 < dueL (now + x) L
    · refine (adv_long HS3.out x hx hd).mono ?_
      rintro e w4 ⟨rfl, hs4, hk4⟩
      have P4 : Hid (PL w4 w2.heap.size (.slice p3 L.length c3) L) := P3.out.kc LT.out.1 LT.out.2 hk4
      have HS4 : Hid (ST w w4 b xo now given L) := hs4
      clear hs4 hk4 HS3 P3 hd hnn
      obtain ⟨hx1, hx2⟩ := hx
      have hx3 : ¬ x < 0 := by omega
      have hx4 : ¬ x > 1099511627776 - now := by omega
      go_wp2_with (first | (go_at_call 17; refine (now_st HS4.out).mono ?_; rintro e w5 ⟨rfl, rfl⟩) | (go_at_call 19; refine (pending_st HS4.out).mono ?_; rintro e w6 ⟨p6, c6, rfl, ht6, hb6⟩; have HT6 : Hid (TS w6 (.slice p6 L.length c6) L) := ht6; have HT3 : Hid (TS w6 (.slice p3 L.length c3) L) := (P4.out.below hb6).ts; have HB : Hid (Below w.heap.size w w6) := below_then HS4.out.bl hb6; clear ht6 hb6) | (go_at_call 18; refine (timersEq_same _ _ _ L HT6.out HT3.out (by omega)).mono ?_; rintro e w7 ⟨rfl, q, rfl⟩))
      go_ret
      exact ⟨rfl, below_drewN' HB.out _⟩
    · obtain ⟨n, hn⟩ : ∃ n : Nat, (n : Int) = dueL (now + x) L := ⟨(dueL (now + x) L).toNat, by omega⟩
      refine (adv_ok HS3.out x hx n hn (by omega)).mono ?_
      rintro e w4 ⟨p4, c4, rfl, hf4, ho4, hs4, hk4⟩
      have P4 : Hid (PL w4 w2.heap.size (.slice p3 L.length c3) L) := P3.out.kc LT.out.1 LT.out.2 hk4
      have HS4 : Hid (ST w w4 b xo (now + x) given (it n L)) := hs4
      obtain ⟨hx1, hx2⟩ := hx
      obtain ⟨l, hl0⟩ : ∃ l, l = told n L := ⟨_, rfl⟩
      have hln : l.length = n := by rw [hl0]; exact told_len _ _
      obtain ⟨U, hU⟩ : ∃ U, U = now + x := ⟨_, rfl⟩
      rw [← hU] at HS4 hn hd hnn
      have EA : Hid (∀ t ∈ L, seqOK t.num t.ev t.tm l ∧ (cnt t.num l : Int) = fir U t) := by
        rw [hl0]; exact each_ok (by omega) n L HO.out hn
      have OR : Hid (∀ i (hi : i + 1 < l.length), flt (l[i]'(Nat.lt_of_succ_lt hi)) l[i + 1]) := by
        subst hl0; exact fun i hi => told_ord (u := U) HO.out (by omega) (by omega) i hi
      have HF : Hid (FS w4 (.slice p4 l.length c4) l) := by show FS w4 (.slice p4 l.length c4) l; rw [hln, hl0]; exact hf4
      have DN : Hid (dueL U L = l.length) := by show dueL U L = l.length; omega
      have hU0 : 0 ≤ U := by omega
      have hU1 : U ≤ 1099511627776 := by omega
      have hl4 : l.length ≤ 4096 := by omega
      have hne : (U != now + x) = false := by rw [hU]; simp
      rw [← hln]
      have NW : ∀ w', w' = w4 → Calls Try.prog 17 #[.pointer (some ⟨b, 0, none⟩)] w' fun e w' => e = .returned (.int .i64 U) ∧ w' = w4 := fun w' e => by subst e; exact now_st HS4.out
      clear hf4 ho4 hs4 hk4 HS3 P3 hd hnn hU hl0 hn hln
      go_wp2_with (go_at_call 17; refine (NW _ rfl).mono ?_; rintro e w5 ⟨rfl, rfl⟩)
      go_loopw [11, 76] (fun v11 v76 wr => ∃ (i : Nat) (wk : World), v76 = .int .i64 i ∧ v11 = .int .i64 (dueL U (L.take i)) ∧ wk = wr ∧ i ≤ L.length ∧ Hid (Below w5.heap.size w5 wk)) (fun _ v76 _ => L.length - (intOf v76).toNat)
      case atStart => exact ⟨0, _, rfl, rfl, rfl, Nat.zero_le _, Below.refl _ _⟩
      case round =>
        obtain ⟨i, wr, rfl, rfl, rfl, hi, HB⟩ := hrel
        have dl := due_take_le (u := U) (l := L) (fun t ht => (HO.out.rng t ht).2.2.2.2.1) i
        rw [DN.out] at dl
        obtain ⟨dl1, dl2⟩ := dl
        by_cases hil : i < L.length
        · obtain ⟨X, e1, x1, x2, x3⟩ := (P4.out.ts.below HB.out).at hil
          obtain rfl : p3 = some ⟨X, 0, none⟩ := e1
          have DT : Hid _ := due_take (u := U) L i hil
          have EC : Hid _ := EA.out _ (List.getElem_mem hil)
          obtain ⟨b1, b2, b3', b4, b5, b6⟩ := HO.out.rng _ (List.getElem_mem hil)
          obtain ⟨t, ht⟩ : ∃ t, t = L[i] := ⟨_, rfl⟩
          rw [← ht] at x1 x2 x3 DT EC b1 b2 b3' b4 b5 b6
          have b3 : 0 ≤ t.tm := by omega
          have BX : Hid (∀ ob, Below w5.heap.size w5 (wr.alloc ob)) := fun ob => HB.out.alloc HB.out.size ob
          generalize dueL U (L.take i) = D at *
          have CX : Hid ((wr.alloc (.cells #[.int .i64 t.num, .int .i64 t.tm, .int .i64 t.ev] 47)).cell? ⟨wr.heap.size, 0, none⟩ = some (.int .i64 t.num) ∧ (wr.alloc (.cells #[.int .i64 t.num, .int .i64 t.tm, .int .i64 t.ev] 47)).cell? ⟨wr.heap.size, 1, none⟩ = some (.int .i64 t.tm) ∧ (wr.alloc (.cells #[.int .i64 t.num, .int .i64 t.tm, .int .i64 t.ev] 47)).cell? ⟨wr.heap.size, 2, none⟩ = some (.int .i64 t.ev) ∧ wr.heap.size < (wr.alloc (.cells #[.int .i64 t.num, .int .i64 t.tm, .int .i64 t.ev] 47)).heap.size) := by
            refine ⟨?_, ?_, ?_, by simp⟩ <;> (rw [cell_of_row _ _ _ _ _ _ (heap_alloc_new wr _)]; rfl)
          clear ht b3'
          have hcase : U < t.tm ∨ (t.tm ≤ U ∧ t.ev = 0) ∨ (t.tm ≤ U ∧ 0 < t.ev) := by omega
          rcases hcase with hA | ⟨hA, hE⟩ | ⟨hA, hE⟩
          · have FV : Hid (fir U t = 0) := by show fir U t = 0; unfold fir; rw [if_pos hA]
            go_wp2
            go_quiet (fail)
            go_wp2
            go_loopw [15, 16, 100] (fun v15 v16 v100 wq => ∃ (j k : Nat) (a : Int) (wk : World), v100 = .int .i64 j ∧ v15 = .int .i64 k ∧ v16 = .int .i64 a ∧ wk = wq ∧ j ≤ l.length ∧ k ≤ j ∧ 0 ≤ a ∧ a ≤ 1099511627776 + k * 1099511627776 ∧ Hid (Below w5.heap.size w5 wk ∧ wk.cell? ⟨wr.heap.size, 0, none⟩ = some (.int .i64 t.num) ∧ wk.cell? ⟨wr.heap.size, 1, none⟩ = some (.int .i64 t.tm) ∧ wk.cell? ⟨wr.heap.size, 2, none⟩ = some (.int .i64 t.ev) ∧ wr.heap.size < wk.heap.size ∧ seqOK t.num t.ev a (l.drop j) ∧ (k : Int) + cnt t.num (l.drop j) = fir U t)) (fun _ _ v100 _ => l.length - (intOf v100).toNat)
            case atStart => exact ⟨0, 0, _, _, rfl, rfl, rfl, rfl, Nat.zero_le _, Nat.le_refl _, b3, by omega, ⟨below_drewN' (BX.out _) _, CX.out.1, CX.out.2.1, CX.out.2.2.1, CX.out.2.2.2, EC.out.1, by have := EC.out.2; simpa using this⟩⟩
            case round =>
              obtain ⟨j, k, a, wq, rfl, rfl, rfl, rfl, hj, hkj, ha0, ha1, HQ⟩ := hrel
              obtain ⟨q1, q2, q3, q4, q5, q6, q7⟩ := HQ.out
              by_cases hjl : j < l.length
              · obtain ⟨X2, e2, y1, y2⟩ := (HF.out.below q1).at hjl
                obtain rfl : p4 = some ⟨X2, 0, none⟩ := e2
                obtain ⟨sd1, sd2⟩ := seq_drop hjl q6
                obtain ⟨f, hf⟩ : ∃ f, f = l[j] := ⟨_, rfl⟩
                rw [← hf] at y1 y2 sd1 sd2
                have Q1 : Hid _ := q1
                have Q5 : Hid _ := q5
                have Q7 : Hid _ := q7
                have NB : Hid (∀ ob, Below w5.heap.size w5 (wq.alloc ob) ∧ (wq.alloc ob).cell? ⟨wr.heap.size, 0, none⟩ = some (.int .i64 t.num) ∧ (wq.alloc ob).cell? ⟨wr.heap.size, 1, none⟩ = some (.int .i64 t.tm) ∧ (wq.alloc ob).cell? ⟨wr.heap.size, 2, none⟩ = some (.int .i64 t.ev) ∧ wr.heap.size < (wq.alloc ob).heap.size) := fun ob => by
                  have bb : Below wq.heap.size wq (wq.alloc ob) := (Below.refl _ _).alloc (Nat.le_refl _) ob
                  exact ⟨q1.alloc q1.size _, (bb.cell (p := ⟨wr.heap.size, 0, none⟩) q5).trans q2, (bb.cell (p := ⟨wr.heap.size, 1, none⟩) q5).trans q3, (bb.cell (p := ⟨wr.heap.size, 2, none⟩) q5).trans q4, Nat.lt_of_lt_of_le q5 bb.size⟩
                have n0 : ∀ ob, (wq.alloc ob).cell? ⟨wr.heap.size, 0, none⟩ = some (.int .i64 t.num) := fun ob => (NB.out ob).2.1
                have n2 : ∀ ob, (wq.alloc ob).cell? ⟨wr.heap.size, 2, none⟩ = some (.int .i64 t.ev) := fun ob => (NB.out ob).2.2.2.1
                clear hf q1 q2 q3 q4 q5 q6 q7 HQ
                by_cases hfn : f.1 = t.num
                · obtain ⟨s1, s2, s3⟩ := sd1 hfn
                  have S2 : Hid _ := s2
                  have S3 : Hid _ := s3
                  rw [hfn] at y1
                  rw [s1] at y2
                  clear sd1 sd2 s2 s3 hfn s1
                  go_wp2
                  go_roundw
                  case rel => exact ⟨j + 1, k + 1, a + t.ev, _, by go_num, by go_num, rfl, rfl, by omega, by omega, by omega, by omega, ⟨(NB.out _).1, (NB.out _).2.1, (NB.out _).2.2.1, (NB.out _).2.2.2.1, (NB.out _).2.2.2.2, S2.out, by have := Q7.out; have := S3.out; omega⟩⟩
                  case measure => simp [intOf]; omega
                · obtain ⟨s2, s3⟩ := sd2 hfn
                  have S2 : Hid _ := s2
                  have S3 : Hid _ := s3
                  have hfb : (f.1 == t.num) = false := by simpa using hfn
                  clear sd1 sd2 s2 s3 hfn
                  go_wp2
                  go_roundw
                  case rel => exact ⟨j + 1, k, a, _, by go_num, rfl, rfl, rfl, by omega, by omega, by omega, by omega, ⟨(NB.out _).1, (NB.out _).2.1, (NB.out _).2.2.1, (NB.out _).2.2.2.1, (NB.out _).2.2.2.2, S2.out, by have := Q7.out; have := S3.out; omega⟩⟩
                  case measure => simp [intOf]; omega
              · have hdr : l.drop j = [] := List.drop_eq_nil_of_le (by omega)
                have hkf : (k : Int) = 0 := by rw [hdr] at q7; rw [cnt] at q7; have := FV.out; omega
                have Q1 : Hid _ := q1
                clear q1 q2 q3 q4 q5 q6 q7 HQ hdr
                go_wp2
                go_roundw
                case rel => exact ⟨i + 1, _, by go_num, by rw [DT.out, FV.out] <;> simp, rfl, by omega, Q1.out⟩
                case measure => simp [intOf]; omega
          · have FV : Hid (fir U t = 1) := by show fir U t = 1; unfold fir; rw [if_neg (by omega), if_pos hE]
            have hE2 : ¬ 0 < t.ev := by omega
            clear hE
            go_wp2
            go_quiet (fail)
            go_wp2
            go_loopw [15, 16, 100] (fun v15 v16 v100 wq => ∃ (j k : Nat) (a : Int) (wk : World), v100 = .int .i64 j ∧ v15 = .int .i64 k ∧ v16 = .int .i64 a ∧ wk = wq ∧ j ≤ l.length ∧ k ≤ j ∧ 0 ≤ a ∧ a ≤ 1099511627776 + k * 1099511627776 ∧ Hid (Below w5.heap.size w5 wk ∧ wk.cell? ⟨wr.heap.size, 0, none⟩ = some (.int .i64 t.num) ∧ wk.cell? ⟨wr.heap.size, 1, none⟩ = some (.int .i64 t.tm) ∧ wk.cell? ⟨wr.heap.size, 2, none⟩ = some (.int .i64 t.ev) ∧ wr.heap.size < wk.heap.size ∧ seqOK t.num t.ev a (l.drop j) ∧ (k : Int) + cnt t.num (l.drop j) = fir U t)) (fun _ _ v100 _ => l.length - (intOf v100).toNat)
            case atStart => exact ⟨0, 0, _, _, rfl, rfl, rfl, rfl, Nat.zero_le _, Nat.le_refl _, b3, by omega, ⟨below_drewN' (BX.out _) _, CX.out.1, CX.out.2.1, CX.out.2.2.1, CX.out.2.2.2, EC.out.1, by have := EC.out.2; simpa using this⟩⟩
            case round =>
              obtain ⟨j, k, a, wq, rfl, rfl, rfl, rfl, hj, hkj, ha0, ha1, HQ⟩ := hrel
              obtain ⟨q1, q2, q3, q4, q5, q6, q7⟩ := HQ.out
              by_cases hjl : j < l.length
              · obtain ⟨X2, e2, y1, y2⟩ := (HF.out.below q1).at hjl
                obtain rfl : p4 = some ⟨X2, 0, none⟩ := e2
                obtain ⟨sd1, sd2⟩ := seq_drop hjl q6
                obtain ⟨f, hf⟩ : ∃ f, f = l[j] := ⟨_, rfl⟩
                rw [← hf] at y1 y2 sd1 sd2
                have Q1 : Hid _ := q1
                have Q5 : Hid _ := q5
                have Q7 : Hid _ := q7
                have NB : Hid (∀ ob, Below w5.heap.size w5 (wq.alloc ob) ∧ (wq.alloc ob).cell? ⟨wr.heap.size, 0, none⟩ = some (.int .i64 t.num) ∧ (wq.alloc ob).cell? ⟨wr.heap.size, 1, none⟩ = some (.int .i64 t.tm) ∧ (wq.alloc ob).cell? ⟨wr.heap.size, 2, none⟩ = some (.int .i64 t.ev) ∧ wr.heap.size < (wq.alloc ob).heap.size) := fun ob => by
                  have bb : Below wq.heap.size wq (wq.alloc ob) := (Below.refl _ _).alloc (Nat.le_refl _) ob
                  exact ⟨q1.alloc q1.size _, (bb.cell (p := ⟨wr.heap.size, 0, none⟩) q5).trans q2, (bb.cell (p := ⟨wr.heap.size, 1, none⟩) q5).trans q3, (bb.cell (p := ⟨wr.heap.size, 2, none⟩) q5).trans q4, Nat.lt_of_lt_of_le q5 bb.size⟩
                have n0 : ∀ ob, (wq.alloc ob).cell? ⟨wr.heap.size, 0, none⟩ = some (.int .i64 t.num) := fun ob => (NB.out ob).2.1
                have n2 : ∀ ob, (wq.alloc ob).cell? ⟨wr.heap.size, 2, none⟩ = some (.int .i64 t.ev) := fun ob => (NB.out ob).2.2.2.1
                clear hf q1 q2 q3 q4 q5 q6 q7 HQ
                by_cases hfn : f.1 = t.num
                · obtain ⟨s1, s2, s3⟩ := sd1 hfn
                  have S2 : Hid _ := s2
                  have S3 : Hid _ := s3
                  rw [hfn] at y1
                  rw [s1] at y2
                  clear sd1 sd2 s2 s3 hfn s1
                  go_wp2
                  go_roundw
                  case rel => exact ⟨j + 1, k + 1, a + t.ev, _, by go_num, by go_num, rfl, rfl, by omega, by omega, by omega, by omega, ⟨(NB.out _).1, (NB.out _).2.1, (NB.out _).2.2.1, (NB.out _).2.2.2.1, (NB.out _).2.2.2.2, S2.out, by have := Q7.out; have := S3.out; omega⟩⟩
                  case measure => simp [intOf]; omega
                · obtain ⟨s2, s3⟩ := sd2 hfn
                  have S2 : Hid _ := s2
                  have S3 : Hid _ := s3
                  have hfb : (f.1 == t.num) = false := by simpa using hfn
                  clear sd1 sd2 s2 s3 hfn
                  go_wp2
                  go_roundw
                  case rel => exact ⟨j + 1, k, a, _, by go_num, rfl, rfl, rfl, by omega, by omega, by omega, by omega, ⟨(NB.out _).1, (NB.out _).2.1, (NB.out _).2.2.1, (NB.out _).2.2.2.1, (NB.out _).2.2.2.2, S2.out, by have := Q7.out; have := S3.out; omega⟩⟩
                  case measure => simp [intOf]; omega
              · have hdr : l.drop j = [] := List.drop_eq_nil_of_le (by omega)
                have hkf : (k : Int) = 1 := by rw [hdr] at q7; rw [cnt] at q7; have := FV.out; omega
                have Q1 : Hid _ := q1
                clear q1 q2 q3 q4 q5 q6 q7 HQ hdr
                go_wp2
                go_roundw
                case rel => exact ⟨i + 1, _, by go_num, by rw [DT.out, FV.out] <;> simp, rfl, by omega, Q1.out⟩
                case measure => simp [intOf]; omega
          · have FV : Hid (fir U t = 1 + (U - t.tm) / t.ev) := by show fir U t = 1 + (U - t.tm) / t.ev; unfold fir; rw [if_neg (by omega), if_neg (by omega)]; omega
            have hq0 : 0 ≤ (U - t.tm) / t.ev := Int.ediv_nonneg (by omega) (by omega)
            have hq1 : (U - t.tm) / t.ev ≤ 1099511627776 := Int.le_trans (Int.ediv_le_self _ (by omega)) (by omega)
            have hz0 : (t.ev == 0) = false := by rw [beq_eq_false_iff_ne]; omega
            have hz1 : ¬ t.ev = 0 := by omega
            go_wp2
            go_quiet (fail)
            go_wp2
            go_loopw [15, 16, 100] (fun v15 v16 v100 wq => ∃ (j k : Nat) (a : Int) (wk : World), v100 = .int .i64 j ∧ v15 = .int .i64 k ∧ v16 = .int .i64 a ∧ wk = wq ∧ j ≤ l.length ∧ k ≤ j ∧ 0 ≤ a ∧ a ≤ 1099511627776 + k * 1099511627776 ∧ Hid (Below w5.heap.size w5 wk ∧ wk.cell? ⟨wr.heap.size, 0, none⟩ = some (.int .i64 t.num) ∧ wk.cell? ⟨wr.heap.size, 1, none⟩ = some (.int .i64 t.tm) ∧ wk.cell? ⟨wr.heap.size, 2, none⟩ = some (.int .i64 t.ev) ∧ wr.heap.size < wk.heap.size ∧ seqOK t.num t.ev a (l.drop j) ∧ (k : Int) + cnt t.num (l.drop j) = fir U t)) (fun _ _ v100 _ => l.length - (intOf v100).toNat)
            case atStart => exact ⟨0, 0, _, _, rfl, rfl, rfl, rfl, Nat.zero_le _, Nat.le_refl _, b3, by omega, ⟨below_drewN' (BX.out _) _, CX.out.1, CX.out.2.1, CX.out.2.2.1, CX.out.2.2.2, EC.out.1, by have := EC.out.2; simpa using this⟩⟩
            case round =>
              obtain ⟨j, k, a, wq, rfl, rfl, rfl, rfl, hj, hkj, ha0, ha1, HQ⟩ := hrel
              obtain ⟨q1, q2, q3, q4, q5, q6, q7⟩ := HQ.out
              by_cases hjl : j < l.length
              · obtain ⟨X2, e2, y1, y2⟩ := (HF.out.below q1).at hjl
                obtain rfl : p4 = some ⟨X2, 0, none⟩ := e2
                obtain ⟨sd1, sd2⟩ := seq_drop hjl q6
                obtain ⟨f, hf⟩ : ∃ f, f = l[j] := ⟨_, rfl⟩
                rw [← hf] at y1 y2 sd1 sd2
                have Q1 : Hid _ := q1
                have Q5 : Hid _ := q5
                have Q7 : Hid _ := q7
                have NB : Hid (∀ ob, Below w5.heap.size w5 (wq.alloc ob) ∧ (wq.alloc ob).cell? ⟨wr.heap.size, 0, none⟩ = some (.int .i64 t.num) ∧ (wq.alloc ob).cell? ⟨wr.heap.size, 1, none⟩ = some (.int .i64 t.tm) ∧ (wq.alloc ob).cell? ⟨wr.heap.size, 2, none⟩ = some (.int .i64 t.ev) ∧ wr.heap.size < (wq.alloc ob).heap.size) := fun ob => by
                  have bb : Below wq.heap.size wq (wq.alloc ob) := (Below.refl _ _).alloc (Nat.le_refl _) ob
                  exact ⟨q1.alloc q1.size _, (bb.cell (p := ⟨wr.heap.size, 0, none⟩) q5).trans q2, (bb.cell (p := ⟨wr.heap.size, 1, none⟩) q5).trans q3, (bb.cell (p := ⟨wr.heap.size, 2, none⟩) q5).trans q4, Nat.lt_of_lt_of_le q5 bb.size⟩
                have n0 : ∀ ob, (wq.alloc ob).cell? ⟨wr.heap.size, 0, none⟩ = some (.int .i64 t.num) := fun ob => (NB.out ob).2.1
                have n2 : ∀ ob, (wq.alloc ob).cell? ⟨wr.heap.size, 2, none⟩ = some (.int .i64 t.ev) := fun ob => (NB.out ob).2.2.2.1
                clear hf q1 q2 q3 q4 q5 q6 q7 HQ
                by_cases hfn : f.1 = t.num
                · obtain ⟨s1, s2, s3⟩ := sd1 hfn
                  have S2 : Hid _ := s2
                  have S3 : Hid _ := s3
                  rw [hfn] at y1
                  rw [s1] at y2
                  clear sd1 sd2 s2 s3 hfn s1
                  go_wp2
                  go_roundw
                  case rel => exact ⟨j + 1, k + 1, a + t.ev, _, by go_num, by go_num, rfl, rfl, by omega, by omega, by omega, by omega, ⟨(NB.out _).1, (NB.out _).2.1, (NB.out _).2.2.1, (NB.out _).2.2.2.1, (NB.out _).2.2.2.2, S2.out, by have := Q7.out; have := S3.out; omega⟩⟩
                  case measure => simp [intOf]; omega
                · obtain ⟨s2, s3⟩ := sd2 hfn
                  have S2 : Hid _ := s2
                  have S3 : Hid _ := s3
                  have hfb : (f.1 == t.num) = false := by simpa using hfn
                  clear sd1 sd2 s2 s3 hfn
                  go_wp2
                  go_roundw
                  case rel => exact ⟨j + 1, k, a, _, by go_num, rfl, rfl, rfl, by omega, by omega, by omega, by omega, ⟨(NB.out _).1, (NB.out _).2.1, (NB.out _).2.2.1, (NB.out _).2.2.2.1, (NB.out _).2.2.2.2, S2.out, by have := Q7.out; have := S3.out; omega⟩⟩
                  case measure => simp [intOf]; omega
              · have hdr : l.drop j = [] := List.drop_eq_nil_of_le (by omega)
                have hkf : (k : Int) = 1 + (U - t.tm) / t.ev := by rw [hdr] at q7; rw [cnt] at q7; have := FV.out; omega
                have Q1 : Hid _ := q1
                clear q1 q2 q3 q4 q5 q6 q7 HQ hdr
                go_wp2
                go_roundw
                case rel => exact ⟨i + 1, _, by go_num, by rw [DT.out, FV.out] <;> simp, rfl, by omega, Q1.out⟩
                case measure => simp [intOf]; omega
        · have hiL : L.take i = L := List.take_of_length_le (by omega)
          rw [hiL, DN.out]
          have HB0 : Hid (Below w.heap.size w wr) := below_then HS4.out.bl HB.out
          have HFr : Hid (FS wr (.slice p4 l.length c4) l) := HF.out.below HB.out
          clear dl1 dl2 HB HF EA P4 HS4 NW
          go_wp2
          go_loopw [19] (fun v19 wq => ∃ (k : Nat) (wk : World), v19 = .int .i64 ((k : Int) + 1) ∧ wk = wq ∧ k ≤ l.length ∧ Hid (Below wr.heap.size wr wk)) (fun v19 _ => l.length + 1 - (intOf v19).toNat)
          case atStart => exact ⟨0, _, rfl, rfl, Nat.zero_le _, Below.refl _ _⟩
          case round =>
            obtain ⟨k, wq, rfl, rfl, hk, HQ⟩ := hrel
            by_cases hkl : k + 1 < l.length
            · have h0 := (HFr.out.below HQ.out).at (k := k) (by omega)
              obtain ⟨X, e1, x1, x2⟩ := h0
              obtain rfl : p4 = some ⟨X, 0, none⟩ := e1
              obtain ⟨X', e2, y1, y2⟩ := (HFr.out.below HQ.out).at hkl
              injection e2 with e2
              injection e2 with e2
              subst e2
              have ho := OR.out k hkl
              unfold flt at ho
              obtain ⟨f, hf⟩ : ∃ f, f = l[k] := ⟨_, rfl⟩
              obtain ⟨g, hg⟩ : ∃ g, g = l[k + 1] := ⟨_, rfl⟩
              rw [← hf] at x1 x2 ho
              rw [← hg] at y1 y2 ho
              have Q1 : Hid _ := HQ.out
              clear hf hg HQ
              rcases ho with ho | ⟨ho1, ho2⟩
              · have g1 : ¬ g.2 < f.2 := by omega
                have g3 : decide (g.2 < f.2) = false := by simpa using g1
                have g2 : (f.2 == g.2) = false := by rw [beq_eq_false_iff_ne]; omega
                clear ho
                go_wp2
                go_quiet (fail)
                go_wp2
                go_roundw
                case rel => exact ⟨k + 1, _, by go_num, rfl, by omega, below_drewN' Q1.out _⟩
                case measure => simp [intOf]; omega
              · rw [ho1] at x2
                have g1 : ¬ f.1 ≥ g.1 := by omega
                clear ho1 ho2
                go_wp2
                go_quiet (fail)
                go_wp2
                go_roundw
                case rel => exact ⟨k + 1, _, by go_num, rfl, by omega, below_drewN' Q1.out _⟩
                case measure => simp [intOf]; omega
            · have hkl2 : ¬ (k : Int) + 1 < l.length := by omega
              go_wp2
              go_ret
              exact ⟨rfl, below_then HB0.out HQ.out⟩
  · refine (adv_range HS3.out x hx).mono ?_
    rintro e w4 ⟨rfl, hs4, hk4⟩
    have P4 : Hid (PL w4 w2.heap.size (.slice p3 L.length c3) L) := P3.out.kc LT.out.1 LT.out.2 hk4
    have HS4 : Hid (ST w w4 b xo now given L) := hs4
    clear hs4 hk4 HS3 P3
    by_cases hx0 : x < 0
    · clear hx
      go_wp2_with (first | (go_at_call 17; refine (now_st HS4.out).mono ?_; rintro e w5 ⟨rfl, rfl⟩) | (go_at_call 19; refine (pending_st HS4.out).mono ?_; rintro e w6 ⟨p6, c6, rfl, ht6, hb6⟩; have HT6 : Hid (TS w6 (.slice p6 L.length c6) L) := ht6; have HT3 : Hid (TS w6 (.slice p3 L.length c3) L) := (P4.out.below hb6).ts; have HB : Hid (Below w.heap.size w w6) := below_then HS4.out.bl hb6; clear ht6 hb6) | (go_at_call 18; refine (timersEq_same _ _ _ L HT6.out HT3.out (by omega)).mono ?_; rintro e w7 ⟨rfl, q, rfl⟩))
      go_ret
      exact ⟨rfl, below_drewN' HB.out _⟩
    · have hx4 : x > 1099511627776 - now := by omega
      clear hx
      go_wp2_with (first | (go_at_call 17; refine (now_st HS4.out).mono ?_; rintro e w5 ⟨rfl, rfl⟩) | (go_at_call 19; refine (pending_st HS4.out).mono ?_; rintro e w6 ⟨p6, c6, rfl, ht6, hb6⟩; have HT6 : Hid (TS w6 (.slice p6 L.length c6) L) := ht6; have HT3 : Hid (TS w6 (.slice p3 L.length c3) L) := (P4.out.below hb6).ts; have HB : Hid (Below w.heap.size w w6) := below_then HS4.out.bl hb6; clear ht6 hb6) | (go_at_call 18; refine (timersEq_same _ _ _ L HT6.out HT3.out (by omega)).mono ?_; rintro e w7 ⟨rfl, q, rfl⟩))
      go_ret
      exact ⟨rfl, below_drewN' HB.out _⟩
end Go.Proofs.Yteiadigafkollaa
