/- Retry: the laws RetryWaits, RetryTimes. -/
import Derived.Test.YtgoffnagdpmpnaaXc1
namespace Go.Proofs.Ytgoffnagdpmpnaa
open Go.RowKit Go.Maps

theorem timL_len (p : Pol) (a : Int) : (timL p a).length ≤ 1000 := by
  unfold timL
  split
  · rename_i h
    have hp : polB p = true := by
      cases e : polB p with
      | true => rfl
      | false => rw [(timE_no e a).1] at h; cases h
    have := tmL_len a (wts p)
    have := wts_len p
    have := pol_bd hp
    unfold nwt at *
    simp
    omega
  · simp
/-- The box of the policy stays. -/
def BP (w : World) (p : Pol) (w' : World) : Prop := Below w.heap.size w w' ∧ w'.cell? ⟨w.heap.size, 0, none⟩ = some (.int .i64 p.t) ∧ w'.cell? ⟨w.heap.size, 1, none⟩ = some (.int .i64 p.b) ∧ w'.cell? ⟨w.heap.size, 2, none⟩ = some (.int .i64 p.f) ∧ w'.cell? ⟨w.heap.size, 3, none⟩ = some (.int .i64 p.c)
theorem BP.next {w w1 w2 : World} {p : Pol} (h : BP w p w1) (k : Below w1.heap.size w1 w2) : BP w p w2 :=
  ⟨bl3 h.1 k, (k.cell (p := ⟨w.heap.size, 0, none⟩) (block_lt_of_cell h.2.1)).trans h.2.1, (k.cell (p := ⟨w.heap.size, 1, none⟩) (block_lt_of_cell h.2.2.1)).trans h.2.2.1, (k.cell (p := ⟨w.heap.size, 2, none⟩) (block_lt_of_cell h.2.2.2.1)).trans h.2.2.2.1, (k.cell (p := ⟨w.heap.size, 3, none⟩) (block_lt_of_cell h.2.2.2.2)).trans h.2.2.2.2⟩
theorem BP.box (w : World) (p : Pol) : BP w p (w.alloc (.cells #[.int .i64 p.t, .int .i64 p.b, .int .i64 p.f, .int .i64 p.c] 23)) := ⟨(Below.refl _ _).alloc (Nat.le_refl _) _, box4 w p _⟩
set_option maxHeartbeats 8000000 in
theorem retryTimes_any (p : Pol) (a : Int) (w : World) : Calls Try.prog 4 #[polV p, .int .i64 a] w fun e w' => e = .returned (.bool true) ∧ Below w.heap.size w w' := by
  have T1 := hid (fun w' => times_any p a w')
  have T2 := hid (fun w' => rtimes_any p a w')
  have U1 := hid (fun w' => total_any p w')
  have U2 := hid (fun w' => rtotal_any p w')
  have WK := hid works_any
  have IN := hid (fun w' v u h1 h2 => ints_any w' v u (timL p a) (timL p a) h1 h2 (timL_len p a))
  rw [decide_eq_true (p := timL p a = timL p a) rfl] at IN
  have P0 := hid (BP.box w p)
  have PN : Hid (∀ w1 w2, BP w p w1 → Below w1.heap.size w1 w2 → BP w p w2) := fun w1 w2 h k => h.next k
  have PC : Hid (∀ w1, BP w p w1 → w1.cell? ⟨w.heap.size, 0, none⟩ = some (.int .i64 p.t) ∧ w1.cell? ⟨w.heap.size, 1, none⟩ = some (.int .i64 p.b) ∧ w1.cell? ⟨w.heap.size, 2, none⟩ = some (.int .i64 p.f) ∧ w1.cell? ⟨w.heap.size, 3, none⟩ = some (.int .i64 p.c)) := fun w1 h => h.2
  have PB : Hid (∀ w1, BP w p w1 → Below w.heap.size w w1) := fun w1 h => h.1
  generalize BP w p = B at *
  generalize timL p a = tl at *
  generalize timE p a = te at *
  generalize totN p = tn at *
  generalize chkE p = ce at *
  obtain ⟨pt, pb, pf, pc⟩ := p
  simp only [polV] at *
  go_enter Try.func4, Try.ntmps4
  go_wp2_with (first | (go_at_call 18; refine (T1.out _).mono ?_; rintro e w1 ⟨v, rfl, ho, hb⟩; have B1 := hid (PN.out _ _ P0.out hb); have O1 := hid ho; obtain ⟨C0, C1, C2, C3⟩ := PC.out _ B1.out; clear hb ho P0) | (go_at_call 19; refine (T2.out _).mono ?_; rintro e w2 ⟨u, rfl, ho, hb⟩; have B2 := hid (PN.out _ _ B1.out hb); have O2 := hid ho; have Q2 := hid (O1.out.below hb); obtain ⟨D0, D1, D2, D3⟩ := PC.out _ B2.out; clear hb ho C0 C1 C2 C3) | (go_at_call 20; refine (U1.out _).mono ?_; rintro e w3 ⟨rfl, hb⟩; have B3 := hid (PN.out _ _ B2.out hb); have Q3 := hid (Q2.out.below hb); have R3 := hid (O2.out.below hb); obtain ⟨E0, E1, E2, E3⟩ := PC.out _ B3.out; clear hb D0 D1 D2 D3) | (go_at_call 21; refine (U2.out _).mono ?_; rintro e w4 ⟨rfl, hb⟩; have B4 := hid (PN.out _ _ B3.out hb); have Q4 := hid ((Q3.out.below hb).gs KI_ok.len); have R4 := hid ((R3.out.below hb).gs KI_ok.len); clear hb E0 E1 E2 E3) | (go_at_call 22; refine (IN.out _ _ _ Q4.out R4.out).mono ?_; rintro e w5 ⟨rfl, hb⟩; have B5 := hid (PN.out _ _ B4.out hb); clear hb) | (go_at_call 17; refine (WK.out _).mono ?_; rintro e w6 ⟨rfl, hb⟩; have B6 := hid (PN.out _ _ B5.out hb); clear hb))
  go_ret
  exact ⟨rfl, PB.out _ B6.out⟩
set_option maxHeartbeats 8000000 in
theorem retryWaits_any (p : Pol) (k a n : Int) (w : World) : Calls Try.prog 3 #[polV p, .int .i64 k, .int .i64 a, .int .i64 n] w fun e w' => e = .returned (.bool true) ∧ Below w.heap.size w w' := by
  have W1 := hid (fun w' => wait_any p k w')
  have W2 := hid (fun w' => rwait_any p k w')
  have D1 := hid (fun w' => due_any p k a w')
  have D2 := hid (fun w' => rdue_any p k a w')
  have M1 := hid (fun w' => may_any p k a n w')
  have M2 := hid (fun w' => rmay_any p k a n w')
  have K1 := hid (fun w' => check_any p w')
  have K2 := hid (fun w' => rcheck_any p w')
  have WK := hid works_any
  have P0 := hid (BP.box w p)
  have PN : Hid (∀ w1 w2, BP w p w1 → Below w1.heap.size w1 w2 → BP w p w2) := fun w1 w2 h k => h.next k
  have PC : Hid (∀ w1, BP w p w1 → w1.cell? ⟨w.heap.size, 0, none⟩ = some (.int .i64 p.t) ∧ w1.cell? ⟨w.heap.size, 1, none⟩ = some (.int .i64 p.b) ∧ w1.cell? ⟨w.heap.size, 2, none⟩ = some (.int .i64 p.f) ∧ w1.cell? ⟨w.heap.size, 3, none⟩ = some (.int .i64 p.c)) := fun w1 h => h.2
  have PB : Hid (∀ w1, BP w p w1 → Below w.heap.size w w1) := fun w1 h => h.1
  have PD : Hid (∀ w1, BP w p w1 → BP w p w1.drew) := fun w1 h => h.next (Below.refl _ _).drew
  generalize BP w p = B at *
  generalize watN p k = x1 at *
  generalize watE p k = x2 at *
  generalize dueN p k a = x3 at *
  generalize dueE p k a = x4 at *
  generalize mayB p k a n = x5 at *
  generalize mayE p k a n = x6 at *
  generalize chkE p = ce at *
  obtain ⟨pt, pb, pf, pc⟩ := p
  simp only [polV] at *
  go_enter Try.func3, Try.ntmps3
  go_upto_region 7 with (first | (go_at_call 9; refine (W1.out _).mono ?_; rintro e w1 ⟨rfl, hb⟩; have B1 := hid (PN.out _ _ P0.out hb); obtain ⟨C1a, C1b, C1c, C1d⟩ := PC.out _ B1.out; clear hb) | (go_at_call 10; refine (W2.out _).mono ?_; rintro e w2 ⟨rfl, hb⟩; have B2 := hid (PN.out _ _ B1.out hb); obtain ⟨C2a, C2b, C2c, C2d⟩ := PC.out _ B2.out; clear hb C1a C1b C1c C1d) | (go_at_call 11; refine (D1.out _).mono ?_; rintro e w3 ⟨rfl, hb⟩; have B3 := hid (PN.out _ _ B2.out hb); obtain ⟨C3a, C3b, C3c, C3d⟩ := PC.out _ B3.out; clear hb C2a C2b C2c C2d) | (go_at_call 12; refine (D2.out _).mono ?_; rintro e w4 ⟨rfl, hb⟩; have B4 := hid (PN.out _ _ B3.out hb); obtain ⟨C4a, C4b, C4c, C4d⟩ := PC.out _ B4.out; clear hb C3a C3b C3c C3d) | (go_at_call 13; refine (M1.out _).mono ?_; rintro e w5 ⟨rfl, hb⟩; have B5 := hid (PN.out _ _ B4.out hb); obtain ⟨C5a, C5b, C5c, C5d⟩ := PC.out _ B5.out; clear hb C4a C4b C4c C4d) | (go_at_call 14; refine (M2.out _).mono ?_; rintro e w6 ⟨rfl, hb⟩; have B6 := hid (PN.out _ _ B5.out hb); obtain ⟨C6a, C6b, C6c, C6d⟩ := PC.out _ B6.out; clear hb C5a C5b C5c C5d))
  generalize hB0 : w.heap.size = B0 at *
  have HB0 := hid hB0
  clear hB0
  go_region_held3 (fun w' => w'.cell? ⟨B0, 0, none⟩ = some (.int .i64 pt) ∧ w'.cell? ⟨B0, 1, none⟩ = some (.int .i64 pb) ∧ w'.cell? ⟨B0, 2, none⟩ = some (.int .i64 pf) ∧ w'.cell? ⟨B0, 3, none⟩ = some (.int .i64 pc)) (go_keep) (first | (go_at_call 15; refine (K1.out _).mono ?_; rintro e w7 ⟨rfl, hb⟩; (first | (have B7 := hid (PN.out _ _ B8.out hb)) | (have B7 := hid (PN.out _ _ B6.out hb)) | (have B7 := hid (PN.out _ _ (PD.out _ B6.out) hb))); obtain ⟨C7a, C7b, C7c, C7d⟩ := PC.out _ B7.out; clear hb) | (go_at_call 16; refine (K2.out _).mono ?_; rintro e w8 ⟨rfl, hb⟩; (first | (have B8 := hid (PN.out _ _ B7.out hb)) | (have B8 := hid (PN.out _ _ B6.out hb)) | (have B8 := hid (PN.out _ _ (PD.out _ B6.out) hb))); obtain ⟨C8a, C8b, C8c, C8d⟩ := PC.out _ B8.out; clear hb) | (go_at_call 17; refine (WK.out _).mono ?_; rintro e w9 ⟨rfl, hb⟩; (first | (have B9 := hid (PN.out _ _ B8.out hb)) | (have B9 := hid (PN.out _ _ B7.out hb))); obtain ⟨C9a, C9b, C9c, C9d⟩ := PC.out _ B9.out; clear hb))
  all_goals
    go_wp2_with fail
    go_ret
    exact ⟨rfl, by rw [HB0.out]; exact PB.out _ B9.out⟩
end Go.Proofs.Ytgoffnagdpmpnaa
