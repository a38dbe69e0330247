/- Failures: a crack's parts, read. -/
import Derived.Test.YtaleagkhblokgaaDoorKx4
namespace Go.Proofs.YtaleagkhblokgaaDoor
open Go.RowKit

/-- What comes of reading a failure. -/
def OutT (rb : Nat) (w w' : World) (e : Ending) (cs : List Cr) (q : Option (Ft × List UInt8 × Nat)) : Prop :=
  (∃ t R' b' cv', q = some (t, R'.data.toList, b') ∧ e = .returned (.tuple #[]) ∧ RR rb w' R' b' cv' (cs ++ flat t) ∧ KR rb w w') ∨ (q = none ∧ e = .panicked GP ∧ KR rb w w')
/-- What comes of reading parts. -/
def OutP (rb : Nat) (w w' : World) (e : Ending) (cs : List Cr) (q : Option (List Ft × List UInt8 × Nat)) : Prop :=
  (∃ ts R' b' cv', q = some (ts, R'.data.toList, b') ∧ e = .returned (.int .i64 (ts.length : Nat)) ∧ RR rb w' R' b' cv' (cs ++ flatL ts) ∧ KR rb w w') ∨ (q = none ∧ e = .panicked GP ∧ KR rb w w')
def ReadsAt (ws : World) (f : Nat) : Prop := ∀ (w : World) (R : ByteArray) (b : Nat) (cv : Value) (cs : List Cr), Below ws.heap.size ws w → RR ws.heap.size w R b cv cs → R.size ≤ 1000000 → cs.length ≤ b → b ≤ 1024 → 1025 ≤ f + b →
  Calls Tryd.prog 49 #[.pointer (some ⟨ws.heap.size, 0, none⟩)] w fun e w' => OutT ws.heap.size w w' e cs (rdT f R.data.toList b)
/-- What is left never grows. -/
theorem rdX_le {k : Int} {s : List UInt8} {tx : ByteArray} {r : List UInt8} (h : rdX k s = some (tx, r)) : r.length ≤ s.length := by
  unfold rdX at h
  obtain ⟨q, hq, h⟩ := Option.bind_eq_some_iff.1 h
  split at h
  · injection h with h
    subst h
    split at hq
    · injection hq with hq; injection hq with _ hq; subst hq; exact Nat.le_refl _
    · obtain ⟨z, hz, hq⟩ := Option.bind_eq_some_iff.1 hq
      have := strip_le hz
      split at hq
      · split at hq
        · injection hq with hq; injection hq with _ hq; subst hq; simp; omega
        · cases hq
      · injection hq with hq; injection hq with _ hq; subst hq; simp; omega
  · cases h
theorem rdL_le (T : RdT) (bt : List UInt8) (hT : ∀ s b t r b', T s b = some (t, r, b') → r.length ≤ s.length) : ∀ (n : Nat) (s : List UInt8) (b : Nat) (ts : List Ft) (r : List UInt8) (b' : Nat), rdL T bt n s b = some (ts, r, b') → r.length ≤ s.length
  | 0, s, b, ts, r, b', h => by
    rw [rdL] at h
    injection h with h; injection h with _ h; injection h with h _; subst h; exact Nat.le_refl _
  | n + 1, s, b, ts, r, b', h => by
    rw [rdL] at h
    split at h
    · injection h with h; injection h with _ h; injection h with h _; subst h; exact Nat.le_refl _
    · rename_i z hz
      obtain ⟨x, hx, h⟩ := Option.bind_eq_some_iff.1 h
      obtain ⟨y, hy, h⟩ := Option.map_eq_some_iff.1 h
      obtain ⟨t, r1, b1⟩ := x
      obtain ⟨us, r2, b2⟩ := y
      have h1 := strip_le hz
      have h2 := hT _ _ _ _ _ hx
      have h3 := rdL_le T bt hT n _ _ _ _ _ hy
      injection h with _ h; injection h with h _
      subst h
      dsimp only at *
      omega
theorem rdP_le (T : RdT) (k : Int) (hT : ∀ s b t r b', T s b = some (t, r, b') → r.length ≤ s.length) {s : List UInt8} {b : Nat} {ts : List Ft} {r : List UInt8} {b' : Nat} (h : rdP T k s b = some (ts, r, b')) : r.length ≤ s.length := by
  unfold rdP at h
  split at h
  · injection h with h; injection h with _ h; injection h with h _; subst h; exact Nat.le_refl _
  · obtain ⟨q, hq, h⟩ := Option.bind_eq_some_iff.1 h
    obtain ⟨x, hx, h⟩ := Option.bind_eq_some_iff.1 h
    obtain ⟨y, hy, h⟩ := Option.bind_eq_some_iff.1 h
    obtain ⟨z, hz, h⟩ := Option.map_eq_some_iff.1 h
    obtain ⟨t, r1, b1⟩ := x
    obtain ⟨us, r2, b2⟩ := y
    have h1 := strip_le hq
    have h2 := hT _ _ _ _ _ hx
    have h3 := rdL_le T _ hT _ _ _ _ _ _ hy
    have h4 := strip_le hz
    injection h with _ h; injection h with h _
    subst h
    dsimp only at *
    omega
theorem rdT_le : ∀ (f : Nat) (s : List UInt8) (b : Nat) (t : Ft) (r : List UInt8) (b' : Nat), rdT f s b = some (t, r, b') → r.length ≤ s.length
  | 0, s, b, t, r, b', h => by rw [rdT] at h; cases h
  | f + 1, s, b, t, r, b', h => by
    rw [rdT] at h
    split at h
    · cases h
    · obtain ⟨q, hq, h⟩ := Option.bind_eq_some_iff.1 h
      obtain ⟨y, hy, h⟩ := Option.map_eq_some_iff.1 h
      obtain ⟨us, r2, b2⟩ := y
      have h1 := rdX_le (tx := q.1) (r := q.2) hq
      have h2 := rdP_le (rdT f) _ (rdT_le f) hy
      injection h with _ h; injection h with h _
      subst h
      simp at h1
      omega
set_option maxHeartbeats 8000000 in
set_option maxRecDepth 100000 in
theorem readParts_any (ws : World) (f : Nat) (hf : ReadsAt ws f) (w : World) (R : ByteArray) (b : Nat) (cv : Value) (cs : List Cr) (k : Int) (hv : FV ws) (hB : Below ws.heap.size ws w) (hk : isK k = true) (h : RR ws.heap.size w R b cv cs) (hR : R.size ≤ 1000000) (hcs : cs.length ≤ b) (hb : b ≤ 1024) (hfb : 1025 ≤ f + b) :
    Calls Tryd.prog 65 #[.pointer (some ⟨ws.heap.size, 0, none⟩), .int .i64 k] w fun e w' => OutP ws.heap.size w w' e cs (rdP (rdT f) k R.data.toList b) := by
  obtain ⟨m, hm, hm2, q0, q1, q2, q3, q4, q5, q6⟩ := row_cells (hv.below hB).rows hk
  have hmost : 0 ≤ (frow k).least ∧ 0 ≤ (frow k).most ∧ (frow k).most ≤ 1024 := by
    rw [isK_iff] at hk
    have hkk : k = 1 ∨ k = 2 ∨ k = 3 ∨ k = 4 ∨ k = 5 ∨ k = 6 ∨ k = 7 ∨ k = 8 ∨ k = 9 ∨ k = 10 ∨ k = 11 := by omega
    rcases hkk with e | e | e | e | e | e | e | e | e | e | e <;> rw [e] <;> decide
  have HQ : Hid (rdP (rdT f) k R.data.toList b = if (frow k).most = 0 ∨ ((frow k).least = 0 ∧ Lib.hasPrefix R.data.toList (frow k).op.data.toList = false) then some ([], R.data.toList, b)
    else (strip (frow k).op.data.toList R.data.toList).bind fun r => (rdT f r b).bind fun x => (rdL (rdT f) (frow k).bt.data.toList ((frow k).most.toNat - 1) x.2.1 x.2.2).bind fun y =>
    (strip (frow k).en.data.toList y.2.1).map fun z => (x.1 :: y.1, z, y.2.2)) := rfl
  have HB : Hid (Below ws.heap.size ws w) := hB
  have HH : Hid (RR ws.heap.size w R b cv cs) := h
  have hpw : ws.heap.size < w.heap.size := h.lt
  generalize rdP (rdT f) k R.data.toList b = q at *
  generalize frow k = F at *
  obtain ⟨Fw, Ft0, Fl, Fm, Fo, Fb, Fe⟩ := F
  simp only at *
  have HPx : Hid (∀ w', Calls Tryd.prog 81 #[.string R, .string Fo] w' fun e w'' => e = .returned (.bool (Lib.hasPrefix R.data.toList Fo.data.toList)) ∧ w'' = w') := fun w' => Tryd.strings_HasPrefix R Fo w'
  have ALL : Hid (∀ ob n, RR ws.heap.size ((w.alloc ob).drewN n) R b cv cs ∧ KR ws.heap.size w ((w.alloc ob).drewN n)) := fun ob n => by
    have B : Below w.heap.size w ((w.alloc ob).drewN n) := below_drewN' ((Below.refl _ _).alloc (Nat.le_refl _) ob) n
    exact ⟨h.below B, KR.of_below B⟩
  have cA : ∀ ob, (w.alloc ob).cell? ⟨ws.heap.size, 0, none⟩ = some (.string R) := fun ob => (h.below ((Below.refl _ _).alloc (Nat.le_refl _) ob)).c0
  have hlen : (R.data.toList).length = R.size := by simp
  subst hm
  clear h hB hv hk
  by_cases hm0 : Fm = 0
  · subst hm0
    have hq : Hid (q = some ([], R.data.toList, b)) := by show _ = _; rw [HQ.out, if_pos (Or.inl rfl)]
    clear HQ
    go_enter Tryd.func65, Tryd.ntmps65
    go_wp2
    go_quiet (fail)
    go_wp2
    go_ret
    exact Or.inl ⟨[], R, b, cv, hq.out, rfl, by rw [flatL, List.append_nil]; exact (ALL.out _ _).1, (ALL.out _ _).2⟩
  · obtain ⟨M, rfl⟩ : ∃ M : Nat, Fm = (M : Int) + 1 := ⟨(Fm - 1).toNat, by omega⟩
    have hM : M + 1 ≤ 1024 := by omega
    have zm : (((M : Int) + 1) == 0) = false := by simp; omega
    have hMn : ((M : Int) + 1).toNat - 1 = M := by omega
    by_cases hl0 : Fl = 0
    · subst hl0
      cases hpx : Lib.hasPrefix R.data.toList Fo.data.toList with
      | false =>
        have hq : Hid (q = some ([], R.data.toList, b)) := by show _ = _; rw [HQ.out, if_pos (Or.inr ⟨rfl, hpx⟩)]
        rw [hpx] at HPx
        clear HQ hpx
        go_enter Tryd.func65, Tryd.ntmps65
        go_wp2
        go_quiet ((go_at_call 81; exact Calls.quiet_of_same (HPx.out _)))
        go_wp2
        go_ret
        exact Or.inl ⟨[], R, b, cv, hq.out, rfl, by rw [flatL, List.append_nil]; exact (ALL.out _ _).1, (ALL.out _ _).2⟩
      | true =>
        have HQ2 : Hid (q = (strip Fo.data.toList R.data.toList).bind fun r => (rdT f r b).bind fun x => (rdL (rdT f) Fb.data.toList M x.2.1 x.2.2).bind fun y => (strip Fe.data.toList y.2.1).map fun z => (x.1 :: y.1, z, y.2.2)) := by
          show _ = _; rw [HQ.out, if_neg (by simp [hpx]; omega), hMn]
        rw [hpx] at HPx
        clear HQ hpx
        obtain ⟨W1, hW1⟩ : ∃ W1, W1 = w.alloc (.cells #[.string Fw, .int .i64 Ft0, .int .i64 0, .int .i64 ((M : Int) + 1), .string Fo, .string Fb, .string Fe] 88) := ⟨_, rfl⟩
        have BW1 : Below w.heap.size w W1 := by rw [hW1]; exact (Below.refl _ _).alloc (Nat.le_refl _) _
        have HR1 : Hid (RR ws.heap.size W1 R b cv cs) := HH.out.below BW1
        have KW : Hid (KR ws.heap.size w W1) := KR.of_below BW1
        have RBW : W1.heap[w.heap.size]? = some (.cells #[.string Fw, .int .i64 Ft0, .int .i64 0, .int .i64 ((M : Int) + 1), .string Fo, .string Fb, .string Fe] 88) := by rw [hW1]; exact heap_alloc_new _ _
        have RKP : Hid (∀ w', KR ws.heap.size W1 w' → w'.heap[w.heap.size]? = some (.cells #[.string Fw, .int .i64 Ft0, .int .i64 0, .int .i64 ((M : Int) + 1), .string Fo, .string Fb, .string Fe] 88)) := fun w' kr => kr.keep RBW (by omega) (by decide)
        have BK : Hid (∀ w', KR ws.heap.size W1 w' → Below ws.heap.size ws w') := fun w' kr => (HB.out.trans (BW1.mono HB.out.size)).trans (kr.below HR1.out.lt)
        have HW1 : Hid (W1 = w.alloc (.cells #[.string Fw, .int .i64 Ft0, .int .i64 0, .int .i64 ((M : Int) + 1), .string Fo, .string Fb, .string Fe] 88)) := hW1
        have c0 : (w.alloc (.cells #[.string Fw, .int .i64 Ft0, .int .i64 0, .int .i64 ((M : Int) + 1), .string Fo, .string Fb, .string Fe] 88)).cell? ⟨ws.heap.size, 0, none⟩ = some (.string R) := by rw [← hW1]; exact HR1.out.c0
        clear hW1 BW1 RBW
        clear cA
        go_enter Tryd.func65, Tryd.ntmps65
        go_wp2
        go_quiet ((go_at_call 81; exact Calls.quiet_of_same (HPx.out _)))
        rw [← HW1.out]
        obtain ⟨W2, hW2⟩ : ∃ W2, W2 = W1.drewN nq := ⟨_, rfl⟩
        have KW2 : Hid (KR ws.heap.size W1 W2) := by show KR _ _ _; rw [hW2]; exact KR.of_below (below_drewN' (Below.refl _ _) nq)
        have HR2 : Hid (RR ws.heap.size W2 R b cv cs) := by show RR _ _ _ _ _ _; rw [hW2]; exact HR1.out.below (below_drewN' (Below.refl _ _) nq)
        rw [← hW2]
        have r4 : W2.cell? ⟨w.heap.size, 4, none⟩ = some (.string Fo) := cell_of_row _ _ _ _ _ _ (RKP.out _ KW2.out)
        clear hW2 HPx ALL
        go_wp2_with fail
        refine Calls.mono (need_any ws.heap.size W2 R Fo b cv cs HR2.out) ?_
        rintro e w3 (⟨L, hL, rfl, h3, k3⟩ | ⟨hL, rfl, k3⟩)
        rotate_left
        · exact ⟨rfl, Or.inr ⟨by rw [HQ2.out, hL]; rfl, rfl, (KW.out.trans KW2.out).trans k3⟩⟩
        have HR3 : Hid (RR ws.heap.size w3 ⟨L.toArray⟩ b cv cs) := h3
        have K3 : Hid (KR ws.heap.size W1 w3) := KW2.out.trans k3
        have LS : L.length ≤ 1000000 := by have := strip_le hL; omega
        obtain ⟨R3, hR3⟩ : ∃ R3 : ByteArray, R3 = ⟨L.toArray⟩ := ⟨_, rfl⟩
        have R3L : L = R3.data.toList := by rw [hR3]
        have R3S : R3.size ≤ 1000000 := by rw [hR3]; show L.toArray.size ≤ _; simpa using LS
        rw [← hR3] at HR3
        have HQ3 : Hid (q = (rdT f R3.data.toList b).bind fun x => (rdL (rdT f) Fb.data.toList M x.2.1 x.2.2).bind fun y => (strip Fe.data.toList y.2.1).map fun z => (x.1 :: y.1, z, y.2.2)) := by show _ = _; rw [HQ2.out, hL, R3L]; rfl
        clear h3 k3 hL hR3 R3L LS HQ2 HR2 KW2 r4 HR1
        go_wp2_with fail
        refine Calls.mono (hf w3 R3 b cv cs (BK.out _ K3.out) HR3.out R3S hcs hb hfb) ?_
        rintro e w4 (⟨t, R4, b4, cv4, hq4, rfl, h4, k4⟩ | ⟨hq4, rfl, k4⟩)
        rotate_left
        · exact ⟨rfl, Or.inr ⟨by rw [HQ3.out, hq4]; rfl, rfl, (KW.out.trans K3.out).trans k4⟩⟩
        have HR4 : Hid (RR ws.heap.size w4 R4 b4 cv4 ((cs ++ flat t) ++ flatL [])) := by show RR _ _ _ _ _ _; rw [flatL, List.append_nil]; exact h4
        have K4 : Hid (KR ws.heap.size W1 w4) := K3.out.trans k4
        have hbl := rdT_len f _ _ _ _ _ hq4
        have hle4 := rdT_le f _ _ _ _ _ hq4
        have HQ4 : Hid (q = (rdL (rdT f) Fb.data.toList M R4.data.toList b4).bind fun y => (strip Fe.data.toList y.2.1).map fun z => (t :: y.1, z, y.2.2)) := by show _ = _; rw [HQ3.out, hq4]; rfl
        have BD4 : Hid (((cs ++ flat t) ++ flatL []).length ≤ b4 ∧ b4 ≤ 1024 ∧ R4.size ≤ 1000000 ∧ b ≤ b4) := by
          have e1 : R4.data.toList.length = R4.size := by simp
          have e2 : R3.data.toList.length = R3.size := by simp
          show _ ∧ _
          simp only [flatL, List.append_nil, List.length_append]
          omega
        have E4 : Hid (q = ((rdL (rdT f) Fb.data.toList (M + 1 - 1) R4.data.toList b4).map fun y => ([] ++ y.1, y.2)).bind fun y => (strip Fe.data.toList y.2.1).map fun z => (t :: y.1, z, y.2.2)) := by
          show _ = _; rw [HQ4.out]; simp
        clear h4 k4 hq4 hbl hle4 HQ3 HQ4 HR3 K3 R3S
        go_wp2_with fail
        go_loopw [6] (fun v6 wl => ∃ (p : Nat) (us : List Ft) (Rp : ByteArray) (bp : Nat) (cvp : Value) (wk : World), 1 ≤ p ∧ p ≤ M + 1 ∧ p = us.length + 1 ∧ v6 = .int .i64 p ∧ wk = wl ∧ Hid (RR ws.heap.size wk Rp bp cvp ((cs ++ flat t) ++ flatL us)) ∧ Hid (KR ws.heap.size W1 wk) ∧ Hid (((cs ++ flat t) ++ flatL us).length ≤ bp ∧ bp ≤ 1024 ∧ Rp.size ≤ 1000000 ∧ b ≤ bp) ∧ Hid (q = ((rdL (rdT f) Fb.data.toList (M + 1 - p) Rp.data.toList bp).map fun y => (us ++ y.1, y.2)).bind fun y => (strip Fe.data.toList y.2.1).map fun z => (t :: y.1, z, y.2.2))) (fun v6 _ => M + 1 - (intOf v6).toNat)
        case atStart => exact ⟨1, [], R4, b4, cv4, _, by omega, by omega, rfl, rfl, rfl, HR4, K4, BD4, E4⟩
        case round =>
          obtain ⟨p, us, Rp, bp, cvp, wr, hp1, hp2, hpu, rfl, rfl, HR, HK, HBD, HE⟩ := hrel
          clear HR4 K4 BD4 E4
          have r3 : wr.cell? ⟨w.heap.size, 3, none⟩ = some (.int .i64 ((M : Int) + 1)) := cell_of_row _ _ _ _ _ _ (RKP.out _ HK.out)
          have r5 : wr.cell? ⟨w.heap.size, 5, none⟩ = some (.string Fb) := cell_of_row _ _ _ _ _ _ (RKP.out _ HK.out)
          by_cases hpm : p < M + 1
          · have hE2 := HE.out
            rw [show M + 1 - p = (M + 1 - (p + 1)) + 1 by omega, rdL] at hE2
            have TK := take_any ws.heap.size wr Rp Fb bp cvp _ HR.out
            cases hpx : Lib.hasPrefix Rp.data.toList Fb.data.toList with
            | true =>
              have hst : strip Fb.data.toList Rp.data.toList = some (Rp.data.toList.drop Fb.data.toList.length) := by unfold strip; rw [if_pos hpx]
              have htr : Lib.trimPrefix Rp.data.toList Fb.data.toList = Rp.data.toList.drop Fb.data.toList.length := by unfold Lib.trimPrefix; rw [if_pos hpx]
              rw [hst] at hE2
              rw [hpx, htr] at TK
              obtain ⟨R5, hR5⟩ : ∃ R5 : ByteArray, R5 = ⟨(Rp.data.toList.drop Fb.data.toList.length).toArray⟩ := ⟨_, rfl⟩
              have R5L : Rp.data.toList.drop Fb.data.toList.length = R5.data.toList := by rw [hR5]
              have R5S : R5.size ≤ 1000000 := by
                have h1 := HBD.out.2.2.1
                have e1 : Rp.data.toList.length = Rp.size := by simp
                rw [hR5]; show (Rp.data.toList.drop Fb.data.toList.length).toArray.size ≤ _
                rw [List.size_toArray, List.length_drop]; omega
              rw [R5L] at hE2
              rw [← hR5] at TK
              have HE5 : Hid (q = (((rdT f R5.data.toList bp).bind fun x => (rdL (rdT f) Fb.data.toList (M + 1 - (p + 1)) x.2.1 x.2.2).map fun y => (x.1 :: y.1, y.2)).map fun y => (us ++ y.1, y.2)).bind fun y => (strip Fe.data.toList y.2.1).map fun z => (t :: y.1, z, y.2.2)) := hE2
              clear hE2 hst htr hpx hR5 R5L HE HR
              go_wp2_with fail
              refine TK.mono ?_
              rintro e w5 ⟨rfl, h5, k5⟩
              have HR5 : Hid (RR ws.heap.size w5 R5 bp cvp ((cs ++ flat t) ++ flatL us)) := h5
              have K5 : Hid (KR ws.heap.size W1 w5) := HK.out.trans k5
              clear h5 k5 TK HK r3 r5
              go_wp2_with fail
              refine Calls.mono (hf w5 R5 bp cvp _ (BK.out _ K5.out) HR5.out R5S HBD.out.1 HBD.out.2.1 (by have := HBD.out.2.2.2; omega)) ?_
              rintro e w6 (⟨t6, R6, b6, cv6, hq6, rfl, h6, k6⟩ | ⟨hq6, rfl, k6⟩)
              rotate_left
              · exact ⟨rfl, Or.inr ⟨by rw [HE5.out, hq6]; rfl, rfl, (KW.out.trans K5.out).trans k6⟩⟩
              have hbl := rdT_len f _ _ _ _ _ hq6
              have hle6 := rdT_le f _ _ _ _ _ hq6
              have HR6 : Hid (RR ws.heap.size w6 R6 b6 cv6 ((cs ++ flat t) ++ flatL (us ++ [t6]))) := by show RR _ _ _ _ _ _; rw [flatL_app, flatL_one, ← List.append_assoc]; exact h6
              have K6 : Hid (KR ws.heap.size W1 w6) := K5.out.trans k6
              have BD6 : Hid (((cs ++ flat t) ++ flatL (us ++ [t6])).length ≤ b6 ∧ b6 ≤ 1024 ∧ R6.size ≤ 1000000 ∧ b ≤ b6) := by
                have e1 : R6.data.toList.length = R6.size := by simp
                have e2 : R5.data.toList.length = R5.size := by simp
                have h1 := HBD.out
                show _ ∧ _
                rw [flatL_app, flatL_one]
                simp only [List.length_append] at h1 ⊢
                omega
              have E6 : Hid (q = ((rdL (rdT f) Fb.data.toList (M + 1 - (p + 1)) R6.data.toList b6).map fun y => ((us ++ [t6]) ++ y.1, y.2)).bind fun y => (strip Fe.data.toList y.2.1).map fun z => (t :: y.1, z, y.2.2)) := by
                show _ = _; rw [HE5.out, hq6]
                simp [Option.map_map, Function.comp_def]
              have hpu6 : p + 1 = (us ++ [t6]).length + 1 := by simp; omega
              clear h6 k6 hq6 hbl hle6 HE5 HR5 K5 HBD
              go_wp2_with fail
              go_roundw
              case rel => exact ⟨p + 1, us ++ [t6], R6, b6, cv6, _, by omega, by omega, hpu6, by go_num, rfl, HR6, K6, BD6, E6⟩
              case measure => simp [intOf]; omega
            | false =>
              have hst : strip Fb.data.toList Rp.data.toList = none := by unfold strip; rw [hpx]; rfl
              have htr : Lib.trimPrefix Rp.data.toList Fb.data.toList = Rp.data.toList := by unfold Lib.trimPrefix; rw [hpx]; rfl
              rw [hst] at hE2
              rw [hpx, htr] at TK
              obtain ⟨R5, hR5⟩ : ∃ R5 : ByteArray, R5 = ⟨(Rp.data.toList).toArray⟩ := ⟨_, rfl⟩
              have R5L : Rp.data.toList = R5.data.toList := by rw [hR5]
              rw [← hR5] at TK
              have HE5 : Hid (q = (strip Fe.data.toList R5.data.toList).map fun z => (t :: us, z, bp)) := by show _ = _; rw [hE2, R5L]; simp
              clear hE2 hst htr hpx hR5 R5L HE HR HBD
              go_wp2_with fail
              refine TK.mono ?_
              rintro e w5 ⟨rfl, h5, k5⟩
              have HR5 : Hid (RR ws.heap.size w5 R5 bp cvp ((cs ++ flat t) ++ flatL us)) := h5
              have K5 : Hid (KR ws.heap.size W1 w5) := HK.out.trans k5
              clear h5 k5 TK HK r3 r5
              have r6 : w5.cell? ⟨w.heap.size, 6, none⟩ = some (.string Fe) := cell_of_row _ _ _ _ _ _ (RKP.out _ K5.out)
              go_wp2_with fail
              refine Calls.mono (need_any ws.heap.size w5 R5 Fe bp cvp _ HR5.out) ?_
              rintro e w8 (⟨L8, hL8, rfl, h8, k8⟩ | ⟨hL8, rfl, k8⟩)
              rotate_left
              · exact ⟨rfl, Or.inr ⟨by rw [HE5.out]; simp [hL8], rfl, (KW.out.trans K5.out).trans k8⟩⟩
              have H8 : Hid (RR ws.heap.size w8 ⟨L8.toArray⟩ bp cvp ((cs ++ flat t) ++ flatL us)) := h8
              have K8 : Hid (KR ws.heap.size w w8) := (KW.out.trans K5.out).trans k8
              have E8 : Hid (q = some (t :: us, (⟨L8.toArray⟩ : ByteArray).data.toList, bp)) := by show _ = _; rw [HE5.out]; simp [hL8]
              clear h8 k8 hL8 HR5 K5 HE5 r6
              go_wp2_with fail
              go_ret
              exact Or.inl ⟨t :: us, ⟨L8.toArray⟩, bp, cvp, E8.out, ret_int (by simp), by rw [flatL, ← List.append_assoc]; exact H8.out, K8.out⟩
          · obtain rfl : p = M + 1 := by omega
            have HE5 : Hid (q = (strip Fe.data.toList Rp.data.toList).map fun z => (t :: us, z, bp)) := by show _ = _; rw [HE.out, Nat.sub_self, rdL]; simp
            clear HE HBD
            have r6 : wr.cell? ⟨w.heap.size, 6, none⟩ = some (.string Fe) := cell_of_row _ _ _ _ _ _ (RKP.out _ HK.out)
            go_wp2_with fail
            refine Calls.mono (need_any ws.heap.size wr Rp Fe bp cvp _ HR.out) ?_
            rintro e w8 (⟨L8, hL8, rfl, h8, k8⟩ | ⟨hL8, rfl, k8⟩)
            rotate_left
            · exact ⟨rfl, Or.inr ⟨by rw [HE5.out]; simp [hL8], rfl, (KW.out.trans HK.out).trans k8⟩⟩
            have H8 : Hid (RR ws.heap.size w8 ⟨L8.toArray⟩ bp cvp ((cs ++ flat t) ++ flatL us)) := h8
            have K8 : Hid (KR ws.heap.size w w8) := (KW.out.trans HK.out).trans k8
            have E8 : Hid (q = some (t :: us, (⟨L8.toArray⟩ : ByteArray).data.toList, bp)) := by show _ = _; rw [HE5.out]; simp [hL8]
            clear h8 k8 hL8 HR HK HE5 r6
            go_wp2_with fail
            go_ret
            exact Or.inl ⟨t :: us, ⟨L8.toArray⟩, bp, cvp, E8.out, ret_int (by simp), by rw [flatL, ← List.append_assoc]; exact H8.out, K8.out⟩
    · have zl : (Fl == 0) = false := by simpa using hl0
      have HQ2 : Hid (q = (strip Fo.data.toList R.data.toList).bind fun r => (rdT f r b).bind fun x => (rdL (rdT f) Fb.data.toList M x.2.1 x.2.2).bind fun y => (strip Fe.data.toList y.2.1).map fun z => (x.1 :: y.1, z, y.2.2)) := by
        show _ = _; rw [HQ.out, if_neg (by simp [hl0]; omega), hMn]
      clear HQ
      obtain ⟨W1, hW1⟩ : ∃ W1, W1 = w.alloc (.cells #[.string Fw, .int .i64 Ft0, .int .i64 Fl, .int .i64 ((M : Int) + 1), .string Fo, .string Fb, .string Fe] 88) := ⟨_, rfl⟩
      have BW1 : Below w.heap.size w W1 := by rw [hW1]; exact (Below.refl _ _).alloc (Nat.le_refl _) _
      have HR1 : Hid (RR ws.heap.size W1 R b cv cs) := HH.out.below BW1
      have KW : Hid (KR ws.heap.size w W1) := KR.of_below BW1
      have RBW : W1.heap[w.heap.size]? = some (.cells #[.string Fw, .int .i64 Ft0, .int .i64 Fl, .int .i64 ((M : Int) + 1), .string Fo, .string Fb, .string Fe] 88) := by rw [hW1]; exact heap_alloc_new _ _
      have RKP : Hid (∀ w', KR ws.heap.size W1 w' → w'.heap[w.heap.size]? = some (.cells #[.string Fw, .int .i64 Ft0, .int .i64 Fl, .int .i64 ((M : Int) + 1), .string Fo, .string Fb, .string Fe] 88)) := fun w' kr => kr.keep RBW (by omega) (by decide)
      have BK : Hid (∀ w', KR ws.heap.size W1 w' → Below ws.heap.size ws w') := fun w' kr => (HB.out.trans (BW1.mono HB.out.size)).trans (kr.below HR1.out.lt)
      have HW1 : Hid (W1 = w.alloc (.cells #[.string Fw, .int .i64 Ft0, .int .i64 Fl, .int .i64 ((M : Int) + 1), .string Fo, .string Fb, .string Fe] 88)) := hW1
      have c0 : (w.alloc (.cells #[.string Fw, .int .i64 Ft0, .int .i64 Fl, .int .i64 ((M : Int) + 1), .string Fo, .string Fb, .string Fe] 88)).cell? ⟨ws.heap.size, 0, none⟩ = some (.string R) := by rw [← hW1]; exact HR1.out.c0
      clear hW1 BW1 RBW
      clear cA
      go_enter Tryd.func65, Tryd.ntmps65
      go_wp2
      go_quiet (fail)
      rw [← HW1.out]
      obtain ⟨W2, hW2⟩ : ∃ W2, W2 = W1.drewN nq := ⟨_, rfl⟩
      have KW2 : Hid (KR ws.heap.size W1 W2) := by show KR _ _ _; rw [hW2]; exact KR.of_below (below_drewN' (Below.refl _ _) nq)
      have HR2 : Hid (RR ws.heap.size W2 R b cv cs) := by show RR _ _ _ _ _ _; rw [hW2]; exact HR1.out.below (below_drewN' (Below.refl _ _) nq)
      rw [← hW2]
      have r4 : W2.cell? ⟨w.heap.size, 4, none⟩ = some (.string Fo) := cell_of_row _ _ _ _ _ _ (RKP.out _ KW2.out)
      clear hW2 HPx ALL
      go_wp2_with fail
      refine Calls.mono (need_any ws.heap.size W2 R Fo b cv cs HR2.out) ?_
      rintro e w3 (⟨L, hL, rfl, h3, k3⟩ | ⟨hL, rfl, k3⟩)
      rotate_left
      · exact ⟨rfl, Or.inr ⟨by rw [HQ2.out, hL]; rfl, rfl, (KW.out.trans KW2.out).trans k3⟩⟩
      have HR3 : Hid (RR ws.heap.size w3 ⟨L.toArray⟩ b cv cs) := h3
      have K3 : Hid (KR ws.heap.size W1 w3) := KW2.out.trans k3
      have LS : L.length ≤ 1000000 := by have := strip_le hL; omega
      obtain ⟨R3, hR3⟩ : ∃ R3 : ByteArray, R3 = ⟨L.toArray⟩ := ⟨_, rfl⟩
      have R3L : L = R3.data.toList := by rw [hR3]
      have R3S : R3.size ≤ 1000000 := by rw [hR3]; show L.toArray.size ≤ _; simpa using LS
      rw [← hR3] at HR3
      have HQ3 : Hid (q = (rdT f R3.data.toList b).bind fun x => (rdL (rdT f) Fb.data.toList M x.2.1 x.2.2).bind fun y => (strip Fe.data.toList y.2.1).map fun z => (x.1 :: y.1, z, y.2.2)) := by show _ = _; rw [HQ2.out, hL, R3L]; rfl
      clear h3 k3 hL hR3 R3L LS HQ2 HR2 KW2 r4 HR1
      go_wp2_with fail
      refine Calls.mono (hf w3 R3 b cv cs (BK.out _ K3.out) HR3.out R3S hcs hb hfb) ?_
      rintro e w4 (⟨t, R4, b4, cv4, hq4, rfl, h4, k4⟩ | ⟨hq4, rfl, k4⟩)
      rotate_left
      · exact ⟨rfl, Or.inr ⟨by rw [HQ3.out, hq4]; rfl, rfl, (KW.out.trans K3.out).trans k4⟩⟩
      have HR4 : Hid (RR ws.heap.size w4 R4 b4 cv4 ((cs ++ flat t) ++ flatL [])) := by show RR _ _ _ _ _ _; rw [flatL, List.append_nil]; exact h4
      have K4 : Hid (KR ws.heap.size W1 w4) := K3.out.trans k4
      have hbl := rdT_len f _ _ _ _ _ hq4
      have hle4 := rdT_le f _ _ _ _ _ hq4
      have HQ4 : Hid (q = (rdL (rdT f) Fb.data.toList M R4.data.toList b4).bind fun y => (strip Fe.data.toList y.2.1).map fun z => (t :: y.1, z, y.2.2)) := by show _ = _; rw [HQ3.out, hq4]; rfl
      have BD4 : Hid (((cs ++ flat t) ++ flatL []).length ≤ b4 ∧ b4 ≤ 1024 ∧ R4.size ≤ 1000000 ∧ b ≤ b4) := by
        have e1 : R4.data.toList.length = R4.size := by simp
        have e2 : R3.data.toList.length = R3.size := by simp
        show _ ∧ _
        simp only [flatL, List.append_nil, List.length_append]
        omega
      have E4 : Hid (q = ((rdL (rdT f) Fb.data.toList (M + 1 - 1) R4.data.toList b4).map fun y => ([] ++ y.1, y.2)).bind fun y => (strip Fe.data.toList y.2.1).map fun z => (t :: y.1, z, y.2.2)) := by
        show _ = _; rw [HQ4.out]; simp
      clear h4 k4 hq4 hbl hle4 HQ3 HQ4 HR3 K3 R3S
      go_wp2_with fail
      go_loopw [6] (fun v6 wl => ∃ (p : Nat) (us : List Ft) (Rp : ByteArray) (bp : Nat) (cvp : Value) (wk : World), 1 ≤ p ∧ p ≤ M + 1 ∧ p = us.length + 1 ∧ v6 = .int .i64 p ∧ wk = wl ∧ Hid (RR ws.heap.size wk Rp bp cvp ((cs ++ flat t) ++ flatL us)) ∧ Hid (KR ws.heap.size W1 wk) ∧ Hid (((cs ++ flat t) ++ flatL us).length ≤ bp ∧ bp ≤ 1024 ∧ Rp.size ≤ 1000000 ∧ b ≤ bp) ∧ Hid (q = ((rdL (rdT f) Fb.data.toList (M + 1 - p) Rp.data.toList bp).map fun y => (us ++ y.1, y.2)).bind fun y => (strip Fe.data.toList y.2.1).map fun z => (t :: y.1, z, y.2.2))) (fun v6 _ => M + 1 - (intOf v6).toNat)
      case atStart => exact ⟨1, [], R4, b4, cv4, _, by omega, by omega, rfl, rfl, rfl, HR4, K4, BD4, E4⟩
      case round =>
        obtain ⟨p, us, Rp, bp, cvp, wr, hp1, hp2, hpu, rfl, rfl, HR, HK, HBD, HE⟩ := hrel
        clear HR4 K4 BD4 E4
        have r3 : wr.cell? ⟨w.heap.size, 3, none⟩ = some (.int .i64 ((M : Int) + 1)) := cell_of_row _ _ _ _ _ _ (RKP.out _ HK.out)
        have r5 : wr.cell? ⟨w.heap.size, 5, none⟩ = some (.string Fb) := cell_of_row _ _ _ _ _ _ (RKP.out _ HK.out)
        by_cases hpm : p < M + 1
        · have hE2 := HE.out
          rw [show M + 1 - p = (M + 1 - (p + 1)) + 1 by omega, rdL] at hE2
          have TK := take_any ws.heap.size wr Rp Fb bp cvp _ HR.out
          cases hpx : Lib.hasPrefix Rp.data.toList Fb.data.toList with
          | true =>
            have hst : strip Fb.data.toList Rp.data.toList = some (Rp.data.toList.drop Fb.data.toList.length) := by unfold strip; rw [if_pos hpx]
            have htr : Lib.trimPrefix Rp.data.toList Fb.data.toList = Rp.data.toList.drop Fb.data.toList.length := by unfold Lib.trimPrefix; rw [if_pos hpx]
            rw [hst] at hE2
            rw [hpx, htr] at TK
            obtain ⟨R5, hR5⟩ : ∃ R5 : ByteArray, R5 = ⟨(Rp.data.toList.drop Fb.data.toList.length).toArray⟩ := ⟨_, rfl⟩
            have R5L : Rp.data.toList.drop Fb.data.toList.length = R5.data.toList := by rw [hR5]
            have R5S : R5.size ≤ 1000000 := by
              have h1 := HBD.out.2.2.1
              have e1 : Rp.data.toList.length = Rp.size := by simp
              rw [hR5]; show (Rp.data.toList.drop Fb.data.toList.length).toArray.size ≤ _
              rw [List.size_toArray, List.length_drop]; omega
            rw [R5L] at hE2
            rw [← hR5] at TK
            have HE5 : Hid (q = (((rdT f R5.data.toList bp).bind fun x => (rdL (rdT f) Fb.data.toList (M + 1 - (p + 1)) x.2.1 x.2.2).map fun y => (x.1 :: y.1, y.2)).map fun y => (us ++ y.1, y.2)).bind fun y => (strip Fe.data.toList y.2.1).map fun z => (t :: y.1, z, y.2.2)) := hE2
            clear hE2 hst htr hpx hR5 R5L HE HR
            go_wp2_with fail
            refine TK.mono ?_
            rintro e w5 ⟨rfl, h5, k5⟩
            have HR5 : Hid (RR ws.heap.size w5 R5 bp cvp ((cs ++ flat t) ++ flatL us)) := h5
            have K5 : Hid (KR ws.heap.size W1 w5) := HK.out.trans k5
            clear h5 k5 TK HK r3 r5
            go_wp2_with fail
            refine Calls.mono (hf w5 R5 bp cvp _ (BK.out _ K5.out) HR5.out R5S HBD.out.1 HBD.out.2.1 (by have := HBD.out.2.2.2; omega)) ?_
            rintro e w6 (⟨t6, R6, b6, cv6, hq6, rfl, h6, k6⟩ | ⟨hq6, rfl, k6⟩)
            rotate_left
            · exact ⟨rfl, Or.inr ⟨by rw [HE5.out, hq6]; rfl, rfl, (KW.out.trans K5.out).trans k6⟩⟩
            have hbl := rdT_len f _ _ _ _ _ hq6
            have hle6 := rdT_le f _ _ _ _ _ hq6
            have HR6 : Hid (RR ws.heap.size w6 R6 b6 cv6 ((cs ++ flat t) ++ flatL (us ++ [t6]))) := by show RR _ _ _ _ _ _; rw [flatL_app, flatL_one, ← List.append_assoc]; exact h6
            have K6 : Hid (KR ws.heap.size W1 w6) := K5.out.trans k6
            have BD6 : Hid (((cs ++ flat t) ++ flatL (us ++ [t6])).length ≤ b6 ∧ b6 ≤ 1024 ∧ R6.size ≤ 1000000 ∧ b ≤ b6) := by
              have e1 : R6.data.toList.length = R6.size := by simp
              have e2 : R5.data.toList.length = R5.size := by simp
              have h1 := HBD.out
              show _ ∧ _
              rw [flatL_app, flatL_one]
              simp only [List.length_append] at h1 ⊢
              omega
            have E6 : Hid (q = ((rdL (rdT f) Fb.data.toList (M + 1 - (p + 1)) R6.data.toList b6).map fun y => ((us ++ [t6]) ++ y.1, y.2)).bind fun y => (strip Fe.data.toList y.2.1).map fun z => (t :: y.1, z, y.2.2)) := by
              show _ = _; rw [HE5.out, hq6]
              simp [Option.map_map, Function.comp_def]
            have hpu6 : p + 1 = (us ++ [t6]).length + 1 := by simp; omega
            clear h6 k6 hq6 hbl hle6 HE5 HR5 K5 HBD
            go_wp2_with fail
            go_roundw
            case rel => exact ⟨p + 1, us ++ [t6], R6, b6, cv6, _, by omega, by omega, hpu6, by go_num, rfl, HR6, K6, BD6, E6⟩
            case measure => simp [intOf]; omega
          | false =>
            have hst : strip Fb.data.toList Rp.data.toList = none := by unfold strip; rw [hpx]; rfl
            have htr : Lib.trimPrefix Rp.data.toList Fb.data.toList = Rp.data.toList := by unfold Lib.trimPrefix; rw [hpx]; rfl
            rw [hst] at hE2
            rw [hpx, htr] at TK
            obtain ⟨R5, hR5⟩ : ∃ R5 : ByteArray, R5 = ⟨(Rp.data.toList).toArray⟩ := ⟨_, rfl⟩
            have R5L : Rp.data.toList = R5.data.toList := by rw [hR5]
            rw [← hR5] at TK
            have HE5 : Hid (q = (strip Fe.data.toList R5.data.toList).map fun z => (t :: us, z, bp)) := by show _ = _; rw [hE2, R5L]; simp
            clear hE2 hst htr hpx hR5 R5L HE HR HBD
            go_wp2_with fail
            refine TK.mono ?_
            rintro e w5 ⟨rfl, h5, k5⟩
            have HR5 : Hid (RR ws.heap.size w5 R5 bp cvp ((cs ++ flat t) ++ flatL us)) := h5
            have K5 : Hid (KR ws.heap.size W1 w5) := HK.out.trans k5
            clear h5 k5 TK HK r3 r5
            have r6 : w5.cell? ⟨w.heap.size, 6, none⟩ = some (.string Fe) := cell_of_row _ _ _ _ _ _ (RKP.out _ K5.out)
            go_wp2_with fail
            refine Calls.mono (need_any ws.heap.size w5 R5 Fe bp cvp _ HR5.out) ?_
            rintro e w8 (⟨L8, hL8, rfl, h8, k8⟩ | ⟨hL8, rfl, k8⟩)
            rotate_left
            · exact ⟨rfl, Or.inr ⟨by rw [HE5.out]; simp [hL8], rfl, (KW.out.trans K5.out).trans k8⟩⟩
            have H8 : Hid (RR ws.heap.size w8 ⟨L8.toArray⟩ bp cvp ((cs ++ flat t) ++ flatL us)) := h8
            have K8 : Hid (KR ws.heap.size w w8) := (KW.out.trans K5.out).trans k8
            have E8 : Hid (q = some (t :: us, (⟨L8.toArray⟩ : ByteArray).data.toList, bp)) := by show _ = _; rw [HE5.out]; simp [hL8]
            clear h8 k8 hL8 HR5 K5 HE5 r6
            go_wp2_with fail
            go_ret
            exact Or.inl ⟨t :: us, ⟨L8.toArray⟩, bp, cvp, E8.out, ret_int (by simp), by rw [flatL, ← List.append_assoc]; exact H8.out, K8.out⟩
        · obtain rfl : p = M + 1 := by omega
          have HE5 : Hid (q = (strip Fe.data.toList Rp.data.toList).map fun z => (t :: us, z, bp)) := by show _ = _; rw [HE.out, Nat.sub_self, rdL]; simp
          clear HE HBD
          have r6 : wr.cell? ⟨w.heap.size, 6, none⟩ = some (.string Fe) := cell_of_row _ _ _ _ _ _ (RKP.out _ HK.out)
          go_wp2_with fail
          refine Calls.mono (need_any ws.heap.size wr Rp Fe bp cvp _ HR.out) ?_
          rintro e w8 (⟨L8, hL8, rfl, h8, k8⟩ | ⟨hL8, rfl, k8⟩)
          rotate_left
          · exact ⟨rfl, Or.inr ⟨by rw [HE5.out]; simp [hL8], rfl, (KW.out.trans HK.out).trans k8⟩⟩
          have H8 : Hid (RR ws.heap.size w8 ⟨L8.toArray⟩ bp cvp ((cs ++ flat t) ++ flatL us)) := h8
          have K8 : Hid (KR ws.heap.size w w8) := (KW.out.trans HK.out).trans k8
          have E8 : Hid (q = some (t :: us, (⟨L8.toArray⟩ : ByteArray).data.toList, bp)) := by show _ = _; rw [HE5.out]; simp [hL8]
          clear h8 k8 hL8 HR HK HE5 r6
          go_wp2_with fail
          go_ret
          exact Or.inl ⟨t :: us, ⟨L8.toArray⟩, bp, cvp, E8.out, ret_int (by simp), by rw [flatL, ← List.append_assoc]; exact H8.out, K8.out⟩
end Go.Proofs.YtaleagkhblokgaaDoor
