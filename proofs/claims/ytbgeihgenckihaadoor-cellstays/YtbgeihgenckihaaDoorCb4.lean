/- Cells: Reset, Close, New. -/
import Derived.Test.YtbgeihgenckihaaDoorCb3
namespace Go.Proofs.YtbgeihgenckihaaDoor
open Go.RowKit

/-- What renew does: of a cell that is idle, ready or failed. -/
def renE (c : Ce) : Int := if c.again = true then 0 else 7
def renX (c : Ce) (n : Int) : Ce := if c.again = true then resC c n else c
set_option maxHeartbeats 4000000 in
theorem renew_any (w : World) (b : Nat) (c : Ce) (vv fv : Value) (h : CX w b c vv fv) (n : Int) : Calls Tryd.prog 46 #[.pointer (some ⟨b, 0, none⟩), .int .i64 n] w fun e w' => e = .returned (.int .i64 (renE c)) ∧ Cdo w b (renX c n) w' := by
  have HE : Hid (renE c = if c.again = true then 0 else 7) := rfl
  have HX : Hid (renX c n = if c.again = true then resC c n else c) := rfl
  have SM : Hid (Cdo w b c w) := Cdo.same h (Below.refl _ _)
  have RF := fun w' => refuse_any (.pointer (some ⟨b, 0, none⟩)) w'
  obtain ⟨c0, c1, c2, c3, c4, c5, c6, c7, c8, c9, c10, c11, c12⟩ := h.cells
  have fz := h.fz
  have H1 : Hid (HB w b (ceA c vv fv) w) := HB.of h (Below.refl _ _)
  generalize renE c = er at *
  generalize renX c n = xr at *
  clear h
  cases ha : c.again with
  | false =>
    rw [ha] at c0 HE HX
    go_enter Tryd.func46, Tryd.ntmps46
    go_wp2_with (go_at_call 50; refine (RF _).mono ?_; rintro e w' ⟨rfl, rfl⟩)
    go_ret
    exact ⟨ret_int (by rw [HE.out]; rfl), by rw [HX.out]; exact SM.out⟩
  | true =>
    rw [ha] at c0 HE HX
    go_enter Tryd.func46, Tryd.ntmps46
    go_wp2_with fail
    go_ret
    exact ⟨ret_int (by rw [HE.out]; rfl), by rw [HX.out, if_pos (by simp)]; exact HB.none (HB.set (HB.set (HB.set (HB.set (HB.set (HB.set (HB.set H1.out 5 _) 6 _) 10 _) 11 _) 12 _) 8 _) 9 _) _ rfl rfl⟩
set_option maxHeartbeats 4000000 in
theorem shut_any (w : World) (b : Nat) (c : Ce) (vv fv : Value) (h : CX w b c vv fv) : Calls Tryd.prog 47 #[.pointer (some ⟨b, 0, none⟩)] w fun e w' => e = .returned (.int .i64 0) ∧ Cdo w b (cloC c) w' := by
  obtain ⟨c0, c1, c2, c3, c4, c5, c6, c7, c8, c9, c10, c11, c12⟩ := h.cells
  have fz := h.fz
  have H0 := hid h
  have H1 : Hid (HB w b (ceA c vv fv) w) := HB.of h (Below.refl _ _)
  clear h
  go_enter Tryd.func47, Tryd.ntmps47
  go_wp2_with fail
  go_ret
  exact ⟨rfl, HB.keep (HB.set (HB.set H1.out 5 _) 6 _) H0.out _ rfl rfl⟩
theorem Cdo.pre {w w1 w' : World} {b : Nat} {c : Ce} (h : Cdo w1 b c w') (k : Below w.heap.size w w1) : Cdo w b c w' := by
  obtain ⟨vv, fv, h1, h2⟩ := h
  exact ⟨vv, fv, h1, (Bu.of k).trans h2⟩
def resX (c : Ce) (n : Int) : Ce := if resE c n = 0 then resC c n else c
def cloX (c : Ce) : Ce := if cloE c = 0 then cloC c else c
set_option maxHeartbeats 8000000 in
set_option maxRecDepth 100000 in
theorem reset_any (w : World) (b : Nat) (c : Ce) (vv fv : Value) (h : CX w b c vv fv) (hi : CI c) (n : Int) : Calls Tryd.prog 12 #[.pointer (some ⟨b, 0, none⟩), .int .i64 n] w fun e w' => e = .returned (.int .i64 (resE c n)) ∧ Cdo w b (resX c n) w' := by
  have HE : Hid (resE c n = if nowB c n = false then 1 else if c.st = 2 ∨ c.st = 5 ∨ c.again = false then 7 else 0) := rfl
  have HX : Hid (resX c n = if resE c n = 0 then resC c n else c) := rfl
  have RE : Hid (renE c = if c.again = true then 0 else 7) := rfl
  have RX : Hid (renX c n = if c.again = true then resC c n else c) := rfl
  have IN := hid (isNow_any w b c vv fv h n)
  have SM : Hid (∀ w', Below w.heap.size w w' → Cdo w b c w') := fun w' k => Cdo.same h k
  have BR : Hid (Below w.heap.size w w) := Below.refl _ _
  have RW := hid (row_any w b c vv fv h hi.st)
  have RN : Hid (∀ w1, Below w.heap.size w w1 → Calls Tryd.prog 46 #[.pointer (some ⟨b, 0, none⟩), .int .i64 n] w1 fun e w' => e = .returned (.int .i64 (renE c)) ∧ Cdo w b (renX c n) w') := fun w1 hb => (renew_any w1 b c vv fv (h.below hb) n).mono (fun e w' q => ⟨q.1, q.2.pre hb⟩)
  have RF := fun w' => refuseAt_any (.pointer (some ⟨b, 0, none⟩)) (.int .i64 n) w'
  have hst := hi.st
  have f1 := fldR1
  generalize resE c n = er at *
  generalize resX c n = xr at *
  generalize renE c = re at *
  generalize renX c n = rx at *
  clear h hi
  cases hn : nowB c n with
  | false =>
    rw [hn] at IN HE
    rw [if_pos rfl] at HE
    clear RE RX
    go_enter Tryd.func12, Tryd.ntmps12
    go_wp2_with (go_at_call 27; refine IN.out.mono ?_; rintro e w' ⟨rfl, rfl⟩)
    go_ret
    exact ⟨ret_int HE.out.symm, by rw [HX.out, HE.out]; exact SM.out _ BR.out⟩
  | true =>
    rw [hn] at IN HE
    rw [if_neg (by simp)] at HE
    clear hn
    generalize c.again = ag at *
    generalize c.st = st at *
    have e : st = 1 ∨ st = 2 ∨ st = 3 ∨ st = 4 ∨ st = 5 := by omega
    clear hst
    rcases e with rfl | rfl | rfl | rfl | rfl
    · have RW2 : Hid (Calls Tryd.prog 28 #[.pointer (some ⟨b, 0, none⟩)] w fun e w' => e = .returned (.agg #[.func (.func 45) #[.pointer (some ⟨b, 0, none⟩)] #[], .func (.func 46) #[.pointer (some ⟨b, 0, none⟩)] #[], .func (.func 47) #[.pointer (some ⟨b, 0, none⟩)] #[]]) ∧ Below w.heap.size w w') := RW.out
      clear RW
      go_enter Tryd.func12, Tryd.ntmps12
      go_wp2_with (first | (go_at_call 27; refine IN.out.mono ?_; rintro e w' ⟨rfl, rfl⟩) | (go_at_call 28; refine RW2.out.mono ?_; rintro e w1 ⟨rfl, hb⟩; have B1 := hid hb; clear hb) | (go_at_call 46; refine (RN.out _ B1.out).mono ?_; rintro e w2 ⟨rfl, hq⟩; have Q2 := hid hq; clear hq))
      go_ret
      exact ⟨ret_int (by rw [HE.out, RE.out]; cases ag <;> simp), by rw [HX.out, HE.out]; have q := Q2.out; rw [RX.out] at q; cases ag <;> simpa using q⟩
    · have RW2 : Hid (Calls Tryd.prog 28 #[.pointer (some ⟨b, 0, none⟩)] w fun e w' => e = .returned (.agg #[.func (.func 48) #[.pointer (some ⟨b, 0, none⟩)] #[], .func (.func 49) #[.pointer (some ⟨b, 0, none⟩)] #[], .func (.func 50) #[.pointer (some ⟨b, 0, none⟩)] #[]]) ∧ Below w.heap.size w w') := RW.out
      clear RW
      go_enter Tryd.func12, Tryd.ntmps12
      go_wp2_with (first | (go_at_call 27; refine IN.out.mono ?_; rintro e w' ⟨rfl, rfl⟩) | (go_at_call 28; refine RW2.out.mono ?_; rintro e w1 ⟨rfl, hb⟩; have B1 := hid hb; clear hb) | (go_at_call 49; refine (RF _).mono ?_; rintro e w' ⟨rfl, rfl⟩))
      go_ret
      exact ⟨ret_int (by rw [HE.out]; simp), by rw [HX.out, HE.out]; exact SM.out _ B1.out⟩
    · have RW2 : Hid (Calls Tryd.prog 28 #[.pointer (some ⟨b, 0, none⟩)] w fun e w' => e = .returned (.agg #[.func (.func 51) #[.pointer (some ⟨b, 0, none⟩)] #[], .func (.func 46) #[.pointer (some ⟨b, 0, none⟩)] #[], .func (.func 47) #[.pointer (some ⟨b, 0, none⟩)] #[]]) ∧ Below w.heap.size w w') := RW.out
      clear RW
      go_enter Tryd.func12, Tryd.ntmps12
      go_wp2_with (first | (go_at_call 27; refine IN.out.mono ?_; rintro e w' ⟨rfl, rfl⟩) | (go_at_call 28; refine RW2.out.mono ?_; rintro e w1 ⟨rfl, hb⟩; have B1 := hid hb; clear hb) | (go_at_call 46; refine (RN.out _ B1.out).mono ?_; rintro e w2 ⟨rfl, hq⟩; have Q2 := hid hq; clear hq))
      go_ret
      exact ⟨ret_int (by rw [HE.out, RE.out]; cases ag <;> simp), by rw [HX.out, HE.out]; have q := Q2.out; rw [RX.out] at q; cases ag <;> simpa using q⟩
    · have RW2 : Hid (Calls Tryd.prog 28 #[.pointer (some ⟨b, 0, none⟩)] w fun e w' => e = .returned (.agg #[.func (.func 52) #[.pointer (some ⟨b, 0, none⟩)] #[], .func (.func 46) #[.pointer (some ⟨b, 0, none⟩)] #[], .func (.func 47) #[.pointer (some ⟨b, 0, none⟩)] #[]]) ∧ Below w.heap.size w w') := RW.out
      clear RW
      go_enter Tryd.func12, Tryd.ntmps12
      go_wp2_with (first | (go_at_call 27; refine IN.out.mono ?_; rintro e w' ⟨rfl, rfl⟩) | (go_at_call 28; refine RW2.out.mono ?_; rintro e w1 ⟨rfl, hb⟩; have B1 := hid hb; clear hb) | (go_at_call 46; refine (RN.out _ B1.out).mono ?_; rintro e w2 ⟨rfl, hq⟩; have Q2 := hid hq; clear hq))
      go_ret
      exact ⟨ret_int (by rw [HE.out, RE.out]; cases ag <;> simp), by rw [HX.out, HE.out]; have q := Q2.out; rw [RX.out] at q; cases ag <;> simpa using q⟩
    · have RW2 : Hid (Calls Tryd.prog 28 #[.pointer (some ⟨b, 0, none⟩)] w fun e w' => e = .returned (.agg #[.func (.func 53) #[.pointer (some ⟨b, 0, none⟩)] #[], .func (.func 49) #[.pointer (some ⟨b, 0, none⟩)] #[], .func (.func 50) #[.pointer (some ⟨b, 0, none⟩)] #[]]) ∧ Below w.heap.size w w') := RW.out
      clear RW
      go_enter Tryd.func12, Tryd.ntmps12
      go_wp2_with (first | (go_at_call 27; refine IN.out.mono ?_; rintro e w' ⟨rfl, rfl⟩) | (go_at_call 28; refine RW2.out.mono ?_; rintro e w1 ⟨rfl, hb⟩; have B1 := hid hb; clear hb) | (go_at_call 49; refine (RF _).mono ?_; rintro e w' ⟨rfl, rfl⟩))
      go_ret
      exact ⟨ret_int (by rw [HE.out]; simp), by rw [HX.out, HE.out]; exact SM.out _ B1.out⟩
set_option maxHeartbeats 8000000 in
set_option maxRecDepth 100000 in
theorem close_any (w : World) (b : Nat) (c : Ce) (vv fv : Value) (h : CX w b c vv fv) (hi : CI c) : Calls Tryd.prog 18 #[.pointer (some ⟨b, 0, none⟩)] w fun e w' => e = .returned (.int .i64 (cloE c)) ∧ Cdo w b (cloX c) w' := by
  have HE : Hid (cloE c = if c.st = 2 ∨ c.st = 5 then 7 else 0) := rfl
  have HX : Hid (cloX c = if cloE c = 0 then cloC c else c) := rfl
  have SM : Hid (∀ w', Below w.heap.size w w' → Cdo w b c w') := fun w' k => Cdo.same h k
  have RW := hid (row_any w b c vv fv h hi.st)
  have SH : Hid (∀ w1, Below w.heap.size w w1 → Calls Tryd.prog 47 #[.pointer (some ⟨b, 0, none⟩)] w1 fun e w' => e = .returned (.int .i64 0) ∧ Cdo w b (cloC c) w') := fun w1 hb => (shut_any w1 b c vv fv (h.below hb)).mono (fun e w' q => ⟨q.1, q.2.pre hb⟩)
  have RF := fun w' => refuse_any (.pointer (some ⟨b, 0, none⟩)) w'
  have hst := hi.st
  have f2 := fldR2
  generalize cloE c = er at *
  generalize cloX c = xr at *
  clear h hi
  generalize c.st = st at *
  have e : st = 1 ∨ st = 2 ∨ st = 3 ∨ st = 4 ∨ st = 5 := by omega
  clear hst
  rcases e with rfl | rfl | rfl | rfl | rfl
  · have RW2 : Hid (Calls Tryd.prog 28 #[.pointer (some ⟨b, 0, none⟩)] w fun e w' => e = .returned (.agg #[.func (.func 45) #[.pointer (some ⟨b, 0, none⟩)] #[], .func (.func 46) #[.pointer (some ⟨b, 0, none⟩)] #[], .func (.func 47) #[.pointer (some ⟨b, 0, none⟩)] #[]]) ∧ Below w.heap.size w w') := RW.out
    clear RW
    go_enter Tryd.func18, Tryd.ntmps18
    go_wp2_with (first | (go_at_call 28; refine RW2.out.mono ?_; rintro e w1 ⟨rfl, hb⟩; have B1 := hid hb; clear hb) | (go_at_call 47; refine (SH.out _ B1.out).mono ?_; rintro e w2 ⟨rfl, hq⟩; have Q2 := hid hq; clear hq))
    go_ret
    exact ⟨ret_int (by rw [HE.out]; simp), by rw [HX.out, HE.out]; simpa using Q2.out⟩
  · have RW2 : Hid (Calls Tryd.prog 28 #[.pointer (some ⟨b, 0, none⟩)] w fun e w' => e = .returned (.agg #[.func (.func 48) #[.pointer (some ⟨b, 0, none⟩)] #[], .func (.func 49) #[.pointer (some ⟨b, 0, none⟩)] #[], .func (.func 50) #[.pointer (some ⟨b, 0, none⟩)] #[]]) ∧ Below w.heap.size w w') := RW.out
    clear RW
    go_enter Tryd.func18, Tryd.ntmps18
    go_wp2_with (first | (go_at_call 28; refine RW2.out.mono ?_; rintro e w1 ⟨rfl, hb⟩; have B1 := hid hb; clear hb) | (go_at_call 50; refine (RF _).mono ?_; rintro e w' ⟨rfl, rfl⟩))
    go_ret
    exact ⟨ret_int (by rw [HE.out]; simp), by rw [HX.out, HE.out]; exact SM.out _ B1.out⟩
  · have RW2 : Hid (Calls Tryd.prog 28 #[.pointer (some ⟨b, 0, none⟩)] w fun e w' => e = .returned (.agg #[.func (.func 51) #[.pointer (some ⟨b, 0, none⟩)] #[], .func (.func 46) #[.pointer (some ⟨b, 0, none⟩)] #[], .func (.func 47) #[.pointer (some ⟨b, 0, none⟩)] #[]]) ∧ Below w.heap.size w w') := RW.out
    clear RW
    go_enter Tryd.func18, Tryd.ntmps18
    go_wp2_with (first | (go_at_call 28; refine RW2.out.mono ?_; rintro e w1 ⟨rfl, hb⟩; have B1 := hid hb; clear hb) | (go_at_call 47; refine (SH.out _ B1.out).mono ?_; rintro e w2 ⟨rfl, hq⟩; have Q2 := hid hq; clear hq))
    go_ret
    exact ⟨ret_int (by rw [HE.out]; simp), by rw [HX.out, HE.out]; simpa using Q2.out⟩
  · have RW2 : Hid (Calls Tryd.prog 28 #[.pointer (some ⟨b, 0, none⟩)] w fun e w' => e = .returned (.agg #[.func (.func 52) #[.pointer (some ⟨b, 0, none⟩)] #[], .func (.func 46) #[.pointer (some ⟨b, 0, none⟩)] #[], .func (.func 47) #[.pointer (some ⟨b, 0, none⟩)] #[]]) ∧ Below w.heap.size w w') := RW.out
    clear RW
    go_enter Tryd.func18, Tryd.ntmps18
    go_wp2_with (first | (go_at_call 28; refine RW2.out.mono ?_; rintro e w1 ⟨rfl, hb⟩; have B1 := hid hb; clear hb) | (go_at_call 47; refine (SH.out _ B1.out).mono ?_; rintro e w2 ⟨rfl, hq⟩; have Q2 := hid hq; clear hq))
    go_ret
    exact ⟨ret_int (by rw [HE.out]; simp), by rw [HX.out, HE.out]; simpa using Q2.out⟩
  · have RW2 : Hid (Calls Tryd.prog 28 #[.pointer (some ⟨b, 0, none⟩)] w fun e w' => e = .returned (.agg #[.func (.func 53) #[.pointer (some ⟨b, 0, none⟩)] #[], .func (.func 49) #[.pointer (some ⟨b, 0, none⟩)] #[], .func (.func 50) #[.pointer (some ⟨b, 0, none⟩)] #[]]) ∧ Below w.heap.size w w') := RW.out
    clear RW
    go_enter Tryd.func18, Tryd.ntmps18
    go_wp2_with (first | (go_at_call 28; refine RW2.out.mono ?_; rintro e w1 ⟨rfl, hb⟩; have B1 := hid hb; clear hb) | (go_at_call 50; refine (RF _).mono ?_; rintro e w' ⟨rfl, rfl⟩))
    go_ret
    exact ⟨ret_int (by rw [HE.out]; simp), by rw [HX.out, HE.out]; exact SM.out _ B1.out⟩
end Go.Proofs.YtbgeihgenckihaaDoor
