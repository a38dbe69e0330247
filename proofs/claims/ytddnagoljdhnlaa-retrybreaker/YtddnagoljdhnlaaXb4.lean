/- Retry: breakers: heed, Tell. -/
import Derived.Test.YtddnagoljdhnlaaXb3
namespace Go.Proofs.Ytddnagoljdhnlaa
open Go.RowKit Go.Maps

theorem hd_f1 {k : Bk} (h : k.st = 1) : hdX k true = { k with row := 0 } := by simp [hdX, h]
theorem hd_f2 {k : Bk} (h : k.st ≠ 1) : hdX k true = k.turn 1 0 := by simp [hdX, h]
theorem hd_n1 {k : Bk} (h : k.st = 1) (hr : k.row + 1 < k.lim) : hdX k false = { k with row := k.row + 1 } := by simp [hdX, h, hr]
theorem hd_n2 {k : Bk} (h : ¬ (k.st = 1 ∧ k.row + 1 < k.lim)) : hdX k false = k.turn 2 (min (k.lst + k.rst) 1099511627776) := by simp only [hdX]; rw [if_neg (by decide), if_neg h]
set_option maxHeartbeats 8000000 in
theorem heed_any (w : World) (b m : Nat) (k : Bk) (C : Int) (h : BX w b m k) (hi : KI2 C k) (hC : C ≤ 1000000000000000000) (f : Bool) : Calls Try.prog 22 #[.pointer (some ⟨b, 0, none⟩), .bool f] w fun e w' => e = .returned (.tuple #[]) ∧ BX w' b m (hdX k f) ∧ Bq b m w w' := by
  have HK0 := hid (HK.of h (Bq.refl b m w))
  obtain ⟨c0, c1, c2, c3, c4, c5, c6, c7, c8⟩ := h.cells
  have fz := h.fz
  have hlm := hi.lim
  have hrw := hi.row
  have hls := hi.lst
  have hrs := hi.rst
  have TU := hid (fun s => turn_any w b m k h ⟨hi.trn.1, by have := hi.trn.2; omega⟩ s)
  have TD : Hid (∀ n, Calls Try.prog 19 #[.pointer (some ⟨b, 0, none⟩), .int .i64 2] (w.drewN n) fun e w' => e = .returned (.tuple #[]) ∧ BX w' b m (k.turn 2 0) ∧ Bq b m w w') := fun n => (turn_any (w.drewN n) b m k (h.far rfl rfl) ⟨hi.trn.1, by have := hi.trn.2; omega⟩ 2).mono (fun e w' ⟨q1, q2, q3⟩ => ⟨q1, q2, Bq.trans (Bq.of (drew_below _ _)) q3⟩)
  have BF : Hid (∀ w2, BX w2 b m (k.turn 2 0) → ((w2.cell? ⟨b, 6, none⟩ = some (.int .i64 k.lst) ∧ w2.cell? ⟨b, 1, none⟩ = some (.int .i64 k.rst)) ∧ (∃ u, w2.cell? ⟨b, 4, none⟩ = some u) ∧ ∀ o, w2.frozen? ⟨b, o, none⟩ = false)) := fun w2 q => ⟨⟨q.cells.2.2.2.2.2.2.1, q.cells.2.1⟩, ⟨_, q.cells.2.2.2.2.1⟩, q.fz⟩
  have FI : Hid (∀ w2 x, BX w2 b m (k.turn 2 0) → Bq b m w w2 → x = min (k.lst + k.rst) 1099511627776 → BX (w2.setCell ⟨b, 4, none⟩ (.int .i64 x)).drew b m (k.turn 2 (min (k.lst + k.rst) 1099511627776)) ∧ Bq b m w (w2.setCell ⟨b, 4, none⟩ (.int .i64 x)).drew) := fun w2 x q1 q2 hx => by
    subst hx
    exact ((HK.of q1 q2).set 4 _).drewO.bx _ rfl rfl
  cases f with
  | true =>
    by_cases hs : k.st = 1
    · have E := hid (hd_f1 hs)
      have KK : Hid (bkA { k with row := 0 } m = (bkA k m).setIfInBounds 3 (.int .i64 0)) := rfl
      have KW : Hid (({ k with row := 0 } : Bk).ways = k.ways) := rfl
      generalize ({ k with row := 0 } : Bk) = k2 at *
      rw [E.out]
      rw [hs] at c2
      clear h hi E
      go_enter Try.func22, Try.ntmps22
      go_wp2
      go_end0
      exact ⟨rfl, (HK0.out.set 3 _).bx k2 KK.out.symm KW.out⟩
    · have E := hid (hd_f2 hs)
      have b1 : (k.st == 1) = false := by simpa using hs
      rw [E.out]
      clear h hi E
      go_enter Try.func22, Try.ntmps22
      go_wp2_with (go_at_call 19; refine (TU.out _).mono ?_; rintro e w2 ⟨rfl, q1, q2⟩; have H2 : Hid (BX w2 b m (k.turn 1 0) ∧ Bq b m w w2) := ⟨q1, q2⟩; clear q1 q2)
      go_end0
      exact ⟨rfl, H2.out⟩
  | false =>
    by_cases hs : k.st = 1
    · by_cases hr : k.row + 1 < k.lim
      · have E := hid (hd_n1 hs hr)
        have KK : Hid (bkA { k with row := k.row + 1 } m = (bkA k m).setIfInBounds 3 (.int .i64 (k.row + 1))) := rfl
        have KW : Hid (({ k with row := k.row + 1 } : Bk).ways = k.ways) := rfl
        generalize ({ k with row := k.row + 1 } : Bk) = k2 at *
        rw [E.out]
        rw [hs] at c2
        clear h hi E
        go_enter Try.func22, Try.ntmps22
        go_wp2
        go_quiet (fail)
        go_wp2
        go_end0
        exact ⟨rfl, ((HK0.out.drew _).set 3 _).bx k2 KK.out.symm KW.out⟩
      · have E := hid (hd_n2 (k := k) (fun q => hr q.2))
        rw [E.out]
        rw [hs] at c2
        have hr2 : k.lim ≤ k.row + 1 := by omega
        clear h hi E
        by_cases hm : 1099511627776 < k.lst + k.rst
        · skip
          have hm2 : ¬ k.lst + k.rst ≤ 1099511627776 := by omega
          generalize k.turn 2 (min (k.lst + k.rst) 1099511627776) = kt at *
          go_enter Try.func22, Try.ntmps22
          go_wp2_with fail
          go_quiet (fail)
          go_wp2_with (go_at_call 19; refine (TD.out _).mono ?_; rintro e w2 ⟨rfl, q1, q2⟩; have H2 : Hid (BX w2 b m (k.turn 2 0) ∧ Bq b m w w2) := ⟨q1, q2⟩; obtain ⟨⟨y6, y1⟩, ⟨u, y4⟩, yf⟩ := BF.out _ q1; clear q1 q2)
          generalize hls2 : k.lst = ls at *
          generalize hrs2 : k.rst = rs at *
          clear hls2 hrs2
          go_region
          all_goals
            go_end0
            exact ⟨rfl, FI.out _ _ H2.out.1 H2.out.2 (by omega)⟩
        · skip
          have hm2 : k.lst + k.rst ≤ 1099511627776 := by omega
          generalize k.turn 2 (min (k.lst + k.rst) 1099511627776) = kt at *
          go_enter Try.func22, Try.ntmps22
          go_wp2_with fail
          go_quiet (fail)
          go_wp2_with (go_at_call 19; refine (TD.out _).mono ?_; rintro e w2 ⟨rfl, q1, q2⟩; have H2 : Hid (BX w2 b m (k.turn 2 0) ∧ Bq b m w w2) := ⟨q1, q2⟩; obtain ⟨⟨y6, y1⟩, ⟨u, y4⟩, yf⟩ := BF.out _ q1; clear q1 q2)
          generalize hls2 : k.lst = ls at *
          generalize hrs2 : k.rst = rs at *
          clear hls2 hrs2
          go_region
          all_goals
            go_end0
            exact ⟨rfl, FI.out _ _ H2.out.1 H2.out.2 (by omega)⟩
    · have E := hid (hd_n2 (k := k) (fun q => hs q.1))
      rw [E.out]
      have b1 : (k.st == 1) = false := by simpa using hs
      clear h hi E
      by_cases hm : 1099511627776 < k.lst + k.rst
      · skip
        have hm2 : ¬ k.lst + k.rst ≤ 1099511627776 := by omega
        generalize k.turn 2 (min (k.lst + k.rst) 1099511627776) = kt at *
        go_enter Try.func22, Try.ntmps22
        go_wp2_with fail
        go_quiet (fail)
        go_wp2_with (go_at_call 19; refine (TD.out _).mono ?_; rintro e w2 ⟨rfl, q1, q2⟩; have H2 : Hid (BX w2 b m (k.turn 2 0) ∧ Bq b m w w2) := ⟨q1, q2⟩; obtain ⟨⟨y6, y1⟩, ⟨u, y4⟩, yf⟩ := BF.out _ q1; clear q1 q2)
        generalize hls2 : k.lst = ls at *
        generalize hrs2 : k.rst = rs at *
        clear hls2 hrs2
        go_region
        all_goals
          go_end0
          exact ⟨rfl, FI.out _ _ H2.out.1 H2.out.2 (by omega)⟩
      · skip
        have hm2 : k.lst + k.rst ≤ 1099511627776 := by omega
        generalize k.turn 2 (min (k.lst + k.rst) 1099511627776) = kt at *
        go_enter Try.func22, Try.ntmps22
        go_wp2_with fail
        go_quiet (fail)
        go_wp2_with (go_at_call 19; refine (TD.out _).mono ?_; rintro e w2 ⟨rfl, q1, q2⟩; have H2 : Hid (BX w2 b m (k.turn 2 0) ∧ Bq b m w w2) := ⟨q1, q2⟩; obtain ⟨⟨y6, y1⟩, ⟨u, y4⟩, yf⟩ := BF.out _ q1; clear q1 q2)
        generalize hls2 : k.lst = ls at *
        generalize hrs2 : k.rst = rs at *
        clear hls2 hrs2
        go_region
        all_goals
          go_end0
          exact ⟨rfl, FI.out _ _ H2.out.1 H2.out.2 (by omega)⟩
theorem tel_no {k : Bk} {t : Int} (h : lkp k.ways t = none) (f : Bool) (a : Int) : telE k t a = 4 ∧ telX k t f a = k := by
  have e : telE k t a = 4 := by unfold telE; rw [if_pos h]
  exact ⟨e, by unfold telX; rw [e, if_pos (by decide)]⟩
theorem tel_t {k : Bk} {t : Int} (h : lkp k.ways t ≠ none) (f : Bool) {a : Int} (ht : tdE k a ≠ 0) : telE k t a = tdE k a ∧ telX k t f a = k := by
  have e : telE k t a = tdE k a := by unfold telE; rw [if_neg h]
  exact ⟨e, by unfold telX; rw [e, if_pos ht]⟩
theorem tel_ok {k : Bk} {t : Int} (h : lkp k.ways t ≠ none) (f : Bool) {a : Int} (ht : tdE k a = 0) : telE k t a = 0 ∧ telX k t f a = (if lkp k.ways t = some k.trn then hdX { k with lst := a, ways := rmv k.ways t } f else { k with lst := a, ways := rmv k.ways t }) := by
  have e : telE k t a = 0 := by unfold telE; rw [if_neg h, ht]
  exact ⟨e, by unfold telX; rw [e, if_neg (by simp)]⟩
theorem zeroInt (w : World) : (zeroValue 3).run Try.prog w = .ok (.int .i64 0) w := by kernel_rfl
set_option maxHeartbeats 8000000 in
set_option maxRecDepth 100000 in
theorem tell_any (w : World) (b m : Nat) (k : Bk) (C : Int) (h : BX w b m k) (hi : KI2 C k) (hC : C ≤ 1000000000000000000) (t : Int) (ht : (Lit.int .i64 t).wf = true) (f : Bool) (a : Int) : Calls Try.prog 10 #[.pointer (some ⟨b, 0, none⟩), .int .i64 t, .bool f, .int .i64 a] w fun e w' => e = .returned (.int .i64 (telE k t a)) ∧ BX w' b m (telX k t f a) ∧ Bq b m w w' := by
  have CT := hid (checkTime_any w b m k h a)
  have R0 : Hid (BX w b m k ∧ Bq b m w w) := ⟨h, Bq.refl _ _ _⟩
  have HK0 := hid (HK.of h (Bq.refl b m w))
  obtain ⟨c0, c1, c2, c3, c4, c5, c6, c7, c8⟩ := h.cells
  have fz := h.fz
  have LK := h.mp.look Try.underlying54 (zeroInt w) ht
  cases hl : lkp k.ways t with
  | none =>
    have E := hid (tel_no hl f a)
    rw [hl] at LK
    simp only [Option.getD_none, Option.isSome_none] at LK
    generalize telE k t a = er at *
    generalize telX k t f a = xr at *
    clear h hi hl
    go_enter Try.func10, Try.ntmps10
    go_wp2_with fail
    go_ret
    exact ⟨ret_int E.out.1.symm, by rw [E.out.2]; exact R0.out⟩
  | some o =>
    have hne : lkp k.ways t ≠ none := by rw [hl]; simp
    rw [hl] at LK
    simp only [Option.getD_some, Option.isSome_some] at LK
    by_cases hT : tdE k a = 0
    · have E := hid (tel_ok hne f hT)
      rw [hT] at CT
      have I1 := hid (rmv_ki (lst_ki hi (tdE_ok hT).1) t)
      have P6 := hid (HK0.out.set 6 (.int .i64 a))
      obtain ⟨w7, hr7, q7, t7⟩ := P6.out.mp.drop Try.underlying54 ht hl hi.dk 0
      have F7 := hid (P6.out.puts q7 t7)
      have X7 : Hid (BX w7 b m { k with lst := a, ways := rmv k.ways t } ∧ Bq b m w w7) := F7.out.bx _ rfl rfl
      have d5 : w7.cell? ⟨b, 5, none⟩ = some (.int .i64 k.trn) := cell_of_row _ _ _ _ _ _ F7.out.hp
      have HD : Hid (Calls Try.prog 22 #[.pointer (some ⟨b, 0, none⟩), .bool f] w7 fun e w' => e = .returned (.tuple #[]) ∧ BX w' b m (hdX { k with lst := a, ways := rmv k.ways t } f) ∧ Bq b m w w') := (heed_any w7 b m _ C X7.out.1 I1.out hC f).mono (fun e w' ⟨q1, q2, q3⟩ => ⟨q1, q2, X7.out.2.trans q3⟩)
      have hlo : lkp k.ways t = some o := hl
      clear q7 t7 F7 P6 I1
      generalize ({ k with lst := a, ways := rmv k.ways t } : Bk) = k1 at *
      by_cases ho : o = k.trn
      · have E2 : Hid (telX k t f a = hdX k1 f) := by rw [E.out.2, if_pos (by rw [hlo, ho])]; exact rfl
        have E1 := hid E.out.1
        clear E
        generalize telE k t a = er at *
        generalize telX k t f a = xr at *
        generalize hdX k1 f = k2 at *
        rw [ho] at LK
        generalize k.trn = tr at *
        clear h hi hl hlo hne ho
        go_enter Try.func10, Try.ntmps10
        go_wp2_with (first | (go_at_call 17; refine CT.out.mono ?_; rintro e w1 ⟨rfl, hw⟩; rw [hw]; clear hw) | (go_at_call 22; refine HD.out.mono ?_; rintro e w8 ⟨rfl, q1, q2⟩; have H8 : Hid (BX w8 b m k2 ∧ Bq b m w w8) := ⟨q1, q2⟩; clear q1 q2))
        go_ret
        exact ⟨ret_int E1.out.symm, by rw [E2.out]; exact H8.out⟩
      · have E2 : Hid (telX k t f a = k1) := by rw [E.out.2, if_neg (by rw [hlo]; intro q; injection q with q; exact ho q)]; exact rfl
        have E1 := hid E.out.1
        have b1 : (o == k.trn) = false := by simpa using ho
        clear E
        generalize telE k t a = er at *
        generalize telX k t f a = xr at *
        generalize k.trn = tr at *
        clear h hi hl hlo hne
        go_enter Try.func10, Try.ntmps10
        go_wp2_with (first | (go_at_call 17; refine CT.out.mono ?_; rintro e w1 ⟨rfl, hw⟩; rw [hw]; clear hw))
        go_ret
        exact ⟨ret_int E1.out.symm, by rw [E2.out]; exact X7.out⟩
    · have E := hid (tel_t hne f hT)
      have hE2 : (tdE k a == 0) = false := by simpa using hT
      have hE3 : (tdE k a != 0) = true := by simpa using hT
      generalize telE k t a = er at *
      generalize telX k t f a = xr at *
      generalize tdE k a = y at *
      clear h hi hl
      go_enter Try.func10, Try.ntmps10
      go_wp2_with (first | (go_at_call 17; refine CT.out.mono ?_; rintro e w1 ⟨rfl, hw⟩; rw [hw]; clear hw))
      go_ret
      exact ⟨ret_int E.out.1.symm, by rw [E.out.2]; exact R0.out⟩
end Go.Proofs.Ytddnagoljdhnlaa
