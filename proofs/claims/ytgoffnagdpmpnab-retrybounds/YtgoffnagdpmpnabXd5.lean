/- Retry: the law RetryBounds. -/
import Derived.Test.YtgoffnagdpmpnabXc1
import Derived.Test.YtgoffnagdpmpnabXc2
import Derived.Test.YtgoffnagdpmpnabXo1
namespace Go.Proofs.Ytgoffnagdpmpnab
open Go.RowKit Go.Maps

/-- A budget behind a law's calls. -/
structure DL (w0 : World) (b : Nat) (m : Int) (d : Bd) (wk : World) : Prop where
  dx : DX wk b d
  di : DI d
  mo : d.mo = m
  bel : Below w0.heap.size w0 wk
  ge : w0.heap.size ≤ b
theorem DL.drew {w0 wk : World} {b : Nat} {m : Int} {d : Bd} (h : DL w0 b m d wk) (n : Nat) : DL w0 b m d (wk.drewN n) := ⟨h.dx.far rfl, h.di, h.mo, bl3 h.bel (drew_below _ _), h.ge⟩
theorem DL.tell {w0 wk w2 : World} {b : Nat} {m : Int} {d : Bd} {f : Bool} (h : DL w0 b m d wk) (k : DX w2 b (tlD d f)) (q : Below w0.heap.size wk w2) : DL w0 b m (tlD d f) w2 := ⟨k, tl_di h.di f, h.mo, h.bel.trans q, h.ge⟩
theorem lvT_bd {d : Bd} (h : DI d) (f : Bool) : (0 ≤ lvT d f ∧ lvT d f ≤ d.mo) ∧ (f = true → d.lv ≤ lvT d f) ∧ (f = false → lvT d f ≤ d.lv) := by
  have h1 := h.mo
  have h2 := h.co
  have h3 := h.ga
  have h4 := h.lv
  unfold lvT
  cases f
  · simp; omega
  · simp; omega
set_option maxHeartbeats 8000000 in
theorem retryBounds_any (m c g : Int) (v : Value) (l : List Bool) (w : World) (hl : GS KB2 w v l) (hn : l.length ≤ 140737488355328) : Calls Try.prog 3 #[.int .i64 m, .int .i64 c, .int .i64 g, v] w fun e w' => e = .returned (.bool true) ∧ Below w.heap.size w w' := by
  have WK := hid works_any
  cases hB : bdB m c g with
  | false =>
    have NB := hid (fun w' => newBudget_no m c g w' hB)
    clear hB
    go_enter Try.func3, Try.ntmps3
    go_wp2_with (first | (go_at_call 4; refine (WK.out _).mono ?_; rintro e w1 ⟨rfl, hb⟩; have B1 := hid hb; clear hb) | (go_at_call 5; refine (NB.out _).mono ?_; rintro e w2 ⟨rfl, hw⟩; rw [hw]; clear hw))
    go_ret
    exact ⟨rfl, B1.out⟩
  | true =>
    have NB := hid (fun w' => newBudget_ok m c g w' hB)
    have D0 := hid (bd_di hB)
    obtain ⟨p, cp, rfl⟩ := hl.form
    have AT := hid (fun w' (hb : Below w.heap.size w w') k (hk : k < l.length) => GS.atB (hl.below hb) hk)
    have LV := hid (fun w' b d (h : DX w' b d) => dlevel_any w' b d h)
    have TL := hid (fun w' b base d (h : DX w' b d) hi hb f => dtell_any w' b base d h hi hb f)
    have AK := hid (fun w' b d (h : DX w' b d) hi => dask_any w' b d h hi)
    obtain ⟨n, hnl⟩ : ∃ n, n = l.length := ⟨_, rfl⟩
    rw [← hnl] at hn
    rw [← hnl]
    have NL : Hid (l.length = n) := hnl.symm
    clear hB hl hnl
    go_enter Try.func3, Try.ntmps3
    go_wp2_with (first | (go_at_call 4; refine (WK.out _).mono ?_; rintro e w1 ⟨rfl, hb⟩; have B1 := hid hb; clear hb) | (go_at_call 5; refine (NB.out _).mono ?_; rintro e w2 ⟨rfl, hx, hb⟩; have L2 : Hid (DL w1 w1.heap.size m ⟨m, c, g, m⟩ w2) := ⟨hx, D0.out, rfl, hb, Nat.le_refl _⟩; clear hx hb) | (go_at_call 6; refine (LV.out _ _ _ L2.out.dx).mono ?_; rintro e w3 ⟨rfl, hw⟩; rw [hw]; clear hw))
    clear D0 NB WK
    go_loopw [42] (fun v42 wr => ∃ (k : Nat) (d : Bd) (wk : World), v42 = .int .i64 k ∧ wk = wr ∧ k ≤ n ∧ Hid (DL w1 w1.heap.size m d wk)) (fun v42 _ => n - (intOf v42).toNat)
    case atStart => exact ⟨0, _, _, rfl, rfl, Nat.zero_le _, L2⟩
    case round =>
      obtain ⟨k, d, wr, rfl, rfl, hk, HD⟩ := hrel
      by_cases hlt : k < n
      · have hk2 : k < l.length := by have := NL.out; omega
        obtain ⟨X, o, hp, hc⟩ := AT.out wr (bl3 B1.out HD.out.bel) k hk2
        subst hp
        have LB := hid (lvT_bd HD.out.di l[k])
        have LE : Hid ((tlD d l[k]).lv = lvT d l[k] ∧ (tlD d l[k]).mo = m) := ⟨rfl, HD.out.mo⟩
        have T1 : Hid (Calls Try.prog 7 #[.pointer (some ⟨w1.heap.size, 0, none⟩), .bool l[k]] wr fun e w' => e = .returned (.tuple #[]) ∧ DL w1 w1.heap.size m (tlD d l[k]) w') := (TL.out wr _ w1.heap.size d HD.out.dx HD.out.di HD.out.ge l[k]).mono (fun e w' q => ⟨q.1, HD.out.tell q.2.1 q.2.2⟩)
        have L1 := hid (LV.out wr _ d HD.out.dx)
        have dm := HD.out.mo
        have d1 := HD.out.di.mo
        have d2 := HD.out.di.lv
        generalize tlD d l[k] = dd at *
        generalize lvT d l[k] = nw at *
        have V2 : Hid (∀ w', DL w1 w1.heap.size m dd w' → Calls Try.prog 6 #[.pointer (some ⟨w1.heap.size, 0, none⟩)] w' fun e w'' => e = .returned (.int .i64 nw) ∧ w'' = w') := fun w' q => by
          rw [← LE.out.1]; exact LV.out w' _ dd q.dx
        have A2 : Hid (∀ w', DL w1 w1.heap.size m dd w' → Calls Try.prog 8 #[.pointer (some ⟨w1.heap.size, 0, none⟩)] w' fun e w'' => e = .returned (.bool (decide (m < 2 * nw))) ∧ ∃ n, w'' = w'.drewN n) := fun w' q => by
          rw [← LE.out.1]; rw [← LE.out.2]; exact AK.out w' _ dd q.dx q.di
        obtain ⟨⟨b1, b2⟩, b3, b4⟩ := LB.out
        rw [dm] at d1 d2 b2
        generalize d.lv = a at *
        clear LB LE dm
        cases hx : l[k] with
        | true =>
          rw [hx] at T1 hc b3
          have b5 := b3 rfl
          have q1 : ¬ nw < 0 := by omega
          have q2 : ¬ m < nw := by omega
          have q3 : ¬ nw < a := by omega
          clear b3 b4 hx
          go_wp2_with (first | (go_at_call 7; refine T1.out.mono ?_; rintro e w3 ⟨rfl, q1⟩; have H3 := hid q1; have V3 := hid (V2.out _ q1); have A3 := hid (A2.out _ q1); clear q1) | (go_at_call 6; first | (refine V3.out.mono ?_; rintro e w4 ⟨rfl, hw⟩; rw [hw]; clear hw V3) | (refine L1.out.mono ?_; rintro e w4 ⟨rfl, hw⟩; rw [hw]; clear hw L1)) | (go_at_call 8; refine A3.out.mono ?_; rintro e w5 ⟨rfl, nd, hw⟩; rw [hw]; clear hw))
          go_roundw
          case rel => exact ⟨k + 1, dd, _, by go_num, rfl, by omega, H3.out.drew _⟩
          case measure => simp [intOf]; omega
        | false =>
          rw [hx] at T1 hc b4
          have b5 := b4 rfl
          have q1 : ¬ nw < 0 := by omega
          have q2 : ¬ m < nw := by omega
          have q3 : ¬ a < nw := by omega
          clear b3 b4 hx
          go_wp2_with (first | (go_at_call 7; refine T1.out.mono ?_; rintro e w3 ⟨rfl, q1⟩; have H3 := hid q1; have V3 := hid (V2.out _ q1); have A3 := hid (A2.out _ q1); clear q1) | (go_at_call 6; first | (refine V3.out.mono ?_; rintro e w4 ⟨rfl, hw⟩; rw [hw]; clear hw V3) | (refine L1.out.mono ?_; rintro e w4 ⟨rfl, hw⟩; rw [hw]; clear hw L1)) | (go_at_call 8; refine A3.out.mono ?_; rintro e w5 ⟨rfl, nd, hw⟩; rw [hw]; clear hw))
          go_roundw
          case rel => exact ⟨k + 1, dd, _, by go_num, rfl, by omega, H3.out.drew _⟩
          case measure => simp [intOf]; omega
      · obtain rfl : k = n := by omega
        go_wp2
        go_ret
        exact ⟨rfl, bl3 B1.out HD.out.bel⟩
end Go.Proofs.Ytgoffnagdpmpnab
