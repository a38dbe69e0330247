/- The law's stands. -/
import Derived.Test.YteiadigafkollaaRg10
namespace Go.Proofs.Yteiadigafkollaa
open Go.RowKit Go.Sort Go.Shelf

theorem TS.nth {w : World} {p : Option Addr} {n cap k : Nat} {L : List Tm} (h : TS w (.slice p n cap) L) (hk : k < L.length) : ∃ X, p = some ⟨X, 0, none⟩ ∧ w.cell? ⟨X, k * 3, none⟩ = some (.int .i64 L[k].num) ∧ w.cell? ⟨X, k * 3 + 1, none⟩ = some (.int .i64 L[k].tm) ∧ w.cell? ⟨X, k * 3 + 2, none⟩ = some (.int .i64 L[k].ev) := by
  obtain ⟨p1, cap1, hv, hc⟩ := h
  injection hv with e1 e2 e3
  subst e1
  exact hc k hk
/-- Cells that may be written. -/
def Wr (w : World) (g m : Nat) : Prop := (∀ j, j < m → ∃ u, w.cell? ⟨g, j, none⟩ = some u) ∧ ∀ o, w.frozen? ⟨g, o, none⟩ = false
theorem Wr.set {w : World} {g m : Nat} (h : Wr w g m) (o : Nat) (v : Value) : Wr (w.setCell ⟨g, o, none⟩ v) g m := by
  refine ⟨fun j hj => ?_, fun o2 => by rw [World.frozen?_setCell]; exact h.2 o2⟩
  obtain ⟨u, hu⟩ := h.1 j hj
  by_cases e : j = o
  · subst e; exact ⟨v, head_set hu⟩
  · exact ⟨u, by rw [other_set e]; exact hu⟩
theorem PL.wr {w : World} {base : Nat} {p : Option Addr} {n cap : Nat} {L : List Tm} (h : PL w base (.slice p n cap) L) (hL : 0 < L.length) : ∃ g, p = some ⟨g, 0, none⟩ ∧ base ≤ g ∧ g < w.heap.size ∧ Wr w g (L.length * 3) := by
  rcases h with ⟨_, h⟩ | ⟨g, c, d, hv, hb, hr, hd⟩
  · rw [h] at hL; simp at hL
  · injection hv with e1 _ _
    refine ⟨g, e1, hb, hr.lt, fun j hj => ?_, fun o => hr.frozen o⟩
    have hs : d.size = L.length := by rw [← hd]; simp
    obtain ⟨c1, c2, c3⟩ := hr.cells (i := j / 3) (by omega)
    have hm : j = j / 3 * 3 ∨ j = j / 3 * 3 + 1 ∨ j = j / 3 * 3 + 2 := by omega
    rcases hm with e | e | e
    · rw [e]; exact ⟨_, c1⟩
    · rw [e]; exact ⟨_, c2⟩
    · rw [e]; exact ⟨_, c3⟩
set_option maxHeartbeats 4000000 in
theorem timersEq_rs (w : World) (v1 v2 : Value) (l : List Tm) (h1 : TS w v1 l) (h2 : RS w v2 l) (hl : l.length ≤ 1000000) :
    Calls Try.prog 18 #[v1, v2] w fun e w' => e = .returned (.bool true) ∧ ∃ n, w' = w.drewN n := by
  obtain ⟨p1, c1, rfl⟩ : ∃ p c, v1 = .slice p l.length c := by obtain ⟨p, c, h, _⟩ := h1; exact ⟨p, c, h⟩
  obtain ⟨p2, c2, rfl⟩ := h2.form
  have A1 : Hid (TS w (.slice p1 l.length c1) l) := h1
  have A2 : Hid (RS w (.slice p2 l.length c2) l) := h2
  clear h1 h2
  go_enter Try.func18, Try.ntmps18
  go_wp2
  go_loopw [13] (fun v13 wr => ∃ (k m : Nat), v13 = .int .i64 k ∧ k ≤ l.length ∧ wr = w.drewN m) (fun v13 _ => l.length - (intOf v13).toNat)
  case atStart => exact ⟨0, 0, rfl, Nat.zero_le _, rfl⟩
  case round =>
    obtain ⟨k, m, rfl, hk, rfl⟩ := hrel
    by_cases hlt : k < l.length
    · obtain ⟨X1, e1, x1, x2, x3⟩ := A1.out.nth hlt
      obtain rfl : p1 = some ⟨X1, 0, none⟩ := e1
      obtain ⟨X2, o2, e2, y1, y2, y3⟩ := A2.out.at hlt
      obtain rfl : p2 = some ⟨X2, o2, none⟩ := e2
      obtain ⟨f, hf⟩ : ∃ f, f = l[k] := ⟨_, rfl⟩
      rw [← hf] at x1 x2 x3 y1 y2 y3
      clear hf
      go_wp2
      go_quiet (fail)
      go_wp2
      all_goals
        go_roundw
        case rel => exact ⟨k + 1, _, by go_num, by omega, rfl⟩
        case measure => simp [intOf]; omega
    · go_wp2
      go_ret
      exact ⟨rfl, m, rfl⟩
structure SP (w0 w : World) (b : Nat) (xo : Option Nat) (now given : Int) (L : List Tm) (p : Option Addr) (cap : Nat) : Prop where
  st : ST w0 w b xo now given L
  rs : RS w (.slice p L.length cap) L
  dj : ∀ a, p = some a → a.block ≠ b ∧ some a.block ≠ xo
theorem SP.below {w0 w w' : World} {b : Nat} {xo : Option Nat} {now given : Int} {L : List Tm} {p : Option Addr} {cap : Nat} (h : SP w0 w b xo now given L p cap) (k : Below w.heap.size w w') : SP w0 w' b xo now given L p cap := ⟨h.st.below k, h.rs.below k, h.dj⟩
theorem nextV_form (L : List Tm) : ∃ A K, nextV L = #[.int .i64 A, .bool K] := by
  cases L with
  | nil => exact ⟨0, false, rfl⟩
  | cons t r => exact ⟨t.tm, true, rfl⟩
theorem drewN_below (w : World) (n : Nat) : Below w.heap.size w (w.drewN n) := below_drewN' (Below.refl _ _) n
set_option maxHeartbeats 8000000 in
set_option maxRecDepth 100000 in
theorem stands_any (w0 w : World) (b : Nat) (xo : Option Nat) (now given : Int) (L : List Tm) (p : Option Addr) (cap : Nat) (h : SP w0 w b xo now given L p cap) :
    Calls Try.prog 11 #[.pointer (some ⟨b, 0, none⟩), .agg #[.int .i64 now, .int .i64 given, .slice p L.length cap]] w fun e w' => e = .returned (.bool true) ∧ Below w.heap.size w w' := by
  have hlen : L.length ≤ 1024 := h.st.ok.len
  have HS : Hid (∀ ob, SP w0 (w.alloc ob) b xo now given L p cap) := fun ob => h.below (below_alloc w ob)
  obtain ⟨A, K, hAK⟩ := nextV_form L
  have NX1 : ∀ ob, Calls Try.prog 20 #[.pointer (some ⟨b, 0, none⟩)] (w.alloc ob) fun e w' => e = .returned (.tuple #[.int .i64 A, .bool K]) ∧ w' = w.alloc ob := fun ob => by
    have := next_st (HS.out ob).st
    rw [hAK] at this; exact this
  have NX2 : ∀ ob, Calls Try.prog 32 #[.agg #[.int .i64 now, .int .i64 given, .slice p L.length cap]] (w.alloc ob) fun e w' => e = .returned (.tuple #[.int .i64 A, .bool K]) ∧ Below (w.alloc ob).heap.size (w.alloc ob) w' := fun ob => by
    have := rnext_any (w.alloc ob) now given p cap L (HS.out ob).rs hlen
    rw [hAK] at this; exact this
  clear h hAK
  go_enter Try.func11, Try.ntmps11
  go_wp2_with (first | (go_at_call 20; refine (NX1 _).mono ?_; rintro e w2 ⟨rfl, rfl⟩) | (go_at_call 32; refine (NX2 _).mono ?_; rintro e w3 ⟨rfl, hb3⟩))
  have hz3 : w.heap.size + 1 ≤ w3.heap.size := by have := hb3.size; simpa using this
  have c0 : w3.cell? ⟨w.heap.size, 0, none⟩ = some (.int .i64 now) := (hb3.cell (p := ⟨w.heap.size, 0, none⟩) (by simp)).trans (cell_of_row _ _ _ _ _ _ (heap_alloc_new w _))
  have c2 : w3.cell? ⟨w.heap.size, 2, none⟩ = some (.slice p L.length cap) := (hb3.cell (p := ⟨w.heap.size, 2, none⟩) (by simp)).trans (cell_of_row _ _ _ _ _ _ (heap_alloc_new w _))
  have HS3 : Hid (SP w0 w3 b xo now given L p cap) := (HS.out _).below hb3
  have C2 : Hid (w3.cell? ⟨w.heap.size, 2, none⟩ = some (.slice p L.length cap)) := c2
  have HB3 : Hid (Below w.heap.size w w3) := (below_alloc w _).trans (hb3.mono (by simp))
  clear hb3 NX1 NX2 HS
  refine (pending_pl HS3.out.st).mono ?_
  rintro e w4 ⟨p4, c4, rfl, hp4, hb4⟩
  have HP4 : Hid (PL w4 w3.heap.size (.slice p4 L.length c4) L) := hp4
  have HB4 : Hid (Below w3.heap.size w3 w4) := hb4
  have HS4 : Hid (SP w0 w4 b xo now given L p cap) := HS3.out.below hb4
  have k0 := (hb4.cell (p := ⟨w.heap.size, 0, none⟩) (by simp; omega)).trans c0
  have k2 := (hb4.cell (p := ⟨w.heap.size, 2, none⟩) (by simp; omega)).trans c2
  have NW : ∀ n, Calls Try.prog 17 #[.pointer (some ⟨b, 0, none⟩)] (w4.drewN n) fun e w' => e = .returned (.int .i64 now) ∧ w' = w4.drewN n := fun n => now_st (HS4.out.below (drewN_below w4 n)).st
  have TM : ∀ n, Calls Try.prog 18 #[.slice p4 L.length c4, .slice p L.length cap] (w4.drewN n) fun e w' => e = .returned (.bool true) ∧ ∃ m, w' = (w4.drewN n).drewN m := fun n => timersEq_rs _ _ _ L (HP4.out.below (drewN_below w4 n)).ts (HS4.out.below (drewN_below w4 n)).rs (by omega)
  clear hp4 hb4 c0 c2
  go_wp2_with fail
  go_quiet ((first | (go_at_call 17; exact Calls.quiet_of_same (NW _)) | (go_at_call 18; exact Calls.quiet_of (TM _))))
  go_wp2_with fail
  clear NW TM k0 k2 HS4
  have WR0 : Hid (Below w3.heap.size w3 (w4.drewN nq) ∧ ∀ g, 0 < L.length → p4 = some ⟨g, 0, none⟩ → Wr (w4.drewN nq) g (L.length * 3)) := ⟨below_drewN' HB4.out nq, fun g hL e => by
    obtain ⟨g', e', _, _, hw⟩ := HP4.out.wr hL
    rw [e] at e'; injection e' with e'; injection e' with e' _ _; subst e'; exact hw⟩
  go_loopw [47] (fun v47 wr => ∃ (k : Nat) (wk : World), v47 = .int .i64 k ∧ wk = wr ∧ k ≤ L.length ∧ Hid (Below w3.heap.size w3 wk ∧ ∀ g, 0 < L.length → p4 = some ⟨g, 0, none⟩ → Wr wk g (L.length * 3))) (fun v47 _ => L.length - (intOf v47).toNat)
  case atStart => exact ⟨0, _, rfl, rfl, Nat.zero_le _, WR0⟩
  case round =>
    obtain ⟨k, wr, rfl, rfl, hk, HW⟩ := hrel
    clear WR0
    by_cases hlt : k < L.length
    · obtain ⟨g, e1, hg1, _, _⟩ := HP4.out.wr (by omega)
      obtain rfl : p4 = some ⟨g, 0, none⟩ := e1
      have hw := HW.out.2 g (by omega) rfl
      obtain ⟨u0, h0⟩ := hw.1 (k * 3) (by omega)
      obtain ⟨u1, h1⟩ := hw.1 (k * 3 + 1) (by omega)
      obtain ⟨u2, h2⟩ := hw.1 (k * 3 + 2) (by omega)
      have hf := hw.2
      have HG : Hid (w3.heap.size ≤ g) := hg1
      have HWR : Hid (Wr wr g (L.length * 3)) := hw
      clear hw hg1
      go_wp2
      go_roundw
      case rel =>
        refine ⟨k + 1, _, by go_num, rfl, by omega, ⟨((HW.out.1.setCell HG.out _).setCell HG.out _).setCell HG.out _, fun g2 _ e => ?_⟩⟩
        injection e with e; injection e with e _ _; subst e
        exact ((HWR.out.set _ _).set _ _).set _ _
      case measure => simp [intOf]; omega
    · have HS5 : Hid (SP w0 wr b xo now given L p cap) := HS3.out.below HW.out.1
      have k2 : wr.cell? ⟨w.heap.size, 2, none⟩ = some (.slice p L.length cap) := (HW.out.1.cell (p := ⟨w.heap.size, 2, none⟩) (by simp; omega)).trans C2.out
      have HB5 : Hid (Below w.heap.size w wr) := below_then HB3.out HW.out.1
      have PD := pending_pl (HS5.out.below (drewN_below wr 1)).st
      clear HW HP4 HB4
      go_wp2_with fail
      go_region_with (first | (go_at_call 19; refine PD.mono ?_; rintro e w6 ⟨p6, c6, rfl, hp6, hb6⟩; have j2 := (hb6.cell (p := ⟨w.heap.size, 2, none⟩) (show w.heap.size < wr.heap.size from block_lt_of_cell k2)).trans k2) | (go_at_call 18; refine (timersEq_rs _ _ _ L hp6.ts (HS5.out.rs.below (below_then (drewN_below wr 1) hb6)) (by omega)).mono ?_; rintro e w7 ⟨rfl, m, rfl⟩))
      all_goals
        go_wp2
        go_ret
        exact ⟨rfl, below_drewN' (below_then HB5.out (below_then (drewN_below wr 1) hb6)) _⟩
end Go.Proofs.Yteiadigafkollaa
