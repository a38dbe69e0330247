/- Depend: what is a task, a cell; a new tie; New, Runner, Waiting, Wake, Clone. -/
import Derived.Test.YtkhcinpcoabphaaDb1
namespace Go.Proofs.Ytkhcinpcoabphaa
open Go.RowKit

def tkB (t : Int) : Bool := decide (0 ≤ t ∧ t < 128)
def clB (t : Int) : Bool := decide (0 ≤ t ∧ t < 256)
set_option maxHeartbeats 2000000 in
theorem isTask_any (t : Int) (w : World) : Calls Try.prog 29 #[.int .i64 t] w fun e w' => e = .returned (.bool (tkB t)) ∧ w' = w := by
  have HE : Hid (tkB t = decide (0 ≤ t ∧ t < 128)) := rfl
  generalize tkB t = r at *
  by_cases h1 : 0 ≤ t
  · by_cases h2 : t < 128
    all_goals
      go_enter Try.func29, Try.ntmps29
      go_wp2
      go_ret
      exact ⟨ret_bool (by rw [HE.out]; simp [h1, h2]), rfl⟩
  · go_enter Try.func29, Try.ntmps29
    go_wp2
    go_ret
    exact ⟨ret_bool (by rw [HE.out]; simp; omega), rfl⟩
set_option maxHeartbeats 2000000 in
theorem isCell_any (t : Int) (w : World) : Calls Try.prog 30 #[.int .i64 t] w fun e w' => e = .returned (.bool (clB t)) ∧ w' = w := by
  have HE : Hid (clB t = decide (0 ≤ t ∧ t < 256)) := rfl
  generalize clB t = r at *
  by_cases h1 : 0 ≤ t
  · by_cases h2 : t < 256
    all_goals
      go_enter Try.func30, Try.ntmps30
      go_wp2
      go_ret
      exact ⟨ret_bool (by rw [HE.out]; simp [h1, h2]), rfl⟩
  · go_enter Try.func30, Try.ntmps30
    go_wp2
    go_ret
    exact ⟨ret_bool (by rw [HE.out]; simp; omega), rfl⟩
set_option maxHeartbeats 4000000 in
theorem newTie_any (w : World) (b : Nat) (X : Wb) (h : WX w b X) (hi : WI X) (hm : X.made ≤ 4611686018427387904) (to : Nat) : Calls Try.prog 32 #[.pointer (some ⟨b, 0, none⟩), .int .i64 to] w fun e w' => e = .returned (.agg #[.int .i64 to, .int .i64 ((X.made + 1 : Nat) : Int), .bool true]) ∧ WX w' b ⟨X.runs, X.waits, X.made + 1⟩ ∧ But (fun x => x = b) w w' := by
  have hl := h.lt
  have c0 : w.cell? ⟨b, 1152, none⟩ = some (.int .i64 X.made) := by rw [h.cell]; exact webL_made hi.lr hi.lw
  have f0 := h.fz
  have hne : ¬ b = w.heap.size := by omega
  have H := hid h
  generalize hM : X.made = m at *
  go_enter Try.func32, Try.ntmps32
  go_wp2
  have E : WX (w.setCell ⟨b, 1152, none⟩ (.int .i64 (↑m + 1))) b ⟨X.runs, X.waits, m + 1⟩ := by have := H.out.setm hi (m + 1); rw [Int.natCast_add] at this; exact this
  refine bodyPost_ret (v := .agg #[.int .i64 to, .int .i64 (↑m + 1), .bool true]) (by simp [results, Try.results32, go_sem]) rfl ⟨by rw [Int.natCast_add]; rfl, E.below (bal _ _), (But.set b 1152 _).trans (G := fun _ => False) (But.of_below (bal _ _)) (fun _ hx => hx.elim)⟩
/-- Runner. -/
def runE (X : Wb) (c : Int) : Ending := if clB c then .returned (.tuple #[.int .i64 (X.r c.toNat).to, .bool (X.r c.toNat).is, .int .i64 0]) else .returned (.tuple #[.int .i64 0, .bool false, .int .i64 1])
def wtgE (X : Wb) (c : Int) : Ending := if tkB c then .returned (.tuple #[.int .i64 (X.w c.toNat).to, .bool (X.w c.toNat).is, .int .i64 0]) else .returned (.tuple #[.int .i64 0, .bool false, .int .i64 1])
theorem nat_of {c : Int} (h : 0 ≤ c) : ∃ n : Nat, c = n := ⟨c.toNat, by omega⟩
theorem cl_nat {c : Int} (h : clB c = true) : ∃ n : Nat, c = n ∧ n < 256 := by
  have h : 0 ≤ c ∧ c < 256 := by simpa [clB] using h
  exact ⟨c.toNat, by omega, by omega⟩
theorem tk_nat {c : Int} (h : tkB c = true) : ∃ n : Nat, c = n ∧ n < 128 := by
  have h : 0 ≤ c ∧ c < 128 := by simpa [tkB] using h
  exact ⟨c.toNat, by omega, by omega⟩
set_option maxHeartbeats 4000000 in
theorem runner_any (w : World) (b : Nat) (X : Wb) (h : WX w b X) (hi : WI X) (c : Int) : Calls Try.prog 23 #[.pointer (some ⟨b, 0, none⟩), .int .i64 c] w fun e w' => e = runE X c ∧ Below w.heap.size w w' := by
  have IC := hid (fun w' => isCell_any c w')
  have B0 := hid (Below.refl w.heap.size w)
  cases hc : clB c with
  | false =>
    rw [hc] at IC
    unfold runE
    rw [hc]
    clear h hi
    go_enter Try.func23, Try.ntmps23
    go_wp2_with (go_at_call 30; refine (IC.out _).mono ?_; rintro e w' ⟨rfl, hw⟩; rw [hw]; clear hw)
    go_ret3
    exact ⟨rfl, B0.out⟩
  | true =>
    rw [hc] at IC
    obtain ⟨n, hn, hlt⟩ := cl_nat hc
    have HE : Hid (runE X c = .returned (.tuple #[.int .i64 (X.r n).to, .bool (X.r n).is, .int .i64 0])) := by unfold runE; rw [hc, hn]; rfl
    generalize runE X c = r at *
    obtain ⟨c1, _, c3⟩ := h.run hi hlt
    have hl := h.lt
    subst hn
    generalize X.r n = x at *
    clear h hi hc
    go_enter Try.func23, Try.ntmps23
    go_wp2_with (go_at_call 30; refine (IC.out _).mono ?_; rintro e w' ⟨rfl, hw⟩; rw [hw]; clear hw)
    go_quiet (fail)
    go_wp2
    go_ret3
    exact ⟨HE.out.symm, drew_below _ _⟩
set_option maxHeartbeats 4000000 in
theorem waiting_any (w : World) (b : Nat) (X : Wb) (h : WX w b X) (hi : WI X) (c : Int) : Calls Try.prog 22 #[.pointer (some ⟨b, 0, none⟩), .int .i64 c] w fun e w' => e = wtgE X c ∧ Below w.heap.size w w' := by
  have IC := hid (fun w' => isTask_any c w')
  have B0 := hid (Below.refl w.heap.size w)
  cases hc : tkB c with
  | false =>
    rw [hc] at IC
    unfold wtgE
    rw [hc]
    clear h hi
    go_enter Try.func22, Try.ntmps22
    go_wp2_with (go_at_call 29; refine (IC.out _).mono ?_; rintro e w' ⟨rfl, hw⟩; rw [hw]; clear hw)
    go_ret3
    exact ⟨rfl, B0.out⟩
  | true =>
    rw [hc] at IC
    obtain ⟨n, hn, hlt⟩ := tk_nat hc
    have HE : Hid (wtgE X c = .returned (.tuple #[.int .i64 (X.w n).to, .bool (X.w n).is, .int .i64 0])) := by unfold wtgE; rw [hc, hn]; rfl
    generalize wtgE X c = r at *
    obtain ⟨c1, _, c3⟩ := h.wait hi hlt
    have hl := h.lt
    subst hn
    generalize X.w n = x at *
    clear h hi hc
    go_enter Try.func22, Try.ntmps22
    go_wp2_with (go_at_call 29; refine (IC.out _).mono ?_; rintro e w' ⟨rfl, hw⟩; rw [hw]; clear hw)
    go_quiet (fail)
    go_wp2
    go_ret3
    exact ⟨HE.out.symm, drew_below _ _⟩
/-- Wake. -/
def wakE (X : Wb) (t : Int) : Int := if tkB t then (if (X.w t.toNat).is then 0 else 4) else 1
def wakX (X : Wb) (t : Int) : Wb := if wakE X t = 0 then wakW X t.toNat else X
theorem but3 {w : World} (b o1 o2 o3 : Nat) (u1 u2 u3 : Value) : But (fun x => x = b) w (((w.setCell ⟨b, o1, none⟩ u1).setCell ⟨b, o2, none⟩ u2).setCell ⟨b, o3, none⟩ u3) :=
  ((But.set b o1 u1).trans (But.set b o2 u2) (fun _ hx => Or.inl hx)).trans (But.set b o3 u3) (fun _ hx => Or.inl hx)
set_option maxHeartbeats 4000000 in
theorem wake_any (w : World) (b : Nat) (X : Wb) (h : WX w b X) (hi : WI X) (t : Int) : Calls Try.prog 18 #[.pointer (some ⟨b, 0, none⟩), .int .i64 t] w fun e w' => e = .returned (.int .i64 (wakE X t)) ∧ WX w' b (wakX X t) ∧ But (fun x => x = b) w w' := by
  have IC := hid (fun w' => isTask_any t w')
  have B0 := hid (But.refl (fun x => x = b) w)
  have H := hid h
  have HE : Hid (wakE X t = if tkB t then (if (X.w t.toNat).is then 0 else 4) else 1) := rfl
  have HX : Hid (wakX X t = if wakE X t = 0 then wakW X t.toNat else X) := rfl
  generalize wakX X t = Y at *
  generalize wakE X t = r at *
  cases hc : tkB t with
  | false =>
    rw [hc] at IC HE
    have hr : r = 1 := by rw [HE.out]; rfl
    subst hr
    clear h hi
    go_enter Try.func18, Try.ntmps18
    go_wp2_with (go_at_call 29; refine (IC.out _).mono ?_; rintro e w' ⟨rfl, hw⟩; rw [hw]; clear hw)
    go_ret
    exact ⟨rfl, by rw [HX.out]; exact H.out, B0.out⟩
  | true =>
    rw [hc] at IC HE
    obtain ⟨n, hn, hlt⟩ := tk_nat hc
    obtain ⟨_, _, c3⟩ := h.wait hi hlt
    have f0 := h.fz
    have hl := h.lt
    have SW := hid (h.setw hi hlt t0)
    subst hn
    have e0 : ((n : Int)).toNat = n := rfl
    rw [e0] at HE HX
    cases hx : (X.w n).is with
    | false =>
      rw [hx] at HE c3
      have hr : r = 4 := by rw [HE.out]; rfl
      subst hr
      clear h hi hc e0
      go_enter Try.func18, Try.ntmps18
      go_wp2_with (go_at_call 29; refine (IC.out _).mono ?_; rintro e w' ⟨rfl, hw⟩; rw [hw]; clear hw)
      go_ret
      exact ⟨rfl, by rw [HX.out]; exact H.out, B0.out⟩
    | true =>
      rw [hx] at HE c3
      have hr : r = 0 := by rw [HE.out]; rfl
      subst hr
      replace HX : Hid (Y = wakW X n) := HX.out
      clear h hi hc e0
      go_enter Try.func18, Try.ntmps18
      go_wp2_with (go_at_call 29; refine (IC.out _).mono ?_; rintro e w' ⟨rfl, hw⟩; rw [hw]; clear hw)
      go_ret
      exact ⟨rfl, by rw [HX.out]; exact SW.out, but3 _ _ _ _ _ _ _⟩
end Go.Proofs.Ytkhcinpcoabphaa
