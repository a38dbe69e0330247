/- The law's firings: two lists that are the same. -/
import Derived.Test.YteiadigafkollaaLw2
namespace Go.Proofs.Yteiadigafkollaa
open Go.RowKit Go.Sort Go.Shelf

/-- The slice reads as these firings. -/
def FS (w : World) (v : Value) (l : List (Int × Int)) : Prop := ∃ p cap, v = .slice p l.length cap ∧ ∀ k (h : k < l.length), ∃ X, p = some ⟨X, 0, none⟩ ∧ w.cell? ⟨X, k * 2, none⟩ = some (.int .i64 l[k].1) ∧ w.cell? ⟨X, k * 2 + 1, none⟩ = some (.int .i64 l[k].2)
theorem fC_at (l : List (Int × Int)) (k i : Nat) (hk : k < l.length) (hi : i < 2) : (l.flatMap fC)[k * 2 + i]? = (fC l[k])[i]? := by
  induction l generalizing k with
  | nil => simp at hk
  | cons t r ih =>
    rw [List.flatMap_cons]
    cases k with
    | zero => rw [List.getElem?_append_left (by simp [fC]; omega)]; simp
    | succ k =>
      rw [List.getElem?_append_right (by simp [fC]; omega)]
      have := ih k (by simpa using hk)
      rw [show (k + 1) * 2 + i - (fC t).length = k * 2 + i by simp [fC]; omega, this]
      simp
theorem OwnF.fs {w : World} {base : Nat} {v : Value} {l : List (Int × Int)} (h : OwnF w base v l) : FS w v l := by
  have h0 := h
  rcases h.2 with ⟨rfl, e⟩ | ⟨g, cap, cur, rfl, _⟩
  · exact ⟨none, 0, by rw [e], fun k hk => by omega⟩
  · refine ⟨_, cap, rfl, fun k hk => ⟨g, rfl, ?_, ?_⟩⟩
    · exact (World.ownsRow.cellAt h0 (k * 2) (by omega)).trans (by have := fC_at l k 0 hk (by omega); simpa [fC] using this)
    · exact (World.ownsRow.cellAt h0 (k * 2 + 1) (by omega)).trans (by have := fC_at l k 1 hk (by omega); simpa [fC] using this)
set_option maxHeartbeats 4000000 in
theorem firingsEq_same (w : World) (v1 v2 : Value) (l : List (Int × Int)) (h1 : FS w v1 l) (h2 : FS w v2 l) (hl : l.length ≤ 1000000) :
    Calls Try.prog 16 #[v1, v2] w fun e w' => e = .returned (.bool true) ∧ ∃ n, w' = w.drewN n := by
  obtain ⟨p1, c1, rfl, a1⟩ := h1
  obtain ⟨p2, c2, rfl, a2⟩ := h2
  have A1 : Hid _ := a1
  have A2 : Hid _ := a2
  clear a1 a2
  go_enter Try.func16, Try.ntmps16
  go_wp2
  go_loopw [13] (fun v13 wr => ∃ (k m : Nat), v13 = .int .i64 k ∧ k ≤ l.length ∧ wr = w.drewN m) (fun v13 _ => l.length - (intOf v13).toNat)
  case atStart => exact ⟨0, 0, rfl, Nat.zero_le _, rfl⟩
  case round =>
    obtain ⟨k, m, rfl, hk, rfl⟩ := hrel
    by_cases hlt : k < l.length
    · obtain ⟨X1, rfl, x1, x2⟩ := A1.out k hlt
      obtain ⟨X2, rfl, y1, y2⟩ := A2.out k hlt
      obtain ⟨f, hf⟩ : ∃ f, f = l[k] := ⟨_, rfl⟩
      rw [← hf] at x1 x2 y1 y2
      clear hf
      have z1 : (w.drewN m).cell? ⟨X1, k * 2, none⟩ = some (.int .i64 f.1) := x1
      have z2 : (w.drewN m).cell? ⟨X1, k * 2 + 1, none⟩ = some (.int .i64 f.2) := x2
      have z3 : (w.drewN m).cell? ⟨X2, k * 2, none⟩ = some (.int .i64 f.1) := y1
      have z4 : (w.drewN m).cell? ⟨X2, k * 2 + 1, none⟩ = some (.int .i64 f.2) := y2
      go_wp2
      go_quiet (fail)
      go_wp2
      all_goals
        go_roundw
        case rel => exact ⟨k + 1, _, by go_num, by omega, rfl⟩
        case measure => simp [intOf]; omega
    · go_wp2
      go_ret
      exact ⟨rfl, m, rfl⟩
theorem CL.new {w : World} {b : Nat} (h : CK w b none 0 0 #[]) : CL w b none 0 0 [] := ⟨#[], h, List.Perm.refl _, fun k hk hkn => by simp at hkn, ⟨Srt.nil, fun t ht => by simp at ht, by simp, by omega, by omega⟩⟩
/-- The chapter's first example, as the lists have it. -/
theorem ex_ins : ins ⟨2, 2, 3⟩ (ins ⟨1, 5, 0⟩ []) = [⟨2, 2, 3⟩, ⟨1, 5, 0⟩] := rfl
theorem ex_due : dueL 5 [⟨2, 2, 3⟩, ⟨1, 5, 0⟩] = 3 := by decide
theorem ex_told : told 3 [⟨2, 2, 3⟩, ⟨1, 5, 0⟩] = [(2, 2), (1, 5), (2, 5)] := by decide
end Go.Proofs.Yteiadigafkollaa
