/- The law's timers: two lists that are the same. -/
import Derived.Test.YteiadigafkollaaLw4
import Derived.Test.YteiadigafkollaaPl3
namespace Go.Proofs.Yteiadigafkollaa
open Go.RowKit Go.Sort Go.Shelf

/-- The slice reads as these timers. -/
def TS (w : World) (v : Value) (l : List Tm) : Prop := ∃ p cap, v = .slice p l.length cap ∧ ∀ k (h : k < l.length), ∃ X, p = some ⟨X, 0, none⟩ ∧ w.cell? ⟨X, k * 3, none⟩ = some (.int .i64 l[k].num) ∧ w.cell? ⟨X, k * 3 + 1, none⟩ = some (.int .i64 l[k].tm) ∧ w.cell? ⟨X, k * 3 + 2, none⟩ = some (.int .i64 l[k].ev)
theorem PL.ts {w : World} {base : Nat} {v : Value} {l : List Tm} (h : PL w base v l) : TS w v l := by
  rcases h with ⟨rfl, rfl⟩ | ⟨g, c, d, rfl, _, hr, rfl⟩
  · exact ⟨none, 0, rfl, fun k hk => by simp at hk⟩
  · refine ⟨_, c, rfl, fun k hk => ⟨g, rfl, ?_⟩⟩
    have hk2 : k < d.size := by simpa using hk
    have := hr.cells hk2
    rw [get!_list d k hk2] at this
    exact this
set_option maxHeartbeats 4000000 in
theorem timersEq_same (w : World) (v1 v2 : Value) (l : List Tm) (h1 : TS w v1 l) (h2 : TS w v2 l) (hl : l.length ≤ 1000000) :
    Calls Try.prog 18 #[v1, v2] w fun e w' => e = .returned (.bool true) ∧ ∃ n, w' = w.drewN n := by
  obtain ⟨p1, c1, rfl, a1⟩ := h1
  obtain ⟨p2, c2, rfl, a2⟩ := h2
  have A1 : Hid _ := a1
  have A2 : Hid _ := a2
  clear a1 a2
  go_enter Try.func18, Try.ntmps18
  go_wp2
  go_loopw [13] (fun v13 wr => ∃ (k m : Nat), v13 = .int .i64 k ∧ k ≤ l.length ∧ wr = w.drewN m) (fun v13 _ => l.length - (intOf v13).toNat)
  case atStart => exact ⟨0, 0, rfl, Nat.zero_le _, rfl⟩
  case round =>
    obtain ⟨k, m, rfl, hk, rfl⟩ := hrel
    by_cases hlt : k < l.length
    · obtain ⟨X1, rfl, x1, x2, x3⟩ := A1.out k hlt
      obtain ⟨X2, rfl, y1, y2, y3⟩ := A2.out k hlt
      obtain ⟨f, hf⟩ : ∃ f, f = l[k] := ⟨_, rfl⟩
      rw [← hf] at x1 x2 x3 y1 y2 y3
      clear hf
      go_wp2
      go_quiet (fail)
      go_wp2
      all_goals
        go_roundw
        case rel => exact ⟨k + 1, _, by go_num, by omega, rfl⟩
        case measure => simp [intOf]; omega
    · go_wp2
      go_ret
      exact ⟨rfl, m, rfl⟩
end Go.Proofs.Yteiadigafkollaa
