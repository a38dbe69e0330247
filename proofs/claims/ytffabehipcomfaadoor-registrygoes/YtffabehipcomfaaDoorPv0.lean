/- Names: the reference's well, kind by kind. -/
import Derived.Test.YtffabehipcomfaaDoorPt1
import Derived.Test.YtffabehipcomfaaDoorPz8
import Derived.Deep.QuietTactic
import Derived.BigQuiet
import Derived.Test.YtffabehipcomfaaDoorPx3
import Derived.Test.YtffabehipcomfaaDoorPy2
import Derived.BigRegion
import Derived.Deep.RegionLaw
import Derived.Deep.RegionWith
namespace Go.Proofs.YtffabehipcomfaaDoor
open Go.RowKit

set_option maxHeartbeats 2000000 in
theorem copyExpr_any (v : Value) (l : List Opn) (w : World) (h : OS w v l) (hl : l.length * 40 ≤ 140737488355328) :
    Calls Tryd.prog 31 #[v] w fun e w' => ∃ p cap, e = .returned (.slice p l.length cap) ∧ OwnG KO w' w.heap.size (.slice p l.length cap) l ∧ Below w.heap.size w w' := by
  have H0 : Hid (OS (w.alloc (.cells #[] 71)) v l) := h.below ((Below.refl _ _).alloc (Nat.le_refl _) _)
  have E0 : Hid (OwnG KO (w.alloc (.cells #[] 71)) w.heap.size (.slice (some ⟨w.heap.size, 0, none⟩) 0 0) []) := OwnG.empty KO w
  have HL : Hid ((([] : List Opn).length + l.length) * KO.B ≤ 140737488355328) := by show (([] : List Opn).length + l.length) * 40 ≤ 140737488355328; simpa using hl
  clear h
  go_enter Tryd.func31, Tryd.ntmps31
  go_wp2_with (at_builtin; refine append_gs KO KO_ok rfl (.tmp 3) (.tmp 4) 31 rfl w.heap.size Tryd.underlying31 _ _ v [] l rfl rfl E0.out H0.out HL.out (by simp) ?_; intro v8 w8 ho8 hb8 hk8)
  go_ret
  rw [List.nil_append] at ho8
  obtain ⟨p, cap, rfl, _⟩ := ho8.form
  exact ⟨p, cap, rfl, ho8, ((Below.refl _ _).alloc (Nat.le_refl _) _).trans hb8⟩
set_option maxHeartbeats 4000000 in
theorem sameExpr_same (w : World) (v1 v2 : Value) (l : List Opn) (h1 : OS w v1 l) (h2 : OS w v2 l) (hl : l.length ≤ 100000000000000000) :
    Calls Tryd.prog 27 #[v1, v2] w fun e w' => e = .returned (.bool true) ∧ Below w.heap.size w w' := by
  obtain ⟨p1, c1, rfl⟩ := h1.form
  obtain ⟨p2, c2, rfl⟩ := h2.form
  have A1 : Hid (OS w (.slice p1 l.length c1) l) := h1
  have A2 : Hid (OS w (.slice p2 l.length c2) l) := h2
  have DR : Hid (∀ n, Below w.heap.size w (w.drewN n)) := fun n => ⟨rfl, rfl, rfl, Nat.le_refl _, fun _ _ => rfl⟩
  clear h1 h2
  go_enter Tryd.func27, Tryd.ntmps27
  go_wp2
  go_loopw [5] (fun v5 wr => ∃ (k m : Nat), v5 = .int .i64 k ∧ k ≤ l.length ∧ wr = w.drewN m) (fun v5 _ => l.length - (intOf v5).toNat)
  case atStart => exact ⟨0, 0, rfl, Nat.zero_le _, rfl⟩
  case round =>
    obtain ⟨k, m, rfl, hk, rfl⟩ := hrel
    by_cases hlt : k < l.length
    · obtain ⟨X1, o1, e1, x1, x2, x3, x4⟩ := A1.out.atO hlt
      obtain rfl : p1 = some ⟨X1, o1, none⟩ := e1
      obtain ⟨X2, o2, e2, y1, y2, y3, y4⟩ := A2.out.atO hlt
      obtain rfl : p2 = some ⟨X2, o2, none⟩ := e2
      obtain ⟨f, hf⟩ : ∃ f, f = l[k] := ⟨_, rfl⟩
      rw [← hf] at x1 x2 x3 x4 y1 y2 y3 y4
      clear hf
      go_wp2
      go_quiet (fail)
      go_wp2
      all_goals
        go_roundw
        case rel => exact ⟨k + 1, _, by go_num, by omega, rfl⟩
        case measure => simp [intOf]; omega
    · go_wp2
      go_ret
      exact ⟨rfl, DR.out _⟩
end Go.Proofs.YtffabehipcomfaaDoor
namespace Go.Proofs.YtffabehipcomfaaDoor
open Go.RowKit

theorem below_drewY {w w' : World} {B : Nat} (h : Below B w w') (n : Nat) : Below B w (w'.drewN n) := ⟨h.os, h.tape, h.output, h.size, h.block⟩
/-- The ways of an operation's check. -/
theorem well_ways {k : Int} {m : Nat} {i : Int} {t : ByteArray} (hk : isX k = true) : ((((m : Int) != arO ⟨k, m, i, t⟩) = true) ∧ opB ⟨k, m, i, t⟩ = false) ∨ (((m : Int) != arO ⟨k, m, i, t⟩) = false ∧ opB ⟨k, m, i, t⟩ = (inB' ⟨k, m, i, t⟩ && txB ⟨k, m, i, t⟩)) := by
  have e := arB_eq (o := ⟨k, m, i, t⟩) hk
  have e2 : opB ⟨k, m, i, t⟩ = (isX k && (arB ⟨k, m, i, t⟩ && inB' ⟨k, m, i, t⟩ && txB ⟨k, m, i, t⟩)) := rfl
  by_cases h : (m : Int) = arO ⟨k, m, i, t⟩
  · right
    refine ⟨by rw [← h]; simp, ?_⟩
    rw [e2, hk, e, decide_eq_true (by exact ⟨Int.natCast_nonneg _, h⟩)]; simp
  · left
    refine ⟨by simpa using h, ?_⟩
    rw [e2, e, decide_eq_false (by exact fun h2 => h h2.2)]; simp
end Go.Proofs.YtffabehipcomfaaDoor
