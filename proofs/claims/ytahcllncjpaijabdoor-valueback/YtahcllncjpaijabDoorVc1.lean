/- Values: rows of values; copies and comparisons; an answer written over. -/
import Derived.Test.YtahcllncjpaijabDoorVb9
import Derived.Test.YtahcllncjpaijabDoorVc0
import Derived.Deep.QuietTactic
import Derived.BigQuiet
namespace Go.Proofs.YtahcllncjpaijabDoor
open Go.RowKit

/-- A value of a row, and where it lies. -/
structure Vx where
  a : List Atm
  q : Option Addr
  c : Nat
def Vx.v (x : Vx) : Value := .slice x.q x.a.length x.c
def KV : RK Vx := ⟨23, 1, 24, .slice none 0 0, fun x => [.slice x.q x.a.length x.c]⟩
theorem KV_ok : KV.Ok Tryd.prog :=
  ⟨fun _ => rfl, fun x u hu => by simp [KV] at hu; subst hu; rfl, rfl, by decide, by decide, info_parts' (by kernel_rfl)⟩
theorem GS.atV {w : World} {p : Option Addr} {n cap k : Nat} {l : List Vx} (h : GS KV w (.slice p n cap) l) (hk : k < l.length) : ∃ X o, p = some ⟨X, o, none⟩ ∧ w.cell? ⟨X, o + k, none⟩ = some (.slice l[k].q l[k].a.length l[k].c) := by
  obtain ⟨X, o, h1, _, h2⟩ := GS.at h hk
  have := h2 0 _ rfl
  rw [show KV.W = 1 from rfl, Nat.mul_one] at this
  exact ⟨X, o, h1, this⟩
/-- The slice reads as these values, and each one as its atoms. -/
structure VR (w : World) (v : Value) (L : List Vx) : Prop where
  gs : GS KV w v L
  av : ∀ x ∈ L, AS w x.v x.a
theorem VR.below {w w' : World} {v : Value} {L : List Vx} (h : VR w v L) (b : Below w.heap.size w w') : VR w' v L := ⟨h.gs.below b, fun x hx => (h.av x hx).below b⟩
/-- What any argument keeps to: lengths, and lengths of texts. -/
structure VT (L : List Vx) : Prop where
  n : L.length * 24 ≤ 140737488355328
  l : ∀ x ∈ L, x.a.length * 40 ≤ 140737488355328
  t : ∀ x ∈ L, AT x.a
def aL (L : List Vx) : List (List Atm) := L.map (·.a)
theorem aL_len (L : List Vx) : (aL L).length = L.length := List.length_map _
theorem aL_at {L : List Vx} {k : Nat} (h : k < L.length) : (aL L)[k]'(by rw [aL_len]; exact h) = L[k].a := by unfold aL; simp
theorem aL_get {L M : List Vx} (h : aL M = aL L) {k : Nat} (hk : k < L.length) (hk' : k < M.length) : M[k].a = L[k].a := by
  have := aL_at hk'
  rw [← this, ← aL_at hk]
  simp [h]
theorem VT.of {L M : List Vx} (h : VT L) (e : aL M = aL L) : VT M := by
  have hl : M.length = L.length := by rw [← aL_len M, e, aL_len]
  refine ⟨by rw [hl]; exact h.n, fun x hx => ?_, fun x hx => ?_⟩
  · have : x.a ∈ aL L := by rw [← e]; exact List.mem_map.2 ⟨x, hx, rfl⟩
    obtain ⟨y, hy, e2⟩ := List.mem_map.1 this
    rw [← e2]; exact h.l y hy
  · have : x.a ∈ aL L := by rw [← e]; exact List.mem_map.2 ⟨x, hx, rfl⟩
    obtain ⟨y, hy, e2⟩ := List.mem_map.1 this
    rw [← e2]; exact h.t y hy
set_option maxHeartbeats 4000000 in
theorem sameV_same (w : World) (v1 v2 : Value) (l : List Atm) (h1 : AS w v1 l) (h2 : AS w v2 l) (hl : l.length ≤ 100000000000000000) :
    Calls Tryd.prog 7 #[v1, v2] w fun e w' => e = .returned (.bool true) ∧ Below w.heap.size w w' := by
  obtain ⟨p1, c1, rfl⟩ := h1.form
  obtain ⟨p2, c2, rfl⟩ := h2.form
  have A1 : Hid (AS w (.slice p1 l.length c1) l) := h1
  have A2 : Hid (AS w (.slice p2 l.length c2) l) := h2
  have DR : Hid (∀ n, Below w.heap.size w (w.drewN n)) := fun n => ⟨rfl, rfl, rfl, Nat.le_refl _, fun _ _ => rfl⟩
  clear h1 h2
  go_enter Tryd.func7, Tryd.ntmps7
  go_wp2
  go_loopw [5] (fun v5 wr => ∃ (k m : Nat), v5 = .int .i64 k ∧ k ≤ l.length ∧ wr = w.drewN m) (fun v5 _ => l.length - (intOf v5).toNat)
  case atStart => exact ⟨0, 0, rfl, Nat.zero_le _, rfl⟩
  case round =>
    obtain ⟨k, m, rfl, hk, rfl⟩ := hrel
    by_cases hlt : k < l.length
    · obtain ⟨X1, o1, e1, x1, x2, x3, x4⟩ := A1.out.atA hlt
      obtain rfl : p1 = some ⟨X1, o1, none⟩ := e1
      obtain ⟨X2, o2, e2, y1, y2, y3, y4⟩ := A2.out.atA hlt
      obtain rfl : p2 = some ⟨X2, o2, none⟩ := e2
      obtain ⟨f, hf⟩ : ∃ f, f = l[k] := ⟨_, rfl⟩
      rw [← hf] at x1 x2 x3 x4 y1 y2 y3 y4
      clear hf
      go_wp2
      go_quiet (fail)
      go_wp2
      all_goals
        go_roundw
        case rel => exact ⟨k + 1, _, by go_num, by omega, rfl⟩
        case measure => simp [intOf]; omega
    · go_wp2
      go_ret
      exact ⟨rfl, DR.out _⟩
end Go.Proofs.YtahcllncjpaijabDoor
