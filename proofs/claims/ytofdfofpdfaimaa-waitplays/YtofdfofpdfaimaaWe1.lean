/- Waiting: the statements' comparisons. -/
import Derived.Test.YtofdfofpdfaimaaWd9
import Derived.Laws.StructEq
namespace Go.Proofs.Ytofdfofpdfaimaa
open Go.RowKit Go.Maps

set_option maxHeartbeats 4000000 in
theorem sameTextsG (w : World) (v1 v2 : Value) (P : List ByteArray) (h1 : GS KS w v1 P) (h2 : GS KS w v2 P) (hl : P.length ≤ 100000000000000000) :
    Calls Try.prog 39 #[v1, v2] w fun e w' => e = .returned (.bool true) ∧ ∃ n, w' = w.drewN n := by
  obtain ⟨p1, c1, rfl⟩ := h1.form
  obtain ⟨p2, c2, rfl⟩ := h2.form
  have A1 : Hid (GS KS w (.slice p1 P.length c1) P) := h1
  have A2 : Hid (GS KS w (.slice p2 P.length c2) P) := h2
  clear h1 h2
  go_enter Try.func39, Try.ntmps39
  go_wp2
  go_loopw [5] (fun i wr => ∃ k n : Nat, k ≤ P.length ∧ i = .int .i64 k ∧ wr = w.drewN n) (fun i _ => P.length - (intOf i).toNat)
  case atStart => exact ⟨0, 0, Nat.zero_le _, rfl, rfl⟩
  case round =>
    obtain ⟨k, n, hk, rfl, rfl⟩ := hrel
    by_cases hlt : k < P.length
    · obtain ⟨X1, o1, rfl, a1⟩ := A1.out.atS hlt
      obtain ⟨X2, o2, rfl, a2⟩ := A2.out.atS hlt
      generalize P[k] = y at *
      go_wp2
      go_quiet (fail)
      go_wp2
      all_goals
        go_roundw
        case rel => exact ⟨k + 1, _, by omega, by go_num, rfl⟩
        case measure => simp [intOf]; omega
    · go_wp2
      go_ret
      exact ⟨rfl, n, rfl⟩
set_option maxHeartbeats 4000000 in
theorem waiters_same (w : World) (v1 v2 : Value) (P : List Wt) (h1 : GS KW w v1 P) (h2 : GS KW w v2 P) (hl : P.length ≤ 100000000000) :
    Calls Try.prog 17 #[v1, v2] w fun e w' => e = .returned (.bool true) ∧ ∃ n, w' = w.drewN n := by
  obtain ⟨p1, c1, rfl⟩ := h1.form
  obtain ⟨p2, c2, rfl⟩ := h2.form
  have A1 := hid h1
  have A2 := hid h2
  clear h1 h2
  go_enter Try.func17, Try.ntmps17
  go_wp2
  go_loopw [5] (fun i wr => ∃ k n : Nat, k ≤ P.length ∧ i = .int .i64 k ∧ wr = w.drewN n) (fun i _ => P.length - (intOf i).toNat)
  case atStart => exact ⟨0, 0, Nat.zero_le _, rfl, rfl⟩
  case round =>
    obtain ⟨k, n, hk, rfl, rfl⟩ := hrel
    by_cases hlt : k < P.length
    · obtain ⟨X1, o1, rfl, a0, a1, a2, a3⟩ := A1.out.atW hlt
      obtain ⟨X2, o2, rfl, b0, b1, b2, b3⟩ := A2.out.atW hlt
      generalize P[k] = y at *
      go_wp2
      go_quiet (fail)
      go_wp2
      all_goals
        go_roundw
        case rel => exact ⟨k + 1, _, by omega, by go_num, rfl⟩
        case measure => simp [intOf]; omega
    · go_wp2
      go_ret
      exact ⟨rfl, n, rfl⟩
/-- Blocks of kinds that no room has are as they were. -/
def Kp (w w' : World) : Prop := ∀ (x : Nat) (arr : Array Value) (t : TypeId), w.heap[x]? = some (Obj.cells arr t) → t ≠ 64 → t ≠ 69 → w'.heap[x]? = w.heap[x]?
theorem Kp.of_below {w w' : World} (h : Below w.heap.size w w') : Kp w w' := fun x _ _ hx _ _ => h.block x (lt_of_heap hx)
theorem Kp.trans {a b c : World} (h : Kp a b) (k : Kp b c) : Kp a c := fun x arr t hx h1 h2 => (k x arr t ((h x arr t hx h1 h2).trans hx) h1 h2).trans (h x arr t hx h1 h2)
theorem OwnG.kp {α : Type} {K : RK α} {w w' : World} {base : Nat} {v : Value} {l : List α} (h : OwnG K w base v l) (k : Kp w w') (h1 : K.ty ≠ 64) (h2 : K.ty ≠ 69) : OwnG K w' base v l := h.far (fun g hg => by
  obtain ⟨cur, hc⟩ := h.ty hg
  exact k g cur _ hc h1 h2)
/-- A room behind a call of it. -/
structure RQ (base r m : Nat) (wk : World) (L : List Wc) (c : Nat) (w' : World) : Prop where
  rx : ∃ f, RX w' base r m L c f
  bl : Below base wk w'
  kp : Kp wk w'
theorem RX.rq {w w' : World} {base r m : Nat} {L L' : List Wc} {c c' : Nat} {f : ByteArray → Option Value} (h : RX w base r m L c f) (k : RR w base r m f L' c' w') : RQ base r m w L' c' w' := by
  obtain ⟨⟨f', h1, _⟩, h3⟩ := k
  refine ⟨⟨f', h1⟩, ⟨h3.os, h3.tape, h3.output, h3.size, fun x hx => h3.block x ?_ (fun hf => ?_)⟩, fun x arr t hx h4 h5 => h3.block x (lt_of_heap hx) (h.notfp hx h4 h5)⟩
  · have := h.lt (Or.inl rfl); omega
  · have := (h.lt hf).1; omega
theorem RX.rqb {w w' : World} {base r m : Nat} {L : List Wc} {c : Nat} {f : ByteArray → Option Value} (h : RX w base r m L c f) (k : Below w.heap.size w w') : RQ base r m w L c w' := h.rq (h.rr k)
end Go.Proofs.Ytofdfofpdfaimaa
