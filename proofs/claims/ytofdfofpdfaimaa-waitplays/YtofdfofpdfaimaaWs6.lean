/- Waiting: slices.Clone of a queue. -/
import Derived.Test.YtofdfofpdfaimaaWs5
namespace Go.Proofs.Ytofdfofpdfaimaa
open Go.RowKit Go.Maps

set_option maxHeartbeats 4000000 in
set_option maxRecDepth 100000 in
theorem cloneQ_any (w : World) (v : Value) (l : List Wc) (h : GS KC w v l) (h0 : 0 < l.length) (hl : l.length ≤ 10000) :
    Calls Try.prog 27 #[v] w fun e w' => ∃ p cap, e = .returned (.slice p l.length cap) ∧ OwnG KC w' w.heap.size (.slice p l.length cap) l ∧ Below w.heap.size w w' := by
  have EQ : ∀ a l c w, Sem.run Try.prog (binOp .eql 66 (.slice a l c) (.slice none 0 0)) w = .ok (.bool a.isNone) w := fun a l c w => by
    simp only [binOp]
    simp [run_equal_slice_nil w 66 _ a l c Try.underlying66]
  obtain ⟨p, cap, rfl⟩ := h.form
  obtain ⟨X, o, e1, _⟩ := GS.at h h0
  obtain rfl : p = some ⟨X, o, none⟩ := e1
  have H0 : Hid (GS KC (w.alloc (.cells #[] 69)) (.slice (some ⟨X, o, none⟩) l.length cap) l) := h.below (bal w _)
  have E0 : Hid (OwnG KC (w.alloc (.cells #[] 69)) w.heap.size (.slice (some ⟨w.heap.size, 0, none⟩) 0 0) []) := OwnG.empty KC w
  have HL : Hid ((([] : List Wc).length + l.length) * KC.B ≤ 140737488355328) := by show (0 + l.length) * 56 ≤ _; omega
  clear h
  go_enter Try.func27, Try.ntmps27
  go_wp2_with (at_builtin; refine append_gs KC KC_ok rfl (.tmp 5) (.tmp 6) 66 rfl w.heap.size Try.underlying66 _ _ (.slice (some ⟨X, o, none⟩) l.length cap) [] l rfl rfl E0.out H0.out HL.out (by simp) ?_; intro v8 w8 ho8 hb8 _)
  go_ret
  rw [List.nil_append] at ho8
  obtain ⟨p, cap2, hv, _⟩ := ho8.form
  subst hv
  exact ⟨p, cap2, rfl, ho8, (bal w _).trans hb8⟩
end Go.Proofs.Ytofdfofpdfaimaa
