/- Depend: New, Clone. -/
import Derived.Test.YtkhcinpcoabphaaDb2
import Derived.Test.YtkhcinpcoabphaaLaws
import Derived.Deep.WholeRow
namespace Go.Proofs.Ytkhcinpcoabphaa
open Go.RowKit

theorem zeroW : Try.zeroCells51 = (webL webO).toArray := by kernel_rfl
set_option maxHeartbeats 2000000 in
theorem new_any (w : World) : Calls Try.prog 5 #[] w fun e w' => e = .returned (.pointer (some ⟨w.heap.size, 0, none⟩)) ∧ WX w' w.heap.size webO ∧ Below w.heap.size w w' := by
  go_enter Try.func5, Try.ntmps5
  go_wp2
  go_ret
  refine ⟨rfl, ?_, bal _ _⟩
  unfold WX
  rw [heap_alloc_new, zeroW]
theorem webL_len {X : Wb} (hi : WI X) : (webL X).length = 1153 := by
  unfold webL; rw [List.length_append, List.length_append, flat3, flat3, hi.lr, hi.lw]; rfl
theorem tiL_one (l : List Ti) : ∀ v ∈ l.flatMap tiL, v.oneCell' = true := fun v hv => by
  obtain ⟨t, _, ht⟩ := List.mem_flatMap.1 hv
  exact KT_ok.one t v ht
theorem webL_one (X : Wb) : (webL X).toArray.all (·.oneCell') = true := by
  rw [Array.all_eq_true_iff_forall_mem]
  intro v hv
  rw [List.mem_toArray] at hv
  unfold webL at hv
  rcases List.mem_append.1 hv with hv | hv
  · rcases List.mem_append.1 hv with hv | hv
    · exact tiL_one _ v hv
    · exact tiL_one _ v hv
  · rw [List.mem_singleton] at hv; subst hv; rfl
theorem sizeW : (Try.prog.info? 51).map (·.size) = some 1153 := by kernel_rfl
theorem zeroS : Try.zeroCells51.size = 1153 := by kernel_rfl
set_option maxHeartbeats 2000000 in
theorem clone_any (w : World) (b : Nat) (X : Wb) (h : WX w b X) (hi : WI X) : Calls Try.prog 20 #[.pointer (some ⟨b, 0, none⟩)] w fun e w' => e = .returned (.pointer (some ⟨w.heap.size, 0, none⟩)) ∧ WX w' w.heap.size X ∧ Below w.heap.size w w' := by
  have hl := h.lt
  have HC : Hid (∀ j v, (webL X).toArray.toList[j]? = some v → w.cell? ⟨b, j, none⟩ = some v) := fun j v hv => by rw [h.cell]; simpa using hv
  have HN : Hid ((webL X).toArray.size = 1153) := by show _ = _; simp [webL_len hi]
  have H1 := hid (webL_one X)
  have HX : Hid (∀ W : World, (W.alloc (.cells (webL X).toArray 51)).heap[W.heap.size]? = some (.cells (webL X).toArray 51)) := fun W => heap_alloc_new W _
  clear h hi
  unfold WX
  generalize (webL X).toArray = A at *
  have HS : Hid ((Try.prog.info? 51).map (·.size) = some A.size) := by show _ = _; rw [HN.out]; exact sizeW
  have HZ : Hid (Try.zeroCells51.size = A.size) := by show _ = _; rw [HN.out]; exact zeroS
  go_enter Try.func20, Try.ntmps20
  go_wp2_with (first | (refine wpList_load_cells rfl 51 (.tmp 5) rfl b rfl A _ HC.out Try.underlying51 rfl HS.out ?_) | (refine wpList_store_row rfl 51 (.tmp 3) (.tmp 6) rfl w.heap.size A rfl rfl 51 _ (heap_alloc_new w _) HS.out HZ.out H1.out ?_))
  rw [World.setRow_alloc_new]
  go_ret
  exact ⟨rfl, HX.out w, bal _ _⟩
end Go.Proofs.Ytkhcinpcoabphaa
