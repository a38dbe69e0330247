/- Names: isBound, isTooDeep, Check. -/
import Derived.Test.YtmkgcgdfgagdlaaDoorPz5
namespace Go.Proofs.YtmkgcgdfgagdlaaDoor
open Go.RowKit

theorem walk_ne {l : List Opn} (h : walkN 0 (nsO l) = some 1) : 0 < l.length := by
  cases l with
  | nil => simp [nsO, walkN] at h
  | cons a r => simp
set_option maxHeartbeats 4000000 in
theorem isBound_any (v : Value) (l : List Opn) (w : World) (h : OS w v l) (hwh : wholeB l = true) (hlm : l.length ≤ 256) :
    Calls Tryd.prog 44 #[v] w fun e w' => e = .returned (.bool (boundB l)) ∧ Below w.heap.size w w' := by
  obtain ⟨ha, hw⟩ := wholeB_ok hwh
  have hne := walk_ne hw
  obtain ⟨wa, hwa⟩ : ∃ wa, wa = (w.alloc (.cells #[v] 23)).alloc (.cells #[.slice none 0 0] 49) := ⟨_, rfl⟩
  have AL : Below w.heap.size w wa := by rw [hwa]; exact ((Below.refl _ _).alloc (Nat.le_refl _) _).alloc (by simp) _
  have hza : wa.heap.size = w.heap.size + 2 := by rw [hwa]; simp
  have b0 : wa.heap[w.heap.size]? = some (.cells #[v] 23) := by
    rw [hwa, ((Below.refl (w.heap.size + 1) (w.alloc (.cells #[v] 23))).alloc (by simp) _).block _ (by omega)]
    exact heap_alloc_new _ _
  have b1 : wa.heap[w.heap.size + 1]? = some (.cells #[.slice none 0 0] 49) := by
    have := heap_alloc_new (w.alloc (.cells #[v] 23)) (.cells #[.slice none 0 0] 49)
    rw [hwa]; simpa using this
  have EW := eachWhole_any v l 80 #[.pointer (some ⟨w.heap.size, 0, none⟩), .pointer (some ⟨w.heap.size + 1, 0, none⟩)] wa (UB l (w.heap.size + 1) (w.heap.size + 2)) (fun x => x = w.heap.size + 1 ∨ (Value.slice none 0 0).ownBlock = some x) (UB_vis _ _ _) (h.below AL) (fun x hx e => by
      have := h.lt hne hx
      rcases e with e | e
      · omega
      · simp [Value.ownBlock] at e) hw hlm ⟨.slice none 0 0, b1, OwnG.nil _ _ _, by omega, fun x => Iff.rfl⟩ Tryd.call80 (fun k F wk vp hk hI hP hap hfn hbt => by
      have hsz := hbt.size
      have be : wk.heap[w.heap.size]? = some (.cells #[v] 23) := (hbt.block w.heap.size (by omega) (fun e => by
        rcases e with e | e
        · omega
        · simp [Value.ownBlock] at e)).trans b0
      refine boundV_any l k (w.heap.size + 1) w.heap.size (w.heap.size + 2) F vp v wk hwh hk hlm hI (by omega) (box_cell be) hP ((h.below AL).blk hsz (fun x hx _ => hbt.block x (by have := h.lt hne hx; omega) (fun e => by
        have := h.lt hne hx
        rcases e with e | e
        · omega
        · simp [Value.ownBlock] at e)))
      )
  have EW2 : Hid (Calls Tryd.prog 64 #[v, .func (.func 80) #[] #[.pointer (some ⟨w.heap.size, 0, none⟩), .pointer (some ⟨w.heap.size + 1, 0, none⟩)]] wa fun e w' => e = .returned (.tuple #[]) ∧ (∃ p c, w'.cell? ⟨w.heap.size + 1, 0, none⟩ = some (.slice p (unbK l l.length).length c)) ∧ Below w.heap.size w w') := by
    refine Calls.mono EW ?_
    rintro e w' ⟨rfl, F', ⟨vu, u1, u2, _⟩, _, hbt⟩
    obtain ⟨p, c, rfl, _⟩ := u2.form
    refine ⟨rfl, ⟨p, c, box_cell u1⟩, AL.trans ⟨hbt.os, hbt.tape, hbt.output, hbt.size, fun x hx => hbt.block x (by omega) (fun e => by
        rcases e with e | e
        · omega
        · simp [Value.ownBlock] at e)⟩⟩
  have HB : Hid (boundB l = decide ((unbK l l.length).length = 0)) := rfl
  have hmf : ∀ (fn : Fn) (first cap : Array Value) (w : World), (Instr.makeFunc fn first cap).run Tryd.prog w = .ok (.func fn first cap) w := fun _ _ _ _ => rfl
  generalize boundB l = r at *
  generalize (unbK l l.length).length = U at *
  subst hwa
  obtain ⟨p, cap, rfl⟩ := h.form
  clear h EW b1 hw ha AL hza b0
  go_enter Tryd.func44, Tryd.ntmps44
  go_wp2_with fail
  refine Calls.mono EW2.out ?_
  rintro e w1 ⟨rfl, ⟨p1, c1, hc⟩, hb1⟩
  have B1 : Hid (Below w.heap.size w w1) := hb1
  clear hb1 EW2
  go_wp2_with fail
  go_ret
  exact ⟨ret_bool (by rw [HB.out]; by_cases e : U = 0 <;> simp [e]), B1.out⟩
end Go.Proofs.YtmkgcgdfgagdlaaDoor
