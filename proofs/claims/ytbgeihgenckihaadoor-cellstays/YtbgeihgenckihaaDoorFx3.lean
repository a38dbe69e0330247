/- Failures, the reference: words, crack. -/
import Derived.Test.YtbgeihgenckihaaDoorFx2
import Derived.Deep.QuietTactic
import Derived.BigQuiet
import Derived.BigRegion
import Derived.Deep.RegionLaw
import Derived.Deep.RegionWith
namespace Go.Proofs.YtbgeihgenckihaaDoor
open Go.RowKit

set_option maxHeartbeats 1000000 in
theorem rwords_any (w : World) :
    Calls Tryd.prog 76 #[] w fun e w' => e = .returned (.slice (some ⟨w.heap.size, 0, none⟩) wd.length 10) ∧ w' = w.alloc (.cells wdV 9) := by
  go_enter Tryd.func76, Tryd.ntmps76
  go_wp2
  go_ret
  exact ⟨rfl, rfl⟩
theorem wd_cells (w : World) : ∀ i, i < wd.length → (w.alloc (.cells wdV 9)).cell? ⟨w.heap.size, 0 + i, none⟩ = some (.string (wd.getD i ByteArray.empty)) := by
  intro i hi
  rw [cell_of_row _ _ _ _ _ _ (heap_alloc_new w _), Nat.zero_add, wdV_at i hi]
  simp [hi]
def crR (c : Cr) : Bool :=
  if c.kind = 1 ∨ c.kind = 2 then decide (c.n = 0) && decide (c.text.size ≤ 4096)
  else if c.kind = 8 then decide (c.n = 0 ∨ c.n = 1) && decide (c.text.size ≤ 4096)
  else if c.kind = 3 then decide (c.n = 0) && inB wd c.text
  else if c.kind = 4 ∨ c.kind = 5 then decide (c.n = 0) && nameB c.text
  else if c.kind = 6 ∨ c.kind = 7 ∨ c.kind = 11 then decide (c.n = 0) && decide (c.text.size = 0)
  else if c.kind = 9 then decide (c.n = 1) && nameB c.text
  else if c.kind = 10 then decide (1 ≤ c.n) && decide (c.text.size = 0)
  else false
theorem crB_crR (c : Cr) : crB c = (crR c && decide (c.n ≤ 1024)) := by
  by_cases hk : 1 ≤ c.kind ∧ c.kind ≤ 11
  · have hkk : c.kind = 1 ∨ c.kind = 2 ∨ c.kind = 3 ∨ c.kind = 4 ∨ c.kind = 5 ∨ c.kind = 6 ∨ c.kind = 7 ∨ c.kind = 8 ∨ c.kind = 9 ∨ c.kind = 10 ∨ c.kind = 11 := by omega
    clear hk
    rcases hkk with e | e | e | e | e | e | e | e | e | e | e
    · have hB : crB c = (decide ((0 : Int) ≤ c.n ∧ c.n ≤ 0) && decide (c.text.size ≤ 4096)) := by unfold crB; rw [e]; rfl
      have hR : crR c = (decide (c.n = 0) && decide (c.text.size ≤ 4096)) := by unfold crR; simp [e]
      rw [hB, hR, Bool.eq_iff_iff]
      simp only [Bool.and_eq_true, decide_eq_true_eq]
      constructor
      · rintro ⟨a, x⟩; exact ⟨⟨by omega, x⟩, by omega⟩
      · rintro ⟨⟨a, x⟩, b⟩; exact ⟨by omega, x⟩
    · have hB : crB c = (decide ((0 : Int) ≤ c.n ∧ c.n ≤ 0) && decide (c.text.size ≤ 4096)) := by unfold crB; rw [e]; rfl
      have hR : crR c = (decide (c.n = 0) && decide (c.text.size ≤ 4096)) := by unfold crR; simp [e]
      rw [hB, hR, Bool.eq_iff_iff]
      simp only [Bool.and_eq_true, decide_eq_true_eq]
      constructor
      · rintro ⟨a, x⟩; exact ⟨⟨by omega, x⟩, by omega⟩
      · rintro ⟨⟨a, x⟩, b⟩; exact ⟨by omega, x⟩
    · have hB : crB c = (decide ((0 : Int) ≤ c.n ∧ c.n ≤ 0) && inB wd c.text) := by unfold crB; rw [e]; rfl
      have hR : crR c = (decide (c.n = 0) && inB wd c.text) := by unfold crR; simp [e]
      rw [hB, hR, Bool.eq_iff_iff]
      simp only [Bool.and_eq_true, decide_eq_true_eq]
      constructor
      · rintro ⟨a, x⟩; exact ⟨⟨by omega, x⟩, by omega⟩
      · rintro ⟨⟨a, x⟩, b⟩; exact ⟨by omega, x⟩
    · have hB : crB c = (decide ((0 : Int) ≤ c.n ∧ c.n ≤ 0) && nameB c.text) := by unfold crB; rw [e]; rfl
      have hR : crR c = (decide (c.n = 0) && nameB c.text) := by unfold crR; simp [e]
      rw [hB, hR, Bool.eq_iff_iff]
      simp only [Bool.and_eq_true, decide_eq_true_eq]
      constructor
      · rintro ⟨a, x⟩; exact ⟨⟨by omega, x⟩, by omega⟩
      · rintro ⟨⟨a, x⟩, b⟩; exact ⟨by omega, x⟩
    · have hB : crB c = (decide ((0 : Int) ≤ c.n ∧ c.n ≤ 0) && nameB c.text) := by unfold crB; rw [e]; rfl
      have hR : crR c = (decide (c.n = 0) && nameB c.text) := by unfold crR; simp [e]
      rw [hB, hR, Bool.eq_iff_iff]
      simp only [Bool.and_eq_true, decide_eq_true_eq]
      constructor
      · rintro ⟨a, x⟩; exact ⟨⟨by omega, x⟩, by omega⟩
      · rintro ⟨⟨a, x⟩, b⟩; exact ⟨by omega, x⟩
    · have hB : crB c = (decide ((0 : Int) ≤ c.n ∧ c.n ≤ 0) && decide (c.text.size = 0)) := by unfold crB; rw [e]; rfl
      have hR : crR c = (decide (c.n = 0) && decide (c.text.size = 0)) := by unfold crR; simp [e]
      rw [hB, hR, Bool.eq_iff_iff]
      simp only [Bool.and_eq_true, decide_eq_true_eq]
      constructor
      · rintro ⟨a, x⟩; exact ⟨⟨by omega, x⟩, by omega⟩
      · rintro ⟨⟨a, x⟩, b⟩; exact ⟨by omega, x⟩
    · have hB : crB c = (decide ((0 : Int) ≤ c.n ∧ c.n ≤ 0) && decide (c.text.size = 0)) := by unfold crB; rw [e]; rfl
      have hR : crR c = (decide (c.n = 0) && decide (c.text.size = 0)) := by unfold crR; simp [e]
      rw [hB, hR, Bool.eq_iff_iff]
      simp only [Bool.and_eq_true, decide_eq_true_eq]
      constructor
      · rintro ⟨a, x⟩; exact ⟨⟨by omega, x⟩, by omega⟩
      · rintro ⟨⟨a, x⟩, b⟩; exact ⟨by omega, x⟩
    · have hB : crB c = (decide ((0 : Int) ≤ c.n ∧ c.n ≤ 1) && decide (c.text.size ≤ 4096)) := by unfold crB; rw [e]; rfl
      have hR : crR c = (decide (c.n = 0 ∨ c.n = 1) && decide (c.text.size ≤ 4096)) := by unfold crR; simp [e]
      rw [hB, hR, Bool.eq_iff_iff]
      simp only [Bool.and_eq_true, decide_eq_true_eq]
      constructor
      · rintro ⟨a, x⟩; exact ⟨⟨by omega, x⟩, by omega⟩
      · rintro ⟨⟨a, x⟩, b⟩; exact ⟨by omega, x⟩
    · have hB : crB c = (decide ((1 : Int) ≤ c.n ∧ c.n ≤ 1) && nameB c.text) := by unfold crB; rw [e]; rfl
      have hR : crR c = (decide (c.n = 1) && nameB c.text) := by unfold crR; simp [e]
      rw [hB, hR, Bool.eq_iff_iff]
      simp only [Bool.and_eq_true, decide_eq_true_eq]
      constructor
      · rintro ⟨a, x⟩; exact ⟨⟨by omega, x⟩, by omega⟩
      · rintro ⟨⟨a, x⟩, b⟩; exact ⟨by omega, x⟩
    · have hB : crB c = (decide ((1 : Int) ≤ c.n ∧ c.n ≤ 1024) && decide (c.text.size = 0)) := by unfold crB; rw [e]; rfl
      have hR : crR c = (decide (1 ≤ c.n) && decide (c.text.size = 0)) := by unfold crR; simp [e]
      rw [hB, hR, Bool.eq_iff_iff]
      simp only [Bool.and_eq_true, decide_eq_true_eq]
      constructor
      · rintro ⟨a, x⟩; exact ⟨⟨by omega, x⟩, by omega⟩
      · rintro ⟨⟨a, x⟩, b⟩; exact ⟨by omega, x⟩
    · have hB : crB c = (decide ((0 : Int) ≤ c.n ∧ c.n ≤ 0) && decide (c.text.size = 0)) := by unfold crB; rw [e]; rfl
      have hR : crR c = (decide (c.n = 0) && decide (c.text.size = 0)) := by unfold crR; simp [e]
      rw [hB, hR, Bool.eq_iff_iff]
      simp only [Bool.and_eq_true, decide_eq_true_eq]
      constructor
      · rintro ⟨a, x⟩; exact ⟨⟨by omega, x⟩, by omega⟩
      · rintro ⟨⟨a, x⟩, b⟩; exact ⟨by omega, x⟩
  · have hB : crB c = false := by unfold crB isK; rw [decide_eq_false hk]; rfl
    have hR : crR c = false := by
      unfold crR
      rw [if_neg (by omega), if_neg (by omega), if_neg (by omega), if_neg (by omega), if_neg (by omega), if_neg (by omega), if_neg (by omega)]
    rw [hB, hR]; rfl
theorem below_drewN' {w w' : World} {B : Nat} (h : Below B w w') (n : Nat) : Below B w (w'.drewN n) := ⟨h.os, h.tape, h.output, h.size, h.block⟩
theorem str_empty {t : ByteArray} (h : t.size = 0) : t = ByteArray.empty := bytes_nil h
end Go.Proofs.YtbgeihgenckihaaDoor
