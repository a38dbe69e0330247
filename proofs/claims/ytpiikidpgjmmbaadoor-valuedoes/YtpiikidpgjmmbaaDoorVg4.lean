/- Values: the operations' words, both. -/
import Derived.Test.YtpiikidpgjmmbaaDoorVf1
namespace Go.Proofs.YtpiikidpgjmmbaaDoor
open Go.RowKit

/-- The words, by kinds. -/
def vw : List ByteArray := [⟨#[]⟩, ⟨#[]⟩, ⟨#[]⟩, ⟨#[]⟩, ⟨#[]⟩, ⟨#[108, 105, 115, 116]⟩, ⟨#[97, 100, 100]⟩, ⟨#[115, 117, 98]⟩, ⟨#[109, 117, 108]⟩, ⟨#[106, 111, 105, 110]⟩, ⟨#[105, 116, 101, 109]⟩, ⟨#[115, 105, 122, 101]⟩, ⟨#[108, 101, 115, 115]⟩, ⟨#[115, 97, 109, 101]⟩, ⟨#[105, 102]⟩, ⟨#[]⟩, ⟨#[102, 97, 105, 108]⟩, ⟨#[112, 97, 110, 105, 99]⟩]
theorem vw_len : vw.length = 18 := by decide
def VWat (w : World) : Prop := ∀ i, i < vw.length → w.cell? ⟨0, i, none⟩ = some (.string (vw.getD i ByteArray.empty))
theorem VWat.below {w w' : World} (h : VWat w) (hb : Below w.heap.size w w') : VWat w' := by
  intro i hi
  have := h i hi
  rw [hb.cell (p := ⟨0, i, none⟩) (block_lt_of_cell this)]; exact this
def wordF (k : Int) : ByteArray := if 0 ≤ k ∧ k < 18 then vw.getD k.toNat ByteArray.empty else ByteArray.empty
theorem wordF_out {k : Int} (h : k < 0 ∨ 18 ≤ k) : wordF k = ByteArray.empty := by unfold wordF; rw [if_neg (by omega)]
set_option maxHeartbeats 4000000 in
theorem vword_any (k : Int) (w : World) (h : VWat w) : Calls Tryd.prog 11 #[.int .i64 k] w fun e w' => e = .returned (.string (wordF k)) ∧ w' = w := by
  by_cases h1 : k < 0
  · rw [wordF_out (Or.inl h1)]
    go_enter Tryd.func11, Tryd.ntmps11
    go_wp2_with fail
    go_ret
    exact ⟨rfl, rfl⟩
  · by_cases h2 : k ≥ 18
    · rw [wordF_out (Or.inr h2)]
      go_enter Tryd.func11, Tryd.ntmps11
      go_wp2_with fail
      go_ret
      exact ⟨rfl, rfl⟩
    · obtain ⟨i, rfl⟩ : ∃ i : Nat, k = i := ⟨k.toNat, by omega⟩
      have hc := h i (by rw [vw_len]; omega)
      have HF : Hid (wordF (i : Int) = vw.getD i ByteArray.empty) := by show _ = _; unfold wordF; rw [if_pos (by omega)]; simp
      rw [HF.out]
      generalize vw.getD i ByteArray.empty = s at *
      clear HF h
      have hi : i < 18 := by omega
      have hiI : (i : Int) < 18 := by omega
      go_enter Tryd.func11, Tryd.ntmps11
      go_wp2_with fail
      go_ret
      exact ⟨rfl, rfl⟩
set_option maxHeartbeats 4000000 in
theorem rword_any (k : Int) (w : World) : Calls Tryd.prog 12 #[.int .i64 k] w fun e w' => e = .returned (.string (wordF k)) ∧ w' = w := by
  by_cases h5 : k = 5
  · subst h5
    go_enter Tryd.func12, Tryd.ntmps12
    go_wp2_with fail
    go_ret
    exact ⟨by kernel_rfl, rfl⟩
  by_cases h6 : k = 6
  · subst h6
    go_enter Tryd.func12, Tryd.ntmps12
    go_wp2_with fail
    go_ret
    exact ⟨by kernel_rfl, rfl⟩
  by_cases h7 : k = 7
  · subst h7
    go_enter Tryd.func12, Tryd.ntmps12
    go_wp2_with fail
    go_ret
    exact ⟨by kernel_rfl, rfl⟩
  by_cases h8 : k = 8
  · subst h8
    go_enter Tryd.func12, Tryd.ntmps12
    go_wp2_with fail
    go_ret
    exact ⟨by kernel_rfl, rfl⟩
  by_cases h9 : k = 9
  · subst h9
    go_enter Tryd.func12, Tryd.ntmps12
    go_wp2_with fail
    go_ret
    exact ⟨by kernel_rfl, rfl⟩
  by_cases h10 : k = 10
  · subst h10
    go_enter Tryd.func12, Tryd.ntmps12
    go_wp2_with fail
    go_ret
    exact ⟨by kernel_rfl, rfl⟩
  by_cases h11 : k = 11
  · subst h11
    go_enter Tryd.func12, Tryd.ntmps12
    go_wp2_with fail
    go_ret
    exact ⟨by kernel_rfl, rfl⟩
  by_cases h12 : k = 12
  · subst h12
    go_enter Tryd.func12, Tryd.ntmps12
    go_wp2_with fail
    go_ret
    exact ⟨by kernel_rfl, rfl⟩
  by_cases h13 : k = 13
  · subst h13
    go_enter Tryd.func12, Tryd.ntmps12
    go_wp2_with fail
    go_ret
    exact ⟨by kernel_rfl, rfl⟩
  by_cases h14 : k = 14
  · subst h14
    go_enter Tryd.func12, Tryd.ntmps12
    go_wp2_with fail
    go_ret
    exact ⟨by kernel_rfl, rfl⟩
  by_cases h16 : k = 16
  · subst h16
    go_enter Tryd.func12, Tryd.ntmps12
    go_wp2_with fail
    go_ret
    exact ⟨by kernel_rfl, rfl⟩
  by_cases h17 : k = 17
  · subst h17
    go_enter Tryd.func12, Tryd.ntmps12
    go_wp2_with fail
    go_ret
    exact ⟨by kernel_rfl, rfl⟩
  have HF : Hid (wordF k = ByteArray.empty) := by
    show _ = _
    by_cases h : k < 0 ∨ 18 ≤ k
    · exact wordF_out h
    · have : k = 0 ∨ k = 1 ∨ k = 2 ∨ k = 3 ∨ k = 4 ∨ k = 15 := by omega
      rcases this with e | e | e | e | e | e <;> subst e <;> rfl
  rw [HF.out]
  clear HF
  have b5 : (k == 5) = false := by simp [h5]
  have b6 : (k == 6) = false := by simp [h6]
  have b7 : (k == 7) = false := by simp [h7]
  have b8 : (k == 8) = false := by simp [h8]
  have b9 : (k == 9) = false := by simp [h9]
  have b10 : (k == 10) = false := by simp [h10]
  have b11 : (k == 11) = false := by simp [h11]
  have b12 : (k == 12) = false := by simp [h12]
  have b13 : (k == 13) = false := by simp [h13]
  have b14 : (k == 14) = false := by simp [h14]
  have b16 : (k == 16) = false := by simp [h16]
  have b17 : (k == 17) = false := by simp [h17]
  go_enter Tryd.func12, Tryd.ntmps12
  go_wp2_with fail
  go_ret
  exact ⟨rfl, rfl⟩
end Go.Proofs.YtpiikidpgjmmbaaDoor
