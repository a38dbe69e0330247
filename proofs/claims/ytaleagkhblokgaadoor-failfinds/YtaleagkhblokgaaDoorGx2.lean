/- Failures: around, with parts. -/
import Derived.Test.YtaleagkhblokgaaDoorGx1
namespace Go.Proofs.YtaleagkhblokgaaDoor
open Go.RowKit

/-- A crack behind its parts; or the one that says that it is too long. -/
def arL (k : Int) (t : ByteArray) (ll : List (List Cr)) : List Cr := if 1024 < 1 + ll.flatten.length then [⟨11, 0, ByteArray.empty⟩] else ll.flatten ++ [⟨k, ll.length, t⟩]
def flK (ll : List (List Cr)) (j : Nat) : List Cr := (ll.take j).flatten
theorem flK_zero (ll : List (List Cr)) : flK ll 0 = [] := by simp [flK]
theorem flK_succ {ll : List (List Cr)} {j : Nat} (h : j < ll.length) : flK ll (j + 1) = flK ll j ++ ll[j] := by
  unfold flK
  rw [List.take_add_one, List.getElem?_eq_getElem h, Option.toList_some, List.flatten_append]; simp
theorem flK_all {ll : List (List Cr)} {j : Nat} (h : ll.length ≤ j) : flK ll j = ll.flatten := by
  unfold flK; rw [List.take_of_length_le h]
theorem flK_len {ll : List (List Cr)} (h1 : ∀ x ∈ ll, x.length ≤ 1024) : ∀ j, j ≤ ll.length → (flK ll j).length ≤ j * 1024
  | 0, _ => by simp [flK_zero]
  | j + 1, hj => by
    rw [flK_succ (by omega), List.length_append]
    have := flK_len h1 j (by omega)
    have := h1 _ (List.getElem_mem (show j < ll.length by omega))
    omega
theorem ownC_one (w : World) (k n : Int) (t : ByteArray) : OwnC (w.alloc (.cells #[.int .i64 k, .int .i64 n, .string t] 55)) w.heap.size (.slice (some ⟨w.heap.size, 0, none⟩) 1 1) [⟨k, n, t⟩] :=
  ⟨rfl, Or.inr ⟨w.heap.size, 1, _, rfl, Nat.le_refl _, heap_alloc_new w _, Nat.le_refl _, by unfold maxLen; omega, rfl, rfl⟩⟩
set_option maxHeartbeats 4000000 in
set_option maxRecDepth 100000 in
theorem around_any (k : Int) (t : ByteArray) (w : World) (v : Value) (ll : List (List Cr)) (h : FS w v ll) (h1 : ∀ x ∈ ll, x.length ≤ 1024) (h2 : ll.length ≤ 4096) :
    Calls Tryd.prog 54 #[.int .i64 k, .string t, v] w fun e w' => ∃ p cap, e = .returned (.slice p (arL k t ll).length cap) ∧ OwnC w' w.heap.size (.slice p (arL k t ll).length cap) (arL k t ll) ∧ Below w.heap.size w w' := by
  obtain ⟨p, cap, rfl⟩ := h.form
  have HS : Hid (FS w (.slice p ll.length cap) ll) := h
  have HX : Hid (∀ j, j ≤ ll.length → (flK ll j).length ≤ j * 1024) := flK_len h1
  have HA : Hid (arL k t ll = if 1024 < 1 + ll.flatten.length then [⟨11, 0, ByteArray.empty⟩] else ll.flatten ++ [⟨k, ll.length, t⟩]) := rfl
  generalize arL k t ll = R at *
  clear h h1
  go_enter Tryd.func54, Tryd.ntmps54
  go_wp2
  go_loop [7, 15] (fun a b => ∃ j : Nat, j ≤ ll.length ∧ b = .int .i64 j ∧ a = .int .i64 ((1 + (flK ll j).length : Nat) : Int)) (fun _ b => ll.length - (intOf b).toNat)
  case atStart => exact ⟨0, Nat.zero_le _, rfl, by rw [flK_zero]; rfl⟩
  case round =>
    obtain ⟨j, hj, rfl, rfl⟩ := hrel
    have hb := HX.out j hj
    by_cases hlt : j < ll.length
    · obtain ⟨X, o, pu, cu, rfl, hX, hc, _⟩ := HS.out.at hlt
      have NX : Hid ((flK ll (j + 1)).length = (flK ll j).length + ll[j].length) := by show _ = _; rw [flK_succ hlt, List.length_append]
      have hb2 := HX.out (j + 1) hlt
      rw [NX.out] at hb2
      generalize (flK ll j).length = a at *
      generalize ll[j].length = b at *
      go_wp2
      go_round
      case rel => exact ⟨j + 1, by omega, by go_num, by rw [NX.out]; go_num⟩
      case measure => simp [intOf]; omega
    · rw [flK_all (by omega)] at hb ⊢
      obtain ⟨F, hF⟩ : ∃ F, F = ll.flatten := ⟨_, rfl⟩
      rw [← hF] at hb HA ⊢
      have HF : Hid (F = ll.flatten) := hF
      by_cases hbig : 1024 < 1 + F.length
      · have HR : Hid (R = [⟨11, 0, ByteArray.empty⟩]) := by show R = _; rw [HA.out, if_pos hbig]
        have hbig2 : ((1 + F.length : Nat) : Int) > 1024 := by omega
        clear HA hF HS
        go_wp2
        go_ret
        rw [HR.out]
        exact ⟨_, _, rfl, ownC_one w 11 0 ByteArray.empty, (Below.refl _ _).alloc (Nat.le_refl _) _⟩
      · have HR : Hid (R = F ++ [⟨k, ll.length, t⟩]) := by show R = _; rw [HA.out, if_neg hbig]
        have hnb : ¬ (1024 : Int) < 1 + (F.length : Int) := by omega
        clear HA hF
        go_wp2_with (at_make; refine make_cr _ rfl _ _ 23 rfl Tryd.underlying23 info_cr w.heap.size (1 + F.length) rfl rfl (by omega) (Nat.le_refl _) ?_; intro v2 w2 ho2 hb2)
        have O2 : Hid (OwnC w2 w.heap.size v2 []) := ho2
        have B2 : Hid (Below w.heap.size w w2) := hb2
        clear ho2 hb2
        go_loopw [10, 32] (fun a b wr => ∃ (j : Nat) (va : Value) (wk : World), j ≤ ll.length ∧ b = .int .i64 j ∧ va = a ∧ wk = wr ∧ Hid (OwnC wk w.heap.size va (flK ll j)) ∧ Hid (Below w.heap.size w wk)) (fun _ b _ => ll.length - (intOf b).toNat)
        case atStart => exact ⟨0, v2, w2, Nat.zero_le _, rfl, rfl, rfl, by rw [flK_zero]; exact O2, B2⟩
        case round =>
          obtain ⟨j, va, wr, hj2, rfl, rfl, rfl, HO, HB⟩ := hrel
          by_cases hlt2 : j < ll.length
          · obtain ⟨X, o, pu, cu, rfl, hX, hc, hcs⟩ := (HS.out.below HB.out).at hlt2
            have HC : Hid (CS wr (.slice pu ll[j].length cu) ll[j]) := hcs
            have hfj := HX.out (j + 1) hlt2
            have SU : Hid (flK ll (j + 1) = flK ll j ++ ll[j]) := flK_succ hlt2
            have HLN : Hid (((flK ll j).length + ll[j].length) * 32 ≤ 140737488355328) := by
              show ((flK ll j).length + ll[j].length) * 32 ≤ 140737488355328
              rw [SU.out, List.length_append] at hfj; omega
            have ZB : Hid (w.heap.size ≤ wr.heap.size) := HB.out.size
            clear hcs hfj
            go_wp2_with (at_builtin; refine append_crs rfl (.tmp 36) (.tmp 37) 23 rfl w.heap.size Tryd.underlying23 info_cr _ va _ (flK ll j) ll[j] rfl rfl HO.out HC.out HLN.out ZB.out ?_; intro v5 w5 ho5 hb5)
            go_roundw
            case rel => exact ⟨j + 1, v5, w5, by omega, by go_num, rfl, rfl, SU.out ▸ ho5, HB.out.trans hb5⟩
            case measure => simp [intOf]; omega
          · have HO2 : Hid (OwnC wr w.heap.size va F) := by
              show OwnC _ _ _ _
              rw [HF.out, ← flK_all (j := j) (by omega)]; exact HO.out
            have HLN : Hid ((F.length + 1) * 32 ≤ 140737488355328) := by show (F.length + 1) * 32 ≤ 140737488355328; omega
            have ZB : Hid (w.heap.size ≤ wr.heap.size) := HB.out.size
            clear HO
            go_wp2_with (at_builtin; refine append_cr rfl (.tmp 40) (.tmp 46) 23 rfl w.heap.size Tryd.underlying23 info_cr _ _ _ va F ⟨k, ll.length, t⟩ _ rfl HO2.out _ rfl rfl rfl HLN.out ZB.out ?_; intro v8 w8 ho8 hb8)
            go_ret
            rw [HR.out]
            obtain ⟨p8, c8, rfl⟩ := ho8.form
            exact ⟨p8, c8, rfl, ho8, HB.out.trans hb8⟩
end Go.Proofs.YtaleagkhblokgaaDoor
