/- slices.Repeat of one number. -/
import Derived.Test.YthhjknpfaghfbaaYc1
import Derived.Laws.CopyOwn
import Derived.Laws.BitsLemmas
import Derived.Laws.Bits64
import Derived.Deep.RegionLaw
namespace Go.Proofs.Ythhjknpfaghfbaa
open Go.RowKit

theorem wrap_u (n : Nat) (hn : n ≤ 100000) : IntKind.u64.wrap (n : Int) = (n : Int) := by rw [IntKind.wrap_u64]; omega
theorem and_mask (n : Nat) (hn : n < 4294967296) : bits .and .u64 (n : Int) 4294967295 = (n : Int) := by
  have h := bits_mask .u64 63 (by decide) (fun n h₀ h₁ => by rw [IntKind.wrap_u64]; omega) 32 (by decide) (n : Int) (by omega) (by omega)
  have e : ((2 : Int) ^ 32 - 1) = 4294967295 := by decide
  have e2 : ((2 : Int) ^ 32) = 4294967296 := by decide
  rw [e, e2] at h
  rw [h]
  omega
set_option maxRecDepth 100000 in
set_option maxHeartbeats 4000000 in
theorem mul64_one (w : World) (n : Nat) (hn : n ≤ 100000) : Calls Try.prog 81 #[.int .u64 1, .int .u64 n] w fun e w' => e = .returned (.tuple #[.int .u64 0, .int .u64 n]) ∧ w' = w := by
  have m1 : bits .and .u64 1 4294967295 = 1 := by decide
  have m2 := and_mask n (by omega)
  have m0 : bits .and .u64 0 4294967295 = 0 := by decide
  have d1 : (n : Int) / 4294967296 = 0 := by omega
  have d0 : (0 : Int) / 4294967296 = 0 := by decide
  have w0 : IntKind.u64.wrap 0 = 0 := by decide
  have wn := wrap_u n hn
  go_enter Try.func81, Try.ntmps81
  go_wp2
  go_ret2
  exact ⟨rfl, rfl⟩
theorem mul_one (w : World) (n : Nat) (hn : n ≤ 100000) : Calls Try.prog 67 #[.int .u64 1, .int .u64 n] w fun e w' => e = .returned (.tuple #[.int .u64 0, .int .u64 n]) ∧ w' = w := by
  have M := mul64_one w n hn
  go_enter Try.func67, Try.ntmps67
  go_wp2_with (first | (go_at_call 81; refine M.mono ?_; rintro e w' ⟨rfl, rfl⟩))
  go_ret2
  exact ⟨rfl, rfl⟩
/-- So many of one number. -/
theorem KI_size : (Try.prog.info? 3).map (·.size) = some 1 := by kernel_rfl
theorem own_full {w : World} {base g n : Nat} {l : List Int} (h : OwnG KI w base (.slice (some ⟨g, 0, none⟩) n n) l) : w.heap[g]? = some (.cells (l.map fun i => Value.int .i64 i).toArray KI.ty) := by
  obtain ⟨h1, h2⟩ := h
  rcases h2 with ⟨h2, _⟩ | ⟨g', cp, cur, e1, e2, e3, e4, e5, e6, e7⟩
  · cases h2
  · injection e1 with e1 e8 e9
    injection e1 with e1
    injection e1 with e1 _ _
    subst e1 e9
    have e6' : cur.size = n := by rw [e6]; exact Nat.mul_one _
    rw [KI_flat] at e7
    have e8' : l.length * KI.W = cur.toList.length := by rw [← e8, Array.length_toList, e6']; exact Nat.mul_one _
    rw [e8', List.take_length] at e7
    rw [e3, ← e7]
theorem own_of {w : World} {base g : Nat} {l : List Int} (h : w.heap[g]? = some (.cells (l.map fun i => Value.int .i64 i).toArray KI.ty)) (hb : base ≤ g) (hl : l.length ≤ maxLen) : OwnG KI w base (.slice (some ⟨g, 0, none⟩) l.length l.length) l := by
  refine ⟨RK.flat_len KI_ok.len l, Or.inr ⟨g, l.length, _, rfl, hb, h, Nat.le_refl _, hl, ?_, ?_⟩⟩
  · show (l.map _).toArray.size = l.length * 1
    simp
  · show List.take (l.length * 1) _ = _
    rw [Nat.mul_one, KI_flat]
    exact List.take_of_length_le (by simp)
/-- The first k stand. -/
def rpL (x : Int) (n k : Nat) : List Int := List.replicate k x ++ List.replicate (n - k) 0
structure RPT (w : World) (g n : Nat) (x : Int) (k : Nat) (W : World) : Prop where
  bl : Below w.heap.size w W
  row : W.heap[g]? = some (.cells ((rpL x n k).map fun i => Value.int .i64 i).toArray KI.ty)
theorem rp_len {x : Int} {n k : Nat} (h : k ≤ n) : (rpL x n k).length = n := by unfold rpL; simp; omega
theorem rp_splice {x : Int} {n k j : Nat} : splice ((rpL x n k).map fun i => Value.int .i64 i) k (List.replicate j (.int .i64 x)) = (rpL x n (k + j)).map fun i => Value.int .i64 i := by
  unfold splice rpL
  simp only [List.map_append, List.map_replicate]
  rw [List.take_left' (by simp), List.drop_append, List.length_replicate, List.drop_eq_nil_of_le (by simp), List.nil_append, List.drop_replicate]
  rw [← List.append_assoc, List.replicate_append_replicate]
  congr 2
  simp
  omega
set_option maxRecDepth 100000 in
set_option maxHeartbeats 8000000 in
theorem repeat_any (w : World) (X o c : Nat) (x : Int) (n : Nat) (hn : n ≤ 100000) (h0 : w.cell? ⟨X, o, none⟩ = some (.int .i64 x)) (hX : X < w.heap.size) : Calls Try.prog 46 #[.slice (some ⟨X, o, none⟩) 1 c, .int .i64 n] w fun e w' => ∃ g, e = .returned (.slice (some ⟨g, 0, none⟩) n n) ∧ OwnG KI w' w.heap.size (.slice (some ⟨g, 0, none⟩) n n) (List.replicate n x) ∧ Below w.heap.size w w' := by
  have M := mul_one w n hn
  have c1 : IntKind.u64.wrap 1 = 1 := by decide
  have cn := wrap_u n hn
  have gn : ¬ (9223372036854775807 : Int) < (n : Int) := by omega
  have ni : IntKind.i64.wrap (n : Int) = (n : Int) := IntWalk.i64_in _ (by omega)
  have nn : ¬ (n : Int) < 0 := by omega
  go_enter Try.func46, Try.ntmps46
  go_upto_region 7 with (first
    | (go_at_call 67; refine M.mono ?_; rintro e w' ⟨rfl, hw⟩; rw [hw]; clear hw)
    | (refine make_g KI KI_ok 0 rfl rfl _ rfl (.tmp 29) (.tmp 29) 25 rfl Try.underlying25 n rfl rfl (by omega) (by decide) ?_; intro w1 ho1 hb1; have O1 := hid ho1; have B1 := hid hb1; clear ho1 hb1))
  have hg1 := own_full O1.out
  have e0 : (List.replicate n (0 : Int)) = rpL x n 0 := by unfold rpL; simp
  rw [e0] at hg1
  obtain ⟨g, hg⟩ : ∃ g, g = w.heap.size := ⟨_, rfl⟩
  have R0 : Hid (RPT w g n x 0 w1) := ⟨B1.out, by rw [hg]; exact hg1⟩
  have h01 : w1.cell? ⟨X, o, none⟩ = some (.int .i64 x) := (B1.out.cell (p := ⟨X, o, none⟩) hX).trans h0
  have GB : Hid (w.heap.size ≤ g) := by show _ ≤ _; omega
  have FIN : Hid (∀ W, RPT w g n x n W → OwnG KI W w.heap.size (.slice (some ⟨g, 0, none⟩) n n) (List.replicate n x) ∧ Below w.heap.size w W) := fun W h => by
    have e9 : rpL x n n = List.replicate n x := by unfold rpL; simp
    have h9 := h.row
    rw [e9] at h9
    have h8 := own_of h9 GB.out (by rw [List.length_replicate]; unfold maxLen; omega)
    rw [List.length_replicate] at h8
    exact ⟨h8, h.bl⟩
  rw [← hg]
  clear hg1 e0 O1 B1 hg M
  by_cases hz : n = 0
  · subst hz
    have F0 := FIN.out w1 R0.out
    clear FIN
    go_wp2_with (refine wpList_copy_nothing rfl (.tmp 31) (.tmp 32) 25 25 rfl 3 Try.underlying25 KI_size _ _ _ _ _ _ rfl rfl (by decide) ?_)
    go_loopw [8] (fun v8 wr => v8 = .int .i64 0 ∧ wr = w1) (fun _ _ => 0)
    case atStart => exact ⟨rfl, rfl⟩
    case round =>
      obtain ⟨rfl, rfl⟩ := hrel
      go_wp2_with fail
      go_ret
      exact ⟨g, rfl, F0⟩
  · have hn1 : 1 ≤ n := by omega
    have R1 : Hid (∀ w', Hid (w'.heap[g]? = some (.cells (splice ((rpL x n 0).map fun i => Value.int .i64 i) 0 (List.replicate 1 (.int .i64 x))).toArray KI.ty (0, 0))) → Below w.heap.size w w' → RPT w g n x 1 w') := fun w' h1 h2 => ⟨h2, by have := h1.out; rw [rp_splice] at this; exact this⟩
    go_wp2_with (refine wpList_copy_splice rfl (.tmp 31) (.tmp 32) 25 25 rfl 3 Try.underlying25 KI_size (some ⟨g, 0, none⟩) (some ⟨X, o, none⟩) n n 1 c rfl rfl g 0 ((rpL x n 0).map fun i => Value.int .i64 i) KI.ty R0.out.row (List.replicate 1 (.int .i64 x)) (by rw [List.length_replicate]; exact (Nat.min_eq_left hn1).symm) (fun _ => ⟨rfl, ⟨X, o, none⟩, rfl, fun j v hj => by
        rw [List.getElem?_replicate] at hj
        split at hj
        · rename_i hj1
          obtain rfl : j = 0 := by omega
          injection hj with hj
          rw [← hj]
          exact h01
        · cases hj⟩) (by rw [List.length_map, rp_len (Nat.zero_le _), List.length_replicate]; omega) (fun v hv => by rw [List.mem_replicate] at hv; rw [hv.2]; rfl) w.heap.size w R0.out.bl GB.out ?_; intro w5 h5 b5; have R5 := hid (R1.out w5 h5 b5); clear h5 b5)
    go_loopw [8] (fun v8 wr => ∃ (k : Nat) (wk : World), v8 = .int .i64 k ∧ wk = wr ∧ 1 ≤ k ∧ k ≤ n ∧ Hid (RPT w g n x k wk)) (fun v8 _ => n - (intOf v8).toNat)
    case atStart => exact ⟨1, _, by first | rfl | simp, rfl, Nat.le_refl _, hn1, R5⟩
    case round =>
      obtain ⟨k, wr, rfl, rfl, hk1, hk, HR⟩ := hrel
      clear R5 R1 R0
      by_cases hlt : k < n
      · have hki : (k : Int) < (n : Nat) := by omega
        have hki2 : (k : Int) ≤ (n : Nat) := by omega
        have hk0 : (0 : Int) ≤ (k : Nat) := by omega
        have hne : ¬ n = k := by omega
        have hnk : n - k ≠ 0 := by omega
        obtain ⟨j, hj⟩ : ∃ j, j = Nat.min k (n - k) := ⟨_, rfl⟩
        have hj1 : 1 ≤ j := by rw [hj]; exact Nat.le_min.2 ⟨hk1, by omega⟩
        have hj4 : j ≤ n - k := by rw [hj]; exact Nat.min_le_right _ _
        have hj2 : k + j ≤ n := by omega
        have hj3 : j ≤ k := by rw [hj]; exact Nat.min_le_left _ _
        have RN : Hid (∀ w', Hid (w'.heap[g]? = some (.cells (splice ((rpL x n k).map fun i => Value.int .i64 i) k (List.replicate j (.int .i64 x))).toArray KI.ty (0, 0))) → Below w.heap.size w w' → RPT w g n x (k + j) w') := fun w' h1 h2 => ⟨h2, by have := h1.out; rw [rp_splice] at this; exact this⟩
        have ROW := hid HR.out.row
        have RBL := hid HR.out.bl
        have SRC : Hid (∀ (W' : World), W'.heap[g]? = wr.heap[g]? → ∀ i v, (List.replicate j (Value.int .i64 x))[i]? = some v → W'.cell? ((⟨g, 0, none⟩ : Addr).add i) = some v) := fun W' hW i v hv => by
          rw [List.getElem?_replicate] at hv
          split at hv
          · rename_i hi
            injection hv with hv
            rw [← hv]
            have hadd : (⟨g, 0, none⟩ : Addr).add i = ⟨g, i, none⟩ := by unfold Addr.add; split <;> simp_all
            rw [hadd, World.cell?_of_block (w := wr) (a := ⟨g, i, none⟩) hW, cell_of_row _ _ _ _ _ _ ROW.out]
            have e9 : (rpL x n k)[i]? = some x := by unfold rpL; rw [List.getElem?_append_left (by simp; omega), List.getElem?_replicate, if_pos (by omega)]
            simp [e9]
          · cases hv
        have JL : Hid ((List.replicate j (Value.int .i64 x)).length = Nat.min k (n - k)) := by show _ = _; rw [List.length_replicate, hj]
        have FT : Hid (k + (List.replicate j (Value.int .i64 x)).length ≤ ((rpL x n k).map fun i => Value.int .i64 i).length) := by show _ ≤ _; rw [List.length_map, rp_len hk, List.length_replicate]; exact hj2
        have ONE : Hid (∀ v ∈ List.replicate j (Value.int .i64 x), v.oneCell' = true) := fun v hv => by rw [List.mem_replicate] at hv; rw [hv.2]; rfl
        obtain ⟨w6, hw6, r6⟩ : ∃ w6, Sem.run Try.prog (Builtin.copy_ #[25, 25] 3 #[.slice (some ⟨g, k, none⟩) (n - k) (n - k), .slice (some ⟨g, 0, none⟩) k n]) wr.drew = .ok (.int .i64 (j : Nat)) w6 ∧ RPT w g n x (k + j) w6 := by
          have h9 := run_copy_row (P := Try.prog) wr.drew 25 25 3 3 g k (n - k) (n - k) ⟨g, 0, none⟩ k n _ KI.ty (List.replicate j (.int .i64 x)) Try.underlying25 KI_size ROW.out JL.out (SRC.out _ rfl) (by simpa using FT.out) ONE.out
          rw [List.length_replicate] at h9
          refine ⟨_, h9, ?_⟩
          refine RN.out _ ?_ ?_
          · show _ = _
            refine (setRow_heap wr.drew g _ _ KI.ty (0, 0) ROW.out).trans ?_
            simp [splice]
          · have h8 := below_setRow (B := w.heap.size) (g := g) (w0 := w) (w := wr.drew) (bl3 RBL.out (drew_below wr 1)) GB.out
            exact h8 _
        have R6 := hid r6
        clear HR hj RN ROW RBL SRC JL FT ONE r6
        go_wp2_with fail
        go_region
        all_goals
          go_wp2_with fail
          go_roundw
          case rel => exact ⟨k + j, _, by go_num, rfl, by omega, hj2, R6⟩
          case measure => simp [intOf]; omega
      · obtain rfl : k = n := by omega
        have F0 := hid (FIN.out _ HR.out)
        clear FIN HR
        go_wp2_with fail
        go_ret
        exact ⟨g, rfl, F0.out⟩
end Go.Proofs.Ythhjknpfaghfbaa
