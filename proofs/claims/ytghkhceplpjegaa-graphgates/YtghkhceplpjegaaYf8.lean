/- slices.Repeat of one number. -/
import Derived.Test.YtghkhceplpjegaaYg9
import Derived.Test.YtghkhceplpjegaaYc1
import Derived.Laws.CopyOwn
import Derived.Laws.BitsLemmas
import Derived.Laws.Bits64
import Derived.Deep.RegionLaw
namespace Go.Proofs.Ytghkhceplpjegaa
open Go.RowKit

noncomputable def orE (n : Int) (e : List (Int × Int)) : Int := if chkG n e = 0 then (if rnL n.toNat (eN e) = [] then 0 else 150) else chkG n e
noncomputable def orA (n : Int) (e : List (Int × Int)) : List Int := if orE n e = 0 then nI (orL n.toNat (eN e)) else []
theorem orE_at {N : Nat} {E : List (Nat × Nat)} (hg : GOK N E) : orE N (eI E) = if rnL N E = [] then 0 else 150 := by
  unfold orE
  rw [if_pos hg.chk, eN_eI]
  rfl
theorem orE_yes {N : Nat} {E : List (Nat × Nat)} (hg : GOK N E) (h : rnL N E = []) : orE N (eI E) = 0 ∧ orA N (eI E) = nI (orL N E) := by
  have h1 : orE N (eI E) = 0 := by rw [orE_at hg, if_pos h]
  refine ⟨h1, ?_⟩
  unfold orA
  rw [if_pos h1, eN_eI]
  rfl
theorem orE_not {N : Nat} {E : List (Nat × Nat)} (hg : GOK N E) (h : rnL N E ≠ []) : orE N (eI E) = 150 ∧ orA N (eI E) = [] := by
  have h1 : orE N (eI E) = 150 := by rw [orE_at hg, if_neg h]
  refine ⟨h1, ?_⟩
  unfold orA
  rw [if_neg (by rw [h1]; decide)]
theorem orE_bad {n : Int} {e : List (Int × Int)} (h : chkG n e ≠ 0) : orE n e = chkG n e ∧ orA n e = [] := by
  have h1 : orE n e = chkG n e := by unfold orE; rw [if_neg h]
  refine ⟨h1, ?_⟩
  unfold orA
  rw [if_neg (by rw [h1]; exact h)]
noncomputable def leL (N : Nat) (E : List (Nat × Nat)) : List Int := (List.range N).map (lvF (nx N E) (orL N E))
noncomputable def leA (n : Int) (e : List (Int × Int)) : List Int := if orE n e = 0 then leL n.toNat (eN e) else []
theorem leA_yes {N : Nat} {E : List (Nat × Nat)} (hg : GOK N E) (h : rnL N E = []) : leA N (eI E) = leL N E := by
  unfold leA
  rw [if_pos (orE_yes hg h).1, eN_eI]
  rfl
theorem leA_no {n : Int} {e : List (Int × Int)} (h : orE n e ≠ 0) : leA n e = [] := by unfold leA; rw [if_neg h]
theorem graph_box (w : World) (n : Int) (p : Option Addr) (m c : Nat) {W : World} (hW : w.alloc (.cells #[.int .i64 n, .slice p m c] 24) = W) : Below w.heap.size w W ∧ ∀ W', Below W.heap.size W W' → W'.cell? ⟨w.heap.size, 0, none⟩ = some (.int .i64 n) ∧ W'.cell? ⟨w.heap.size, 1, none⟩ = some (.slice p m c) := by
  refine ⟨by rw [← hW]; exact bal _ _, fun W' hb => ?_⟩
  have e : W'.heap[w.heap.size]? = some (.cells #[.int .i64 n, .slice p m c] 24) := (hb.block _ (by rw [← hW, asz]; omega)).trans (by rw [← hW]; exact heap_alloc_new _ _)
  exact ⟨cell_of_row _ _ _ _ _ _ e, cell_of_row _ _ _ _ _ _ e⟩
set_option maxRecDepth 100000 in
set_option maxHeartbeats 4000000 in
theorem Order_any (w : World) (n : Int) (v : Value) (l : List (Int × Int)) (hv : GS KE w v l) : Calls Try.prog 25 #[.agg #[.int .i64 n, v]] w fun e w' => AnsI w (orA n l) (orE n l) e w' := by
  obtain ⟨p, c, rfl⟩ := hv.form
  generalize hW : w.alloc (.cells #[.int .i64 n, .slice p l.length c] 24) = W
  obtain ⟨bw, c0⟩ := graph_box w n p l.length c hW
  have BW := hid bw
  have C0 := hid c0
  have CK := hid (check_any W n _ l (hv.below bw))
  obtain ⟨d0, d1⟩ := c0 W (Below.refl _ _)
  clear bw c0
  by_cases h0 : chkG n l = 0
  · obtain ⟨N, E, rfl, rfl, hg⟩ := chkG_ok h0
    rw [h0] at CK
    have LN := hid (fun W' (hb : Below W.heap.size W W') => lanesOf_any W' N _ E hg ((hv.below BW.out).below hb))
    have OR := hid (fun W' bb lb vs h => order_any W' N E hg bb lb vs h)
    rw [eI_len] at LN C0 CK d1 hW ⊢
    have HG := hid hg
    clear h0 hg hv
    obtain ⟨m, hm⟩ : ∃ m, m = E.length := ⟨_, rfl⟩
    rw [← hm] at LN C0 CK d1 hW ⊢
    clear hm
    have RES : Hid (∀ w6 w7 w8 e, Below W.heap.size W w6 → Below w6.heap.size w6 w7 → ODR w7 N E e w8 → AnsI w (orA N (eI E)) (orE N (eI E)) e w8) := fun w6 w7 w8 e b6 b7 h => by
      rcases h with ⟨h1, rfl, h2⟩ | ⟨h1, p, c, rfl, h2, h3⟩
      · rw [(orE_not HG.out h1).1, (orE_not HG.out h1).2]
        exact AnsI.none (bl3 BW.out (bl3 b6 (bl3 b7 h2)))
      · rw [(orE_yes HG.out h1).1, (orE_yes HG.out h1).2]
        have e : (nI (orL N E)).length = N := by rw [nI_len, (orL_ko HG.out h1).2]
        exact ⟨p, c, by rw [e], by rw [e]; exact h2.gs KI_ok.len, bl3 BW.out (bl3 b6 (bl3 b7 h3))⟩
    go_enter Try.func25, Try.ntmps25
    go_wp2_with (first | (go_at_call 31; refine CK.out.mono ?_; rintro e w6 ⟨rfl, hb6⟩; have B6 := hid hb6; obtain ⟨g0, g1⟩ := C0.out _ hb6; clear hb6) | (go_at_call 34; refine (LN.out _ B6.out).mono ?_; rintro e w7 ⟨b7, vs7, rfl, hz7, hb7⟩; have B7 := hid hb7; have OC := hid (OR.out w7 _ b7 vs7 hz7); clear hb7 hz7) | (go_at_call 35; refine OC.out.mono ?_; rintro e w8 h8; have R8 := hid (RES.out _ _ _ _ B6.out B7.out h8); obtain ⟨q8, c8, rfl, _, _⟩ := R8.out; clear h8))
    go_ret2
    exact R8.out
  · rw [(orE_bad h0).1, (orE_bad h0).2]
    generalize chkG n l = r at *
    have b1 : (r != 0) = true := by simp [h0]
    go_enter Try.func25, Try.ntmps25
    go_wp2_with (go_at_call 31; refine CK.out.mono ?_; rintro e w6 ⟨rfl, hb6⟩; have B6 := hid hb6; clear hb6)
    go_ret2
    exact AnsI.none (bl3 BW.out B6.out)
end Go.Proofs.Ytghkhceplpjegaa
namespace Go.Proofs.Ytghkhceplpjegaa
open Go.RowKit

theorem wrap_u (n : Nat) (hn : n ≤ 100000) : IntKind.u64.wrap (n : Int) = (n : Int) := by rw [IntKind.wrap_u64]; omega
theorem and_mask (n : Nat) (hn : n < 4294967296) : bits .and .u64 (n : Int) 4294967295 = (n : Int) := by
  have h := bits_mask .u64 63 (by decide) (fun n h₀ h₁ => by rw [IntKind.wrap_u64]; omega) 32 (by decide) (n : Int) (by omega) (by omega)
  have e : ((2 : Int) ^ 32 - 1) = 4294967295 := by decide
  have e2 : ((2 : Int) ^ 32) = 4294967296 := by decide
  rw [e, e2] at h
  rw [h]
  omega
set_option maxRecDepth 100000 in
set_option maxHeartbeats 4000000 in
theorem mul64_one (w : World) (n : Nat) (hn : n ≤ 100000) : Calls Try.prog 81 #[.int .u64 1, .int .u64 n] w fun e w' => e = .returned (.tuple #[.int .u64 0, .int .u64 n]) ∧ w' = w := by
  have m1 : bits .and .u64 1 4294967295 = 1 := by decide
  have m2 := and_mask n (by omega)
  have m0 : bits .and .u64 0 4294967295 = 0 := by decide
  have d1 : (n : Int) / 4294967296 = 0 := by omega
  have d0 : (0 : Int) / 4294967296 = 0 := by decide
  have w0 : IntKind.u64.wrap 0 = 0 := by decide
  have wn := wrap_u n hn
  go_enter Try.func81, Try.ntmps81
  go_wp2
  go_ret2
  exact ⟨rfl, rfl⟩
theorem mul_one (w : World) (n : Nat) (hn : n ≤ 100000) : Calls Try.prog 67 #[.int .u64 1, .int .u64 n] w fun e w' => e = .returned (.tuple #[.int .u64 0, .int .u64 n]) ∧ w' = w := by
  have M := mul64_one w n hn
  go_enter Try.func67, Try.ntmps67
  go_wp2_with (first | (go_at_call 81; refine M.mono ?_; rintro e w' ⟨rfl, rfl⟩))
  go_ret2
  exact ⟨rfl, rfl⟩
/-- So many of one number. -/
theorem KI_size : (Try.prog.info? 3).map (·.size) = some 1 := by kernel_rfl
theorem own_full {w : World} {base g n : Nat} {l : List Int} (h : OwnG KI w base (.slice (some ⟨g, 0, none⟩) n n) l) : w.heap[g]? = some (.cells (l.map fun i => Value.int .i64 i).toArray KI.ty) := by
  obtain ⟨h1, h2⟩ := h
  rcases h2 with ⟨h2, _⟩ | ⟨g', cp, cur, e1, e2, e3, e4, e5, e6, e7⟩
  · cases h2
  · injection e1 with e1 e8 e9
    injection e1 with e1
    injection e1 with e1 _ _
    subst e1 e9
    have e6' : cur.size = n := by rw [e6]; exact Nat.mul_one _
    rw [KI_flat] at e7
    have e8' : l.length * KI.W = cur.toList.length := by rw [← e8, Array.length_toList, e6']; exact Nat.mul_one _
    rw [e8', List.take_length] at e7
    rw [e3, ← e7]
theorem own_of {w : World} {base g : Nat} {l : List Int} (h : w.heap[g]? = some (.cells (l.map fun i => Value.int .i64 i).toArray KI.ty)) (hb : base ≤ g) (hl : l.length ≤ maxLen) : OwnG KI w base (.slice (some ⟨g, 0, none⟩) l.length l.length) l := by
  refine ⟨RK.flat_len KI_ok.len l, Or.inr ⟨g, l.length, _, rfl, hb, h, Nat.le_refl _, hl, ?_, ?_⟩⟩
  · show (l.map _).toArray.size = l.length * 1
    simp
  · show List.take (l.length * 1) _ = _
    rw [Nat.mul_one, KI_flat]
    exact List.take_of_length_le (by simp)
/-- The first k stand. -/
def rpL (x : Int) (n k : Nat) : List Int := List.replicate k x ++ List.replicate (n - k) 0
structure RPT (w : World) (g n : Nat) (x : Int) (k : Nat) (W : World) : Prop where
  bl : Below w.heap.size w W
  row : W.heap[g]? = some (.cells ((rpL x n k).map fun i => Value.int .i64 i).toArray KI.ty)
theorem rp_len {x : Int} {n k : Nat} (h : k ≤ n) : (rpL x n k).length = n := by unfold rpL; simp; omega
theorem rp_splice {x : Int} {n k j : Nat} : splice ((rpL x n k).map fun i => Value.int .i64 i) k (List.replicate j (.int .i64 x)) = (rpL x n (k + j)).map fun i => Value.int .i64 i := by
  unfold splice rpL
  simp only [List.map_append, List.map_replicate]
  rw [List.take_left' (by simp), List.drop_append, List.length_replicate, List.drop_eq_nil_of_le (by simp), List.nil_append, List.drop_replicate]
  rw [← List.append_assoc, List.replicate_append_replicate]
  congr 2
  simp
  omega
set_option maxRecDepth 100000 in
set_option maxHeartbeats 8000000 in
theorem repeat_any (w : World) (X o c : Nat) (x : Int) (n : Nat) (hn : n ≤ 100000) (h0 : w.cell? ⟨X, o, none⟩ = some (.int .i64 x)) (hX : X < w.heap.size) : Calls Try.prog 46 #[.slice (some ⟨X, o, none⟩) 1 c, .int .i64 n] w fun e w' => ∃ g, e = .returned (.slice (some ⟨g, 0, none⟩) n n) ∧ OwnG KI w' w.heap.size (.slice (some ⟨g, 0, none⟩) n n) (List.replicate n x) ∧ Below w.heap.size w w' := by
  have M := mul_one w n hn
  have c1 : IntKind.u64.wrap 1 = 1 := by decide
  have cn := wrap_u n hn
  have gn : ¬ (9223372036854775807 : Int) < (n : Int) := by omega
  have ni : IntKind.i64.wrap (n : Int) = (n : Int) := IntWalk.i64_in _ (by omega)
  have nn : ¬ (n : Int) < 0 := by omega
  go_enter Try.func46, Try.ntmps46
  go_upto_region 7 with (first
    | (go_at_call 67; refine M.mono ?_; rintro e w' ⟨rfl, hw⟩; rw [hw]; clear hw)
    | (refine make_g KI KI_ok 0 rfl rfl _ rfl (.tmp 29) (.tmp 29) 25 rfl Try.underlying25 n rfl rfl (by omega) (by decide) ?_; intro w1 ho1 hb1; have O1 := hid ho1; have B1 := hid hb1; clear ho1 hb1))
  have hg1 := own_full O1.out
  have e0 : (List.replicate n (0 : Int)) = rpL x n 0 := by unfold rpL; simp
  rw [e0] at hg1
  obtain ⟨g, hg⟩ : ∃ g, g = w.heap.size := ⟨_, rfl⟩
  have R0 : Hid (RPT w g n x 0 w1) := ⟨B1.out, by rw [hg]; exact hg1⟩
  have h01 : w1.cell? ⟨X, o, none⟩ = some (.int .i64 x) := (B1.out.cell (p := ⟨X, o, none⟩) hX).trans h0
  have GB : Hid (w.heap.size ≤ g) := by show _ ≤ _; omega
  have FIN : Hid (∀ W, RPT w g n x n W → OwnG KI W w.heap.size (.slice (some ⟨g, 0, none⟩) n n) (List.replicate n x) ∧ Below w.heap.size w W) := fun W h => by
    have e9 : rpL x n n = List.replicate n x := by unfold rpL; simp
    have h9 := h.row
    rw [e9] at h9
    have h8 := own_of h9 GB.out (by rw [List.length_replicate]; unfold maxLen; omega)
    rw [List.length_replicate] at h8
    exact ⟨h8, h.bl⟩
  rw [← hg]
  clear hg1 e0 O1 B1 hg M
  by_cases hz : n = 0
  · subst hz
    have F0 := FIN.out w1 R0.out
    clear FIN
    go_wp2_with (refine wpList_copy_nothing rfl (.tmp 31) (.tmp 32) 25 25 rfl 3 Try.underlying25 KI_size _ _ _ _ _ _ rfl rfl (by decide) ?_)
    go_loopw [8] (fun v8 wr => v8 = .int .i64 0 ∧ wr = w1) (fun _ _ => 0)
    case atStart => exact ⟨rfl, rfl⟩
    case round =>
      obtain ⟨rfl, rfl⟩ := hrel
      go_wp2_with fail
      go_ret
      exact ⟨g, rfl, F0⟩
  · have hn1 : 1 ≤ n := by omega
    have R1 : Hid (∀ w', Hid (w'.heap[g]? = some (.cells (splice ((rpL x n 0).map fun i => Value.int .i64 i) 0 (List.replicate 1 (.int .i64 x))).toArray KI.ty (0, 0))) → Below w.heap.size w w' → RPT w g n x 1 w') := fun w' h1 h2 => ⟨h2, by have := h1.out; rw [rp_splice] at this; exact this⟩
    go_wp2_with (refine wpList_copy_splice rfl (.tmp 31) (.tmp 32) 25 25 rfl 3 Try.underlying25 KI_size (some ⟨g, 0, none⟩) (some ⟨X, o, none⟩) n n 1 c rfl rfl g 0 ((rpL x n 0).map fun i => Value.int .i64 i) KI.ty R0.out.row (List.replicate 1 (.int .i64 x)) (by rw [List.length_replicate]; exact (Nat.min_eq_left hn1).symm) (fun _ => ⟨rfl, ⟨X, o, none⟩, rfl, fun j v hj => by
        rw [List.getElem?_replicate] at hj
        split at hj
        · rename_i hj1
          obtain rfl : j = 0 := by omega
          injection hj with hj
          rw [← hj]
          exact h01
        · cases hj⟩) (by rw [List.length_map, rp_len (Nat.zero_le _), List.length_replicate]; omega) (fun v hv => by rw [List.mem_replicate] at hv; rw [hv.2]; rfl) w.heap.size w R0.out.bl GB.out ?_; intro w5 h5 b5; have R5 := hid (R1.out w5 h5 b5); clear h5 b5)
    go_loopw [8] (fun v8 wr => ∃ (k : Nat) (wk : World), v8 = .int .i64 k ∧ wk = wr ∧ 1 ≤ k ∧ k ≤ n ∧ Hid (RPT w g n x k wk)) (fun v8 _ => n - (intOf v8).toNat)
    case atStart => exact ⟨1, _, by first | rfl | simp, rfl, Nat.le_refl _, hn1, R5⟩
    case round =>
      obtain ⟨k, wr, rfl, rfl, hk1, hk, HR⟩ := hrel
      clear R5 R1 R0
      by_cases hlt : k < n
      · have hki : (k : Int) < (n : Nat) := by omega
        have hki2 : (k : Int) ≤ (n : Nat) := by omega
        have hk0 : (0 : Int) ≤ (k : Nat) := by omega
        have hne : ¬ n = k := by omega
        have hnk : n - k ≠ 0 := by omega
        obtain ⟨j, hj⟩ : ∃ j, j = Nat.min k (n - k) := ⟨_, rfl⟩
        have hj1 : 1 ≤ j := by rw [hj]; exact Nat.le_min.2 ⟨hk1, by omega⟩
        have hj4 : j ≤ n - k := by rw [hj]; exact Nat.min_le_right _ _
        have hj2 : k + j ≤ n := by omega
        have hj3 : j ≤ k := by rw [hj]; exact Nat.min_le_left _ _
        have RN : Hid (∀ w', Hid (w'.heap[g]? = some (.cells (splice ((rpL x n k).map fun i => Value.int .i64 i) k (List.replicate j (.int .i64 x))).toArray KI.ty (0, 0))) → Below w.heap.size w w' → RPT w g n x (k + j) w') := fun w' h1 h2 => ⟨h2, by have := h1.out; rw [rp_splice] at this; exact this⟩
        have ROW := hid HR.out.row
        have RBL := hid HR.out.bl
        have SRC : Hid (∀ (W' : World), W'.heap[g]? = wr.heap[g]? → ∀ i v, (List.replicate j (Value.int .i64 x))[i]? = some v → W'.cell? ((⟨g, 0, none⟩ : Addr).add i) = some v) := fun W' hW i v hv => by
          rw [List.getElem?_replicate] at hv
          split at hv
          · rename_i hi
            injection hv with hv
            rw [← hv]
            have hadd : (⟨g, 0, none⟩ : Addr).add i = ⟨g, i, none⟩ := by unfold Addr.add; split <;> simp_all
            rw [hadd, World.cell?_of_block (w := wr) (a := ⟨g, i, none⟩) hW, cell_of_row _ _ _ _ _ _ ROW.out]
            have e9 : (rpL x n k)[i]? = some x := by unfold rpL; rw [List.getElem?_append_left (by simp; omega), List.getElem?_replicate, if_pos (by omega)]
            simp [e9]
          · cases hv
        have JL : Hid ((List.replicate j (Value.int .i64 x)).length = Nat.min k (n - k)) := by show _ = _; rw [List.length_replicate, hj]
        have FT : Hid (k + (List.replicate j (Value.int .i64 x)).length ≤ ((rpL x n k).map fun i => Value.int .i64 i).length) := by show _ ≤ _; rw [List.length_map, rp_len hk, List.length_replicate]; exact hj2
        have ONE : Hid (∀ v ∈ List.replicate j (Value.int .i64 x), v.oneCell' = true) := fun v hv => by rw [List.mem_replicate] at hv; rw [hv.2]; rfl
        obtain ⟨w6, hw6, r6⟩ : ∃ w6, Sem.run Try.prog (Builtin.copy_ #[25, 25] 3 #[.slice (some ⟨g, k, none⟩) (n - k) (n - k), .slice (some ⟨g, 0, none⟩) k n]) wr.drew = .ok (.int .i64 (j : Nat)) w6 ∧ RPT w g n x (k + j) w6 := by
          have h9 := run_copy_row (P := Try.prog) wr.drew 25 25 3 3 g k (n - k) (n - k) ⟨g, 0, none⟩ k n _ KI.ty (List.replicate j (.int .i64 x)) Try.underlying25 KI_size ROW.out JL.out (SRC.out _ rfl) (by simpa using FT.out) ONE.out
          rw [List.length_replicate] at h9
          refine ⟨_, h9, ?_⟩
          refine RN.out _ ?_ ?_
          · show _ = _
            refine (setRow_heap wr.drew g _ _ KI.ty (0, 0) ROW.out).trans ?_
            simp [splice]
          · have h8 := below_setRow (B := w.heap.size) (g := g) (w0 := w) (w := wr.drew) (bl3 RBL.out (drew_below wr 1)) GB.out
            exact h8 _
        have R6 := hid r6
        clear HR hj RN ROW RBL SRC JL FT ONE r6
        go_wp2_with fail
        go_region
        all_goals
          go_wp2_with fail
          go_roundw
          case rel => exact ⟨k + j, _, by go_num, rfl, by omega, hj2, R6⟩
          case measure => simp [intOf]; omega
      · obtain rfl : k = n := by omega
        have F0 := hid (FIN.out _ HR.out)
        clear FIN HR
        go_wp2_with fail
        go_ret
        exact ⟨g, rfl, F0.out⟩
end Go.Proofs.Ytghkhceplpjegaa
