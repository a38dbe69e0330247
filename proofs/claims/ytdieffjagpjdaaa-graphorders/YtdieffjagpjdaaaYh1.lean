/- Graph: Order and Levels of the program. -/
import Derived.Test.YtdieffjagpjdaaaYg9
namespace Go.Proofs.Ytdieffjagpjdaaa
open Go.RowKit

noncomputable def orE (n : Int) (e : List (Int × Int)) : Int := if chkG n e = 0 then (if rnL n.toNat (eN e) = [] then 0 else 150) else chkG n e
noncomputable def orA (n : Int) (e : List (Int × Int)) : List Int := if orE n e = 0 then nI (orL n.toNat (eN e)) else []
theorem orE_at {N : Nat} {E : List (Nat × Nat)} (hg : GOK N E) : orE N (eI E) = if rnL N E = [] then 0 else 150 := by
  unfold orE
  rw [if_pos hg.chk, eN_eI]
  rfl
theorem orE_yes {N : Nat} {E : List (Nat × Nat)} (hg : GOK N E) (h : rnL N E = []) : orE N (eI E) = 0 ∧ orA N (eI E) = nI (orL N E) := by
  have h1 : orE N (eI E) = 0 := by rw [orE_at hg, if_pos h]
  refine ⟨h1, ?_⟩
  unfold orA
  rw [if_pos h1, eN_eI]
  rfl
theorem orE_not {N : Nat} {E : List (Nat × Nat)} (hg : GOK N E) (h : rnL N E ≠ []) : orE N (eI E) = 150 ∧ orA N (eI E) = [] := by
  have h1 : orE N (eI E) = 150 := by rw [orE_at hg, if_neg h]
  refine ⟨h1, ?_⟩
  unfold orA
  rw [if_neg (by rw [h1]; decide)]
theorem orE_bad {n : Int} {e : List (Int × Int)} (h : chkG n e ≠ 0) : orE n e = chkG n e ∧ orA n e = [] := by
  have h1 : orE n e = chkG n e := by unfold orE; rw [if_neg h]
  refine ⟨h1, ?_⟩
  unfold orA
  rw [if_neg (by rw [h1]; exact h)]
noncomputable def leL (N : Nat) (E : List (Nat × Nat)) : List Int := (List.range N).map (lvF (nx N E) (orL N E))
noncomputable def leA (n : Int) (e : List (Int × Int)) : List Int := if orE n e = 0 then leL n.toNat (eN e) else []
theorem leA_yes {N : Nat} {E : List (Nat × Nat)} (hg : GOK N E) (h : rnL N E = []) : leA N (eI E) = leL N E := by
  unfold leA
  rw [if_pos (orE_yes hg h).1, eN_eI]
  rfl
theorem leA_no {n : Int} {e : List (Int × Int)} (h : orE n e ≠ 0) : leA n e = [] := by unfold leA; rw [if_neg h]
theorem graph_box (w : World) (n : Int) (p : Option Addr) (m c : Nat) {W : World} (hW : w.alloc (.cells #[.int .i64 n, .slice p m c] 24) = W) : Below w.heap.size w W ∧ ∀ W', Below W.heap.size W W' → W'.cell? ⟨w.heap.size, 0, none⟩ = some (.int .i64 n) ∧ W'.cell? ⟨w.heap.size, 1, none⟩ = some (.slice p m c) := by
  refine ⟨by rw [← hW]; exact bal _ _, fun W' hb => ?_⟩
  have e : W'.heap[w.heap.size]? = some (.cells #[.int .i64 n, .slice p m c] 24) := (hb.block _ (by rw [← hW, asz]; omega)).trans (by rw [← hW]; exact heap_alloc_new _ _)
  exact ⟨cell_of_row _ _ _ _ _ _ e, cell_of_row _ _ _ _ _ _ e⟩
set_option maxRecDepth 100000 in
set_option maxHeartbeats 4000000 in
theorem Order_any (w : World) (n : Int) (v : Value) (l : List (Int × Int)) (hv : GS KE w v l) : Calls Try.prog 28 #[.agg #[.int .i64 n, v]] w fun e w' => AnsI w (orA n l) (orE n l) e w' := by
  obtain ⟨p, c, rfl⟩ := hv.form
  generalize hW : w.alloc (.cells #[.int .i64 n, .slice p l.length c] 24) = W
  obtain ⟨bw, c0⟩ := graph_box w n p l.length c hW
  have BW := hid bw
  have C0 := hid c0
  have CK := hid (check_any W n _ l (hv.below bw))
  obtain ⟨d0, d1⟩ := c0 W (Below.refl _ _)
  clear bw c0
  by_cases h0 : chkG n l = 0
  · obtain ⟨N, E, rfl, rfl, hg⟩ := chkG_ok h0
    rw [h0] at CK
    have LN := hid (fun W' (hb : Below W.heap.size W W') => lanesOf_any W' N _ E hg ((hv.below BW.out).below hb))
    have OR := hid (fun W' bb lb vs h => order_any W' N E hg bb lb vs h)
    rw [eI_len] at LN C0 CK d1 hW ⊢
    have HG := hid hg
    clear h0 hg hv
    obtain ⟨m, hm⟩ : ∃ m, m = E.length := ⟨_, rfl⟩
    rw [← hm] at LN C0 CK d1 hW ⊢
    clear hm
    have RES : Hid (∀ w6 w7 w8 e, Below W.heap.size W w6 → Below w6.heap.size w6 w7 → ODR w7 N E e w8 → AnsI w (orA N (eI E)) (orE N (eI E)) e w8) := fun w6 w7 w8 e b6 b7 h => by
      rcases h with ⟨h1, rfl, h2⟩ | ⟨h1, p, c, rfl, h2, h3⟩
      · rw [(orE_not HG.out h1).1, (orE_not HG.out h1).2]
        exact AnsI.none (bl3 BW.out (bl3 b6 (bl3 b7 h2)))
      · rw [(orE_yes HG.out h1).1, (orE_yes HG.out h1).2]
        have e : (nI (orL N E)).length = N := by rw [nI_len, (orL_ko HG.out h1).2]
        exact ⟨p, c, by rw [e], by rw [e]; exact h2.gs KI_ok.len, bl3 BW.out (bl3 b6 (bl3 b7 h3))⟩
    go_enter Try.func28, Try.ntmps28
    go_wp2_with (first | (go_at_call 11; refine CK.out.mono ?_; rintro e w6 ⟨rfl, hb6⟩; have B6 := hid hb6; obtain ⟨g0, g1⟩ := C0.out _ hb6; clear hb6) | (go_at_call 44; refine (LN.out _ B6.out).mono ?_; rintro e w7 ⟨b7, vs7, rfl, hz7, hb7⟩; have B7 := hid hb7; have OC := hid (OR.out w7 _ b7 vs7 hz7); clear hb7 hz7) | (go_at_call 56; refine OC.out.mono ?_; rintro e w8 h8; have R8 := hid (RES.out _ _ _ _ B6.out B7.out h8); obtain ⟨q8, c8, rfl, _, _⟩ := R8.out; clear h8))
    go_ret2
    exact R8.out
  · rw [(orE_bad h0).1, (orE_bad h0).2]
    generalize chkG n l = r at *
    have b1 : (r != 0) = true := by simp [h0]
    go_enter Try.func28, Try.ntmps28
    go_wp2_with (go_at_call 11; refine CK.out.mono ?_; rintro e w6 ⟨rfl, hb6⟩; have B6 := hid hb6; clear hb6)
    go_ret2
    exact AnsI.none (bl3 BW.out B6.out)
end Go.Proofs.Ytdieffjagpjdaaa
