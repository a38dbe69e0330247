/- Graph: what the calls answer; checkWith, Next on both sides. -/
import Derived.Test.YtdieffjagpjdaaaYc3
namespace Go.Proofs.Ytdieffjagpjdaaa
open Go.RowKit

def eN (e : List (Int × Int)) : List (Nat × Nat) := e.map fun x => (x.1.toNat, x.2.toNat)
theorem eN_eI (E : List (Nat × Nat)) : eN (eI E) = E := by
  unfold eN eI
  rw [List.map_map]
  simp [Function.comp_def]
/-- What a call with a node answers first. -/
def nxE (n : Int) (e : List (Int × Int)) (x : Int) : Int := if chkG n e = 0 then (if ndB n x then 0 else 1) else chkG n e
def nxA (n : Int) (e : List (Int × Int)) (x : Int) : List Int := if nxE n e x = 0 then nI (nx n.toNat (eN e) x.toNat) else []
theorem nxE_ok {n : Int} {e : List (Int × Int)} {x : Int} (h : nxE n e x = 0) : ∃ N E i, n = (N : Nat) ∧ e = eI E ∧ GOK N E ∧ x = (i : Nat) ∧ i < N := by
  unfold nxE at h
  split at h
  · rename_i h1
    obtain ⟨N, E, rfl, rfl, hg⟩ := chkG_ok h1
    split at h
    · rename_i h2
      simp only [ndB, Bool.and_eq_true, decide_eq_true_eq] at h2
      exact ⟨N, E, x.toNat, rfl, rfl, hg, by omega, by omega⟩
    · cases h
  · rename_i h1; exact absurd h h1
theorem nxE_at {N : Nat} {E : List (Nat × Nat)} (hg : GOK N E) {i : Nat} (hi : i < N) : nxE N (eI E) i = 0 ∧ nxA N (eI E) i = nI (nx N E i) := by
  have h1 : nxE N (eI E) i = 0 := by
    unfold nxE
    rw [if_pos hg.chk]
    have : ndB N i = true := by simp [ndB]; omega
    rw [if_pos this]
  refine ⟨h1, ?_⟩
  unfold nxA
  rw [if_pos h1, eN_eI]
  simp
theorem nxE_no {n : Int} {e : List (Int × Int)} {x : Int} (h : nxE n e x ≠ 0) : nxA n e x = [] := by unfold nxA; rw [if_neg h]
set_option maxHeartbeats 4000000 in
theorem checkWith_any (w : World) (n : Int) (v : Value) (l : List (Int × Int)) (hv : GS KE w v l) (x : Int) : Calls Try.prog 43 #[.agg #[.int .i64 n, v], .int .i64 x] w fun e w' => e = .returned (.int .i64 (nxE n l x)) ∧ Below w.heap.size w w' := by
  obtain ⟨p, c, rfl⟩ := hv.form
  generalize hW : w.alloc (.cells #[.int .i64 n, .slice p l.length c] 24) = W
  have BW : Hid (Below w.heap.size w W) := by rw [← hW]; exact bal _ _
  have C0 : Hid (∀ W', Below W.heap.size W W' → W'.cell? ⟨w.heap.size, 0, none⟩ = some (.int .i64 n) ∧ W'.cell? ⟨w.heap.size, 1, none⟩ = some (.slice p l.length c)) := fun W' hb => by
    have e : W'.heap[w.heap.size]? = some (.cells #[.int .i64 n, .slice p l.length c] 24) := (hb.block _ (by rw [← hW, asz]; omega)).trans (by rw [← hW]; exact heap_alloc_new _ _)
    exact ⟨cell_of_row _ _ _ _ _ _ e, cell_of_row _ _ _ _ _ _ e⟩
  have CK := hid (check_any W n _ l (hv.below BW.out))
  obtain ⟨d0, d1⟩ := C0.out W (Below.refl _ _)
  have HE : Hid (nxE n l x = if chkG n l = 0 then (if ndB n x then 0 else 1) else chkG n l) := rfl
  generalize chkG n l = ck at *
  generalize nxE n l x = r at *
  have IN := hid (fun W' => isNode_any W' n x p l.length c)
  by_cases h0 : ck = 0
  · have b1 : (ck != 0) = false := by simp [h0]
    rw [if_pos h0] at HE
    subst h0
    cases hx : ndB n x with
    | true =>
      rw [hx] at HE IN
      go_enter Try.func43, Try.ntmps43
      go_wp2_with (first | (go_at_call 11; refine CK.out.mono ?_; rintro e w6 ⟨rfl, hb6⟩; have B6 := hid hb6; obtain ⟨g0, g1⟩ := C0.out _ hb6; clear hb6) | (go_at_call 41; refine (IN.out _).mono ?_; rintro e w7 ⟨rfl, hb7⟩; have B7 := hid hb7; clear hb7))
      go_ret
      exact ⟨ret_i HE.out.symm, bl3 BW.out (bl3 B6.out B7.out)⟩
    | false =>
      rw [hx] at HE IN
      go_enter Try.func43, Try.ntmps43
      go_wp2_with (first | (go_at_call 11; refine CK.out.mono ?_; rintro e w6 ⟨rfl, hb6⟩; have B6 := hid hb6; obtain ⟨g0, g1⟩ := C0.out _ hb6; clear hb6) | (go_at_call 41; refine (IN.out _).mono ?_; rintro e w7 ⟨rfl, hb7⟩; have B7 := hid hb7; clear hb7))
      go_ret
      exact ⟨ret_i HE.out.symm, bl3 BW.out (bl3 B6.out B7.out)⟩
  · have b1 : (ck != 0) = true := by simp [h0]
    rw [if_neg h0] at HE
    go_enter Try.func43, Try.ntmps43
    go_wp2_with (go_at_call 11; refine CK.out.mono ?_; rintro e w6 ⟨rfl, hb6⟩; have B6 := hid hb6; clear hb6)
    go_ret
    exact ⟨ret_i HE.out.symm, bl3 BW.out B6.out⟩
/-- A list and an error. -/
def AnsI (w : World) (L : List Int) (r : Int) (e : Ending) (w' : World) : Prop := ∃ q c, e = .returned (.tuple #[.slice q L.length c, .int .i64 r]) ∧ GS KI w' (.slice q L.length c) L ∧ Below w.heap.size w w'
theorem AnsI.none {w w' : World} {r : Int} (h : Below w.heap.size w w') : AnsI w [] r (.returned (.tuple #[.slice none 0 0, .int .i64 r])) w' := ⟨_, _, rfl, Or.inl ⟨Or.inl rfl, rfl⟩, h⟩
set_option maxHeartbeats 4000000 in
theorem next_any (w : World) (n : Int) (v : Value) (l : List (Int × Int)) (hv : GS KE w v l) (x : Int) : Calls Try.prog 13 #[.agg #[.int .i64 n, v], .int .i64 x] w fun e w' => AnsI w (nxA n l x) (nxE n l x) e w' := by
  obtain ⟨p, c, rfl⟩ := hv.form
  generalize hW : w.alloc (.cells #[.int .i64 n, .slice p l.length c] 24) = W
  have BW : Hid (Below w.heap.size w W) := by rw [← hW]; exact bal _ _
  have C0 : Hid (∀ W', Below W.heap.size W W' → W'.cell? ⟨w.heap.size, 0, none⟩ = some (.int .i64 n) ∧ W'.cell? ⟨w.heap.size, 1, none⟩ = some (.slice p l.length c)) := fun W' hb => by
    have e : W'.heap[w.heap.size]? = some (.cells #[.int .i64 n, .slice p l.length c] 24) := (hb.block _ (by rw [← hW, asz]; omega)).trans (by rw [← hW]; exact heap_alloc_new _ _)
    exact ⟨cell_of_row _ _ _ _ _ _ e, cell_of_row _ _ _ _ _ _ e⟩
  have CK := hid (checkWith_any W n _ l (hv.below BW.out) x)
  obtain ⟨d0, d1⟩ := C0.out W (Below.refl _ _)
  by_cases h0 : nxE n l x = 0
  · obtain ⟨N, E, i, rfl, rfl, hg, rfl, hi⟩ := nxE_ok h0
    have h1 := nxE_at hg hi
    rw [h1.2, h1.1]
    rw [h0] at CK
    have LN := hid (fun W' (hb : Below W.heap.size W W') => lanesOf_any W' N _ E hg ((hv.below BW.out).below hb))
    rw [eI_len] at LN C0 CK d1 hW ⊢
    have hii : (i : Int) < (N : Nat) := by omega
    generalize E.length = m at *
    clear h0 h1
    go_enter Try.func13, Try.ntmps13
    go_wp2_with (first | (go_at_call 43; refine CK.out.mono ?_; rintro e w6 ⟨rfl, hb6⟩; have B6 := hid hb6; obtain ⟨g0, g1⟩ := C0.out _ hb6; clear hb6) | (go_at_call 44; refine (LN.out _ B6.out).mono ?_; rintro e w7 ⟨b7, vs7, rfl, hz7, hb7⟩; have B7 := hid hb7; obtain ⟨pp, cc, q1, _, q3⟩ := hz7.at hi; have O7 := hid q3; clear hb7 q3 hz7))
    go_ret2
    exact ⟨pp, cc, rfl, O7.out.gs KI_ok.len, bl3 BW.out (bl3 B6.out B7.out)⟩
  · rw [nxE_no h0]
    generalize nxE n l x = r at *
    have b1 : (r != 0) = true := by simp [h0]
    go_enter Try.func13, Try.ntmps13
    go_wp2_with (go_at_call 43; refine CK.out.mono ?_; rintro e w6 ⟨rfl, hb6⟩; have B6 := hid hb6; clear hb6)
    go_ret2
    exact AnsI.none (bl3 BW.out B6.out)
set_option maxHeartbeats 4000000 in
theorem rNext_any (w : World) (n : Int) (v : Value) (l : List (Int × Int)) (hv : GS KE w v l) (x : Int) : Calls Try.prog 14 #[.agg #[.int .i64 n, v], .int .i64 x] w fun e w' => AnsI w (nxA n l x) (nxE n l x) e w' := by
  obtain ⟨p, c, rfl⟩ := hv.form
  generalize hW : w.alloc (.cells #[.int .i64 n, .slice p l.length c] 24) = W
  have BW : Hid (Below w.heap.size w W) := by rw [← hW]; exact bal _ _
  have C0 : Hid (∀ W', Below W.heap.size W W' → W'.cell? ⟨w.heap.size, 0, none⟩ = some (.int .i64 n) ∧ W'.cell? ⟨w.heap.size, 1, none⟩ = some (.slice p l.length c)) := fun W' hb => by
    have e : W'.heap[w.heap.size]? = some (.cells #[.int .i64 n, .slice p l.length c] 24) := (hb.block _ (by rw [← hW, asz]; omega)).trans (by rw [← hW]; exact heap_alloc_new _ _)
    exact ⟨cell_of_row _ _ _ _ _ _ e, cell_of_row _ _ _ _ _ _ e⟩
  have CK := hid (rcheck_any W n _ l (hv.below BW.out))
  obtain ⟨d0, d1⟩ := C0.out W (Below.refl _ _)
  have HE : Hid (nxE n l x = if chkG n l = 0 then (if ndB n x then 0 else 1) else chkG n l) := rfl
  have IN := hid (fun W' => rnode_any W' n x p l.length c)
  by_cases h0 : chkG n l = 0
  · rw [h0] at CK
    rw [if_pos h0] at HE
    cases hx : ndB n x with
    | true =>
      rw [hx] at HE IN
      have h1 : nxE n l x = 0 := HE.out
      obtain ⟨N, E, i, rfl, rfl, hg, rfl, hi⟩ := nxE_ok h1
      have h2 := nxE_at hg hi
      rw [h2.2, h2.1]
      have LN := hid (fun W' (hb : Below W.heap.size W W') => rnext_any W' N _ E hg ((hv.below BW.out).below hb) i)
      rw [eI_len] at LN C0 CK d1 IN hW ⊢
      generalize E.length = m at *
      clear h0 h1 h2 HE hx
      go_enter Try.func14, Try.ntmps14
      go_wp2_with (first | (go_at_call 12; refine CK.out.mono ?_; rintro e w6 ⟨rfl, hb6⟩; have B6 := hid hb6; obtain ⟨g0, g1⟩ := C0.out _ hb6; clear hb6) | (go_at_call 42; refine (IN.out _).mono ?_; rintro e w7 ⟨rfl, hb7⟩; have B7 := hid (bl3 B6.out hb7); obtain ⟨k0, k1⟩ := C0.out _ B7.out; clear hb7) | (go_at_call 45; refine (LN.out _ B7.out).mono ?_; rintro e w8 ⟨q8, c8, rfl, ho8, hb8⟩; have B8 := hid hb8; have O8 := hid ho8; clear hb8 ho8))
      go_ret2
      exact ⟨q8, c8, rfl, O8.out.gs KI_ok.len, bl3 BW.out (bl3 B7.out B8.out)⟩
    | false =>
      rw [hx] at HE IN
      have h1 : nxE n l x = 1 := HE.out
      rw [nxE_no (by omega), h1]
      clear h1 HE
      go_enter Try.func14, Try.ntmps14
      go_wp2_with (first | (go_at_call 12; refine CK.out.mono ?_; rintro e w6 ⟨rfl, hb6⟩; have B6 := hid hb6; obtain ⟨g0, g1⟩ := C0.out _ hb6; clear hb6) | (go_at_call 42; refine (IN.out _).mono ?_; rintro e w7 ⟨rfl, hb7⟩; have B7 := hid (bl3 B6.out hb7); clear hb7))
      go_ret2
      exact AnsI.none (bl3 BW.out B7.out)
  · rw [if_neg h0] at HE
    rw [nxE_no (by rw [HE.out]; exact h0), HE.out]
    clear HE
    generalize chkG n l = r at *
    have b1 : (r != 0) = true := by simp [h0]
    go_enter Try.func14, Try.ntmps14
    go_wp2_with (go_at_call 12; refine CK.out.mono ?_; rintro e w6 ⟨rfl, hb6⟩; have B6 := hid hb6; clear hb6)
    go_ret2
    exact AnsI.none (bl3 BW.out B6.out)
end Go.Proofs.Ytdieffjagpjdaaa
