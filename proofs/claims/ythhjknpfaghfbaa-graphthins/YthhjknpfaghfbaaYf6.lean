/- Graph: Components and Round of the program. -/
import Derived.Test.YthhjknpfaghfbaaYf4
import Derived.Test.YthhjknpfaghfbaaYe6
namespace Go.Proofs.Ythhjknpfaghfbaa
open Go.RowKit

set_option maxRecDepth 100000 in
set_option maxHeartbeats 4000000 in
theorem Components_any (w : World) (n : Int) (v : Value) (l : List (Int × Int)) (hv : GS KE w v l) : Calls Try.prog 22 #[.agg #[.int .i64 n, v]] w fun e w' => AnsP w (cmA n l) (chkG n l) e w' := by
  obtain ⟨p, c, rfl⟩ := hv.form
  generalize hW : w.alloc (.cells #[.int .i64 n, .slice p l.length c] 24) = W
  obtain ⟨bw, c0⟩ := graph_boxF w n p l.length c hW
  have BW := hid bw
  have C0 := hid c0
  have CK := hid (check_any W n _ l (hv.below bw))
  obtain ⟨d0, d1⟩ := c0 W (Below.refl _ _)
  clear bw c0
  by_cases h0 : chkG n l = 0
  · obtain ⟨N, E, rfl, rfl, hg⟩ := chkG_ok h0
    rw [cmA_ok hg, h0]
    rw [h0] at CK
    have CM := hid (fun W' (hb : Below W.heap.size W W') => components_any W' N _ E hg ((hv.below BW.out).below hb))
    rw [eI_len] at C0 CK CM d1 hW ⊢
    obtain ⟨m, hm⟩ : ∃ m, m = E.length := ⟨_, rfl⟩
    rw [← hm] at C0 CK CM d1 hW ⊢
    clear h0 hg hv hm
    go_enter Try.func22, Try.ntmps22
    go_wp2_with (first | (go_at_call 31; refine CK.out.mono ?_; rintro e w6 ⟨rfl, hb6⟩; have B6 := hid hb6; obtain ⟨g0, g1⟩ := C0.out _ hb6; clear hb6) | (go_at_call 50; refine (CM.out _ B6.out).mono ?_; rintro e w7 ⟨p7, c7, v7, rfl, l7, o7, r7, b7⟩; have A7 : Hid (AnsP w (cmL N E) 0 (.returned (.tuple #[.slice p7 (cmL N E).length c7, .int .i64 0])) w7) := ⟨p7, c7, v7, rfl, l7, o7.gs KS_ok.len, fun i hi => (r7 i hi).gs KI_ok.len, bl3 BW.out (bl3 B6.out b7)⟩; clear l7 o7 r7 b7))
    go_ret2
    exact A7.out
  · rw [cmA_no h0]
    generalize chkG n l = r at *
    have b1 : (r != 0) = true := by simp [h0]
    go_enter Try.func22, Try.ntmps22
    go_wp2_with (go_at_call 31; refine CK.out.mono ?_; rintro e w6 ⟨rfl, hb6⟩; have B6 := hid hb6; clear hb6)
    go_ret2
    exact AnsP.none (bl3 BW.out B6.out)
/-- Its nodes go round. -/
def gB (E : List (Nat × Nat)) (p : List Nat) : Bool := decide (1 < p.length) || decide ((hdN p, hdN p) ∈ E)
def gT (E : List (Nat × Nat)) (Q : List (List Nat)) : List Nat := Q.flatMap fun p => if gB E p then p else []
theorem gT_snoc (E : List (Nat × Nat)) (Q : List (List Nat)) (p : List Nat) : gT E (Q ++ [p]) = gT E Q ++ if gB E p then p else [] := by unfold gT; rw [List.flatMap_append]; simp
theorem cm_mem {N : Nat} {E : List (Nat × Nat)} {p : List Nat} : p ∈ cmL N E ↔ ∃ r, r < N ∧ lst E r = true ∧ p = prt N E r := by
  unfold cmL
  rw [List.mem_map]
  constructor
  · rintro ⟨r, hr, rfl⟩
    obtain ⟨h1, h2⟩ := ris_mem.1 hr
    exact ⟨r, h1, h2, rfl⟩
  · rintro ⟨r, h1, h2, rfl⟩
    exact ⟨r, ris_mem.2 ⟨h1, h2⟩, rfl⟩
theorem gT_mem {N : Nat} {E : List (Nat × Nat)} (hg : GOK N E) {x : Nat} : x ∈ gT E (cmL N E) ↔ x < N ∧ wyB E (-1) [x] x = true := by
  unfold gT
  rw [List.mem_flatMap]
  constructor
  · rintro ⟨p, hp, hx⟩
    obtain ⟨r, hr, _, rfl⟩ := cm_mem.1 hp
    by_cases hb : gB E (prt N E r) = true
    · rw [if_pos hb] at hx
      obtain ⟨h1, h2⟩ := prt_mem.1 hx
      refine ⟨h1, (rn_iff hg h1).2 ?_⟩
      unfold gB at hb
      rw [Bool.or_eq_true, decide_eq_true_eq, decide_eq_true_eq] at hb
      rcases hb with hb | hb
      · exact Or.inr (by rw [← prt_same h2]; exact hb)
      · match hq : prt N E r with
        | [] => rw [hq] at hx; cases hx
        | [a] =>
          rw [hq] at hx hb
          rw [List.mem_singleton] at hx
          subst hx
          exact Or.inl hb
        | a :: b :: t => exact Or.inr (by rw [← prt_same h2, hq]; simp)
    · rw [if_neg hb] at hx; cases hx
  · rintro ⟨h1, h2⟩
    obtain ⟨s1, s2, s3, s4⟩ := prt_hd (E := E) h1
    have hx : x ∈ prt N E x := prt_mem.2 ⟨h1, sc.refl _ _⟩
    refine ⟨prt N E x, cm_mem.2 ⟨_, s3, s2, s4⟩, ?_⟩
    have hb : gB E (prt N E x) = true := by
      unfold gB
      rw [Bool.or_eq_true, decide_eq_true_eq, decide_eq_true_eq]
      rcases (rn_iff hg h1).1 h2 with e | e
      · match hq : prt N E x with
        | [] => rw [hq] at hx; cases hx
        | [a] =>
          rw [hq, List.mem_singleton] at hx
          subst hx
          exact Or.inr e
        | a :: b :: t => exact Or.inl (by simp)
      · exact Or.inl e
    rw [if_pos hb]
    exact hx
theorem gT_nodup {N : Nat} {E : List (Nat × Nat)} : (gT E (cmL N E)).Nodup := by
  unfold gT List.Nodup
  rw [List.pairwise_flatMap]
  constructor
  · intro p hp
    obtain ⟨r, _, _, rfl⟩ := cm_mem.1 hp
    split
    · exact (ris_up _ _).imp fun h => Nat.ne_of_lt h
    · exact List.Pairwise.nil
  · unfold cmL
    rw [List.pairwise_map]
    refine List.Pairwise.imp_of_mem ?_ (ris_up N (lst E))
    intro a b ha hb hab x hx y hy e
    have hx2 : x ∈ prt N E a := by
      split at hx
      · exact hx
      · cases hx
    have hy2 : y ∈ prt N E b := by
      split at hy
      · exact hy
      · cases hy
    rw [← e] at hy2
    have s1 := (prt_mem.1 hx2).2
    have s2 := (prt_mem.1 hy2).2
    exact lst_iff.1 (ris_mem.1 hb).2 a hab (s2.trans s1.symm)
theorem gT_sorted {N : Nat} {E : List (Nat × Nat)} (hg : GOK N E) : (nI (gT E (cmL N E))).mergeSort (fun x y => decide (x ≤ y)) = nI (rnL N E) := by
  refine int_ris (srt_up (nI_nodup gT_nodup)) fun x => ?_
  rw [srt_mem, nI_mem]
  constructor
  · rintro ⟨k, hk, e⟩
    obtain ⟨h1, h2⟩ := (gT_mem hg).1 hk
    exact ⟨k, e, h1, h2⟩
  · rintro ⟨k, e, h1, h2⟩
    exact ⟨k, (gT_mem hg).2 ⟨h1, h2⟩, e⟩
theorem contI_any (w : World) (v : Value) (l : List Int) (x : Int) (hv : GS KI w v l) (hl : l.length ≤ 1000000) : Calls Try.prog 52 #[v, .int .i64 x] w fun e w' => e = .returned (.bool (decide (x ∈ l))) ∧ w' = w := by
  rcases hv with ⟨h, rfl⟩ | ⟨X, o, cap, rfl, hX, hcp, hc⟩
  · rcases h with rfl | ⟨a, c, rfl⟩
    · refine (Try.slices_Contains_int_empty none 0 x w).mono ?_
      rintro e w' ⟨rfl, rfl⟩
      exact ⟨by simp, rfl⟩
    · refine (Try.slices_Contains_int_empty (some a) c x w).mono ?_
      rintro e w' ⟨rfl, rfl⟩
      exact ⟨by simp, rfl⟩
  · refine (Try.slices_Contains_int X o l.length cap l x w (Nat.le_refl _) (by omega) fun j hj => ?_).mono ?_
    · have := hc j hj 0 (.int .i64 l[j]) rfl
      rw [show KI.W = 1 from rfl, Nat.mul_one] at this
      rw [List.getD_eq_getElem?_getD, List.getElem?_eq_getElem hj]
      exact this
    · rintro e w' ⟨rfl, rfl⟩
      refine ⟨?_, rfl⟩
      rw [List.take_length]
      congr 2
      rw [Bool.eq_iff_iff]
      simp
end Go.Proofs.Ythhjknpfaghfbaa
