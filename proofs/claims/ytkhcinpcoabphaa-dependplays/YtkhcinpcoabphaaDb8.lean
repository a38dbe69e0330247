/- Depend: what leads where; the circle of a task and a cell; Ask. -/
import Derived.Test.YtkhcinpcoabphaaDb7
namespace Go.Proofs.Ytkhcinpcoabphaa
open Go.RowKit

theorem own_at {w : World} {base : Nat} {q : Option Addr} {n cc : Nat} {L : List Nat} (ho : OwnG KI w base (.slice q n cc) (nI L)) {k : Nat} (hk : k < L.length) : ∃ g, q = some ⟨g, 0, none⟩ ∧ w.cell? ⟨g, k, none⟩ = some (.int .i64 L[k]) := by
  obtain ⟨Y, o, e1, hc⟩ := (own_gs ho).atI (k := k) (by rw [nI_len]; exact hk)
  have hne : (Value.slice q n cc).ownBlock ≠ none := by rw [e1]; simp [Value.ownBlock]
  obtain ⟨g, cp, e2, _⟩ := ho.place hne
  rw [e1] at e2
  injection e2 with e2 _ _
  injection e2 with e2
  injection e2 with e3 e4 _
  subst e3 e4
  refine ⟨_, e1, ?_⟩
  rw [Nat.zero_add] at hc
  rw [hc]; simp [nI]
theorem idx_before {L : List Nat} {z k : Nat} (hk : k < L.idxOf z) (hl : k < L.length) : L[k] ≠ z := by
  intro e
  have : L.idxOf z ≤ k := by
    have h1 := List.not_of_lt_findIdx (p := fun x => x == z) (xs := L) (i := k) (by simpa [List.idxOf] using hk)
    simp [e] at h1
  omega
set_option maxHeartbeats 4000000 in
theorem index_any (L : List Nat) (z : Nat) (hm : z ∈ L) (hl : L.length ≤ 10000) (q : Option Addr) (cc base : Nat) (w : World) (ho : OwnG KI w base (.slice q L.length cc) (nI L)) : Calls Try.prog 44 #[.slice q L.length cc, .int .i64 z] w fun e w' => e = .returned (.int .i64 (L.idxOf z)) ∧ w' = w := by
  have hix := List.idxOf_lt_length_iff.2 hm
  obtain ⟨g, hg⟩ : ∃ g, q = some ⟨g, 0, none⟩ := let ⟨g, h, _⟩ := own_at ho hix; ⟨g, h⟩
  subst hg
  have HC : Hid (∀ k, k < L.length → ∃ x : Nat, w.cell? ⟨g, k, none⟩ = some (.int .i64 x) ∧ (k < L.idxOf z → x ≠ z) ∧ (k = L.idxOf z → x = z)) := fun k hk => by
    obtain ⟨g2, e2, hc⟩ := own_at ho hk
    injection e2 with e2
    injection e2 with e2 _ _
    subst e2
    exact ⟨_, hc, fun h => idx_before h hk, fun h => by subst h; exact List.getElem_idxOf hix⟩
  generalize L.idxOf z = i at *
  generalize L.length = n at *
  clear ho hm
  go_enter Try.func44, Try.ntmps44
  go_wp2
  go_loop [8] (fun v8 => ∃ k : Nat, k ≤ i ∧ v8 = .int .i64 k) (fun v8 => n - (intOf v8).toNat)
  case atStart => exact ⟨0, Nat.zero_le _, rfl⟩
  case round =>
    obtain ⟨k, hk, rfl⟩ := hrel
    have hkn : k < n := by omega
    obtain ⟨x, hx, h1, h2⟩ := HC.out k hkn
    by_cases e : k = i
    · have e2 := h2 e
      subst e2
      have EK := hid e
      clear e h1 h2
      go_wp2
      go_ret
      exact ⟨ret_i (by rw [EK.out]), rfl⟩
    · have e2 : ¬ (z : Int) = x := by have := h1 (by omega); omega
      clear h1 h2
      go_wp2
      go_round
      case rel => exact ⟨k + 1, by omega, by go_num⟩
      case measure => simp [intOf]; omega
theorem bdd {b : Nat} {w w2 : World} (h : Below b w w2) (n : Nat) : Below b w (w2.drew.drewN n) := ⟨h.os, h.tape, h.output, h.size, h.block⟩
theorem box3 (w : World) (a b c : Value) (t : TypeId) : (w.alloc (.cells #[a, b, c] t)).cell? ⟨w.heap.size, 0, none⟩ = some a ∧ (w.alloc (.cells #[a, b, c] t)).cell? ⟨w.heap.size, 1, none⟩ = some b ∧ (w.alloc (.cells #[a, b, c] t)).cell? ⟨w.heap.size, 2, none⟩ = some c :=
  ⟨cell_of_row _ _ _ _ _ _ (heap_alloc_new w _), cell_of_row _ _ _ _ _ _ (heap_alloc_new w _), cell_of_row _ _ _ _ _ _ (heap_alloc_new w _)⟩
theorem nxt_not {X : Wb} {c : Nat} (h : (X.r c).is = false) : nxt X c = none := by unfold nxt; rw [h]; rfl
theorem nxt_up {X : Wb} {c : Nat} (h : (X.r c).is = true) (hk : (stk X (X.r c).to).idxOf c + 1 < (stk X (X.r c).to).length) : nxt X c = some (stk X (X.r c).to)[(stk X (X.r c).to).idxOf c + 1] := by unfold nxt; rw [if_pos h, List.getElem?_eq_getElem hk]
theorem nxt_top {X : Wb} {c : Nat} (h : (X.r c).is = true) (hk : ¬ (stk X (X.r c).to).idxOf c + 1 < (stk X (X.r c).to).length) : nxt X c = if (X.w (X.r c).to).is then some (X.w (X.r c).to).to else none := by unfold nxt; rw [if_pos h, List.getElem?_eq_none (by omega)]
set_option maxHeartbeats 8000000 in
theorem circle1_any (X : Wb) (hi : WI X) (b B : Nat) (c : Nat) (hc : c < 256) (w : World) (h : WX w b X) (hB : w.cell? ⟨B, 0, none⟩ = some (.pointer (some ⟨b, 0, none⟩))) (hBl : B < w.heap.size) : Calls Try.prog 43 #[.int .i64 c, .pointer (some ⟨B, 0, none⟩)] w fun e w' => nxR (nxt X c) e ∧ Below w.heap.size w w' := by
  obtain ⟨c1, c2, c3⟩ := h.run hi hc
  have hl := h.lt
  have hne : ¬ B = w.heap.size := by omega
  have hne2 : ¬ b = w.heap.size := by omega
  have BA := hid (fun ob => bal w ob)
  cases hr : (X.r c).is with
  | false =>
    rw [hr] at c3
    have HN : Hid (nxR (nxt X c) (.returned (.tuple #[.int .i64 0, .bool false]))) := by rw [nxt_not hr]; exact ⟨0, rfl⟩
    generalize nxt X c = o at *
    generalize (X.r c).to = x1 at *
    generalize (X.r c).made = x2 at *
    clear h hi hr
    go_enter Try.func43, Try.ntmps43
    go_wp2
    go_ret2
    exact ⟨HN.out, BA.out _⟩
  | true =>
    rw [hr] at c3
    have hm : c ∈ stk X (X.r c).to := stk_mem.2 ⟨hr, rfl⟩
    have HX := hid h
    have ht := (hi.rm c hr).2
    have ST := hid (fun W k => stack_any W b X k hi (X.r c).to)
    have HL := stk_len hi (X.r c).to
    have HM := hid hm
    by_cases hk : (stk X (X.r c).to).idxOf c + 1 < (stk X (X.r c).to).length
    · have HN : Hid (nxR (nxt X c) (.returned (.tuple #[.int .i64 ((stk X (X.r c).to)[(stk X (X.r c).to).idxOf c + 1] : Nat), .bool true]))) := by rw [nxt_up hr hk]; exact rfl
      have AT : Hid (∀ (q : Option Addr) (cc bs : Nat) (W : World), OwnG KI W bs (.slice q (stk X (X.r c).to).length cc) (nI (stk X (X.r c).to)) → ∃ g, q = some ⟨g, 0, none⟩ ∧ W.cell? ⟨g, (stk X (X.r c).to).idxOf c + 1, none⟩ = some (.int .i64 ((stk X (X.r c).to)[(stk X (X.r c).to).idxOf c + 1] : Nat)) ∧ Calls Try.prog 44 #[.slice q (stk X (X.r c).to).length cc, .int .i64 c] W fun e w' => e = .returned (.int .i64 ((stk X (X.r c).to).idxOf c)) ∧ w' = W) := fun q cc bs W ho => by
        obtain ⟨g, h1, h2⟩ := own_at ho hk
        exact ⟨g, h1, h2, index_any _ c HM.out (by omega) q cc bs W ho⟩
      obtain ⟨z, hz⟩ : ∃ z, z = (stk X (X.r c).to)[(stk X (X.r c).to).idxOf c + 1] := ⟨_, rfl⟩
      rw [← hz] at AT HN
      clear hm HM hz
      generalize (stk X (X.r c).to).idxOf c = ix at *
      generalize nI (stk X (X.r c).to) = SI at *
      generalize (stk X (X.r c).to).length = n at *
      generalize nxt X c = o at *
      generalize (X.r c).to = x1 at *
      generalize (X.r c).made = x2 at *
      have hk2 : (ix : Int) + 1 < n := by omega
      have hix : (ix : Int) < n := by omega
      clear h hi hr
      go_enter Try.func43, Try.ntmps43
      go_wp2_with (first | (go_at_call 31; refine (ST.out _ (HX.out.below (BA.out _))).mono ?_; rintro e w2 ⟨q, cc, rfl, ho2, hb2⟩; obtain ⟨g, hg, hcx, hix2⟩ := AT.out _ _ _ _ ho2; subst hg; have IX := hid hix2; have B2 := hid (bl2 hb2); clear ho2 hb2 hix2) | (go_at_call 44; refine IX.out.mono ?_; rintro e w3 ⟨rfl, hw⟩; rw [hw]; clear hw))
      go_ret2
      exact ⟨HN.out, B2.out⟩
    · have HI : Hid (∀ (q : Option Addr) (cc bs : Nat) (W : World), OwnG KI W bs (.slice q (stk X (X.r c).to).length cc) (nI (stk X (X.r c).to)) → Calls Try.prog 44 #[.slice q (stk X (X.r c).to).length cc, .int .i64 c] W fun e w' => e = .returned (.int .i64 ((stk X (X.r c).to).idxOf c)) ∧ w' = W) := fun q cc bs W ho => index_any _ c HM.out (by omega) q cc bs W ho
      have hix0 := List.idxOf_lt_length_iff.2 hm
      have HN : Hid (nxR (nxt X c) (.returned (.tuple #[.int .i64 (X.w (X.r c).to).to, .bool (X.w (X.r c).to).is]))) := by
        rw [nxt_top hr hk]
        cases hw : (X.w (X.r c).to).is with
        | true => exact rfl
        | false => exact ⟨_, rfl⟩
      have WC := hid (fun (W : World) (k : WX W b X) => k.wait hi ht)
      clear hm HM
      generalize (stk X (X.r c).to).idxOf c = ix at *
      generalize nI (stk X (X.r c).to) = SI at *
      generalize (stk X (X.r c).to).length = n at *
      generalize nxt X c = o at *
      generalize X.w (X.r c).to = wt at *
      generalize (X.r c).to = x1 at *
      generalize (X.r c).made = x2 at *
      have hk2 : ¬ (ix : Int) + 1 < n := by omega
      have hix : (ix : Int) < n := by omega
      clear h hi hr hk
      go_enter Try.func43, Try.ntmps43
      go_upto_region 8 with (first | (go_at_call 31; refine (ST.out _ (HX.out.below (BA.out _))).mono ?_; rintro e w2 ⟨q, cc, rfl, ho2, hb2⟩; have IX := hid (HI.out _ _ _ _ ho2); have d0 : w2.cell? ⟨w.heap.size, 0, none⟩ = some (.int .i64 x1) := (hb2.cell (p := ⟨w.heap.size, 0, none⟩) (by simp)).trans (box3 w _ _ _ _).1; have B2 := hid (bl2 hb2); clear ho2 hb2) | (go_at_call 44; refine IX.out.mono ?_; rintro e w3 ⟨rfl, hw⟩; rw [hw]; clear hw))
      have dB : w2.cell? ⟨B, 0, none⟩ = some (.pointer (some ⟨b, 0, none⟩)) := (B2.out.cell (p := ⟨B, 0, none⟩) hBl).trans hB
      obtain ⟨d1, d2, d3⟩ := WC.out w2 (HX.out.below B2.out)
      have hz := B2.out.size
      have hne3 : ¬ b = w2.heap.size := by omega
      have hne4 : ¬ B = w2.heap.size := by omega
      have hne5 : ¬ w.heap.size = w2.heap.size := by have := block_lt_of_cell d0; simp at this; omega
      have ht2 : (x1 : Int) < 128 := by omega
      have aB : ∀ ob, (w2.alloc ob).cell? ⟨B, 0, none⟩ = some (.pointer (some ⟨b, 0, none⟩)) := fun ob => ((bal w2 ob).cell (p := ⟨B, 0, none⟩) (block_lt_of_cell dB)).trans dB
      have a0 : ∀ ob, (w2.alloc ob).cell? ⟨w.heap.size, 0, none⟩ = some (.int .i64 x1) := fun ob => ((bal w2 ob).cell (p := ⟨w.heap.size, 0, none⟩) (block_lt_of_cell d0)).trans d0
      have a1 : ∀ ob, (w2.alloc ob).cell? ⟨b, 768 + x1 * 3, none⟩ = some (.int .i64 wt.to) := fun ob => ((bal w2 ob).cell (p := ⟨b, 768 + x1 * 3, none⟩) (block_lt_of_cell d1)).trans d1
      have a2 : ∀ ob, (w2.alloc ob).cell? ⟨b, 768 + x1 * 3 + 1, none⟩ = some (.int .i64 wt.made) := fun ob => ((bal w2 ob).cell (p := ⟨b, 768 + x1 * 3 + 1, none⟩) (block_lt_of_cell d2)).trans d2
      have a3 : ∀ ob, (w2.alloc ob).cell? ⟨b, 768 + x1 * 3 + 2, none⟩ = some (.bool wt.is) := fun ob => ((bal w2 ob).cell (p := ⟨b, 768 + x1 * 3 + 2, none⟩) (block_lt_of_cell d3)).trans d3
      have B3 : Hid (∀ n ob, Below w.heap.size w ((w2.alloc ob).drew.drewN n)) := fun n ob => bdd (bl3 B2.out (bal w2 ob)) n
      go_region
      all_goals
        go_wp2
        try (go_quiet (fail))
        go_wp2
        go_ret2
        exact ⟨HN.out, B3.out _ _⟩
/-- The circle, as the program tells it. -/
def cirL (X : Wb) (t : Nat) (l : List Nat) : List Nat := if (stk X t).getLast? = l.getLast? then l else []
set_option maxHeartbeats 8000000 in
theorem circle_any (X : Wb) (hi : WI X) (b : Nat) (t c : Nat) (hc : c < 256) (w : World) (h : WX w b X) (l : List Nat) (hw : Way (nxt X) c l) : Calls Try.prog 33 #[.pointer (some ⟨b, 0, none⟩), .int .i64 t, .int .i64 c] w fun e w' => ∃ q cc, e = .returned (.slice q (cirL X t l).length cc) ∧ OwnG KI w' w.heap.size (.slice q (cirL X t l).length cc) (nI (cirL X t l)) ∧ Below w.heap.size w w' := by
  have hl := h.lt
  have hlen := hw.len (nxt_bd hi) hc
  have B0 : Hid (Below w.heap.size w (w.alloc (.cells #[.pointer (some ⟨b, 0, none⟩)] 24))) := bal _ _
  have HB : (w.alloc (.cells #[.pointer (some ⟨b, 0, none⟩)] 24)).cell? ⟨w.heap.size, 0, none⟩ = some (.pointer (some ⟨b, 0, none⟩)) := box1 (heap_alloc_new _ _)
  have WK := hid (walk_any 43 #[.pointer (some ⟨w.heap.size, 0, none⟩)] Try.call43 (nxt X) c l hw (by omega) (w.alloc (.cells #[.pointer (some ⟨b, 0, none⟩)] 24)) (fun W z hz hb => circle1_any X hi b w.heap.size z (hw.lt (nxt_bd hi) hc z hz) W ((h.below B0.out).below hb) ((hb.cell (p := ⟨w.heap.size, 0, none⟩) (by simp)).trans HB) (Nat.lt_of_lt_of_le (by simp) hb.size)))
  have TP := hid (fun W (k : WX W b X) => top_any W b X k hi t)
  have HX := hid (h.below B0.out)
  have hmf : ∀ (fn : Fn) (first cap : Array Value) (w : World), (Instr.makeFunc fn first cap).run Try.prog w = .ok (.func fn first cap) w := fun _ _ _ _ => rfl
  have HE : Hid (cirL X t l = if (stk X t).getLast? = l.getLast? then l else []) := rfl
  generalize cirL X t l = R at *
  generalize stk X t = T at *
  rcases List.eq_nil_or_concat l with rfl | ⟨M, x, rfl⟩
  · exact absurd rfl hw.ne
  rw [List.concat_eq_append] at *
  have LL : Hid ((M ++ [x]).getLast? = some x) := by show _ = _; simp
  have LN : Hid ((M ++ [x]).length = M.length + 1) := by show _ = _; simp
  have AT : Hid (∀ (q : Option Addr) (cc bs : Nat) (W : World), OwnG KI W bs (.slice q (M.length + 1) cc) (nI (M ++ [x])) → ∃ g, q = some ⟨g, 0, none⟩ ∧ g < W.heap.size ∧ W.cell? ⟨g, M.length, none⟩ = some (.int .i64 x)) := fun q cc bs W ho => by
    obtain ⟨g, h1, h2⟩ := own_at ho (k := M.length) (by simp)
    exact ⟨g, h1, block_lt_of_cell h2, by rw [h2]; simp⟩
  rw [LN.out] at WK
  have hml : M.length + 1 ≤ 256 := by rw [← LN.out]; exact hlen
  rw [LL.out] at HE
  have SI : Hid (nI (M ++ [x]) = nI (M ++ [x])) := rfl
  generalize hS : nI (M ++ [x]) = S at WK AT
  have HS := hid hS
  generalize hm : M.length = m at WK AT hml
  have HM := hid hm
  clear hlen h hw hS hm SI hi
  rcases List.eq_nil_or_concat T with rfl | ⟨M2, y, rfl⟩
  · have HR : Hid (R = []) := by show _ = _; rw [HE.out]; rfl
    go_enter Try.func33, Try.ntmps33
    go_wp2_with (first | (go_at_call 42; refine WK.out.mono ?_; rintro e w2 ⟨q, cc, rfl, ho2, hb2⟩; have D2 : w2.cell? ⟨w.heap.size, 0, none⟩ = some (.pointer (some ⟨b, 0, none⟩)) := (hb2.cell (p := ⟨w.heap.size, 0, none⟩) (by simp)).trans HB; have X2 := hid (HX.out.below hb2); have B2 := hid (bl3 B0.out hb2); clear ho2 hb2) | (go_at_call 36; refine (TP.out _ X2.out).mono ?_; unfold topE; rintro e w3 ⟨rfl, hb3⟩; have B3 := hid (bl3 B2.out hb3); clear hb3))
    go_ret
    rw [HR.out]
    exact ⟨none, 0, rfl, OwnG.nil _ _ _, B3.out⟩
  · rw [List.concat_eq_append] at *
    have TE : Hid (topE (M2 ++ [y]) = .returned (.tuple #[.int .i64 y, .bool true])) := by show _ = _; unfold topE; simp
    rw [TE.out] at TP
    by_cases exy : y = x
    · have HR : Hid (R = M ++ [x]) := by show _ = _; rw [HE.out, exy]; simp
      have exi : (x : Int) = y := by omega
      have hle : (0 : Int) ≤ m := by omega
      clear HE exy
      go_enter Try.func33, Try.ntmps33
      go_wp2_with (first | (go_at_call 42; refine WK.out.mono ?_; rintro e w2 ⟨q, cc, rfl, ho2, hb2⟩; obtain ⟨g, hg, hgl, hcx⟩ := AT.out _ _ _ _ ho2; subst hg; have D2 : w2.cell? ⟨w.heap.size, 0, none⟩ = some (.pointer (some ⟨b, 0, none⟩)) := (hb2.cell (p := ⟨w.heap.size, 0, none⟩) (by simp)).trans HB; have X2 := hid (HX.out.below hb2); have B2 := hid (bl3 B0.out hb2); have O2 := hid ho2; clear ho2 hb2) | (go_at_call 36; refine (TP.out _ X2.out).mono ?_; rintro e w3 ⟨rfl, hb3⟩; have hcy : w3.cell? ⟨g, m, none⟩ = some (.int .i64 x) := (hb3.cell (p := ⟨g, m, none⟩) hgl).trans hcx; have O3 := hid (O2.out.below hb3); have B3 := hid (bl3 B2.out hb3); clear hb3))
      go_ret
      rw [HR.out, LN.out, HM.out, HS.out]
      exact ⟨_, _, rfl, O3.out.low B0.out.size, B3.out⟩
    · have HR : Hid (R = []) := by show _ = _; rw [HE.out]; simp [exy]
      have exi : ¬ (x : Int) = y := by omega
      have hle : (0 : Int) ≤ m := by omega
      clear HE exy
      go_enter Try.func33, Try.ntmps33
      go_wp2_with (first | (go_at_call 42; refine WK.out.mono ?_; rintro e w2 ⟨q, cc, rfl, ho2, hb2⟩; obtain ⟨g, hg, hgl, hcx⟩ := AT.out _ _ _ _ ho2; subst hg; have D2 : w2.cell? ⟨w.heap.size, 0, none⟩ = some (.pointer (some ⟨b, 0, none⟩)) := (hb2.cell (p := ⟨w.heap.size, 0, none⟩) (by simp)).trans HB; have X2 := hid (HX.out.below hb2); have B2 := hid (bl3 B0.out hb2); have O2 := hid ho2; clear ho2 hb2) | (go_at_call 36; refine (TP.out _ X2.out).mono ?_; rintro e w3 ⟨rfl, hb3⟩; have hcy : w3.cell? ⟨g, m, none⟩ = some (.int .i64 x) := (hb3.cell (p := ⟨g, m, none⟩) hgl).trans hcx; have O3 := hid (O2.out.below hb3); have B3 := hid (bl3 B2.out hb3); clear hb3))
      go_ret
      rw [HR.out]
      exact ⟨none, 0, rfl, OwnG.nil _ _ _, B3.out⟩
end Go.Proofs.Ytkhcinpcoabphaa
