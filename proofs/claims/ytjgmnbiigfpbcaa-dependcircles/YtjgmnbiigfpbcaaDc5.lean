/- Depend: Circle. -/
import Derived.Test.YtjgmnbiigfpbcaaDc4
namespace Go.Proofs.Ytjgmnbiigfpbcaa
open Go.RowKit

theorem fL_val {L : List Int} {x y : Nat} (hx : x < L.length) (h : fL L x = some y) (hr : rlB L = true) : L[x] = (y : Int) := by
  rw [fL_at hx] at h
  have := eO_oI (rlB_at hr hx).1
  rw [h] at this
  exact this.symm
set_option maxHeartbeats 8000000 in
theorem circleF1_any (L : List Int) (hr : rlB L = true) (m x y : Nat) (hx : x < L.length) (hy : fL L x = some y) (p : Option Addr) (c B1 B2 : Nat) (w : World) (h : GS KI w (.slice p L.length c) L) (h1 : w.cell? ⟨B1, 0, none⟩ = some (.slice p L.length c)) (h2 : w.cell? ⟨B2, 0, none⟩ = some (.int .i64 m)) : Calls Try.prog 40 #[.int .i64 x, .pointer (some ⟨B1, 0, none⟩), .pointer (some ⟨B2, 0, none⟩)] w fun e w' => nxR (gL L m x) e ∧ Below w.heap.size w w' := by
  obtain ⟨Y, o, e1, hc⟩ := h.atI hx
  subst e1
  rw [fL_val hx hy hr] at hc
  have hx2 : (x : Int) < L.length := by omega
  have BD := hid (fun n => drew_below w n)
  by_cases e : y = m
  · have HG : Hid (nxR (gL L m x) (.returned (.tuple #[.int .i64 y, .bool false]))) := by
      unfold gL; rw [hy, e, if_pos rfl]; exact ⟨_, rfl⟩
    have hb : ((y : Int) != m) = false := by simp [e]
    generalize gL L m x = o' at *
    generalize L.length = n at *
    clear h hr hy e
    go_enter Try.func40, Try.ntmps40
    go_wp2
    go_quiet (fail)
    go_wp2
    go_ret2
    exact ⟨HG.out, BD.out _⟩
  · have HG : Hid (nxR (gL L m x) (.returned (.tuple #[.int .i64 y, .bool true]))) := by
      unfold gL; rw [hy, if_neg (by simpa using e)]; exact rfl
    have hb : ((y : Int) != m) = true := by simp; omega
    generalize gL L m x = o' at *
    generalize L.length = n at *
    clear h hr hy e
    go_enter Try.func40, Try.ntmps40
    go_wp2
    go_quiet (fail)
    go_wp2
    go_ret2
    exact ⟨HG.out, BD.out _⟩
def cirE (L : List Int) : Int := if 4096 < L.length then 3 else if rlB L then 0 else 1
/-- What Circle answers. -/
def CirO (L : List Int) (R : List Nat) : Prop := (cirE L = 0 → rlB L = true ∧ L.length ≤ 4096 ∧ CirR L R) ∧ (cirE L ≠ 0 → R = [])
theorem CirO.uniq {L : List Int} {R S : List Nat} (h : CirO L R) (k : CirO L S) : R = S := by
  by_cases e : cirE L = 0
  · exact (h.1 e).2.2.uniq (k.1 e).2.2
  · rw [h.2 e, k.2 e]
set_option maxHeartbeats 8000000 in
theorem circleF_any (L : List Int) (p : Option Addr) (c : Nat) (w : World) (h : GS KI w (.slice p L.length c) L) (hmax : L.length ≤ 140737488355328) : Calls Try.prog 13 #[.slice p L.length c] w fun e w' => ∃ R q cc, e = .returned (.tuple #[.slice q R.length cc, .int .i64 (cirE L)]) ∧ OwnG KI w' w.heap.size (.slice q R.length cc) (nI R) ∧ CirO L R ∧ Below w.heap.size w w' := by
  have HG := hid h
  have HE : Hid (cirE L = if 4096 < L.length then 3 else if rlB L then 0 else 1) := rfl
  have B0 : Hid (Below w.heap.size w (w.alloc (.cells #[.slice p L.length c] 35))) := bal _ _
  have HB0 : Hid ((w.alloc (.cells #[.slice p L.length c] 35)).heap[w.heap.size]? = some (.cells #[.slice p L.length c] 35)) := heap_alloc_new _ _
  have C0 : (w.alloc (.cells #[.slice p L.length c] 35)).cell? ⟨w.heap.size, 0, none⟩ = some (.slice p L.length c) := box1 HB0.out
  by_cases hl : 4096 < L.length
  · have HN : Hid (cirE L = 3) := by show _ = _; rw [HE.out, if_pos hl]
    have HO : Hid (CirO L []) := ⟨fun e => (by rw [HN.out] at e; cases e), fun _ => rfl⟩
    have hl2 : (4096 : Int) < L.length := by omega
    rw [HN.out]
    generalize hLn : L.length = n at *
    clear h HG HE HN hLn
    go_enter Try.func13, Try.ntmps13
    go_wp2
    go_ret2
    exact ⟨[], none, 0, rfl, OwnG.nil _ _ _, HO.out, B0.out⟩
  · have hl2 : ¬ (4096 : Int) < L.length := by omega
    have hn : L.length ≤ 4096 := by omega
    have Z0 : Hid ((w.alloc (.cells #[.slice p L.length c] 35)).heap.size = w.heap.size + 1) := alloc_size _ _
    have GA := hid (HG.out.below B0.out)
    clear h
    go_enter Try.func13, Try.ntmps13
    go_wp2
    generalize hw0 : w.alloc (.cells #[.slice p L.length c] 35) = w0 at *
    clear hw0
    obtain ⟨n, hnn⟩ : ∃ n, n = L.length := ⟨_, rfl⟩
    rw [← hnn] at hn hl2 C0 ⊢
    have HNN := hid hnn
    clear hnn hmax hl
    go_loop [13] (fun v13 => ∃ k : Nat, k ≤ n ∧ v13 = .int .i64 k ∧ Hid (∀ j (hj : j < L.length), j < k → -1 ≤ L[j] ∧ L[j] < L.length)) (fun v13 => n - (intOf v13).toNat)
    case atStart => exact ⟨0, Nat.zero_le _, rfl, fun j _ hj => absurd hj (Nat.not_lt_zero _)⟩
    case round =>
      obtain ⟨k, hk, rfl, HV⟩ := hrel
      by_cases hlt : k < n
      · have hkL : k < L.length := by have := HNN.out; omega
        obtain ⟨Y, o, e1, hc⟩ := GA.out.atI hkL
        have BAD : Hid (¬ (-1 ≤ L[k] ∧ L[k] < L.length) → CirO L [] ∧ cirE L = 1) := fun hb => by
          have e : cirE L = 1 := by rw [HE.out, if_neg (by have := HNN.out; omega), rlB_no hkL hb]; rfl
          exact ⟨⟨fun q => (by rw [e] at q; cases q), fun _ => rfl⟩, e⟩
        have GOOD : Hid ((-1 ≤ L[k] ∧ L[k] < L.length) → ∀ j (hj : j < L.length), j < k + 1 → -1 ≤ L[j] ∧ L[j] < L.length) := fun hb j hj hjk => by
          by_cases e : j = k
          · subst e; exact hb
          · exact HV.out j hj (by omega)
        subst e1
        rw [← HNN.out] at BAD
        have GOOD2 : Hid ((-1 ≤ L[k] ∧ L[k] < (n : Int)) → ∀ j (hj : j < L.length), j < k + 1 → -1 ≤ L[j] ∧ L[j] < L.length) := fun hb => GOOD.out (by rw [← HNN.out]; exact hb)
        generalize L[k] = x at *
        by_cases h1 : x < -1
        · obtain ⟨hO, hE⟩ := BAD.out (by omega)
          have HO := hid hO
          have HE2 := hid hE
          clear hE hO
          go_wp2
          go_ret2
          rw [HE2.out]
          exact ⟨[], none, 0, rfl, OwnG.nil _ _ _, HO.out, B0.out⟩
        · by_cases h2 : (n : Int) ≤ x
          · obtain ⟨hO, hE⟩ := BAD.out (by omega)
            have HO := hid hO
            have HE2 := hid hE
            clear hE hO
            go_wp2
            go_ret2
            rw [HE2.out]
            exact ⟨[], none, 0, rfl, OwnG.nil _ _ _, HO.out, B0.out⟩
          · have V2 := hid (GOOD2.out (by omega))
            go_wp2
            go_round
            case rel => exact ⟨k + 1, by omega, by go_num, V2⟩
            case measure => simp [intOf]; omega
      · have RL : Hid (rlB L = true) := rlB_all fun j hj => HV.out j hj (by have := HNN.out; omega)
        have E0 : Hid (cirE L = 0) := by show _ = _; rw [HE.out, if_neg (by have := HNN.out; omega), RL.out]; rfl
        have LE := least_any L RL.out (by have := HNN.out; omega) p c w0 (by rw [← HNN.out] at GA; rw [← HNN.out]; exact GA.out)
        rw [← HNN.out] at LE
        have LA : Hid (Calls Try.prog 38 #[.slice p n c] w0 fun e w' => ∃ v b, e = .returned (.tuple #[.int .i64 v, .bool b]) ∧ ((b = false ∧ CirO L []) ∨ ∃ m : Nat, b = true ∧ v = m ∧ Lst L m) ∧ Below w0.heap.size w0 w') := by
          refine LE.mono ?_
          rintro e w' ⟨N, hN, rfl, hb⟩
          rw [HNN.out] at hN ⊢
          refine ⟨_, _, rfl, ?_, hb⟩
          by_cases q : lsI L.length (farL L N) < L.length
          · right
            obtain ⟨m, hm, hL⟩ := ls_lst RL.out hN q
            exact ⟨m, by simpa using q, hm, hL⟩
          · left
            refine ⟨by simpa using q, fun _ => ⟨RL.out, by have := HNN.out; omega, Or.inl ⟨rfl, ls_none RL.out q⟩⟩, fun _ => rfl⟩
        clear LE
        have CK : Hid (∀ (w2 : World) (m : Nat), Below w0.heap.size w0 w2 → Lst L m → ∃ R, CirO L R ∧ Calls Try.prog 39 #[.int .i64 m, .func (.func 40) #[] #[.pointer (some ⟨w.heap.size, 0, none⟩), .pointer (some ⟨w2.heap.size, 0, none⟩)]] (w2.alloc (.cells #[.int .i64 m] 3)) fun e w' => ∃ q cc, e = .returned (.slice q R.length cc) ∧ OwnG KI w' (w2.alloc (.cells #[.int .i64 m] 3)).heap.size (.slice q R.length cc) (nI R) ∧ Below (w2.alloc (.cells #[.int .i64 m] 3)).heap.size (w2.alloc (.cells #[.int .i64 m] 3)) w') := fun w2 m hb hL => by
          obtain ⟨R, hR⟩ := (gL_ends hL.cyc).way
          have hCR : CirR L R := Or.inr ⟨m, hL, hR⟩
          have hlen := hCR.len RL.out
          have hb3 : Below w0.heap.size w0 (w2.alloc (.cells #[.int .i64 m] 3)) := bl3 hb (bal _ _)
          refine ⟨R, ⟨fun _ => ⟨RL.out, by have := HNN.out; omega, hCR⟩, fun q => absurd E0.out q⟩, ?_⟩
          refine walk_any 40 _ Try.call40 (gL L m) m R hR (by have := HNN.out; omega) _ (fun W z hz hbW => ?_)
          have hzc : Cyc (fL L) z := by
            obtain ⟨k, hk, rfl⟩ := List.getElem_of_mem hz
            exact cyc_step hL.cyc (gL_it (hR.reach k hk))
          have hzl := hR.lt (gL_bd RL.out m) hL.lt z hz
          obtain ⟨y, hy⟩ : ∃ y, fL L z = some y := by
            cases e : fL L z with
            | none => exact absurd (by rw [it_one]; exact e) (cyc_never hzc 1)
            | some y => exact ⟨y, rfl⟩
          have hbb : Below w0.heap.size w0 W := hb3.trans (hbW.mono hb3.size)
          refine circleF1_any L RL.out m z y hzl hy p c w.heap.size w2.heap.size W ?_ ?_ ?_
          · have := GA.out.below hbb; exact this
          · refine (hbb.cell (p := ⟨w.heap.size, 0, none⟩) (by rw [Z0.out]; show w.heap.size < w.heap.size + 1; omega)).trans ?_
            rw [C0, HNN.out]
          · exact (hbW.cell (p := ⟨w2.heap.size, 0, none⟩) (by simp)).trans (box1 (heap_alloc_new _ _))
        have hmf : ∀ (fn : Fn) (first cap : Array Value) (w : World), (Instr.makeFunc fn first cap).run Try.prog w = .ok (.func fn first cap) w := fun _ _ _ _ => rfl
        have hle : ¬ (k : Int) < n := by omega
        have CB : Hid (∀ W, Below w0.heap.size w0 W → W.cell? ⟨w.heap.size, 0, none⟩ = some (.slice p n c)) := fun W hb => (hb.cell (p := ⟨w.heap.size, 0, none⟩) (by rw [Z0.out]; show w.heap.size < w.heap.size + 1; omega)).trans C0
        go_upto_region 10 with (go_at_call 38; refine LA.out.mono ?_; rintro e w2 ⟨v, bb, rfl, hcase, hb2⟩; have HC2 := hid hcase; have B2 := hid hb2; clear hcase hb2)
        rcases HC2.out with ⟨rfl, hO⟩ | ⟨m, rfl, rfl, hL⟩
        · have HO := hid hO
          have B3 : Hid (∀ ob, Below w.heap.size w (w2.alloc ob)) := fun ob => bl3 (bl3 B0.out B2.out) (bal _ _)
          clear hO HC2
          go_wp2
          go_ret2
          rw [E0.out]
          exact ⟨[], none, 0, rfl, OwnG.nil _ _ _, HO.out, B3.out _⟩
        · obtain ⟨R, hO, hW⟩ := CK.out w2 m B2.out hL
          have HO := hid hO
          have HW := hid hW
          have B3 : Hid (∀ ob, Below w.heap.size w (w2.alloc ob)) := fun ob => bl3 (bl3 B0.out B2.out) (bal _ _)
          clear hO hW HC2 CK hL
          go_wp2_with (go_at_call 39; refine HW.out.mono ?_; rintro e w3 ⟨q, cc, rfl, ho3, hb3⟩; have O3 := hid ho3; have B4 := hid hb3; clear ho3 hb3)
          go_ret2
          rw [E0.out]
          exact ⟨R, _, _, rfl, O3.out.low (B3.out _).size, HO.out, bl3 (B3.out _) B4.out⟩
end Go.Proofs.Ytjgmnbiigfpbcaa
