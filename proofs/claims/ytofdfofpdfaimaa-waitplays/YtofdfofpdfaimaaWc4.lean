/- Waiting: Join. -/
import Derived.Test.YtofdfofpdfaimaaWc3
import Derived.Deep.Cut
namespace Go.Proofs.Ytofdfofpdfaimaa
open Go.RowKit Go.Maps

theorem ret_i {a b : Int} (h : a = b) : Ending.returned (.int .i64 a) = .returned (.int .i64 b) := by rw [h]
/-- A waiter in the box B, a room whose map may be stored into. -/
structure JC (w : World) (r m B : Nat) (x : Wt) (c : Nat) : Prop where
  r0 : w.cell? ⟨r, 0, none⟩ = some (.map (some m))
  r1 : w.cell? ⟨r, 1, none⟩ = some (.int .i64 c)
  b0 : w.cell? ⟨B, 0, none⟩ = some (.int .i64 x.task)
  b1 : w.cell? ⟨B, 1, none⟩ = some (.int .i64 x.kind)
  b2 : w.cell? ⟨B, 2, none⟩ = some (.string x.key)
  b3 : w.cell? ⟨B, 3, none⟩ = some (.string x.tok)
  fz : ∀ o, w.frozen? ⟨r, o, none⟩ = false
  rl : r < w.heap.size
theorem jc_of {w : World} {r m B : Nat} {x : Wt} {c : Nat} (h1 : w.heap[r]? = some (.cells #[.map (some m), .int .i64 c] 64)) (h2 : w.heap[B]? = some (.cells #[.int .i64 x.task, .int .i64 x.kind, .string x.key, .string x.tok] 30)) : JC w r m B x c := by
  obtain ⟨a0, a1, a2, a3, _⟩ := cells4 h2
  exact ⟨cell_of_row _ _ _ _ _ _ h1, cell_of_row _ _ _ _ _ _ h1, a0, a1, a2, a3, fun o => by simp [World.frozen?, h1], lt_of_heap h1⟩
theorem join_mid {w4 w5 : World} {base r m B : Nat} {L : List Wc} {c : Nat} {f : ByteArray → Option Value} {x : Wt} (h : RX w4 base r m L c f) (hB : w4.heap[B]? = some (.cells #[.int .i64 x.task, .int .i64 x.kind, .string x.key, .string x.tok] 30)) (hk : x.key.size ≤ maxLen) (v0 : Value) (hv : v0 = (f x.key).getD (.slice none 0 0))
    (hk5 : ∀ k, k < w4.heap.size → some k ≠ v0.ownBlock → w5.heap[k]? = w4.heap[k]?) (hs5 : w4.heap.size ≤ w5.heap.size) (v1 : Value) : JC w5 r m B x c ∧ ∃ w6, (Instr.mapUpdate 62 (.map (some m)) (.string x.key) v1).run Try.prog w5 = .ok () w6 ∧ JC w6 r m B x c ∧ MQ w6 m (putF f x.key v1) ∧ But (fun y => y = m) w5 w6 := by
  have O := h.at x.key
  rw [← hv] at O
  have rl := lt_of_heap h.hp
  have bl := lt_of_heap hB
  have n1 : some r ≠ v0.ownBlock := fun e => (O.notat h.hp (by decide)) e.symm
  have n2 : some B ≠ v0.ownBlock := fun e => (O.notat hB (by decide)) e.symm
  have n3 : some m ≠ v0.ownBlock := fun e => by
    obtain ⟨cur, h1⟩ := O.ty e.symm
    obtain ⟨D, ⟨es, cl, h2, _⟩, _⟩ := h.mq
    rw [h1] at h2; cases h2
  have hr5 := (hk5 r rl n1).trans h.hp
  have hb5 := (hk5 B bl n2).trans hB
  have hm5 := h.mq.far (hk5 m h.mq.lt n3)
  obtain ⟨w6, g1, g2, g3, g4⟩ := hm5.put Try.underlying62 _ h.keys (by have := h.ri.len; simp; unfold maxLen; omega) hk v1
  refine ⟨jc_of hr5 hb5, w6, g1, jc_of ((g3.block r (by omega) h.rm).trans hr5) ((g3.block B (by omega) (fun e => ?_)).trans hb5), g2, g3⟩
  subst e
  obtain ⟨D, ⟨es, cl, h2, _⟩, _⟩ := hm5
  rw [hb5] at h2; cases h2
set_option maxHeartbeats 8000000 in
set_option maxRecDepth 100000 in
theorem join_any (x : Wt) (w : World) (base r m : Nat) (L : List Wc) (c : Nat) (f : ByteArray → Option Value) (h : RX w base r m L c f) (hk : x.key.size ≤ maxLen) (hs : x.tok.size ≤ maxLen) (hc : c ≤ 1000000000000000000) : Calls Try.prog 11 #[.pointer (some ⟨r, 0, none⟩), .int .i64 x.task, .string x.key, .string x.tok, .int .i64 x.kind] w fun e w' => e = .returned (.int .i64 (joinE L x)) ∧ RR w base r m f (joinL L c x) (joinC L c x) w' := by
  have CK := hid (fun w' => check_any x w' hk hs)
  have B1 : Hid (Below w.heap.size w (w.alloc (.cells #[.int .i64 x.task, .int .i64 x.kind, .string x.key, .string x.tok] 30))) := bal _ _
  have H1 : Hid ((w.alloc (.cells #[.int .i64 x.task, .int .i64 x.kind, .string x.key, .string x.tok] 30)).heap[w.heap.size]? = some (.cells #[.int .i64 x.task, .int .i64 x.kind, .string x.key, .string x.tok] 30)) := heap_alloc_new _ _
  have HX := hid h
  by_cases h1 : chkE x = 0
  · rw [h1] at CK
    have FD := hid (fun w' (hb : Below w.heap.size w w') => find_any x.task w' base r m L c f (h.below hb))
    have ok := chk_ok h1
    have tb : taskB x.task = true := by simp [taskB]; omega
    cases h2 : (fdO L x.task).isSome with
    | true =>
      have EJ : Hid (joinE L x = 6) := by show _ = _; unfold joinE; rw [if_pos h1, h2]; rfl
      have FE : Hid (fdE L x.task = 0) := by show _ = _; unfold fdE; rw [tb, h2]; rfl
      rw [FE.out] at FD
      have SM := hid (fun w' (hb : Below w.heap.size w w') => RR.same (x := x) h hb (by rw [EJ.out]; decide))
      generalize fdW L x.task = fw at *
      generalize fdP L x.task = fp at *
      generalize joinE L x = je at *
      obtain ⟨t, kd, ky, tk⟩ := x
      simp only at *
      clear h h1 h2 ok tb hk hs FE
      go_enter Try.func11, Try.ntmps11
      go_wp2_with (first | (go_at_call 31; refine (CK.out _).mono ?_; rintro e w2 ⟨rfl, hb⟩; have B2 := hid (bl3 B1.out hb); clear hb) | (go_at_call 25; refine (FD.out _ B2.out).mono ?_; rintro e w3 ⟨rfl, hb⟩; have B3 := hid (bl3 B2.out hb); clear hb))
      go_ret
      exact ⟨ret_i EJ.out.symm, SM.out _ (bl3 B3.out (bal _ _))⟩
    | false =>
      have hnone : fdO L x.task = none := by simpa using h2
      have hno : ∀ y ∈ L, y.w.task ≠ x.task := fun y hy e => by
        unfold fdO at hnone
        rw [List.find?_eq_none] at hnone
        have := hnone y hy
        simp at this
        exact this e
      have EJ : Hid (joinE L x = 0) := by show _ = _; unfold joinE; rw [if_pos h1, h2]; rfl
      have FE : Hid (fdE L x.task = 4) := by show _ = _; unfold fdE; rw [tb, h2]; rfl
      rw [FE.out] at FD
      have H0 := hid (And.intro h1 hno)
      have JL : Hid (joinL L c x = L ++ [⟨x, c⟩] ∧ joinC L c x = c + 1) := by
        unfold joinL joinC
        rw [EJ.out, if_pos rfl, if_pos rfl]; exact ⟨rfl, rfl⟩
      have KX := hid hk
      have LEN : Hid (((qK L x.key).length + 1) * KC.B ≤ 140737488355328) := by
        have := qK_len L x.key
        have := h.ri.len
        show ((qK L x.key).length + 1) * 56 ≤ _
        omega
      generalize fdW L x.task = fw at *
      generalize fdP L x.task = fp at *
      generalize joinE L x = je at *
      clear h h1 h2 ok tb hk hs FE hnone hno
      go_enter Try.func11, Try.ntmps11
      go_upto_region 8 with (first | (go_at_call 31; refine (CK.out _).mono ?_; rintro e w2 ⟨rfl, hb⟩; have B2 := hid (bl3 B1.out hb); have H2 := hid ((hb.block _ (by simp)).trans H1.out); clear hb) | (go_at_call 25; refine (FD.out _ B2.out).mono ?_; rintro e w3 ⟨rfl, hb⟩; have B3 := hid (bl3 B2.out hb); have H3 := hid ((hb.block _ (lt_of_heap H2.out)).trans H2.out); clear hb))
      generalize hW : (World.alloc _ _) = w4
      have B4 : Hid (Below w.heap.size w w4) := by rw [← hW]; exact bl3 B3.out (bal _ _)
      have H4 : Hid (w4.heap[w.heap.size]? = some (.cells #[.int .i64 x.task, .int .i64 x.kind, .string x.key, .string x.tok] 30)) := by rw [← hW]; exact ((bal _ _).block _ (lt_of_heap H3.out)).trans H3.out
      clear hW H1 H2 H3 B1 B2 B3 CK FD
      have X4 := hid (HX.out.below B4.out)
      obtain ⟨a0, a1, a2, a3, _⟩ := cells4 H4.out
      obtain ⟨c0, c1, cf⟩ := X4.out.cells
      have O4 := hid (X4.out.at x.key)
      have LK : Hid (∀ W : World, W.heap[m]? = w4.heap[m]? → (Instr.lookup 62 (.map (some m)) (.string x.key) false).run Try.prog W = .ok ((f x.key).getD (.slice none 0 0)) W) := fun W hW => (X4.out.mq.far hW).look Try.underlying62 (zeroQ W) KX.out
      have ml := X4.out.mq.lt
      have rl := lt_of_heap X4.out.hp
      have k0 := LK.out w4 rfl
      have k1 := LK.out w4.drew rfl
      have k2 := LK.out ((w4.alloc (.cells #[.int .i64 x.task, .int .i64 x.kind, .string x.key, .string x.tok, .int .i64 c] 69)).drew) (Below.heap_alloc _ _ _ ml)
      have k3 := LK.out (w4.drew.alloc (.cells #[.int .i64 x.task, .int .i64 x.kind, .string x.key, .string x.tok, .int .i64 c] 69)) (Below.heap_alloc _ _ _ ml)
      obtain ⟨q, hq⟩ : ∃ q, q = qK L x.key := ⟨_, rfl⟩
      obtain ⟨v0, hv0⟩ : ∃ v0, v0 = (f x.key).getD (.slice none 0 0) := ⟨_, rfl⟩
      rw [← hv0] at k0 k1 k2 k3
      rw [← hv0, ← hq] at O4
      rw [← hq] at LEN
      have Q0 := hid (And.intro hq hv0)
      clear hq hv0 LK
      have OA : Hid (OwnG KC ((w4.alloc (.cells #[.int .i64 x.task, .int .i64 x.kind, .string x.key, .string x.tok, .int .i64 c] 69)).drew) base v0 q) := O4.out.below (bl3 (bal _ _) (drew_below _ 1))
      have HA : Hid (((w4.alloc (.cells #[.int .i64 x.task, .int .i64 x.kind, .string x.key, .string x.tok, .int .i64 c] 69)).drew).heap[w4.heap.size]? = some (.cells #[.int .i64 x.task, .int .i64 x.kind, .string x.key, .string x.tok, .int .i64 c] 69)) := heap_alloc_new _ _
      have BA : Hid (base ≤ ((w4.alloc (.cells #[.int .i64 x.task, .int .i64 x.kind, .string x.key, .string x.tok, .int .i64 c] 69)).drew).heap.size) := by
        have := X4.out.gr
        show base ≤ (w4.alloc _).heap.size
        simp; omega
      have BW : Hid (Below w.heap.size w ((w4.alloc (.cells #[.int .i64 x.task, .int .i64 x.kind, .string x.key, .string x.tok, .int .i64 c] 69)).drew)) := bl3 B4.out (bl3 (bal _ _) (drew_below _ 1))
      have XA : Hid (RX ((w4.alloc (.cells #[.int .i64 x.task, .int .i64 x.kind, .string x.key, .string x.tok, .int .i64 c] 69)).drew) base r m L c f) := HX.out.below BW.out
      have HB2 : Hid (((w4.alloc (.cells #[.int .i64 x.task, .int .i64 x.kind, .string x.key, .string x.tok, .int .i64 c] 69)).drew).heap[w.heap.size]? = some (.cells #[.int .i64 x.task, .int .i64 x.kind, .string x.key, .string x.tok] 30)) := (Below.heap_alloc _ _ _ (lt_of_heap H4.out)).trans H4.out
      have hcb : (0 : Int) ≤ (c : Int) ∧ (c : Int) ≤ 1000000000000000000 := by omega
      clear H4 X4 O4 hc
      go_region_held3 (fun w' => w'.cell? ⟨r, 0, none⟩ = some (.map (some m)) ∧ w'.cell? ⟨r, 1, none⟩ = some (.int .i64 c) ∧ w'.cell? ⟨w.heap.size, 0, none⟩ = some (.int .i64 x.task) ∧ w'.cell? ⟨w.heap.size, 1, none⟩ = some (.int .i64 x.kind) ∧ w'.cell? ⟨w.heap.size, 2, none⟩ = some (.string x.key) ∧ w'.cell? ⟨w.heap.size, 3, none⟩ = some (.string x.tok)) (go_keep)
        ((refine step_append_g KC KC_ok (by rfl) _ _ 66 (by rfl) base Try.underlying66 _ w4.heap.size _ _ HA.out v0 q ⟨x, c⟩ _ (by rfl) OA.out (by rfl) (by rfl) LEN.out BA.out ?_; intro g cap w5 ho5 hb5 hk5 hg5; have O5 := hid (And.intro ho5 (And.intro hb5 (And.intro hk5 hg5))); obtain ⟨j5, w6, hr6, j6, hm6, hb6⟩ := join_mid XA.out HB2.out KX.out v0 Q0.out.2 hk5 hb5.size (.slice (some ⟨g, 0, none⟩) (q.length + 1) cap); have M6 := hid (And.intro hm6 hb6); obtain ⟨y0, y1, y2, y3, y4, y5, _, _⟩ := j5; obtain ⟨z0, z1, z2, z3, z4, z5, zf, zl⟩ := j6; clear ho5 hb5 hk5 hg5 hm6 hb6))
      all_goals
        clear k0 k1 k2 k3 OA HA y0 y1 y2 y3 y4 y5
        go_wp2_with fail
        go_ret
        refine ⟨ret_i EJ.out.symm, ?_⟩
        rw [JL.out.1, JL.out.2]
        obtain ⟨rfl, rfl⟩ := Q0.out
        exact rx_join HX.out BW.out H0.out.1 H0.out.2 O5.out.1 O5.out.2.1 O5.out.2.2.1 O5.out.2.2.2 M6.out.1 M6.out.2 (by go_num)
  · have EJ : Hid (joinE L x = chkE x) := by show _ = _; unfold joinE; rw [if_neg h1]
    have SM := hid (fun w' (hb : Below w.heap.size w w') => RR.same (x := x) h hb (by rw [EJ.out]; exact h1))
    have e1 : (chkE x == 0) = false := by simpa using h1
    have e2 : (chkE x != 0) = true := by simpa using h1
    generalize chkE x = ce at *
    generalize joinE L x = je at *
    obtain ⟨t, kd, ky, tk⟩ := x
    simp only at *
    clear h hk hs
    go_enter Try.func11, Try.ntmps11
    go_wp2_with (first | (go_at_call 31; refine (CK.out _).mono ?_; rintro e w2 ⟨rfl, hb⟩; have B2 := hid (bl3 B1.out hb); clear hb))
    go_ret
    exact ⟨ret_i EJ.out.symm, SM.out _ B2.out⟩
end Go.Proofs.Ytofdfofpdfaimaa
