/- Failures: the wholes of a failure, walked. -/
import Derived.Test.YtaleagkhblokgaaDoorFx13
namespace Go.Proofs.YtaleagkhblokgaaDoor
open Go.RowKit

theorem OwnI.somewhat {w : World} {base cs : Nat} {ps : Option Addr} {E : List Int} (h : OwnI w base (.slice ps E.length cs) E) (hE : 0 < E.length) : ∃ gs, ps = some ⟨gs, 0, none⟩ ∧ E.length ≤ cs ∧ gs < w.heap.size := by
  have h0 := h
  rcases h.2 with ⟨e, e2⟩ | ⟨g, cap, cur, e, _, _, hcp, _⟩
  · omega
  · injection e with e1 e3 e4
    subst e1 e4
    exact ⟨g, rfl, hcp, (World.ownsRow.lt h0 g rfl).2⟩
theorem OwnI.void {w w' : World} {base n cs : Nat} {ps : Option Addr} {E : List Int} (h : OwnI w base (.slice ps n cs) E) (B : Below w.heap.size w w') : IS w' (.slice ps 0 0) [] := by
  have h0 := h
  rcases h.2 with ⟨e, e2⟩ | ⟨g, cap, cur, e, _, _, hcp, _⟩
  · injection e with e1 e3 e4; subst e1; exact Or.inl ⟨rfl, rfl⟩
  · injection e with e1 e3 e4
    subst e1
    exact Or.inr ⟨g, 0, 0, rfl, Nat.lt_of_lt_of_le (World.ownsRow.lt h0 g rfl).2 B.size, fun i hi => by simp at hi⟩
set_option maxHeartbeats 4000000 in
set_option maxRecDepth 100000 in
theorem wholes_any (v : Value) (l : List Cr) (w : World) (h : CS w v l) (hc : chk l = 0) :
    Calls Tryd.prog 36 #[v] w fun e w' => e = .returned (.slice (some ⟨w.heap.size, 0, none⟩) l.length l.length) ∧ Below w.heap.size w w' ∧ WB w' w.heap.size l.length ∧ ∀ j, j < l.length → WC w' w.heap.size j (.slice none 0 0) ((whS 0 [] [] l).getD j (0, [])) := by
  obtain ⟨hl, hw⟩ := chk_ok hc
  obtain ⟨p, cap, rfl⟩ := h.form
  have HS : Hid (CS w (.slice p l.length cap) l) := h
  have HW : Hid (walkC 0 l = some 1) := hw
  clear h hc hw
  go_enter Tryd.func36, Tryd.ntmps36
  go_wp2_with (at_make; refine make_wh _ rfl _ _ 62 rfl Tryd.underlying62 info_wh l.length rfl rfl (by omega) ?_; intro w1 hw1 hb1)
  have W0 : Hid (WI w w1 (.slice none 0 0) [] [] 0 l) := ⟨hw1, fun j hj => by omega, World.ownsRow_nil _ _ _ _, hb1, rfl, Nat.le_refl _, fun x hx => by simp at hx, rfl, HW.out⟩
  clear hw1 hb1
  go_loopw [4, 13] (fun v3 v4 wr => ∃ (k : Nat) (vs : Value) (E : List Int) (A : List (Int × List Int)) (wk : World), v4 = .int .i64 k ∧ vs = v3 ∧ wk = wr ∧ k ≤ l.length ∧ Hid (WI w wk vs E A k l)) (fun _ v4 _ => l.length - (intOf v4).toNat)
  case atStart => exact ⟨0, _, [], [], _, rfl, rfl, rfl, Nat.zero_le _, W0⟩
  case round =>
    obtain ⟨k, vs, E, A, wr, rfl, rfl, rfl, hk, HI⟩ := hrel
    clear W0
    obtain ⟨ps, cs, hvs⟩ := HI.out.s.form
    subst hvs
    by_cases hlt : k < l.length
    · obtain ⟨X, o, e1, x1, x2, x3⟩ := (HS.out.below HI.out.bl).at hlt
      obtain rfl : p = some ⟨X, o, none⟩ := e1
      have hwl := HI.out.wl
      have heq := HI.out.eq
      rw [drop_cr hlt] at hwl heq
      obtain ⟨c, hcc⟩ : ∃ c, c = l[k] := ⟨_, rfl⟩
      rw [← hcc] at x1 x2 x3 hwl heq
      obtain ⟨⟨hcb, hcn⟩, hwn⟩ := walk_step hwl
      obtain ⟨hn0, hn1⟩ := crB_n hcb
      obtain ⟨m, hm⟩ : ∃ m : Nat, c.n = m := ⟨c.n.toNat, by omega⟩
      obtain ⟨J, hJ⟩ : ∃ J, J = E.length - m := ⟨_, rfl⟩
      have hmE : m ≤ E.length := by omega
      have hJi : (E.length : Int) - (m : Int) = (J : Int) := by omega
      rw [hm] at x2
      have hEk := HI.out.ls
      have hJE : J ≤ E.length := by omega
      have hEJ : E.length - J = m := by omega
      have AL : Hid (∀ ob, Below wr.heap.size wr (wr.alloc ob)) := fun ob => (Below.refl _ _).alloc (Nat.le_refl _) ob
      have HM : Hid (c.n = m) := hm
      have HEQ : Hid _ := heq
      have HWN : Hid _ := hwn
      have HNE : Hid (wr.heap.size ≠ w.heap.size) := by have := HI.out.wb.lt; show wr.heap.size ≠ w.heap.size; omega
      have HW5 : Hid (∀ w5, Below wr.heap.size wr w5 → WB w5 w.heap.size l.length) := fun w5 b => HI.out.wb.keep (b.block _ HI.out.wb.lt)
      have HZ : Hid (∀ w5 w6 x y, Below wr.heap.size wr w5 → ST w.heap.size k l.length x y w5 w6 → w.heap.size + 1 ≤ w6.heap.size) := fun w5 w6 x y b s => by have := HI.out.wb.lt; have := b.size; have := s.size; omega
      have HO : Hid (∀ w5 w6 x y, Below wr.heap.size wr w5 → ST w.heap.size k l.length x y w5 w6 → OwnI w6 (w.heap.size + 1) (.slice ps E.length cs) E) := fun w5 w6 x y b s => (HI.out.s.below b).far (fun g hg => s.block g (by have := (World.ownsRow.lt HI.out.s g hg).1; omega))
      clear hcc hwl heq hcb hcn hwn hn0 hn1 hm
      by_cases hm0 : m = 0
      · obtain rfl : J = E.length := by omega
        subst hm0
        have LS : Hid (E.length ≤ 100000) := by show E.length ≤ 100000; omega
        have HDB : Hid (([] : List Int).length ≤ 10000) := by show ([] : List Int).length ≤ 10000; simp
        have EQ1 : Hid (whS 0 [] [] l = whS (k + 1) (E ++ [(k : Int)]) (A ++ [((k : Int), [])]) (l.drop (k + 1))) := by
          show whS 0 [] [] l = _
          rw [HEQ.out, whS, HM.out]; simp
        have WL1 : Hid (walkC ((E.length + 1 : Nat) : Int) (l.drop (k + 1)) = some 1) := by
          have := HWN.out
          rw [HM.out] at this
          show walkC _ _ = _
          rw [← this]; congr 1
        clear hJ hJi hJE hEJ hmE
        by_cases hcj : cs = E.length
        · have ISX : Hid (∀ w', Below wr.heap.size wr w' → IS w' (.slice ps 0 0) []) := fun w' B => HI.out.s.void B
          subst hcj
          go_wp2_with (first | (go_at_call 56; refine (clonei_any _ _ [] (ISX.out _ (AL.out _)) HDB.out).mono ?_; rintro e w5 ⟨p5, c5, rfl, ho5, hb5⟩; have y1 : w5.cell? ⟨wr.heap.size, 1, none⟩ = some (.int .i64 0) := (hb5.cell (p := ⟨wr.heap.size, 1, none⟩) (by simp)).trans (cell_of_row _ _ _ _ _ _ (heap_alloc_new wr _)); have B5 : Hid (Below wr.heap.size wr w5) := (AL.out _).trans (hb5.mono (by simp)); have O5 : Hid (OwnI w5 wr.heap.size (.slice p5 0 c5) []) := ho5.low (by simp); have wb5 := HW5.out _ B5.out; obtain ⟨z0, hz0⟩ := wb5.cell (o := k * 2) (by omega); obtain ⟨z1, hz1⟩ := wb5.cell (o := k * 2 + 1) (by omega); have hz1' : (w5.setCell ⟨w.heap.size, k * 2, none⟩ (.int .i64 k)).cell? ⟨w.heap.size, k * 2 + 1, none⟩ = some z1 := (set_other (by omega)).trans hz1; have fz0 := wb5.frozen (k * 2); have fz1 := (wb5.set (k * 2) (.int .i64 k)).frozen (k * 2 + 1); have S6 := ST.two wb5 hlt (.int .i64 k) (.slice p5 0 c5); have y6 := (World.cell?_of_block (a := ⟨wr.heap.size, 1, none⟩) (S6.block wr.heap.size HNE.out)).trans y1; have HS6 : Hid _ := S6; clear ho5 hb5 wb5 S6) | (at_builtin; refine append_int rfl (.tmp 49) (.tmp 51) 25 rfl (w.heap.size + 1) Tryd.underlying25 info_int _ _ _ (.slice ps E.length E.length) E (k : Int) _ rfl (HO.out _ _ _ _ B5.out HS6.out) _ HS6.out.size rfl rfl LS.out (HZ.out _ _ _ _ B5.out HS6.out) ?_; intro g1 c1 w7 ho7 hb7 hk7 hg7))
          go_roundw
          case rel => exact ⟨k + 1, _, _, _, _, by go_num, rfl, rfl, by omega, HI.out.next hlt (vs0 := .slice ps E.length E.length) rfl B5.out O5.out HS6.out ho7 hb7 hk7 hg7 (fun x hx => hx) hEk EQ1.out WL1.out⟩
          case measure => simp [intOf]; omega
        · obtain ⟨gs, rfl, hcs, hgs⟩ : ∃ gs, ps = some ⟨gs, 0, none⟩ ∧ E.length ≤ cs ∧ gs < wr.heap.size := HI.out.s.somewhere (Nat.le_refl _) hcj
          have hadd : (⟨gs, 0, none⟩ : Addr).add E.length = ⟨gs, E.length, none⟩ := by unfold Addr.add; split <;> simp_all
          have ISX : Hid (∀ w', Below wr.heap.size wr w' → IS w' (.slice (some ⟨gs, E.length, none⟩) 0 (cs - E.length)) []) := fun w' B => Or.inr ⟨gs, E.length, _, rfl, Nat.lt_of_lt_of_le hgs B.size, fun i hi => by simp at hi⟩
          go_wp2_with (first | (go_at_call 56; refine (clonei_any _ _ [] (ISX.out _ (AL.out _)) HDB.out).mono ?_; rintro e w5 ⟨p5, c5, rfl, ho5, hb5⟩; have y1 : w5.cell? ⟨wr.heap.size, 1, none⟩ = some (.int .i64 0) := (hb5.cell (p := ⟨wr.heap.size, 1, none⟩) (by simp)).trans (cell_of_row _ _ _ _ _ _ (heap_alloc_new wr _)); have B5 : Hid (Below wr.heap.size wr w5) := (AL.out _).trans (hb5.mono (by simp)); have O5 : Hid (OwnI w5 wr.heap.size (.slice p5 0 c5) []) := ho5.low (by simp); have wb5 := HW5.out _ B5.out; obtain ⟨z0, hz0⟩ := wb5.cell (o := k * 2) (by omega); obtain ⟨z1, hz1⟩ := wb5.cell (o := k * 2 + 1) (by omega); have hz1' : (w5.setCell ⟨w.heap.size, k * 2, none⟩ (.int .i64 k)).cell? ⟨w.heap.size, k * 2 + 1, none⟩ = some z1 := (set_other (by omega)).trans hz1; have fz0 := wb5.frozen (k * 2); have fz1 := (wb5.set (k * 2) (.int .i64 k)).frozen (k * 2 + 1); have S6 := ST.two wb5 hlt (.int .i64 k) (.slice p5 0 c5); have y6 := (World.cell?_of_block (a := ⟨wr.heap.size, 1, none⟩) (S6.block wr.heap.size HNE.out)).trans y1; have HS6 : Hid _ := S6; clear ho5 hb5 wb5 S6) | (at_builtin; refine append_int rfl (.tmp 49) (.tmp 51) 25 rfl (w.heap.size + 1) Tryd.underlying25 info_int _ _ _ (.slice (some ⟨gs, 0, none⟩) E.length cs) E (k : Int) _ rfl (HO.out _ _ _ _ B5.out HS6.out) _ HS6.out.size rfl rfl LS.out (HZ.out _ _ _ _ B5.out HS6.out) ?_; intro g1 c1 w7 ho7 hb7 hk7 hg7))
          go_roundw
          case rel => exact ⟨k + 1, _, _, _, _, by go_num, rfl, rfl, by omega, HI.out.next hlt (vs0 := .slice (some ⟨gs, 0, none⟩) E.length cs) rfl B5.out O5.out HS6.out ho7 hb7 hk7 hg7 (fun x hx => hx) hEk EQ1.out WL1.out⟩
          case measure => simp [intOf]; omega
      · have hJl : J < E.length := by omega
        obtain ⟨gs, rfl, hcs, hgs⟩ : ∃ gs, ps = some ⟨gs, 0, none⟩ ∧ E.length ≤ cs ∧ gs < wr.heap.size := HI.out.s.somewhat (by omega)
        have hcj : ¬ cs = J := by omega
        have hadd : (⟨gs, 0, none⟩ : Addr).add J = ⟨gs, J, none⟩ := by unfold Addr.add; split <;> simp_all
        have ISX : Hid (∀ w', Below wr.heap.size wr w' → IS w' (.slice (some ⟨gs, J, none⟩) m (cs - J)) (E.drop J)) := fun w' B => (HI.out.s.tail hJE hEJ).below B
        obtain ⟨b, hb⟩ : ∃ b : Nat, E.getD J 0 = b := ⟨(E.getD J 0).toNat, by have := HI.out.me _ (mem_getD hJl); omega⟩
        have hbk : b < k := by have := HI.out.me _ (mem_getD hJl); omega
        have cJ := own_cell HI.out.s rfl hJl
        rw [hb] at cJ
        obtain ⟨vb, cb, _, _, _⟩ := HI.out.ce b hbk
        obtain ⟨f, hf⟩ : ∃ f, f = (A.getD b (0, [])).1 := ⟨_, rfl⟩
        rw [← hf] at cb
        have GS : Hid (gs ≠ w.heap.size) := by have := (World.ownsRow.lt HI.out.s gs rfl).1; show gs ≠ w.heap.size; omega
        have CJ : Hid (∀ w5 w6 x y, Below wr.heap.size wr w5 → ST w.heap.size k l.length x y w5 w6 → w6.cell? ⟨gs, J, none⟩ = some (.int .i64 b)) := fun w5 w6 x y B s => ((World.cell?_of_block (a := ⟨gs, J, none⟩) (s.block gs GS.out)).trans (B.cell (p := ⟨gs, J, none⟩) hgs)).trans cJ
        have CB : Hid (∀ w5 w6 x y, Below wr.heap.size wr w5 → ST w.heap.size k l.length x y w5 w6 → w6.cell? ⟨w.heap.size, b * 2, none⟩ = some (.int .i64 f)) := fun w5 w6 x y B s => ((s.cell _ (by omega) (by omega)).trans (B.cell (p := ⟨w.heap.size, b * 2, none⟩) HI.out.wb.lt)).trans cb
        obtain ⟨D, hD⟩ : ∃ D, D = E.drop J := ⟨_, rfl⟩
        have hDl : D.length = m := by rw [hD, List.length_drop]; omega
        obtain ⟨E0, hE0⟩ : ∃ E0, E0 = E.take J := ⟨_, rfl⟩
        have hE0l : E0.length = J := by rw [hE0, List.length_take]; omega
        have HIN : Hid (∀ x ∈ E0, x ∈ E) := fun x hx => by rw [hE0] at hx; exact List.mem_of_mem_take hx
        have HDB : Hid (D.length ≤ 10000) := by show D.length ≤ 10000; omega
        have HDL : Hid (D.length = m) := hDl
        have LS : Hid (E0.length ≤ 100000) := by show E0.length ≤ 100000; omega
        have LK : Hid (E0.length ≤ k) := by show E0.length ≤ k; omega
        have HO2 : Hid (∀ w5 w6 x y, Below wr.heap.size wr w5 → ST w.heap.size k l.length x y w5 w6 → OwnI w6 (w.heap.size + 1) (.slice (some ⟨gs, 0, none⟩) J cs) E0) := fun w5 w6 x y B s => hE0 ▸ (HO.out w5 w6 x y B s).cut J hJE
        have EQ1 : Hid (whS 0 [] [] l = whS (k + 1) (E0 ++ [(k : Int)]) (A ++ [(f, D)]) (l.drop (k + 1))) := by
          show whS 0 [] [] l = _
          have e3 : E.length - (m : Int).toNat = J := by omega
          rw [HEQ.out, whS, HM.out, if_pos (by omega), e3, hb, hD, hE0, hf]; simp
        have WL1 : Hid (walkC ((E0.length + 1 : Nat) : Int) (l.drop (k + 1)) = some 1) := by
          have := HWN.out
          rw [HM.out] at this
          show walkC _ _ = _
          rw [← this, hE0l]; congr 1; omega
        rw [← hD] at ISX
        have hmp : (m : Int) > 0 := by omega
        clear hJ hD hE0 hf hb cJ cb hE0l hDl hm0 HO
        go_wp2_with (first | (go_at_call 56; refine (clonei_any _ _ D (ISX.out _ (AL.out _)) HDB.out).mono ?_; rintro e w5 ⟨p5, c5, rfl, ho5, hb5⟩; rw [HDL.out] at ho5 ⊢; have y1 : w5.cell? ⟨wr.heap.size, 1, none⟩ = some (.int .i64 m) := (hb5.cell (p := ⟨wr.heap.size, 1, none⟩) (by simp)).trans (cell_of_row _ _ _ _ _ _ (heap_alloc_new wr _)); have B5 : Hid (Below wr.heap.size wr w5) := (AL.out _).trans (hb5.mono (by simp)); have O5 : Hid (OwnI w5 wr.heap.size (.slice p5 m c5) D) := ho5.low (by simp); have wb5 := HW5.out _ B5.out; obtain ⟨z0, hz0⟩ := wb5.cell (o := k * 2) (by omega); obtain ⟨z1, hz1⟩ := wb5.cell (o := k * 2 + 1) (by omega); have hz1' : (w5.setCell ⟨w.heap.size, k * 2, none⟩ (.int .i64 k)).cell? ⟨w.heap.size, k * 2 + 1, none⟩ = some z1 := (set_other (by omega)).trans hz1; have fz0 := wb5.frozen (k * 2); have fz1 := (wb5.set (k * 2) (.int .i64 k)).frozen (k * 2 + 1); have S6 := ST.two wb5 hlt (.int .i64 k) (.slice p5 m c5); have y6 := (World.cell?_of_block (a := ⟨wr.heap.size, 1, none⟩) (S6.block wr.heap.size HNE.out)).trans y1; have cj6 := CJ.out _ _ _ _ B5.out S6; have cb6 := CB.out _ _ _ _ B5.out S6; have ck6 := S6.c0; have fk6 := S6.wb.frozen (k * 2); have HS7 : Hid _ := S6.one (.int .i64 f); clear ho5 hb5 wb5 S6) | (at_builtin; refine append_int rfl (.tmp 49) (.tmp 51) 25 rfl (w.heap.size + 1) Tryd.underlying25 info_int _ _ _ (.slice (some ⟨gs, 0, none⟩) J cs) E0 (k : Int) _ rfl (HO2.out _ _ _ _ B5.out HS7.out) _ HS7.out.size rfl rfl LS.out (HZ.out _ _ _ _ B5.out HS7.out) ?_; intro g1 c1 w7 ho7 hb7 hk7 hg7))
        go_roundw
        case rel => exact ⟨k + 1, _, _, _, _, by go_num, rfl, rfl, by omega, HI.out.next hlt (vs0 := .slice (some ⟨gs, 0, none⟩) J cs) rfl B5.out O5.out HS7.out ho7 hb7 hk7 hg7 HIN.out LK.out EQ1.out WL1.out⟩
        case measure => simp [intOf]; omega
    · have hkl : k = l.length := by omega
      have FIN : Hid (Below w.heap.size w wr ∧ WB wr w.heap.size l.length ∧ ∀ j, j < l.length → WC wr w.heap.size j (.slice none 0 0) ((whS 0 [] [] l).getD j (0, []))) := by
        refine ⟨HI.out.bl, HI.out.wb, fun j hj => ?_⟩
        have e := HI.out.eq
        rw [List.drop_eq_nil_of_le (by omega), whS] at e
        rw [e]
        obtain ⟨v, a1, a2, a3, a4⟩ := HI.out.ce j (by omega)
        exact ⟨v, a1, a2, a3, fun x hx => ⟨(a4 x hx).1, by simp [Value.ownBlock]⟩⟩
      go_wp2
      go_ret
      exact ⟨rfl, FIN.out⟩
end Go.Proofs.YtaleagkhblokgaaDoor
