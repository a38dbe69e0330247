/- Failures, the reference: begins and Check, walked. -/
import Derived.Test.YtbgeihgenckihaaDoorFx4
namespace Go.Proofs.YtbgeihgenckihaaDoor
open Go.RowKit

theorem BI.eqn {w wk : World} {vf vs : Value} {F S : List Int} {k : Nat} {l : List Cr} (h : BI w wk vf vs F S k l) (hk : k < l.length) (hc : crR l[k] = true ∧ l[k].n ≤ S.length) (b : Int) (hb : b = if 0 < l[k].n then S.getD (S.length - l[k].n.toNat) 0 else (k : Int)) :
    begS 0 [] l = (begS (k + 1) (S.take (S.length - l[k].n.toNat) ++ [b]) (l.drop (k + 1))).map fun q => (F ++ [b] ++ q.1, q.2) := by
  rw [h.eq, drop_cr hk, begS, if_pos hc, ← hb, Option.map_map]
  congr 1
  funext q
  simp
theorem BI.bad {w wk : World} {vf vs : Value} {F S : List Int} {k : Nat} {l : List Cr} (h : BI w wk vf vs F S k l) (hk : k < l.length) (hc : ¬ (crR l[k] = true ∧ l[k].n ≤ S.length)) : begS 0 [] l = none := by
  rw [h.eq, drop_cr hk, begS, if_neg hc]; rfl
theorem BI.fin {w wk : World} {vf vs : Value} {F S : List Int} {k : Nat} {l : List Cr} (h : BI w wk vf vs F S k l) (hk : l.length ≤ k) : begS 0 [] l = some (F, S) := by
  rw [h.eq, List.drop_eq_nil_of_le hk]; simp [begS]
/-- Both rows, one number longer. -/
theorem BI.push {w w5 w6 w7 : World} {vf vs vs0 : Value} {F S S0 : List Int} {k g1 g2 c1 c2 : Nat} {l : List Cr} {b : Int} (h : BI w w5 vf vs F S k l) (hb0 : vs0.ownBlock = vs.ownBlock)
    (ho6 : OwnI w6 w.heap.size (.slice (some ⟨g1, 0, none⟩) (S0.length + 1) c1) (S0 ++ [b])) (hb6 : Below w.heap.size w5 w6) (hg6 : vs0.ownBlock = some g1 ∨ w5.heap.size ≤ g1)
    (ho7 : OwnI w7 w.heap.size (.slice (some ⟨g2, 0, none⟩) (F.length + 1) c2) (F ++ [b])) (hb7 : Below w.heap.size w6 w7) (hk7 : ∀ j, j < w6.heap.size → some j ≠ vf.ownBlock → w7.heap[j]? = w6.heap[j]?) (hg7 : vf.ownBlock = some g2 ∨ w6.heap.size ≤ g2)
    (heq : begS 0 [] l = (begS (k + 1) (S0 ++ [b]) (l.drop (k + 1))).map fun q => (F ++ [b] ++ q.1, q.2)) (hS : S0.length ≤ k) :
    BI w w7 (.slice (some ⟨g2, 0, none⟩) (F.length + 1) c2) (.slice (some ⟨g1, 0, none⟩) (S0.length + 1) c1) (F ++ [b]) (S0 ++ [b]) (k + 1) l := by
  have hvf : ∀ q, vf.ownBlock = some q → q < w5.heap.size := fun q hq => (World.ownsRow.lt h.f q hq).2
  have hg1 : g1 < w6.heap.size := (World.ownsRow.lt ho6 g1 rfl).2
  have hne : some g1 ≠ vf.ownBlock := by
    intro e
    rcases hg6 with e2 | e2
    · exact h.ne (by rw [← e, ← hb0, e2])
    · have := hvf g1 e.symm; omega
  refine ⟨ho7, ho6.far (fun g hg => ?_), by simp [Value.ownBlock], by simp [Value.ownBlock], ?_, (h.bl.trans hb6).trans hb7, heq, by have := h.lf; simp; omega, by simp; omega⟩
  · have : g = g1 := by simpa [Value.ownBlock] using hg.symm
    subst this
    exact hk7 g hg1 hne
  · simp only [Value.ownBlock]
    intro e
    injection e with e
    rcases hg7 with e2 | e2
    · exact hne (by rw [e2, e])
    · omega
/-- The other row stands. -/
theorem BI.keepF {w w5 w6 : World} {vf vs vs0 : Value} {F S : List Int} {k : Nat} {l : List Cr} (h : BI w w5 vf vs F S k l) (hb0 : vs0.ownBlock = vs.ownBlock) (hk6 : ∀ j, j < w5.heap.size → some j ≠ vs0.ownBlock → w6.heap[j]? = w5.heap[j]?) : OwnI w6 w.heap.size vf F :=
  h.f.far (fun g hg => hk6 g (World.ownsRow.lt h.f g hg).2 (fun e => h.ne (by rw [hg, e, hb0])))
theorem BI.stack {w wk : World} {vf vs : Value} {F S : List Int} {k : Nat} {l : List Cr} (h : BI w wk vf vs F S k l) : ∃ g c, vs = .slice (some ⟨g, 0, none⟩) S.length c ∧ S.length ≤ c ∧ ∀ j, j < S.length → wk.cell? ⟨g, j, none⟩ = some (.int .i64 (S.getD j 0)) := by
  have h0 := h.s
  rcases h.s.2 with ⟨e, _⟩ | ⟨g, cap, cur, e, _, _, hcp, _⟩
  · exact absurd (by rw [e]; rfl) h.ns
  · subst e
    refine ⟨g, cap, rfl, hcp, fun j hj => ?_⟩
    rw [World.ownsRow.cellAt h0 j (by omega)]
    simp [iV, hj]
set_option maxHeartbeats 8000000 in
set_option maxRecDepth 100000 in
theorem begins_any (v : Value) (l : List Cr) (w : World) (h : CS w v l) (ht : ∀ c ∈ l, c.text.size ≤ maxLen) (hlm : l.length ≤ 1024) :
    Calls Tryd.prog 66 #[v] w fun e w' => Below w.heap.size w w' ∧ ((begS 0 [] l = none ∧ e = .returned (.tuple #[.slice none 0 0, .bool false])) ∨ ∃ q p cap, begS 0 [] l = some q ∧ e = .returned (.tuple #[.slice p q.1.length cap, .bool (decide (q.2.length = 1))]) ∧ OwnI w' w.heap.size (.slice p q.1.length cap) q.1) := by
  obtain ⟨p, cap, rfl⟩ := h.form
  have HS : Hid (CS w (.slice p l.length cap) l) := h
  have HT : Hid (∀ c ∈ l, c.text.size ≤ maxLen) := ht
  clear h ht
  have B0 : Hid _ := BI.start w l
  go_enter Tryd.func66, Tryd.ntmps66
  go_wp2
  go_loopw [4, 5, 6] (fun v4 v5 v6 wr => ∃ (k : Nat) (vf vs : Value) (F S : List Int) (wk : World), v6 = .int .i64 k ∧ vf = v4 ∧ vs = v5 ∧ wk = wr ∧ k ≤ l.length ∧ Hid (BI w wk vf vs F S k l)) (fun _ _ v6 _ => l.length - (intOf v6).toNat)
  case atStart => exact ⟨0, _, _, [], [], _, rfl, rfl, rfl, rfl, Nat.zero_le _, B0⟩
  case round =>
    obtain ⟨k, vf, vs, F, S, wr, rfl, rfl, rfl, rfl, hk, HB⟩ := hrel
    clear B0
    obtain ⟨pf, cf, hvf⟩ := HB.out.f.form
    obtain ⟨gs, cs, hvs, hcap, hcell⟩ := HB.out.stack
    subst hvf hvs
    have hSl : S.length ≤ k := HB.out.ls
    have HFl : Hid (F.length = k) := HB.out.lf
    by_cases hlt : k < l.length
    · obtain ⟨X, o, e1, x1, x2, x3⟩ := (HS.out.below HB.out.bl).at hlt
      obtain rfl : p = some ⟨X, o, none⟩ := e1
      have hmem := HT.out _ (List.getElem_mem hlt)
      have EQN : Hid _ := HB.out.eqn hlt
      have BAD : Hid _ := HB.out.bad hlt
      obtain ⟨c, hc⟩ : ∃ c, c = l[k] := ⟨_, rfl⟩
      rw [← hc] at x1 x2 x3 hmem EQN BAD
      have IC := fun w' => crack_any c w' hmem
      have AL : Hid (∀ ob, Below w.heap.size w (wr.alloc ob)) := fun ob => HB.out.bl.alloc HB.out.bl.size ob
      clear hc hmem
      cases hcb : crR c with
      | false =>
        rw [hcb] at IC
        have HN : Hid (begS 0 [] l = none) := BAD.out (by rw [hcb]; simp)
        go_wp2_with (go_at_call 71; refine (IC _).mono ?_; rintro e w5 ⟨rfl, hb5⟩; have HB5 : Hid (Below w.heap.size w w5) := (AL.out _).trans (hb5.mono (AL.out _).size); clear hb5)
        go_ret2
        exact ⟨HB5.out, Or.inl ⟨HN.out, rfl⟩⟩
      | true =>
        rw [hcb] at IC
        have hn0 := crR_n hcb
        by_cases hcs : c.n ≤ S.length
        · obtain ⟨m, hm⟩ : ∃ m : Nat, c.n = m := ⟨c.n.toNat, by omega⟩
          have LF : Hid (F.length ≤ 100000) := by have := HFl.out; show F.length ≤ 100000; omega
          have hcs2 : ¬ c.n > (S.length : Int) := by omega
          by_cases hm0 : c.n = 0
          · have E1 : Hid (begS 0 [] l = (begS (k + 1) (S ++ [(k : Int)]) (l.drop (k + 1))).map fun q => (F ++ [(k : Int)] ++ q.1, q.2)) := by
              show begS 0 [] l = _
              have := EQN.out ⟨hcb, hcs⟩ (k : Int) (by rw [hm0]; simp)
              rw [hm0] at this; simpa using this
            have LS : Hid (S.length ≤ 100000) := by show S.length ≤ 100000; omega
            rw [hm0] at x2 IC hcs2
            have hz : ¬ (S.length : Int) < 0 := by omega
            go_wp2_with (first | (go_at_call 71; refine (IC _).mono ?_; rintro e w5 ⟨rfl, hb5⟩; have y1 : w5.cell? ⟨wr.heap.size, 1, none⟩ = some (.int .i64 0) := (hb5.cell (p := ⟨wr.heap.size, 1, none⟩) (by simp)).trans (cell_of_row _ _ _ _ _ _ (heap_alloc_new wr _)); have BB : Hid (Below wr.heap.size wr w5) := ((Below.refl _ _).alloc (Nat.le_refl _) _).trans (hb5.mono (by simp)); have B5 : Hid (BI w w5 (.slice pf F.length cf) (.slice (some ⟨gs, 0, none⟩) S.length cs) F S k l) := HB.out.below BB.out; have Z5 : Hid (w.heap.size ≤ w5.heap.size) := B5.out.bl.size; clear hb5) | (at_builtin; refine append_int rfl (.tmp 50) (.tmp 52) 99 rfl w.heap.size Tryd.underlying99 info_int _ _ _ (.slice (some ⟨gs, 0, none⟩) S.length cs) S (k : Int) _ rfl B5.out.s _ rfl rfl rfl LS.out Z5.out ?_; intro g1 c1 w6 ho6 hb6 hk6 hg6; have O6 : Hid _ := ho6; have F6 : Hid (OwnI w6 w.heap.size (.slice pf F.length cf) F) := B5.out.keepF (vs0 := .slice (some ⟨gs, 0, none⟩) S.length cs) rfl hk6; have Z6 : Hid (w.heap.size ≤ w6.heap.size) := Nat.le_trans Z5.out hb6.size; have HB6 : Hid _ := hb6; have HG6 : Hid _ := hg6; clear ho6 hb6 hk6 hg6) | (at_builtin; refine append_int rfl (.tmp 54) (.tmp 56) 99 rfl w.heap.size Tryd.underlying99 info_int _ _ _ (.slice pf F.length cf) F (k : Int) _ rfl F6.out _ rfl rfl rfl LF.out Z6.out ?_; intro g2 c2 w7 ho7 hb7 hk7 hg7))
            go_roundw
            case rel => exact ⟨k + 1, _, _, _, _, _, by go_num, rfl, rfl, rfl, by omega, B5.out.push (vs0 := .slice (some ⟨gs, 0, none⟩) S.length cs) rfl O6.out HB6.out HG6.out ho7 hb7 hk7 hg7 E1.out hSl⟩
            case measure => simp [intOf]; omega
          · obtain ⟨J, hJ⟩ : ∃ J, J = S.length - m := ⟨_, rfl⟩
            have hJi : (S.length : Int) - (m : Int) = (J : Int) := by omega
            have hJl : J < S.length := by omega
            have hJc : J ≤ cs := by omega
            obtain ⟨b, hb⟩ : ∃ b, b = S.getD J 0 := ⟨_, rfl⟩
            have cJ := hcell J hJl
            rw [← hb] at cJ
            have E1 : Hid (begS 0 [] l = (begS (k + 1) (S.take J ++ [b]) (l.drop (k + 1))).map fun q => (F ++ [b] ++ q.1, q.2)) := by
              show begS 0 [] l = _
              have e3 : S.length - c.n.toNat = J := by omega
              have := EQN.out ⟨hcb, hcs⟩ b (by rw [if_pos (by omega), e3]; exact hb)
              rw [e3] at this; exact this
            have LS : Hid ((S.take J).length ≤ 100000) := by show (S.take J).length ≤ 100000; simp; omega
            have HJS : Hid (J ≤ S.length) := by show J ≤ S.length; omega
            have HJk : Hid ((S.take J).length ≤ k) := by show (S.take J).length ≤ k; simp; omega
            have HGS : Hid (gs < wr.heap.size) := block_lt_of_cell cJ
            obtain ⟨S0, hS0⟩ : ∃ S0, S0 = S.take J := ⟨_, rfl⟩
            have HS0 : Hid (S.take J = S0) := hS0.symm
            rw [← hS0] at LS HJk E1
            clear hS0
            rw [hm] at x2 IC hcs2
            have hmp : (m : Int) > 0 := by omega
            clear hm hm0 hb hJ hcell hn0 hcs
            go_wp2_with (first | (go_at_call 71; refine (IC _).mono ?_; rintro e w5 ⟨rfl, hb5⟩; have y1 : w5.cell? ⟨wr.heap.size, 1, none⟩ = some (.int .i64 (m : Int)) := (hb5.cell (p := ⟨wr.heap.size, 1, none⟩) (by simp)).trans (cell_of_row _ _ _ _ _ _ (heap_alloc_new wr _)); have BB : Hid (Below wr.heap.size wr w5) := ((Below.refl _ _).alloc (Nat.le_refl _) _).trans (hb5.mono (by simp)); have B5 : Hid (BI w w5 (.slice pf F.length cf) (.slice (some ⟨gs, 0, none⟩) S.length cs) F S k l) := HB.out.below BB.out; have Z5 : Hid (w.heap.size ≤ w5.heap.size) := B5.out.bl.size; have yJ : w5.cell? ⟨gs, J, none⟩ = some (.int .i64 b) := (BB.out.cell (p := ⟨gs, J, none⟩) HGS.out).trans cJ; have C5 : Hid (OwnI w5 w.heap.size (.slice (some ⟨gs, 0, none⟩) J cs) S0) := HS0.out ▸ B5.out.s.cut J HJS.out; clear hb5) | (at_builtin; refine append_int rfl (.tmp 50) (.tmp 52) 99 rfl w.heap.size Tryd.underlying99 info_int _ _ _ (.slice (some ⟨gs, 0, none⟩) J cs) S0 b _ rfl C5.out _ rfl rfl rfl LS.out Z5.out ?_; intro g1 c1 w6 ho6 hb6 hk6 hg6; have O6 : Hid _ := ho6; have F6 : Hid (OwnI w6 w.heap.size (.slice pf F.length cf) F) := B5.out.keepF (vs0 := .slice (some ⟨gs, 0, none⟩) J cs) rfl hk6; have Z6 : Hid (w.heap.size ≤ w6.heap.size) := Nat.le_trans Z5.out hb6.size; have HB6 : Hid _ := hb6; have HG6 : Hid _ := hg6; clear ho6 hb6 hk6 hg6) | (at_builtin; refine append_int rfl (.tmp 54) (.tmp 56) 99 rfl w.heap.size Tryd.underlying99 info_int _ _ _ (.slice pf F.length cf) F b _ rfl F6.out _ rfl rfl rfl LF.out Z6.out ?_; intro g2 c2 w7 ho7 hb7 hk7 hg7))
            go_roundw
            case rel => exact ⟨k + 1, _, _, _, _, _, by go_num, rfl, rfl, rfl, by omega, B5.out.push (vs0 := .slice (some ⟨gs, 0, none⟩) J cs) rfl O6.out HB6.out HG6.out ho7 hb7 hk7 hg7 E1.out HJk.out⟩
            case measure => simp [intOf]; omega
        · have hcs2 : c.n > (S.length : Int) := by omega
          have HN : Hid (begS 0 [] l = none) := BAD.out (fun h => hcs h.2)
          go_wp2_with (go_at_call 71; refine (IC _).mono ?_; rintro e w5 ⟨rfl, hb5⟩; have y1 : w5.cell? ⟨wr.heap.size, 1, none⟩ = some (.int .i64 c.n) := (hb5.cell (p := ⟨wr.heap.size, 1, none⟩) (by simp)).trans (cell_of_row _ _ _ _ _ _ (heap_alloc_new wr _)); have HB5 : Hid (Below w.heap.size w w5) := (AL.out _).trans (hb5.mono (AL.out _).size); clear hb5)
          go_ret2
          exact ⟨HB5.out, Or.inl ⟨HN.out, rfl⟩⟩
    · have HE : Hid (begS 0 [] l = some (F, S)) := HB.out.fin (by omega)
      have HFIN : Hid (∀ w', Below wr.heap.size wr w' → Below w.heap.size w w' ∧ ((begS 0 [] l = none ∧ Ending.returned (.tuple #[.slice pf F.length cf, .bool (decide (S.length = 1))]) = .returned (.tuple #[.slice none 0 0, .bool false])) ∨ ∃ q p cap, begS 0 [] l = some q ∧ Ending.returned (.tuple #[.slice pf F.length cf, .bool (decide (S.length = 1))]) = .returned (.tuple #[.slice p q.1.length cap, .bool (decide (q.2.length = 1))]) ∧ OwnI w' w.heap.size (.slice p q.1.length cap) q.1)) := fun w' B => ⟨HB.out.bl.trans (B.mono HB.out.bl.size), Or.inr ⟨(F, S), pf, cf, HE.out, rfl, HB.out.f.below B⟩⟩
      by_cases hs1 : S.length = 1
      · have hs2 : ((S.length : Int) == 1) = true := by simp [hs1]
        have hd : Hid (decide (S.length = 1) = true) := decide_eq_true hs1
        rw [hd.out] at HFIN
        clear hs1
        go_wp2
        go_ret2
        exact HFIN.out _ (Below.refl _ _)
      · have hs2 : ((S.length : Int) == 1) = false := by rw [beq_eq_false_iff_ne]; omega
        have hd : Hid (decide (S.length = 1) = false) := decide_eq_false hs1
        rw [hd.out] at HFIN
        clear hs1
        go_wp2
        go_ret2
        exact HFIN.out _ (Below.refl _ _)
end Go.Proofs.YtbgeihgenckihaaDoor
