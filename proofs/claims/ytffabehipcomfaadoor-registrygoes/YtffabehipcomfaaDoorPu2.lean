/- Names, the reference: bound. -/
import Derived.Test.YtffabehipcomfaaDoorPv1
import Derived.Test.YtffabehipcomfaaDoorPv2
import Derived.Test.YtffabehipcomfaaDoorPv3
import Derived.Test.YtffabehipcomfaaDoorPv4
import Derived.Test.YtffabehipcomfaaDoorPv5
import Derived.Test.YtffabehipcomfaaDoorPz8
import Derived.Deep.QuietTactic
import Derived.BigQuiet
namespace Go.Proofs.YtffabehipcomfaaDoor
open Go.RowKit

set_option maxHeartbeats 4000000 in
theorem rwell_any (o : Opn) (w : World) (ht : o.text.size ≤ maxLen) : Calls Tryd.prog 82 #[opV o] w fun e w' => e = .returned (.bool (opB o)) ∧ Below w.heap.size w w' := by
  have HB : Hid (opB o = (isX o.kind && (arB o && inB' o && txB o))) := rfl
  have AL : Hid (∀ ob n, Below w.heap.size w ((w.alloc ob).drewN n)) := fun ob n => below_drewY ((Below.refl _ _).alloc (Nat.le_refl _) ob) n
  cases hk : isX o.kind with
  | false =>
    rw [hk] at HB
    generalize opB o = r at *
    have hk2 : ¬ (1 ≤ o.kind ∧ o.kind ≤ 19) := fun h => by rw [isX_iff.2 h] at hk; cases hk
    obtain ⟨k, n, i, t⟩ := o
    simp only [opV] at *
    by_cases h1 : k < 1
    · go_enter Tryd.func82, Tryd.ntmps82
      go_wp2
      go_quiet (fail)
      go_wp2
      go_ret
      exact ⟨ret_bool (by rw [HB.out]; rfl), AL.out _ _⟩
    · have h2 : k > 19 := by omega
      go_enter Tryd.func82, Tryd.ntmps82
      go_wp2
      go_quiet (fail)
      go_wp2
      go_ret
      exact ⟨ret_bool (by rw [HB.out]; rfl), AL.out _ _⟩
  | true =>
    rw [hk] at HB
    have hk2 := isX_iff.1 hk
    have e1 := arB_eq hk
    by_cases h3 : o.n < 0
    · have e2 : arB o = false := by rw [e1]; exact decide_eq_false (by omega)
      rw [e2] at HB
      generalize opB o = r at *
      clear e1 e2
      obtain ⟨k, n, i, t⟩ := o
      simp only [opV] at *
      obtain ⟨h1, h2⟩ := hk2
      have hn1 : ¬ k < 1 := by omega
      have hn2 : ¬ k > 19 := by omega
      go_enter Tryd.func82, Tryd.ntmps82
      go_wp2
      go_quiet (fail)
      go_wp2
      go_ret
      exact ⟨ret_bool (by rw [HB.out]; rfl), AL.out _ _⟩
    · obtain ⟨k, n, i, t⟩ := o
      simp only at h3 ht hk
      obtain ⟨m, rfl⟩ : ∃ m : Nat, n = m := ⟨n.toNat, by omega⟩
      clear HB AL e1 hk2 h3
      simp only [opV]
      rcases isX_cases hk with rfl | rfl | rfl | rfl | rfl | rfl | rfl | rfl | rfl | rfl | rfl | rfl | rfl | rfl | rfl | rfl | rfl | rfl | rfl
      · exact rwell_1 m i t w ht
      · exact rwell_2 m i t w ht
      · exact rwell_3 m i t w ht
      · exact rwell_4 m i t w ht
      · exact rwell_5 m i t w ht
      · exact rwell_6 m i t w ht
      · exact rwell_7 m i t w ht
      · exact rwell_8 m i t w ht
      · exact rwell_9 m i t w ht
      · exact rwell_10 m i t w ht
      · exact rwell_11 m i t w ht
      · exact rwell_12 m i t w ht
      · exact rwell_13 m i t w ht
      · exact rwell_14 m i t w ht
      · exact rwell_15 m i t w ht
      · exact rwell_16 m i t w ht
      · exact rwell_17 m i t w ht
      · exact rwell_18 m i t w ht
      · exact rwell_19 m i t w ht
end Go.Proofs.YtffabehipcomfaaDoor
namespace Go.Proofs.YtffabehipcomfaaDoor
open Go.RowKit

/-- Where each whole begins, and the stack; none: the expression is no row of wholes. -/
def begO (l : List Opn) : Nat → List Int → List Opn → Option (List Int × List Int)
  | _, S, [] => some ([], S)
  | i, S, c :: r =>
    if opB c = true ∧ c.n ≤ S.length then
      let b := if 0 < c.n then S.getD (S.length - c.n.toNat) 0 else (i : Int)
      (begO l (i + 1) (S.take (S.length - c.n.toNat) ++ [b]) r).map fun q => (b :: q.1, q.2)
    else none
theorem begO_begS (l : List Opn) : ∀ (r : List Opn) (i : Nat) (S : List Int), (∀ c ∈ r, opB c = true) → begO l i S r = begS i S (nsO r)
  | [], i, S, _ => rfl
  | c :: r, i, S, h => by
    have hc := h c (List.mem_cons_self ..)
    have hn := opB_n hc
    rw [begO, show nsO (c :: r) = c.n :: nsO r from rfl, begS]
    by_cases h2 : c.n ≤ S.length
    · rw [if_pos (show opB c = true ∧ c.n ≤ (S.length : Int) from ⟨hc, h2⟩), if_pos (show 0 ≤ c.n ∧ c.n ≤ (S.length : Int) from ⟨hn, h2⟩)]
      simp only
      rw [begO_begS l r _ _ (fun c hc => h c (List.mem_cons_of_mem _ hc))]
    · rw [if_neg (fun e => h2 e.2), if_neg (fun e => h2 e.2)]
theorem begO_walk (l : List Opn) : ∀ (r : List Opn) (i : Nat) (S : List Int), (begO l i S r).map (fun q => (q.2.length : Int)) = walkO S.length r
  | [], i, S => rfl
  | c :: r, i, S => by
    by_cases hc : opB c = true ∧ c.n ≤ S.length
    · have hn := opB_n hc.1
      obtain ⟨b, hb⟩ : ∃ b, b = (if 0 < c.n then S.getD (S.length - c.n.toNat) 0 else (i : Int)) := ⟨_, rfl⟩
      have e1 : begO l i S (c :: r) = (begO l (i + 1) (S.take (S.length - c.n.toNat) ++ [b]) r).map fun q => (b :: q.1, q.2) := by rw [begO, if_pos hc, hb]
      have e2 : walkO S.length (c :: r) = walkO (S.length + (1 - c.n)) r := by rw [walkO, if_pos hc]
      have hl : (S.take (S.length - c.n.toNat) ++ [b]).length = S.length - c.n.toNat + 1 := by simp
      have ih := begO_walk l r (i + 1) (S.take (S.length - c.n.toNat) ++ [b])
      rw [hl] at ih
      have := hc.2
      rw [e1, e2, show (S.length : Int) + (1 - c.n) = ((S.length - c.n.toNat + 1 : Nat) : Int) by omega, ← ih, Option.map_map]
      rfl
    · rw [begO, if_neg hc, walkO, if_neg hc]; rfl
/-- A row, and another one beside it. -/
structure BI (w wk : World) (vf vs : Value) (F S : List Int) (k : Nat) (l : List Opn) : Prop where
  f : OwnG KI wk w.heap.size vf F
  s : OwnG KI wk w.heap.size vs S
  nf : vf.ownBlock ≠ none
  ns : vs.ownBlock ≠ none
  ne : vf.ownBlock ≠ vs.ownBlock
  bl : Below w.heap.size w wk
  eq : begO l 0 [] l = (begO l k S (l.drop k)).map fun q => (F ++ q.1, q.2)
  lf : F.length = k
  ls : S.length ≤ k
theorem BI.below {w wk w' : World} {vf vs : Value} {F S : List Int} {k : Nat} {l : List Opn} (h : BI w wk vf vs F S k l) (B : Below wk.heap.size wk w') : BI w w' vf vs F S k l :=
  ⟨h.f.below B, h.s.below B, h.nf, h.ns, h.ne, h.bl.trans (B.mono h.bl.size), h.eq, h.lf, h.ls⟩
theorem BI.start (w : World) (l : List Opn) : BI w ((w.alloc (.cells #[] 3)).alloc (.cells #[] 3)) (.slice (some ⟨w.heap.size, 0, none⟩) 0 0) (.slice (some ⟨w.heap.size + 1, 0, none⟩) 0 0) [] [] 0 l := by
  have a := (OwnG.empty KI w).below ((Below.refl _ _).alloc (Nat.le_refl _) (.cells #[] 3))
  have b := OwnG.empty KI (w.alloc (.cells #[] 3))
  have hs : (w.alloc (.cells #[] 3)).heap.size = w.heap.size + 1 := by simp
  rw [hs] at b
  refine ⟨a, b.low (by omega), by simp [Value.ownBlock], by simp [Value.ownBlock], by simp [Value.ownBlock], ((Below.refl _ _).alloc (Nat.le_refl _) _).alloc (by simp) _, ?_, rfl, Nat.le_refl _⟩
  simp
theorem BI.eqn {w wk : World} {vf vs : Value} {F S : List Int} {k : Nat} {l : List Opn} (h : BI w wk vf vs F S k l) (hk : k < l.length) (hc : opB l[k] = true ∧ l[k].n ≤ S.length) (b : Int) (hb : b = if 0 < l[k].n then S.getD (S.length - l[k].n.toNat) 0 else (k : Int)) :
    begO l 0 [] l = (begO l (k + 1) (S.take (S.length - l[k].n.toNat) ++ [b]) (l.drop (k + 1))).map fun q => (F ++ [b] ++ q.1, q.2) := by
  rw [h.eq, drop_op hk, begO, if_pos hc, ← hb, Option.map_map]
  congr 1
  funext q
  simp
theorem BI.bad {w wk : World} {vf vs : Value} {F S : List Int} {k : Nat} {l : List Opn} (h : BI w wk vf vs F S k l) (hk : k < l.length) (hc : ¬ (opB l[k] = true ∧ l[k].n ≤ S.length)) : begO l 0 [] l = none := by
  rw [h.eq, drop_op hk, begO, if_neg hc]; rfl
theorem BI.fin {w wk : World} {vf vs : Value} {F S : List Int} {k : Nat} {l : List Opn} (h : BI w wk vf vs F S k l) (hk : l.length ≤ k) : begO l 0 [] l = some (F, S) := by
  rw [h.eq, List.drop_eq_nil_of_le hk]; simp [begO]
/-- Both rows, one number longer. -/
theorem BI.push {w w5 w6 w7 : World} {vf vs vs0 : Value} {F S S0 : List Int} {k g1 g2 c1 c2 : Nat} {l : List Opn} {b : Int} (h : BI w w5 vf vs F S k l) (hb0 : vs0.ownBlock = vs.ownBlock)
    (ho6 : OwnG KI w6 w.heap.size (.slice (some ⟨g1, 0, none⟩) (S0.length + 1) c1) (S0 ++ [b])) (hb6 : Below w.heap.size w5 w6) (hg6 : vs0.ownBlock = some g1 ∨ w5.heap.size ≤ g1)
    (ho7 : OwnG KI w7 w.heap.size (.slice (some ⟨g2, 0, none⟩) (F.length + 1) c2) (F ++ [b])) (hb7 : Below w.heap.size w6 w7) (hk7 : ∀ j, j < w6.heap.size → some j ≠ vf.ownBlock → w7.heap[j]? = w6.heap[j]?) (hg7 : vf.ownBlock = some g2 ∨ w6.heap.size ≤ g2)
    (heq : begO l 0 [] l = (begO l (k + 1) (S0 ++ [b]) (l.drop (k + 1))).map fun q => (F ++ [b] ++ q.1, q.2)) (hS : S0.length ≤ k) :
    BI w w7 (.slice (some ⟨g2, 0, none⟩) (F.length + 1) c2) (.slice (some ⟨g1, 0, none⟩) (S0.length + 1) c1) (F ++ [b]) (S0 ++ [b]) (k + 1) l := by
  have hvf : ∀ q, vf.ownBlock = some q → q < w5.heap.size := fun q hq => (h.f.lt hq).2
  have hg1 : g1 < w6.heap.size := (ho6.lt rfl).2
  have hne : some g1 ≠ vf.ownBlock := by
    intro e
    rcases hg6 with e2 | e2
    · exact h.ne (by rw [← e, ← hb0, e2])
    · have := hvf g1 e.symm; omega
  refine ⟨ho7, ho6.far (fun g hg => ?_), by simp [Value.ownBlock], by simp [Value.ownBlock], ?_, (h.bl.trans hb6).trans hb7, heq, by have := h.lf; simp; omega, by simp; omega⟩
  · have : g = g1 := by simpa [Value.ownBlock] using hg.symm
    subst this
    exact hk7 g hg1 hne
  · simp only [Value.ownBlock]
    intro e
    injection e with e
    rcases hg7 with e2 | e2
    · exact hne (by rw [e2, e])
    · omega
/-- The other row stands. -/
theorem BI.keepF {w w5 w6 : World} {vf vs vs0 : Value} {F S : List Int} {k : Nat} {l : List Opn} (h : BI w w5 vf vs F S k l) (hb0 : vs0.ownBlock = vs.ownBlock) (hk6 : ∀ j, j < w5.heap.size → some j ≠ vs0.ownBlock → w6.heap[j]? = w5.heap[j]?) : OwnG KI w6 w.heap.size vf F :=
  h.f.far (fun g hg => hk6 g (h.f.lt hg).2 (fun e => h.ne (by rw [hg, e, hb0])))
theorem BI.stack {w wk : World} {vf vs : Value} {F S : List Int} {k : Nat} {l : List Opn} (h : BI w wk vf vs F S k l) : ∃ g c, vs = .slice (some ⟨g, 0, none⟩) S.length c ∧ S.length ≤ c ∧ ∀ j, j < S.length → wk.cell? ⟨g, j, none⟩ = some (.int .i64 (S.getD j 0)) := by
  obtain ⟨g, cap, e, hcp⟩ := h.s.place h.ns
  subst e
  exact ⟨g, cap, rfl, hcp, fun j hj => own_int h.s rfl hj⟩
set_option maxHeartbeats 8000000 in
set_option maxRecDepth 100000 in
theorem begins_any (v : Value) (l : List Opn) (w : World) (h : OS w v l) (ht : ∀ c ∈ l, c.text.size ≤ maxLen) (hlm : l.length ≤ 256) :
    Calls Tryd.prog 63 #[v] w fun e w' => Below w.heap.size w w' ∧ ((begO l 0 [] l = none ∧ e = .returned (.tuple #[.slice none 0 0, .bool false])) ∨ ∃ q p cap, begO l 0 [] l = some q ∧ e = .returned (.tuple #[.slice p q.1.length cap, .bool (decide (q.2.length = 1))]) ∧ OwnG KI w' w.heap.size (.slice p q.1.length cap) q.1) := by
  obtain ⟨p, cap, rfl⟩ := h.form
  have HS : Hid (OS w (.slice p l.length cap) l) := h
  have HT : Hid (∀ c ∈ l, c.text.size ≤ maxLen) := ht
  clear h ht
  have B0 : Hid _ := BI.start w l
  go_enter Tryd.func63, Tryd.ntmps63
  go_wp2
  go_loopw [4, 5, 6] (fun v4 v5 v6 wr => ∃ (k : Nat) (vf vs : Value) (F S : List Int) (wk : World), v6 = .int .i64 k ∧ vf = v4 ∧ vs = v5 ∧ wk = wr ∧ k ≤ l.length ∧ Hid (BI w wk vf vs F S k l)) (fun _ _ v6 _ => l.length - (intOf v6).toNat)
  case atStart => exact ⟨0, _, _, [], [], _, rfl, rfl, rfl, rfl, Nat.zero_le _, B0⟩
  case round =>
    obtain ⟨k, vf, vs, F, S, wr, rfl, rfl, rfl, rfl, hk, HB⟩ := hrel
    clear B0
    obtain ⟨pf, cf, hvf, _⟩ := HB.out.f.form
    obtain ⟨gs, cs, hvs, hcap, hcell⟩ := HB.out.stack
    subst hvf hvs
    have hSl : S.length ≤ k := HB.out.ls
    have HFl : Hid (F.length = k) := HB.out.lf
    by_cases hlt : k < l.length
    · obtain ⟨X, o, e1, x1, x2, x3, x4⟩ := (HS.out.below HB.out.bl).atO hlt
      obtain rfl : p = some ⟨X, o, none⟩ := e1
      have hmem := HT.out _ (List.getElem_mem hlt)
      have EQN : Hid _ := HB.out.eqn hlt
      have BAD : Hid _ := HB.out.bad hlt
      obtain ⟨c, hc⟩ : ∃ c, c = l[k] := ⟨_, rfl⟩
      rw [← hc] at x1 x2 x3 x4 hmem EQN BAD
      have IC := fun w' => rwell_any c w' hmem
      simp only [opV] at IC
      have HXl : Hid (X < wr.heap.size) := block_lt_of_cell x2
      clear hc hmem
      cases hcb : opB c with
      | false =>
        rw [hcb] at IC
        have HN : Hid (begO l 0 [] l = none) := BAD.out (by rw [hcb]; simp)
        go_wp2_with (go_at_call 82; refine (IC _).mono ?_; rintro e w5 ⟨rfl, hb5⟩; have HB5 : Hid (Below w.heap.size w w5) := HB.out.bl.trans (hb5.mono HB.out.bl.size); clear hb5)
        go_ret2
        exact ⟨HB5.out, Or.inl ⟨HN.out, rfl⟩⟩
      | true =>
        rw [hcb] at IC
        have hn0 := opB_n hcb
        by_cases hcs : c.n ≤ S.length
        · obtain ⟨m, hm⟩ : ∃ m : Nat, c.n = m := ⟨c.n.toNat, by omega⟩
          have LF : Hid ((F.length + 1) * KI.B ≤ 140737488355328) := by have := HFl.out; show (F.length + 1) * 8 ≤ _; omega
          have hcs2 : ¬ c.n > (S.length : Int) := by omega
          by_cases hm0 : c.n = 0
          · have E1 : Hid (begO l 0 [] l = (begO l (k + 1) (S ++ [(k : Int)]) (l.drop (k + 1))).map fun q => (F ++ [(k : Int)] ++ q.1, q.2)) := by
              show begO l 0 [] l = _
              have := EQN.out ⟨hcb, hcs⟩ (k : Int) (by rw [hm0]; simp)
              rw [hm0] at this; simpa using this
            have LS : Hid ((S.length + 1) * KI.B ≤ 140737488355328) := by show (S.length + 1) * 8 ≤ _; omega
            rw [hm0] at x2 IC hcs2
            have hz : ¬ (S.length : Int) < 0 := by omega
            go_wp2_with (first | (go_at_call 82; refine (IC _).mono ?_; rintro e w5 ⟨rfl, hb5⟩; have y1 : w5.cell? ⟨X, o + k * 4 + 1, none⟩ = some (.int .i64 0) := (hb5.cell (p := ⟨X, o + k * 4 + 1, none⟩) HXl.out).trans x2; have BB : Hid (Below wr.heap.size wr w5) := hb5; have B5 : Hid (BI w w5 (.slice pf F.length cf) (.slice (some ⟨gs, 0, none⟩) S.length cs) F S k l) := HB.out.below BB.out; have Z5 : Hid (w.heap.size ≤ w5.heap.size) := B5.out.bl.size; clear hb5) | (at_builtin; refine append_g KI KI_ok rfl (.tmp 60) (.tmp 62) 100 rfl w.heap.size Tryd.underlying100 _ _ _ (.slice (some ⟨gs, 0, none⟩) S.length cs) S (k : Int) _ rfl B5.out.s _ rfl rfl rfl LS.out Z5.out ?_; intro g1 c1 w6 ho6 hb6 hk6 hg6; have O6 : Hid _ := ho6; have F6 : Hid (OwnG KI w6 w.heap.size (.slice pf F.length cf) F) := B5.out.keepF (vs0 := .slice (some ⟨gs, 0, none⟩) S.length cs) rfl hk6; have Z6 : Hid (w.heap.size ≤ w6.heap.size) := Nat.le_trans Z5.out hb6.size; have HB6 : Hid _ := hb6; have HG6 : Hid _ := hg6; clear ho6 hb6 hk6 hg6) | (at_builtin; refine append_g KI KI_ok rfl (.tmp 64) (.tmp 66) 100 rfl w.heap.size Tryd.underlying100 _ _ _ (.slice pf F.length cf) F (k : Int) _ rfl F6.out _ rfl rfl rfl LF.out Z6.out ?_; intro g2 c2 w7 ho7 hb7 hk7 hg7))
            go_roundw
            case rel => exact ⟨k + 1, _, _, _, _, _, by go_num, rfl, rfl, rfl, by omega, B5.out.push (vs0 := .slice (some ⟨gs, 0, none⟩) S.length cs) rfl O6.out HB6.out HG6.out ho7 hb7 hk7 hg7 E1.out hSl⟩
            case measure => simp [intOf]; omega
          · obtain ⟨J, hJ⟩ : ∃ J, J = S.length - m := ⟨_, rfl⟩
            have hJi : (S.length : Int) - (m : Int) = (J : Int) := by omega
            have hJl : J < S.length := by omega
            have hJc : J ≤ cs := by omega
            obtain ⟨b, hb⟩ : ∃ b, b = S.getD J 0 := ⟨_, rfl⟩
            have cJ := hcell J hJl
            rw [← hb] at cJ
            have E1 : Hid (begO l 0 [] l = (begO l (k + 1) (S.take J ++ [b]) (l.drop (k + 1))).map fun q => (F ++ [b] ++ q.1, q.2)) := by
              show begO l 0 [] l = _
              have e3 : S.length - c.n.toNat = J := by omega
              have := EQN.out ⟨hcb, hcs⟩ b (by rw [if_pos (by omega), e3]; exact hb)
              rw [e3] at this; exact this
            have LS : Hid (((S.take J).length + 1) * KI.B ≤ 140737488355328) := by show ((S.take J).length + 1) * 8 ≤ _; simp; omega
            have HJS : Hid (J ≤ S.length) := by show J ≤ S.length; omega
            have HJk : Hid ((S.take J).length ≤ k) := by show (S.take J).length ≤ k; simp; omega
            have HGS : Hid (gs < wr.heap.size) := block_lt_of_cell cJ
            obtain ⟨S0, hS0⟩ : ∃ S0, S0 = S.take J := ⟨_, rfl⟩
            have HS0 : Hid (S.take J = S0) := hS0.symm
            rw [← hS0] at LS HJk E1
            clear hS0
            rw [hm] at x2 IC hcs2
            have hmp : (m : Int) > 0 := by omega
            clear hm hm0 hb hJ hcell hn0 hcs
            go_wp2_with (first | (go_at_call 82; refine (IC _).mono ?_; rintro e w5 ⟨rfl, hb5⟩; have y1 : w5.cell? ⟨X, o + k * 4 + 1, none⟩ = some (.int .i64 (m : Int)) := (hb5.cell (p := ⟨X, o + k * 4 + 1, none⟩) HXl.out).trans x2; have BB : Hid (Below wr.heap.size wr w5) := hb5; have B5 : Hid (BI w w5 (.slice pf F.length cf) (.slice (some ⟨gs, 0, none⟩) S.length cs) F S k l) := HB.out.below BB.out; have Z5 : Hid (w.heap.size ≤ w5.heap.size) := B5.out.bl.size; have yJ : w5.cell? ⟨gs, J, none⟩ = some (.int .i64 b) := (BB.out.cell (p := ⟨gs, J, none⟩) HGS.out).trans cJ; have C5 : Hid (OwnG KI w5 w.heap.size (.slice (some ⟨gs, 0, none⟩) J cs) S0) := HS0.out ▸ B5.out.s.cut KI_ok.len J HJS.out; clear hb5) | (at_builtin; refine append_g KI KI_ok rfl (.tmp 60) (.tmp 62) 100 rfl w.heap.size Tryd.underlying100 _ _ _ (.slice (some ⟨gs, 0, none⟩) J cs) S0 b _ rfl C5.out _ rfl rfl rfl LS.out Z5.out ?_; intro g1 c1 w6 ho6 hb6 hk6 hg6; have O6 : Hid _ := ho6; have F6 : Hid (OwnG KI w6 w.heap.size (.slice pf F.length cf) F) := B5.out.keepF (vs0 := .slice (some ⟨gs, 0, none⟩) J cs) rfl hk6; have Z6 : Hid (w.heap.size ≤ w6.heap.size) := Nat.le_trans Z5.out hb6.size; have HB6 : Hid _ := hb6; have HG6 : Hid _ := hg6; clear ho6 hb6 hk6 hg6) | (at_builtin; refine append_g KI KI_ok rfl (.tmp 64) (.tmp 66) 100 rfl w.heap.size Tryd.underlying100 _ _ _ (.slice pf F.length cf) F b _ rfl F6.out _ rfl rfl rfl LF.out Z6.out ?_; intro g2 c2 w7 ho7 hb7 hk7 hg7))
            go_roundw
            case rel => exact ⟨k + 1, _, _, _, _, _, by go_num, rfl, rfl, rfl, by omega, B5.out.push (vs0 := .slice (some ⟨gs, 0, none⟩) J cs) rfl O6.out HB6.out HG6.out ho7 hb7 hk7 hg7 E1.out HJk.out⟩
            case measure => simp [intOf]; omega
        · have hcs2 : c.n > (S.length : Int) := by omega
          have HN : Hid (begO l 0 [] l = none) := BAD.out (fun h => hcs h.2)
          go_wp2_with (go_at_call 82; refine (IC _).mono ?_; rintro e w5 ⟨rfl, hb5⟩; have y1 : w5.cell? ⟨X, o + k * 4 + 1, none⟩ = some (.int .i64 c.n) := (hb5.cell (p := ⟨X, o + k * 4 + 1, none⟩) HXl.out).trans x2; have HB5 : Hid (Below w.heap.size w w5) := HB.out.bl.trans (hb5.mono HB.out.bl.size); clear hb5)
          go_ret2
          exact ⟨HB5.out, Or.inl ⟨HN.out, rfl⟩⟩
    · have HE : Hid (begO l 0 [] l = some (F, S)) := HB.out.fin (by omega)
      have HFIN : Hid (∀ w', Below wr.heap.size wr w' → Below w.heap.size w w' ∧ ((begO l 0 [] l = none ∧ Ending.returned (.tuple #[.slice pf F.length cf, .bool (decide (S.length = 1))]) = .returned (.tuple #[.slice none 0 0, .bool false])) ∨ ∃ q p cap, begO l 0 [] l = some q ∧ Ending.returned (.tuple #[.slice pf F.length cf, .bool (decide (S.length = 1))]) = .returned (.tuple #[.slice p q.1.length cap, .bool (decide (q.2.length = 1))]) ∧ OwnG KI w' w.heap.size (.slice p q.1.length cap) q.1)) := fun w' B => ⟨HB.out.bl.trans (B.mono HB.out.bl.size), Or.inr ⟨(F, S), pf, cf, HE.out, rfl, HB.out.f.below B⟩⟩
      by_cases hs1 : S.length = 1
      · have hs2 : ((S.length : Int) == 1) = true := by simp [hs1]
        have hd : Hid (decide (S.length = 1) = true) := decide_eq_true hs1
        rw [hd.out] at HFIN
        clear hs1
        go_wp2
        go_ret2
        exact HFIN.out _ (Below.refl _ _)
      · have hs2 : ((S.length : Int) == 1) = false := by rw [beq_eq_false_iff_ne]; omega
        have hd : Hid (decide (S.length = 1) = false) := decide_eq_false hs1
        rw [hd.out] at HFIN
        clear hs1
        go_wp2
        go_ret2
        exact HFIN.out _ (Below.refl _ _)
end Go.Proofs.YtffabehipcomfaaDoor
namespace Go.Proofs.YtffabehipcomfaaDoor
open Go.RowKit

/-- Of a right expression. -/
theorem begins_ok (v : Value) (l : List Opn) (w : World) (h : OS w v l) (ht : ∀ c ∈ l, c.text.size ≤ maxLen) (hlm : l.length ≤ 256) (hwh : wholeB l = true) :
    Calls Tryd.prog 63 #[v] w fun e w' => ∃ p cap, e = .returned (.tuple #[.slice p l.length cap, .bool true]) ∧ OwnG KI w' w.heap.size (.slice p l.length cap) ((whA (nsO l)).map (·.1)) ∧ Below w.heap.size w w' := by
  obtain ⟨ha, hw⟩ := wholeB_ok hwh
  obtain ⟨q0, hq0, hq1, hq2⟩ := beg_ok hw
  have hb : begO l 0 [] l = some q0 := by rw [begO_begS l l 0 [] ha]; exact hq0
  refine (begins_any v l w h ht hlm).mono ?_
  rintro e w' ⟨hb1, ⟨hno, _⟩ | ⟨q2, p1, c1, hq, rfl, ho1⟩⟩
  · rw [hb] at hno; cases hno
  · rw [hb] at hq
    injection hq with hq
    subst hq
    have hl : q0.1.length = l.length := by rw [hq2, List.length_map, whA_len, nsO_len]
    rw [hl, hq2] at ho1
    rw [hl, hq1]
    exact ⟨p1, c1, rfl, ho1, hb1⟩
theorem begins_bad (v : Value) (l : List Opn) (w : World) (h : OS w v l) (ht : ∀ c ∈ l, c.text.size ≤ maxLen) (hlm : l.length ≤ 256) (hwh : wholeB l = false) :
    Calls Tryd.prog 63 #[v] w fun e w' => ∃ p n cap, e = .returned (.tuple #[.slice p n cap, .bool false]) ∧ Below w.heap.size w w' := by
  refine (begins_any v l w h ht hlm).mono ?_
  rintro e w' ⟨hb1, ⟨hno, rfl⟩ | ⟨q2, p1, c1, hq, rfl, ho1⟩⟩
  · exact ⟨none, 0, 0, rfl, hb1⟩
  · have h1 := begO_walk l l 0 []
    rw [hq] at h1
    have hne : q2.2.length ≠ 1 := fun e => by
      rw [Option.map_some, e] at h1
      have : wholeB l = true := by unfold wholeB; exact decide_eq_true h1.symm
      rw [this] at hwh; cases hwh
    rw [decide_eq_false hne]
    exact ⟨_, _, _, rfl, hb1⟩
/-- Does the let at k bind the local at i, in the reference's words? -/
def bdB (l : List Opn) (i k : Nat) : Bool := decide ((opA l k).kind = 19) && (decide ((opA l k).text = (opA l i).text) && decide (frA (whA (nsO l)) ((k - 1 : Nat) : Int) ≤ i))
/-- Is it bound by one of the first k? -/
def fndK (l : List Opn) (i : Nat) : Nat → Bool
  | 0 => false
  | k + 1 => fndK l i k || (decide (i < k) && bdB l i k)
theorem fndK_iff (l : List Opn) (i : Nat) : ∀ k, fndK l i k = true ↔ ∃ j, i < j ∧ j < k ∧ bdB l i j = true
  | 0 => by simp [fndK]
  | k + 1 => by
    rw [fndK, Bool.or_eq_true, fndK_iff l i k, Bool.and_eq_true, decide_eq_true_eq]
    constructor
    · rintro (⟨j, a, b, c⟩ | ⟨a, b⟩)
      · exact ⟨j, a, by omega, c⟩
      · exact ⟨k, a, by omega, b⟩
    · rintro ⟨j, a, b, c⟩
      by_cases e : j = k
      · subst e; exact Or.inr ⟨a, c⟩
      · exact Or.inl ⟨j, a, by omega, c⟩
theorem fndK_low (l : List Opn) (i : Nat) : fndK l i (i + 1) = false := by
  cases h : fndK l i (i + 1) with
  | false => rfl
  | true => obtain ⟨j, a, b, _⟩ := (fndK_iff l i (i + 1)).1 h; omega
theorem boundB_fnd {l : List Opn} (h : wholeB l = true) : boundB l = true ↔ ∀ i, i < l.length → (opA l i).kind = 4 → fndK l i l.length = true := by
  rw [boundB_iff h]
  constructor
  · intro hb i hi h4
    obtain ⟨k, a, b, c, d, e⟩ := hb i hi h4
    exact (fndK_iff l i _).2 ⟨k, a, b, by unfold bdB; simp [c, d, e]⟩
  · intro hb i hi h4
    obtain ⟨k, a, b, c⟩ := (fndK_iff l i _).1 (hb i hi h4)
    unfold bdB at c
    simp only [Bool.and_eq_true, decide_eq_true_eq] at c
    exact ⟨k, a, b, c.1, c.2.1, c.2.2⟩
theorem ret_found {a : Bool} (h : a = true) : (!a) = false := by rw [h]; rfl
set_option maxHeartbeats 8000000 in
set_option maxRecDepth 100000 in
theorem rbound_any (v : Value) (l : List Opn) (w : World) (h : OS w v l) (ht : ∀ c ∈ l, c.text.size ≤ maxLen) (hlm : l.length ≤ 256) (hwh : wholeB l = true) :
    Calls Tryd.prog 64 #[v] w fun e w' => e = .returned (.bool (boundB l)) ∧ Below w.heap.size w w' := by
  have BG : Hid _ := begins_ok v l w h ht hlm hwh
  obtain ⟨p, cap, rfl⟩ := h.form
  have HS : Hid (OS w (.slice p l.length cap) l) := h
  have BT : Hid ((∀ i, i < l.length → (opA l i).kind = 4 → fndK l i l.length = true) → boundB l = true) := (boundB_fnd hwh).2
  have BF : Hid (∀ i, i < l.length → (opA l i).kind = 4 → fndK l i l.length = false → boundB l = false) := fun i a b c => by
    cases e : boundB l with
    | false => rfl
    | true => have := (boundB_fnd hwh).1 e i a b; rw [c] at this; cases this
  have HFl : Hid (((whA (nsO l)).map (·.1)).length = l.length) := by show _ = _; rw [List.length_map, whA_len, nsO_len]
  have HFg : Hid (∀ j, j < l.length → ((whA (nsO l)).map (·.1)).getD j 0 = frA (whA (nsO l)) (j : Int)) := fun j hj => by
    unfold frA
    have : j < (whA (nsO l)).length := by rw [whA_len, nsO_len]; exact hj
    simp [List.getD, List.getElem?_eq_getElem this]
  obtain ⟨FF, hFF⟩ : ∃ FF, FF = (whA (nsO l)).map (·.1) := ⟨_, rfl⟩
  rw [← hFF] at BG HFl HFg
  generalize boundB l = r at *
  clear h ht hwh hFF
  go_enter Tryd.func64, Tryd.ntmps64
  go_wp2_with fail
  refine Calls.mono BG.out ?_
  rintro e w1 ⟨p1, c1, rfl, ho1, hb1⟩
  have O1 : Hid (OwnG KI w1 w.heap.size (.slice p1 l.length c1) FF) := ho1
  have B1 : Hid (∀ n, Below w.heap.size w (w1.drewN n)) := fun n => ⟨hb1.os, hb1.tape, hb1.output, hb1.size, hb1.block⟩
  have HS1 : Hid (OS w1 (.slice p l.length cap) l) := HS.out.below hb1
  clear hb1 ho1 BG HS
  go_wp2
  go_loopw [5] (fun v5 wr => ∃ (i m : Nat), v5 = .int .i64 i ∧ wr = w1.drewN m ∧ i ≤ l.length ∧ Hid (∀ j, j < i → (opA l j).kind = 4 → fndK l j l.length = true)) (fun v5 _ => l.length - (intOf v5).toNat)
  case atStart => exact ⟨0, 0, rfl, rfl, Nat.zero_le _, fun j hj => by omega⟩
  case round =>
    obtain ⟨i, mm, rfl, rfl, hi, HI⟩ := hrel
    by_cases hil : i < l.length
    · obtain ⟨X, o, e1, x1, x2, x3, x4⟩ := HS1.out.atO hil
      obtain rfl : p = some ⟨X, o, none⟩ := e1
      rw [← opA_eq hil] at x1 x2 x3 x4
      by_cases k4 : (opA l i).kind = 4
      · have k4b : ((opA l i).kind != 4) = false := by rw [k4]; rfl
        go_wp2
        have F0 : Hid _ := fndK_low l i
        go_loopw [6, 7] (fun v6 v7 wr => ∃ (k m : Nat), v7 = .int .i64 k ∧ v6 = .bool (fndK l i k) ∧ wr = w1.drewN m ∧ i < k ∧ k ≤ l.length) (fun _ v7 _ => l.length - (intOf v7).toNat)
        case atStart => exact ⟨i + 1, mm, by go_num, by rw [F0.out], rfl, by omega, by omega⟩
        case round =>
          obtain ⟨k, m2, rfl, rfl, rfl, hik, hk⟩ := hrel
          clear F0
          by_cases hkl : k < l.length
          · obtain ⟨X2, o2, e2, z1, z2, z3, z4⟩ := HS1.out.atO hkl
            injection e2 with e2
            injection e2 with e2 e3 _
            subst e2 e3
            rw [← opA_eq hkl] at z1 z2 z3 z4
            have hN : fndK l i (k + 1) = (fndK l i k || bdB l i k) := by rw [fndK, decide_eq_true hik]; simp
            have HN : Hid _ := hN
            have HBD : Hid (bdB l i k = (decide ((opA l k).kind = 19) && (decide ((opA l k).text = (opA l i).text) && decide (frA (whA (nsO l)) ((k - 1 : Nat) : Int) ≤ i)))) := rfl
            obtain ⟨X1, o1, e1, cf⟩ := (O1.out.gs KI_ok.len).atI (k := k - 1) (by rw [HFl.out]; omega)
            obtain rfl : p1 = some ⟨X1, o1, none⟩ := e1
            have hf : FF[k - 1]'(by rw [HFl.out]; omega) = frA (whA (nsO l)) ((k - 1 : Nat) : Int) := by
              rw [← HFg.out (k - 1) (by omega)]; simp [List.getD, List.getElem?_eq_getElem (show k - 1 < FF.length by rw [HFl.out]; omega)]
            rw [hf] at cf
            generalize frA (whA (nsO l)) ((k - 1 : Nat) : Int) = fr at *
            have hk1 : (k : Int) - 1 = ((k - 1 : Nat) : Int) := by omega
            have hk2 : k - 1 < l.length := by omega
            obtain ⟨f0, hf0⟩ : ∃ f0, f0 = fndK l i k := ⟨_, rfl⟩
            rw [← hf0] at HN ⊢
            clear hN hf hf0
            by_cases c1 : (opA l k).kind = 19
            · have c1b : ((opA l k).kind == 19) = true := by rw [c1]; rfl
              by_cases c2 : (opA l k).text = (opA l i).text
              · have c2b : ((opA l k).text.toList == (opA l i).text.toList) = true := by rw [c2]; simp
                by_cases c3 : fr ≤ i
                · have c3b : decide (fr ≤ (i : Int)) = true := decide_eq_true c3
                  have HR : Hid (fndK l i (k + 1) = true) := by show _ = _; rw [HN.out, HBD.out]; simp [c1, c2, c3]
                  clear HN HBD
                  go_wp2
                  go_quiet (fail)
                  go_wp2
                  go_roundw
                  case rel => exact ⟨k + 1, _, by go_num, by rw [HR.out], rfl, by omega, by omega⟩
                  case measure => simp [intOf]; omega
                · have c3b : decide (fr ≤ (i : Int)) = false := decide_eq_false c3
                  have HR : Hid (fndK l i (k + 1) = f0) := by show _ = _; rw [HN.out, HBD.out]; simp [c3]
                  clear HN HBD
                  go_wp2
                  go_quiet (fail)
                  go_wp2
                  go_roundw
                  case rel => exact ⟨k + 1, _, by go_num, by rw [HR.out], rfl, by omega, by omega⟩
                  case measure => simp [intOf]; omega
              · have c2b : ((opA l k).text.toList == (opA l i).text.toList) = false := by rw [bytes_beq]; exact decide_eq_false c2
                have HR : Hid (fndK l i (k + 1) = f0) := by show _ = _; rw [HN.out, HBD.out]; simp [c2]
                clear HN HBD
                go_wp2
                go_quiet (fail)
                go_wp2
                go_roundw
                case rel => exact ⟨k + 1, _, by go_num, by rw [HR.out], rfl, by omega, by omega⟩
                case measure => simp [intOf]; omega
            · have c1b : ((opA l k).kind == 19) = false := by simpa using c1
              have HR : Hid (fndK l i (k + 1) = f0) := by show _ = _; rw [HN.out, HBD.out]; simp [c1]
              clear HN HBD
              go_wp2
              go_quiet (fail)
              go_wp2
              go_roundw
              case rel => exact ⟨k + 1, _, by go_num, by rw [HR.out], rfl, by omega, by omega⟩
              case measure => simp [intOf]; omega
          · have hke : k = l.length := by omega
            subst hke
            cases hfd : fndK l i l.length with
            | true =>
              have HI2 : Hid (∀ j, j < i + 1 → (opA l j).kind = 4 → fndK l j l.length = true) := fun j hj h4 => by
                by_cases e : j = i
                · subst e; exact hfd
                · exact HI.out j (by omega) h4
              clear HI hfd
              go_wp2
              go_roundw
              case rel => exact ⟨i + 1, _, by go_num, rfl, by omega, HI2⟩
              case measure => simp [intOf]; omega
            | false =>
              have hr := BF.out i hil k4 hfd
              subst hr
              clear HI hfd BF BT
              go_wp2
              go_ret
              exact ⟨rfl, B1.out _⟩
      · have k4b : ((opA l i).kind != 4) = true := by simpa using k4
        have HI2 : Hid (∀ j, j < i + 1 → (opA l j).kind = 4 → fndK l j l.length = true) := fun j hj h4 => by
          by_cases e : j = i
          · subst e; exact absurd h4 k4
          · exact HI.out j (by omega) h4
        clear HI
        go_wp2
        go_roundw
        case rel => exact ⟨i + 1, _, by go_num, rfl, by omega, HI2⟩
        case measure => simp [intOf]; omega
    · have hr := BT.out (fun j hj h4 => HI.out j (by omega) h4)
      subst hr
      clear HI BF BT
      go_wp2
      go_ret
      exact ⟨rfl, B1.out _⟩
end Go.Proofs.YtffabehipcomfaaDoor
