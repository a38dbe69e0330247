/- Names, the reference: begins. -/
import Derived.Test.YthmppnmmlblbhaaDoorPz8
import Derived.Test.YthmppnmmlblbhaaDoorPv6
namespace Go.Proofs.YthmppnmmlblbhaaDoor
open Go.RowKit

/-- Where each whole begins, and the stack; none: the expression is no row of wholes. -/
def begO (l : List Opn) : Nat → List Int → List Opn → Option (List Int × List Int)
  | _, S, [] => some ([], S)
  | i, S, c :: r =>
    if opB c = true ∧ c.n ≤ S.length then
      let b := if 0 < c.n then S.getD (S.length - c.n.toNat) 0 else (i : Int)
      (begO l (i + 1) (S.take (S.length - c.n.toNat) ++ [b]) r).map fun q => (b :: q.1, q.2)
    else none
theorem begO_begS (l : List Opn) : ∀ (r : List Opn) (i : Nat) (S : List Int), (∀ c ∈ r, opB c = true) → begO l i S r = begS i S (nsO r)
  | [], i, S, _ => rfl
  | c :: r, i, S, h => by
    have hc := h c (List.mem_cons_self ..)
    have hn := opB_n hc
    rw [begO, show nsO (c :: r) = c.n :: nsO r from rfl, begS]
    by_cases h2 : c.n ≤ S.length
    · rw [if_pos (show opB c = true ∧ c.n ≤ (S.length : Int) from ⟨hc, h2⟩), if_pos (show 0 ≤ c.n ∧ c.n ≤ (S.length : Int) from ⟨hn, h2⟩)]
      simp only
      rw [begO_begS l r _ _ (fun c hc => h c (List.mem_cons_of_mem _ hc))]
    · rw [if_neg (fun e => h2 e.2), if_neg (fun e => h2 e.2)]
theorem begO_walk (l : List Opn) : ∀ (r : List Opn) (i : Nat) (S : List Int), (begO l i S r).map (fun q => (q.2.length : Int)) = walkO S.length r
  | [], i, S => rfl
  | c :: r, i, S => by
    by_cases hc : opB c = true ∧ c.n ≤ S.length
    · have hn := opB_n hc.1
      obtain ⟨b, hb⟩ : ∃ b, b = (if 0 < c.n then S.getD (S.length - c.n.toNat) 0 else (i : Int)) := ⟨_, rfl⟩
      have e1 : begO l i S (c :: r) = (begO l (i + 1) (S.take (S.length - c.n.toNat) ++ [b]) r).map fun q => (b :: q.1, q.2) := by rw [begO, if_pos hc, hb]
      have e2 : walkO S.length (c :: r) = walkO (S.length + (1 - c.n)) r := by rw [walkO, if_pos hc]
      have hl : (S.take (S.length - c.n.toNat) ++ [b]).length = S.length - c.n.toNat + 1 := by simp
      have ih := begO_walk l r (i + 1) (S.take (S.length - c.n.toNat) ++ [b])
      rw [hl] at ih
      have := hc.2
      rw [e1, e2, show (S.length : Int) + (1 - c.n) = ((S.length - c.n.toNat + 1 : Nat) : Int) by omega, ← ih, Option.map_map]
      rfl
    · rw [begO, if_neg hc, walkO, if_neg hc]; rfl
/-- A row, and another one beside it. -/
structure BI (w wk : World) (vf vs : Value) (F S : List Int) (k : Nat) (l : List Opn) : Prop where
  f : OwnG KI wk w.heap.size vf F
  s : OwnG KI wk w.heap.size vs S
  nf : vf.ownBlock ≠ none
  ns : vs.ownBlock ≠ none
  ne : vf.ownBlock ≠ vs.ownBlock
  bl : Below w.heap.size w wk
  eq : begO l 0 [] l = (begO l k S (l.drop k)).map fun q => (F ++ q.1, q.2)
  lf : F.length = k
  ls : S.length ≤ k
theorem BI.below {w wk w' : World} {vf vs : Value} {F S : List Int} {k : Nat} {l : List Opn} (h : BI w wk vf vs F S k l) (B : Below wk.heap.size wk w') : BI w w' vf vs F S k l :=
  ⟨h.f.below B, h.s.below B, h.nf, h.ns, h.ne, h.bl.trans (B.mono h.bl.size), h.eq, h.lf, h.ls⟩
theorem BI.start (w : World) (l : List Opn) : BI w ((w.alloc (.cells #[] 3)).alloc (.cells #[] 3)) (.slice (some ⟨w.heap.size, 0, none⟩) 0 0) (.slice (some ⟨w.heap.size + 1, 0, none⟩) 0 0) [] [] 0 l := by
  have a := (OwnG.empty KI w).below ((Below.refl _ _).alloc (Nat.le_refl _) (.cells #[] 3))
  have b := OwnG.empty KI (w.alloc (.cells #[] 3))
  have hs : (w.alloc (.cells #[] 3)).heap.size = w.heap.size + 1 := by simp
  rw [hs] at b
  refine ⟨a, b.low (by omega), by simp [Value.ownBlock], by simp [Value.ownBlock], by simp [Value.ownBlock], ((Below.refl _ _).alloc (Nat.le_refl _) _).alloc (by simp) _, ?_, rfl, Nat.le_refl _⟩
  simp
theorem BI.eqn {w wk : World} {vf vs : Value} {F S : List Int} {k : Nat} {l : List Opn} (h : BI w wk vf vs F S k l) (hk : k < l.length) (hc : opB l[k] = true ∧ l[k].n ≤ S.length) (b : Int) (hb : b = if 0 < l[k].n then S.getD (S.length - l[k].n.toNat) 0 else (k : Int)) :
    begO l 0 [] l = (begO l (k + 1) (S.take (S.length - l[k].n.toNat) ++ [b]) (l.drop (k + 1))).map fun q => (F ++ [b] ++ q.1, q.2) := by
  rw [h.eq, drop_op hk, begO, if_pos hc, ← hb, Option.map_map]
  congr 1
  funext q
  simp
theorem BI.bad {w wk : World} {vf vs : Value} {F S : List Int} {k : Nat} {l : List Opn} (h : BI w wk vf vs F S k l) (hk : k < l.length) (hc : ¬ (opB l[k] = true ∧ l[k].n ≤ S.length)) : begO l 0 [] l = none := by
  rw [h.eq, drop_op hk, begO, if_neg hc]; rfl
theorem BI.fin {w wk : World} {vf vs : Value} {F S : List Int} {k : Nat} {l : List Opn} (h : BI w wk vf vs F S k l) (hk : l.length ≤ k) : begO l 0 [] l = some (F, S) := by
  rw [h.eq, List.drop_eq_nil_of_le hk]; simp [begO]
/-- Both rows, one number longer. -/
theorem BI.push {w w5 w6 w7 : World} {vf vs vs0 : Value} {F S S0 : List Int} {k g1 g2 c1 c2 : Nat} {l : List Opn} {b : Int} (h : BI w w5 vf vs F S k l) (hb0 : vs0.ownBlock = vs.ownBlock)
    (ho6 : OwnG KI w6 w.heap.size (.slice (some ⟨g1, 0, none⟩) (S0.length + 1) c1) (S0 ++ [b])) (hb6 : Below w.heap.size w5 w6) (hg6 : vs0.ownBlock = some g1 ∨ w5.heap.size ≤ g1)
    (ho7 : OwnG KI w7 w.heap.size (.slice (some ⟨g2, 0, none⟩) (F.length + 1) c2) (F ++ [b])) (hb7 : Below w.heap.size w6 w7) (hk7 : ∀ j, j < w6.heap.size → some j ≠ vf.ownBlock → w7.heap[j]? = w6.heap[j]?) (hg7 : vf.ownBlock = some g2 ∨ w6.heap.size ≤ g2)
    (heq : begO l 0 [] l = (begO l (k + 1) (S0 ++ [b]) (l.drop (k + 1))).map fun q => (F ++ [b] ++ q.1, q.2)) (hS : S0.length ≤ k) :
    BI w w7 (.slice (some ⟨g2, 0, none⟩) (F.length + 1) c2) (.slice (some ⟨g1, 0, none⟩) (S0.length + 1) c1) (F ++ [b]) (S0 ++ [b]) (k + 1) l := by
  have hvf : ∀ q, vf.ownBlock = some q → q < w5.heap.size := fun q hq => (h.f.lt hq).2
  have hg1 : g1 < w6.heap.size := (ho6.lt rfl).2
  have hne : some g1 ≠ vf.ownBlock := by
    intro e
    rcases hg6 with e2 | e2
    · exact h.ne (by rw [← e, ← hb0, e2])
    · have := hvf g1 e.symm; omega
  refine ⟨ho7, ho6.far (fun g hg => ?_), by simp [Value.ownBlock], by simp [Value.ownBlock], ?_, (h.bl.trans hb6).trans hb7, heq, by have := h.lf; simp; omega, by simp; omega⟩
  · have : g = g1 := by simpa [Value.ownBlock] using hg.symm
    subst this
    exact hk7 g hg1 hne
  · simp only [Value.ownBlock]
    intro e
    injection e with e
    rcases hg7 with e2 | e2
    · exact hne (by rw [e2, e])
    · omega
/-- The other row stands. -/
theorem BI.keepF {w w5 w6 : World} {vf vs vs0 : Value} {F S : List Int} {k : Nat} {l : List Opn} (h : BI w w5 vf vs F S k l) (hb0 : vs0.ownBlock = vs.ownBlock) (hk6 : ∀ j, j < w5.heap.size → some j ≠ vs0.ownBlock → w6.heap[j]? = w5.heap[j]?) : OwnG KI w6 w.heap.size vf F :=
  h.f.far (fun g hg => hk6 g (h.f.lt hg).2 (fun e => h.ne (by rw [hg, e, hb0])))
theorem BI.stack {w wk : World} {vf vs : Value} {F S : List Int} {k : Nat} {l : List Opn} (h : BI w wk vf vs F S k l) : ∃ g c, vs = .slice (some ⟨g, 0, none⟩) S.length c ∧ S.length ≤ c ∧ ∀ j, j < S.length → wk.cell? ⟨g, j, none⟩ = some (.int .i64 (S.getD j 0)) := by
  obtain ⟨g, cap, e, hcp⟩ := h.s.place h.ns
  subst e
  exact ⟨g, cap, rfl, hcp, fun j hj => own_int h.s rfl hj⟩
set_option maxHeartbeats 8000000 in
set_option maxRecDepth 100000 in
theorem begins_any (v : Value) (l : List Opn) (w : World) (h : OS w v l) (ht : ∀ c ∈ l, c.text.size ≤ maxLen) (hlm : l.length ≤ 256) :
    Calls Tryd.prog 78 #[v] w fun e w' => Below w.heap.size w w' ∧ ((begO l 0 [] l = none ∧ e = .returned (.tuple #[.slice none 0 0, .bool false])) ∨ ∃ q p cap, begO l 0 [] l = some q ∧ e = .returned (.tuple #[.slice p q.1.length cap, .bool (decide (q.2.length = 1))]) ∧ OwnG KI w' w.heap.size (.slice p q.1.length cap) q.1) := by
  obtain ⟨p, cap, rfl⟩ := h.form
  have HS : Hid (OS w (.slice p l.length cap) l) := h
  have HT : Hid (∀ c ∈ l, c.text.size ≤ maxLen) := ht
  clear h ht
  have B0 : Hid _ := BI.start w l
  go_enter Tryd.func78, Tryd.ntmps78
  go_wp2
  go_loopw [4, 5, 6] (fun v4 v5 v6 wr => ∃ (k : Nat) (vf vs : Value) (F S : List Int) (wk : World), v6 = .int .i64 k ∧ vf = v4 ∧ vs = v5 ∧ wk = wr ∧ k ≤ l.length ∧ Hid (BI w wk vf vs F S k l)) (fun _ _ v6 _ => l.length - (intOf v6).toNat)
  case atStart => exact ⟨0, _, _, [], [], _, rfl, rfl, rfl, rfl, Nat.zero_le _, B0⟩
  case round =>
    obtain ⟨k, vf, vs, F, S, wr, rfl, rfl, rfl, rfl, hk, HB⟩ := hrel
    clear B0
    obtain ⟨pf, cf, hvf, _⟩ := HB.out.f.form
    obtain ⟨gs, cs, hvs, hcap, hcell⟩ := HB.out.stack
    subst hvf hvs
    have hSl : S.length ≤ k := HB.out.ls
    have HFl : Hid (F.length = k) := HB.out.lf
    by_cases hlt : k < l.length
    · obtain ⟨X, o, e1, x1, x2, x3, x4⟩ := (HS.out.below HB.out.bl).atO hlt
      obtain rfl : p = some ⟨X, o, none⟩ := e1
      have hmem := HT.out _ (List.getElem_mem hlt)
      have EQN : Hid _ := HB.out.eqn hlt
      have BAD : Hid _ := HB.out.bad hlt
      obtain ⟨c, hc⟩ : ∃ c, c = l[k] := ⟨_, rfl⟩
      rw [← hc] at x1 x2 x3 x4 hmem EQN BAD
      have IC := fun w' => rwell_any c w' hmem
      simp only [opV] at IC
      have HXl : Hid (X < wr.heap.size) := block_lt_of_cell x2
      clear hc hmem
      cases hcb : opB c with
      | false =>
        rw [hcb] at IC
        have HN : Hid (begO l 0 [] l = none) := BAD.out (by rw [hcb]; simp)
        go_wp2_with (go_at_call 97; refine (IC _).mono ?_; rintro e w5 ⟨rfl, hb5⟩; have HB5 : Hid (Below w.heap.size w w5) := HB.out.bl.trans (hb5.mono HB.out.bl.size); clear hb5)
        go_ret2
        exact ⟨HB5.out, Or.inl ⟨HN.out, rfl⟩⟩
      | true =>
        rw [hcb] at IC
        have hn0 := opB_n hcb
        by_cases hcs : c.n ≤ S.length
        · obtain ⟨m, hm⟩ : ∃ m : Nat, c.n = m := ⟨c.n.toNat, by omega⟩
          have LF : Hid ((F.length + 1) * KI.B ≤ 140737488355328) := by have := HFl.out; show (F.length + 1) * 8 ≤ _; omega
          have hcs2 : ¬ c.n > (S.length : Int) := by omega
          by_cases hm0 : c.n = 0
          · have E1 : Hid (begO l 0 [] l = (begO l (k + 1) (S ++ [(k : Int)]) (l.drop (k + 1))).map fun q => (F ++ [(k : Int)] ++ q.1, q.2)) := by
              show begO l 0 [] l = _
              have := EQN.out ⟨hcb, hcs⟩ (k : Int) (by rw [hm0]; simp)
              rw [hm0] at this; simpa using this
            have LS : Hid ((S.length + 1) * KI.B ≤ 140737488355328) := by show (S.length + 1) * 8 ≤ _; omega
            rw [hm0] at x2 IC hcs2
            have hz : ¬ (S.length : Int) < 0 := by omega
            go_wp2_with (first | (go_at_call 97; refine (IC _).mono ?_; rintro e w5 ⟨rfl, hb5⟩; have y1 : w5.cell? ⟨X, o + k * 4 + 1, none⟩ = some (.int .i64 0) := (hb5.cell (p := ⟨X, o + k * 4 + 1, none⟩) HXl.out).trans x2; have BB : Hid (Below wr.heap.size wr w5) := hb5; have B5 : Hid (BI w w5 (.slice pf F.length cf) (.slice (some ⟨gs, 0, none⟩) S.length cs) F S k l) := HB.out.below BB.out; have Z5 : Hid (w.heap.size ≤ w5.heap.size) := B5.out.bl.size; clear hb5) | (at_builtin; refine append_g KI KI_ok rfl (.tmp 60) (.tmp 62) 37 rfl w.heap.size Tryd.underlying37 _ _ _ (.slice (some ⟨gs, 0, none⟩) S.length cs) S (k : Int) _ rfl B5.out.s _ rfl rfl rfl LS.out Z5.out ?_; intro g1 c1 w6 ho6 hb6 hk6 hg6; have O6 : Hid _ := ho6; have F6 : Hid (OwnG KI w6 w.heap.size (.slice pf F.length cf) F) := B5.out.keepF (vs0 := .slice (some ⟨gs, 0, none⟩) S.length cs) rfl hk6; have Z6 : Hid (w.heap.size ≤ w6.heap.size) := Nat.le_trans Z5.out hb6.size; have HB6 : Hid _ := hb6; have HG6 : Hid _ := hg6; clear ho6 hb6 hk6 hg6) | (at_builtin; refine append_g KI KI_ok rfl (.tmp 64) (.tmp 66) 37 rfl w.heap.size Tryd.underlying37 _ _ _ (.slice pf F.length cf) F (k : Int) _ rfl F6.out _ rfl rfl rfl LF.out Z6.out ?_; intro g2 c2 w7 ho7 hb7 hk7 hg7))
            go_roundw
            case rel => exact ⟨k + 1, _, _, _, _, _, by go_num, rfl, rfl, rfl, by omega, B5.out.push (vs0 := .slice (some ⟨gs, 0, none⟩) S.length cs) rfl O6.out HB6.out HG6.out ho7 hb7 hk7 hg7 E1.out hSl⟩
            case measure => simp [intOf]; omega
          · obtain ⟨J, hJ⟩ : ∃ J, J = S.length - m := ⟨_, rfl⟩
            have hJi : (S.length : Int) - (m : Int) = (J : Int) := by omega
            have hJl : J < S.length := by omega
            have hJc : J ≤ cs := by omega
            obtain ⟨b, hb⟩ : ∃ b, b = S.getD J 0 := ⟨_, rfl⟩
            have cJ := hcell J hJl
            rw [← hb] at cJ
            have E1 : Hid (begO l 0 [] l = (begO l (k + 1) (S.take J ++ [b]) (l.drop (k + 1))).map fun q => (F ++ [b] ++ q.1, q.2)) := by
              show begO l 0 [] l = _
              have e3 : S.length - c.n.toNat = J := by omega
              have := EQN.out ⟨hcb, hcs⟩ b (by rw [if_pos (by omega), e3]; exact hb)
              rw [e3] at this; exact this
            have LS : Hid (((S.take J).length + 1) * KI.B ≤ 140737488355328) := by show ((S.take J).length + 1) * 8 ≤ _; simp; omega
            have HJS : Hid (J ≤ S.length) := by show J ≤ S.length; omega
            have HJk : Hid ((S.take J).length ≤ k) := by show (S.take J).length ≤ k; simp; omega
            have HGS : Hid (gs < wr.heap.size) := block_lt_of_cell cJ
            obtain ⟨S0, hS0⟩ : ∃ S0, S0 = S.take J := ⟨_, rfl⟩
            have HS0 : Hid (S.take J = S0) := hS0.symm
            rw [← hS0] at LS HJk E1
            clear hS0
            rw [hm] at x2 IC hcs2
            have hmp : (m : Int) > 0 := by omega
            clear hm hm0 hb hJ hcell hn0 hcs
            go_wp2_with (first | (go_at_call 97; refine (IC _).mono ?_; rintro e w5 ⟨rfl, hb5⟩; have y1 : w5.cell? ⟨X, o + k * 4 + 1, none⟩ = some (.int .i64 (m : Int)) := (hb5.cell (p := ⟨X, o + k * 4 + 1, none⟩) HXl.out).trans x2; have BB : Hid (Below wr.heap.size wr w5) := hb5; have B5 : Hid (BI w w5 (.slice pf F.length cf) (.slice (some ⟨gs, 0, none⟩) S.length cs) F S k l) := HB.out.below BB.out; have Z5 : Hid (w.heap.size ≤ w5.heap.size) := B5.out.bl.size; have yJ : w5.cell? ⟨gs, J, none⟩ = some (.int .i64 b) := (BB.out.cell (p := ⟨gs, J, none⟩) HGS.out).trans cJ; have C5 : Hid (OwnG KI w5 w.heap.size (.slice (some ⟨gs, 0, none⟩) J cs) S0) := HS0.out ▸ B5.out.s.cut KI_ok.len J HJS.out; clear hb5) | (at_builtin; refine append_g KI KI_ok rfl (.tmp 60) (.tmp 62) 37 rfl w.heap.size Tryd.underlying37 _ _ _ (.slice (some ⟨gs, 0, none⟩) J cs) S0 b _ rfl C5.out _ rfl rfl rfl LS.out Z5.out ?_; intro g1 c1 w6 ho6 hb6 hk6 hg6; have O6 : Hid _ := ho6; have F6 : Hid (OwnG KI w6 w.heap.size (.slice pf F.length cf) F) := B5.out.keepF (vs0 := .slice (some ⟨gs, 0, none⟩) J cs) rfl hk6; have Z6 : Hid (w.heap.size ≤ w6.heap.size) := Nat.le_trans Z5.out hb6.size; have HB6 : Hid _ := hb6; have HG6 : Hid _ := hg6; clear ho6 hb6 hk6 hg6) | (at_builtin; refine append_g KI KI_ok rfl (.tmp 64) (.tmp 66) 37 rfl w.heap.size Tryd.underlying37 _ _ _ (.slice pf F.length cf) F b _ rfl F6.out _ rfl rfl rfl LF.out Z6.out ?_; intro g2 c2 w7 ho7 hb7 hk7 hg7))
            go_roundw
            case rel => exact ⟨k + 1, _, _, _, _, _, by go_num, rfl, rfl, rfl, by omega, B5.out.push (vs0 := .slice (some ⟨gs, 0, none⟩) J cs) rfl O6.out HB6.out HG6.out ho7 hb7 hk7 hg7 E1.out HJk.out⟩
            case measure => simp [intOf]; omega
        · have hcs2 : c.n > (S.length : Int) := by omega
          have HN : Hid (begO l 0 [] l = none) := BAD.out (fun h => hcs h.2)
          go_wp2_with (go_at_call 97; refine (IC _).mono ?_; rintro e w5 ⟨rfl, hb5⟩; have y1 : w5.cell? ⟨X, o + k * 4 + 1, none⟩ = some (.int .i64 c.n) := (hb5.cell (p := ⟨X, o + k * 4 + 1, none⟩) HXl.out).trans x2; have HB5 : Hid (Below w.heap.size w w5) := HB.out.bl.trans (hb5.mono HB.out.bl.size); clear hb5)
          go_ret2
          exact ⟨HB5.out, Or.inl ⟨HN.out, rfl⟩⟩
    · have HE : Hid (begO l 0 [] l = some (F, S)) := HB.out.fin (by omega)
      have HFIN : Hid (∀ w', Below wr.heap.size wr w' → Below w.heap.size w w' ∧ ((begO l 0 [] l = none ∧ Ending.returned (.tuple #[.slice pf F.length cf, .bool (decide (S.length = 1))]) = .returned (.tuple #[.slice none 0 0, .bool false])) ∨ ∃ q p cap, begO l 0 [] l = some q ∧ Ending.returned (.tuple #[.slice pf F.length cf, .bool (decide (S.length = 1))]) = .returned (.tuple #[.slice p q.1.length cap, .bool (decide (q.2.length = 1))]) ∧ OwnG KI w' w.heap.size (.slice p q.1.length cap) q.1)) := fun w' B => ⟨HB.out.bl.trans (B.mono HB.out.bl.size), Or.inr ⟨(F, S), pf, cf, HE.out, rfl, HB.out.f.below B⟩⟩
      by_cases hs1 : S.length = 1
      · have hs2 : ((S.length : Int) == 1) = true := by simp [hs1]
        have hd : Hid (decide (S.length = 1) = true) := decide_eq_true hs1
        rw [hd.out] at HFIN
        clear hs1
        go_wp2
        go_ret2
        exact HFIN.out _ (Below.refl _ _)
      · have hs2 : ((S.length : Int) == 1) = false := by rw [beq_eq_false_iff_ne]; omega
        have hd : Hid (decide (S.length = 1) = false) := decide_eq_false hs1
        rw [hd.out] at HFIN
        clear hs1
        go_wp2
        go_ret2
        exact HFIN.out _ (Below.refl _ _)
end Go.Proofs.YthmppnmmlblbhaaDoor
