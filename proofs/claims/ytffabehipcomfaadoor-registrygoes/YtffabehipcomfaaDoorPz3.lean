/- Names: eachWhole, whatever it is handed. -/
import Derived.Test.YtffabehipcomfaaDoorPz1
namespace Go.Proofs.YtffabehipcomfaaDoor
open Go.RowKit

set_option maxHeartbeats 4000000 in
set_option maxRecDepth 100000 in
theorem isWhole_any (v : Value) (l : List Opn) (w : World) (h : OS w v l) (ht : ∀ c ∈ l, c.text.size ≤ maxLen) (hv : NV w) (hlm : l.length ≤ 256) :
    Calls Tryd.prog 71 #[v] w fun e w' => e = .returned (.bool (wholeB l)) ∧ Below w.heap.size w w' := by
  obtain ⟨p, cap, rfl⟩ := h.form
  have HS : Hid (OS w (.slice p l.length cap) l) := h
  have HV : Hid (NV w) := hv
  have HT : Hid (∀ c ∈ l, c.text.size ≤ maxLen) := ht
  have HC : Hid (wholeB l = decide (walkO 0 l = some 1)) := rfl
  generalize wholeB l = r at *
  clear h hv ht
  go_enter Tryd.func71, Tryd.ntmps71
  go_wp2
  go_loopw [3, 8] (fun v3 v8 wr => ∃ (k : Nat) (s : Int) (wk : World), v8 = .int .i64 k ∧ v3 = .int .i64 s ∧ wk = wr ∧ k ≤ l.length ∧ 0 ≤ s ∧ s ≤ k ∧ Hid (Below w.heap.size w wk ∧ walkO 0 l = walkO s (l.drop k))) (fun _ v8 _ => l.length - (intOf v8).toNat)
  case atStart => exact ⟨0, 0, _, rfl, rfl, rfl, Nat.zero_le _, Int.le_refl _, Int.le_refl _, ⟨Below.refl _ _, rfl⟩⟩
  case round =>
    obtain ⟨k, s, wr, rfl, rfl, rfl, hk, hs0, hsk, HW⟩ := hrel
    by_cases hlt : k < l.length
    · obtain ⟨X, o, e1, x1, x2, x3, x4⟩ := (HS.out.below HW.out.1).atO hlt
      obtain rfl : p = some ⟨X, o, none⟩ := e1
      have hmem := HT.out _ (List.getElem_mem hlt)
      have HD : Hid _ := drop_op hlt
      obtain ⟨c, hc⟩ : ∃ c, c = l[k] := ⟨_, rfl⟩
      rw [← hc] at x1 x2 x3 x4 hmem HD
      have IC := fun w' (hb : Below w.heap.size w w') => isOp_any c w' (HV.out.below hb) hmem
      have AL : Hid (∀ ob, Below w.heap.size w (wr.alloc ob)) := fun ob => HW.out.1.alloc HW.out.1.size ob
      clear hc
      cases hcb : opB c with
      | false =>
        rw [hcb] at IC
        have HN : Hid (walkO 0 l = none) := by show walkO 0 l = none; rw [HW.out.2, HD.out, walkO, hcb]; simp
        go_wp2_with (go_at_call 84; refine (IC _ (AL.out _)).mono ?_; rintro e w5 ⟨rfl, hb5⟩)
        go_ret
        exact ⟨ret_bool (by rw [HC.out, HN.out]; rfl), (AL.out _).trans (hb5.mono (AL.out _).size)⟩
      | true =>
        rw [hcb] at IC
        have hn0 := opB_n hcb
        by_cases hcs : c.n ≤ s
        · have hcs2 : ¬ c.n > s := by omega
          have HN : Hid (walkO 0 l = walkO (s + (1 - c.n)) (l.drop (k + 1))) := by show _ = _; rw [HW.out.2, HD.out, walkO, hcb]; simp [hcs]
          go_wp2_with (go_at_call 84; refine (IC _ (AL.out _)).mono ?_; rintro e w5 ⟨rfl, hb5⟩; have y1 : w5.cell? ⟨wr.heap.size, 1, none⟩ = some (.int .i64 c.n) := (hb5.cell (p := ⟨wr.heap.size, 1, none⟩) (by simp)).trans (cell_of_row _ _ _ _ _ _ (heap_alloc_new wr _)); have HB5 : Hid (Below w.heap.size w w5) := (AL.out _).trans (hb5.mono (AL.out _).size); clear hb5)
          go_roundw
          case rel => exact ⟨k + 1, s + (1 - c.n), _, by go_num, rfl, rfl, by omega, by omega, by omega, ⟨HB5.out, HN.out⟩⟩
          case measure => simp [intOf]; omega
        · have hcs2 : c.n > s := by omega
          have HN : Hid (walkO 0 l = none) := by show walkO 0 l = none; rw [HW.out.2, HD.out, walkO]; simp [hcs]
          go_wp2_with (go_at_call 84; refine (IC _ (AL.out _)).mono ?_; rintro e w5 ⟨rfl, hb5⟩; have y1 : w5.cell? ⟨wr.heap.size, 1, none⟩ = some (.int .i64 c.n) := (hb5.cell (p := ⟨wr.heap.size, 1, none⟩) (by simp)).trans (cell_of_row _ _ _ _ _ _ (heap_alloc_new wr _)); have HB5 : Hid (Below w.heap.size w w5) := (AL.out _).trans (hb5.mono (AL.out _).size); clear hb5)
          go_ret
          exact ⟨ret_bool (by rw [HC.out, HN.out]; rfl), HB5.out⟩
    · have HN : Hid (walkO 0 l = some s) := by show walkO 0 l = some s; rw [HW.out.2, List.drop_eq_nil_of_le (by omega)]; rfl
      go_wp2
      go_ret
      exact ⟨ret_bool (by rw [HC.out, HN.out]; by_cases e : s = 1 <;> simp [e]), HW.out.1⟩
set_option maxHeartbeats 4000000 in
theorem hasLong_any (v : Value) (l : List Opn) (w : World) (h : OS w v l) (hlm : l.length ≤ 256) :
    Calls Tryd.prog 73 #[v] w fun e w' => e = .returned (.bool (longB l)) ∧ Below w.heap.size w w' := by
  obtain ⟨p, cap, rfl⟩ := h.form
  have HS : Hid (OS w (.slice p l.length cap) l) := h
  have HH : Hid (∀ k (h : k < l.length), 4096 < l[k].text.size → longB l = true) := fun k h => longB_hit h
  have HM : Hid ((∀ k (h : k < l.length), l[k].text.size ≤ 4096) → longB l = false) := longB_iff.2
  generalize longB l = r at *
  clear h
  go_enter Tryd.func73, Tryd.ntmps73
  go_wp2
  go_loopw [7] (fun v7 wr => ∃ (k : Nat) (wk : World), v7 = .int .i64 k ∧ wk = wr ∧ k ≤ l.length ∧ Hid (Below w.heap.size w wk ∧ ∀ i (h : i < l.length), i < k → l[i].text.size ≤ 4096)) (fun v7 _ => l.length - (intOf v7).toNat)
  case atStart => exact ⟨0, _, rfl, rfl, Nat.zero_le _, ⟨Below.refl _ _, fun i _ h => by omega⟩⟩
  case round =>
    obtain ⟨k, wr, rfl, rfl, hk, HW⟩ := hrel
    by_cases hlt : k < l.length
    · obtain ⟨X, o, e1, x1, x2, x3, x4⟩ := (HS.out.below HW.out.1).atO hlt
      obtain rfl : p = some ⟨X, o, none⟩ := e1
      have AL : Hid (∀ ob, Below w.heap.size w (wr.alloc ob)) := fun ob => HW.out.1.alloc HW.out.1.size ob
      have HK : Hid (4096 < l[k].text.size → r = true) := HH.out k hlt
      have HK2 : Hid (l[k].text.size ≤ 4096 → ∀ i (h : i < l.length), i < k + 1 → l[i].text.size ≤ 4096) := fun h0 i hi hik => by
        by_cases e : i = k
        · subst e; exact h0
        · exact HW.out.2 i hi (by omega)
      obtain ⟨c, hc⟩ : ∃ c, c = l[k] := ⟨_, rfl⟩
      rw [← hc] at x1 x2 x3 x4 HK HK2
      clear hc
      by_cases hs : 4096 < c.text.size
      · have hs2 : (c.text.size : Int) > 4096 := by omega
        have hr := HK.out hs
        subst hr
        go_wp2
        go_ret
        exact ⟨rfl, AL.out _⟩
      · have hs2 : ¬ (c.text.size : Int) > 4096 := by omega
        have H3 : Hid _ := HK2.out (by omega)
        go_wp2
        go_roundw
        case rel => exact ⟨k + 1, _, by go_num, rfl, by omega, ⟨AL.out _, H3.out⟩⟩
        case measure => simp [intOf]; omega
    · have hr := HM.out (fun i hi => HW.out.2 i hi (by omega))
      subst hr
      go_wp2
      go_ret
      exact ⟨rfl, HW.out.1⟩
end Go.Proofs.YtffabehipcomfaaDoor
namespace Go.Proofs.YtffabehipcomfaaDoor
open Go.RowKit

/-- The stack behind the first k. -/
def stK (l : List Opn) : Nat → List Int
  | 0 => []
  | k + 1 => (stK l k).take ((stK l k).length - (opA l k).n.toNat) ++ [(k : Int)]
theorem stK_endE : ∀ (r : List Opn) (l : List Opn) (i : Nat), l.drop i = r → endE i (stK l i) (nsO r) = stK l (i + r.length)
  | [], l, i, _ => by simp [nsO, endE]
  | c :: r, l, i, h => by
    have hi : i < l.length := by
      by_cases hlt : i < l.length
      · exact hlt
      · rw [List.drop_eq_nil_of_le (by omega)] at h; cases h
    have hc : opA l i = c := by
      rw [opA_eq hi]
      have := congrArg (·[0]?) h
      simpa [List.getElem?_eq_getElem hi] using this
    have hd : l.drop (i + 1) = r := by rw [← List.drop_drop, h]; rfl
    have ih := stK_endE r l (i + 1) hd
    rw [show nsO (c :: r) = c.n :: nsO r from rfl, endE]
    rw [stK, hc] at ih
    rw [ih, List.length_cons]; congr 1; omega
/-- What a walk of k leaves: the stack, and room for the next one's parts. -/
theorem stK_walk {l : List Opn} (hw : walkN 0 (nsO l) = some 1) : ∀ k, k ≤ l.length → walkN (stK l k).length (nsO (l.drop k)) = some 1
  | 0, _ => by simpa [stK] using hw
  | k + 1, hk => by
    have ih := stK_walk hw k (by omega)
    rw [drop_op (show k < l.length by omega), show nsO (l[k] :: l.drop (k + 1)) = l[k].n :: nsO (l.drop (k + 1)) from rfl] at ih
    obtain ⟨⟨h1, h2⟩, h3⟩ := walk_step ih
    rw [← h3, stK, opA_eq (show k < l.length by omega)]
    congr 1; simp; omega
theorem stK_n {l : List Opn} (hw : walkN 0 (nsO l) = some 1) {k : Nat} (hk : k < l.length) : 0 ≤ l[k].n ∧ l[k].n ≤ (stK l k).length := by
  have ih := stK_walk hw k (by omega)
  rw [drop_op hk, show nsO (l[k] :: l.drop (k + 1)) = l[k].n :: nsO (l.drop (k + 1)) from rfl] at ih
  exact (walk_step ih).1
theorem stK_le (l : List Opn) : ∀ k, (stK l k).length ≤ k
  | 0 => by simp [stK]
  | k + 1 => by have := stK_le l k; rw [stK]; simp; omega
theorem whS_part : ∀ (r : List Opn) (l : List Opn) (i : Nat) (A : List (Int × List Int)), l.drop i = r → A.length = i → ∀ k, i ≤ k → k < l.length → ((whS i (stK l i) A (nsO r)).getD k (0, [])).2 = (stK l k).drop ((stK l k).length - (opA l k).n.toNat)
  | [], l, i, A, h, _, k, h1, h2 => by
    have := List.drop_eq_nil_iff.1 h; omega
  | c :: r, l, i, A, h, hA, k, h1, h2 => by
    have hi : i < l.length := by omega
    have hc : opA l i = c := by
      rw [opA_eq hi]
      have := congrArg (·[0]?) h
      simpa [List.getElem?_eq_getElem hi] using this
    have hd : l.drop (i + 1) = r := by rw [← List.drop_drop, h]; rfl
    rw [show nsO (c :: r) = c.n :: nsO r from rfl, whS]
    obtain ⟨b, hb⟩ : ∃ b, b = (if 0 < c.n then (A.getD ((stK l i).getD ((stK l i).length - c.n.toNat) 0).toNat (0, [])).1 else (i : Int)) := ⟨_, rfl⟩
    rw [← hb]
    have es : (stK l i).take ((stK l i).length - c.n.toNat) ++ [(i : Int)] = stK l (i + 1) := by rw [stK, hc]
    rw [es]
    by_cases hk : k = i
    · subst hk
      have keep : ∀ (r : List Int) (i : Nat) (E : List Int) (A : List (Int × List Int)) (j : Nat), j < A.length → (whS i E A r).getD j (0, []) = A.getD j (0, []) := fun r => by
        induction r with
        | nil => intro i E A j hj; rw [whS]
        | cons c r ih => intro i E A j hj; rw [whS, ih _ _ _ _ (by simp; omega), getD_old hj]
      rw [keep _ _ _ _ _ (by simp; omega), hc]
      simp [List.getD, ← hA]
    · exact whS_part r l (i + 1) _ hd (by simp [hA]) k (by omega) h2
/-- The parts of the operation at k are the stack's last ones. -/
theorem ptO_stK {l : List Opn} {k : Nat} (hk : k < l.length) : ptO l k = (stK l k).drop ((stK l k).length - (opA l k).n.toNat) := by
  unfold ptO whA
  exact whS_part l l 0 [] (by simp) rfl k (Nat.zero_le _) hk
/-- What the visits keep: a state, by how many were visited, with the blocks that it stands on. -/
structure Vis (I : Nat → (Nat → Prop) → World → Prop) : Prop where
  lt : ∀ k F w, I k F w → ∀ x, F x → x < w.heap.size
  keep : ∀ k F w w', I k F w → w.heap.size ≤ w'.heap.size → w'.os = w.os → w'.tape = w.tape → w'.output = w.output → (∀ x, F x → w'.heap[x]? = w.heap[x]?) → I k F w'
/-- All but the blocks of F as it was; new blocks may be there. -/
structure But (F : Nat → Prop) (a b : World) : Prop where
  os : b.os = a.os
  tape : b.tape = a.tape
  output : b.output = a.output
  size : a.heap.size ≤ b.heap.size
  block : ∀ x, x < a.heap.size → ¬ F x → b.heap[x]? = a.heap[x]?
theorem But.of_below {F : Nat → Prop} {a b : World} (h : Below a.heap.size a b) : But F a b := ⟨h.os, h.tape, h.output, h.size, fun x hx _ => h.block x hx⟩
theorem But.refl (F : Nat → Prop) (a : World) : But F a a := ⟨rfl, rfl, rfl, Nat.le_refl _, fun _ _ _ => rfl⟩
theorem But.trans {F G : Nat → Prop} {a b c : World} (h : But F a b) (k : But G b c) (hG : ∀ x, G x → F x ∨ a.heap.size ≤ x) : But F a c :=
  ⟨k.os.trans h.os, k.tape.trans h.tape, k.output.trans h.output, Nat.le_trans h.size k.size, fun x hx hn => (k.block x (Nat.lt_of_lt_of_le hx h.size) (fun hg => by rcases hG x hg with e | e; exact hn e; omega)).trans (h.block x hx hn)⟩
/-- Where the walk stands. -/
structure EW (w wk : World) (I : Nat → (Nat → Prop) → World → Prop) (F0 F : Nat → Prop) (vs : Value) (l : List Opn) (k : Nat) : Prop where
  i : I k F wk
  s : OwnG KI wk w.heap.size vs (stK l k)
  ap : ∀ x, vs.ownBlock = some x → ¬ F x
  bt : But F0 w wk
  fn : ∀ x, F x → F0 x ∨ w.heap.size ≤ x
theorem EW.next {w wk w1 w2 : World} {I : Nat → (Nat → Prop) → World → Prop} {F0 F F1 : Nat → Prop} {vs : Value} {l : List Opn} {k g c : Nat} (V : Vis I) (h : EW w wk I F0 F vs l k)
    (i1 : I (k + 1) F1 w1) (f1 : ∀ x, F1 x → F x ∨ wk.heap.size ≤ x) (b1 : But F wk w1)
    (o2 : OwnG KI w2 w.heap.size (.slice (some ⟨g, 0, none⟩) (stK l (k + 1)).length c) (stK l (k + 1)))
    (os : w2.os = w1.os) (tp : w2.tape = w1.tape) (op : w2.output = w1.output) (sz : w1.heap.size ≤ w2.heap.size) (k2 : ∀ x, x < w1.heap.size → some x ≠ vs.ownBlock → w2.heap[x]? = w1.heap[x]?) (hg : vs.ownBlock = some g ∨ w1.heap.size ≤ g) :
    EW w w2 I F0 F1 (.slice (some ⟨g, 0, none⟩) (stK l (k + 1)).length c) l (k + 1) := by
  have hvs : ∀ x, vs.ownBlock = some x → w.heap.size ≤ x ∧ x < wk.heap.size := fun x hx => h.s.lt hx
  have nf1 : ∀ x, vs.ownBlock = some x → ¬ F1 x := fun x hx hf => by
    rcases f1 x hf with e | e
    · exact h.ap x hx e
    · have := (hvs x hx).2; omega
  refine ⟨V.keep _ _ _ _ i1 sz os tp op (fun x hx => k2 x (V.lt _ _ _ i1 x hx) (fun e => nf1 x e.symm hx)), o2, fun x hx => ?_, ?_, fun x hx => ?_⟩
  · have : x = g := by simpa [Value.ownBlock] using hx.symm
    subst this
    rcases hg with e | e
    · exact nf1 x e
    · intro hf; have := V.lt _ _ _ i1 x hf; omega
  · have b2 : But (fun x => vs.ownBlock = some x) w1 w2 := ⟨os, tp, op, sz, fun x hx hn => k2 x hx (fun e => hn e.symm)⟩
    refine (h.bt.trans b1 (fun x hx => h.fn x hx)).trans b2 (fun x hx => Or.inr (hvs x hx).1)
  · rcases f1 x hx with e | e
    · exact h.fn x e
    · have := h.bt.size; right; omega
theorem is_nil (w : World) (a : Addr) (c : Nat) : IS w (.slice (some a) 0 c) [] := Or.inl ⟨Or.inr ⟨a, c, rfl⟩, rfl⟩
theorem is_drop {w : World} {base g n cs : Nat} {S : List Int} (h : OwnG KI w base (.slice (some ⟨g, 0, none⟩) n cs) S) (hn : n = S.length) {J : Nat} (hJ : J ≤ S.length) (hc : S.length ≤ cs) : IS w (.slice (some ⟨g, J, none⟩) (S.length - J) (cs - J)) (S.drop J) := by
  refine Or.inr ⟨g, J, cs - J, by rw [List.length_drop], (h.lt rfl).2, by rw [List.length_drop]; omega, fun k hk j u hu => ?_⟩
  rw [List.length_drop] at hk
  have hj : j = 0 := by
    by_cases e : j = 0
    · exact e
    · rw [List.getElem?_eq_none (by simp [KI]; omega)] at hu; cases hu
  subst hj
  have e : u = .int .i64 (S.getD (J + k) 0) := by
    simp [KI] at hu
    rw [← hu]; simp [List.getD, List.getElem?_eq_getElem (show J + k < S.length by omega)]
  rw [e, ← own_int h hn (show J + k < S.length by omega)]
  rw [show KI.W = 1 from rfl, Nat.mul_one, Nat.add_zero]
set_option maxHeartbeats 8000000 in
set_option maxRecDepth 100000 in
theorem eachWhole_any (v : Value) (l : List Opn) (fn : Nat) (cp : Array Value) (w : World) (I : Nat → (Nat → Prop) → World → Prop) (F0 : Nat → Prop) (V : Vis I) (h : OS w v l) (hX : ∀ x, v.ownBlock = some x → ¬ F0 x) (hw : walkN 0 (nsO l) = some 1) (hlm : l.length ≤ 256) (I0 : I 0 F0 w) (hen : ∀ args w, Sem.run Tryd.prog (callFunc fn args) w = .ok (.enter fn args) w)
    (VS : ∀ k F wk vp, k < l.length → I k F wk → IS wk vp (ptO l k) → (∀ x, vp.ownBlock = some x → ¬ F x) → (∀ x, F x → F0 x ∨ w.heap.size ≤ x) → But F0 w wk → Calls Tryd.prog fn (#[.int .i64 k, vp] ++ cp) wk fun e w' => e = .returned (.tuple #[]) ∧ ∃ F', I (k + 1) F' w' ∧ (∀ x, F' x → F x ∨ wk.heap.size ≤ x) ∧ But F wk w') :
    Calls Tryd.prog 85 #[v, .func (.func fn) #[] cp] w fun e w' => e = .returned (.tuple #[]) ∧ ∃ F', I l.length F' w' ∧ (∀ x, F' x → F0 x ∨ w.heap.size ≤ x) ∧ But F0 w w' := by
  obtain ⟨p, cap, rfl⟩ := h.form
  have HS : Hid (OS w (.slice p l.length cap) l) := h
  have HX : Hid (∀ x, (Value.slice p l.length cap).ownBlock = some x → ¬ F0 x) := hX
  have HW : Hid (walkN 0 (nsO l) = some 1) := hw
  have HV : Hid _ := VS
  have E0 : Hid (EW w w I F0 F0 (.slice none 0 0) l 0) := ⟨I0, OwnG.nil _ _ _, fun x hx => by simp [Value.ownBlock] at hx, But.refl _ _, fun x hx => Or.inl hx⟩
  clear h hX hw VS I0
  go_enter Tryd.func85, Tryd.ntmps85
  go_wp2
  go_loopw [4, 10] (fun v4 v10 wr => ∃ (k : Nat) (vs : Value) (F : Nat → Prop) (wk : World), v10 = .int .i64 k ∧ vs = v4 ∧ wk = wr ∧ k ≤ l.length ∧ Hid (EW w wk I F0 F vs l k)) (fun _ v10 _ => l.length - (intOf v10).toNat)
  case atStart => exact ⟨0, _, F0, _, rfl, rfl, rfl, Nat.zero_le _, E0⟩
  case round =>
    obtain ⟨k, vs, F, wr, rfl, rfl, rfl, hk, HB⟩ := hrel
    clear E0
    by_cases hlt : k < l.length
    · obtain ⟨X, o, e1, x1, x2, x3, x4⟩ := (HS.out.blk HB.out.bt.size (fun x hx hxl => HB.out.bt.block x hxl (HX.out x hx))).atO hlt
      obtain rfl : p = some ⟨X, o, none⟩ := e1
      have hn := stK_n HW.out hlt
      have hle := stK_le l k
      have HP : Hid _ := ptO_stK hlt
      have HN : Hid (stK l (k + 1) = (stK l k).take ((stK l k).length - (opA l k).n.toNat) ++ [(k : Int)]) := rfl
      rw [opA_eq hlt] at HP HN
      obtain ⟨c, hc⟩ : ∃ c, c = l[k] := ⟨_, rfl⟩
      rw [← hc] at x1 x2 x3 x4 HP HN hn
      clear hc
      obtain ⟨S, hS⟩ : ∃ S, S = stK l k := ⟨_, rfl⟩
      obtain ⟨m, hm⟩ : ∃ m : Nat, c.n = m := ⟨c.n.toNat, by omega⟩
      obtain ⟨J, hJ⟩ : ∃ J, J = S.length - m := ⟨_, rfl⟩
      rw [← hS] at HP HN hn hle
      rw [hm] at x2 HP HN hn
      rw [Int.toNat_natCast, ← hJ] at HP HN
      have hJi : (S.length : Int) - (m : Int) = (J : Int) := by omega
      have hJl : J ≤ S.length := by omega
      have HSk : Hid (S = stK l k) := hS
      have HMm : Hid (J = S.length - m) := hJ
      have hmJ : (m : Int) ≤ S.length := hn.2
      have AL : Hid (∀ ob, Below wr.heap.size wr (wr.alloc ob)) := fun ob => (Below.refl _ _).alloc (Nat.le_refl _) ob
      have IA : Hid (∀ ob, EW w (wr.alloc ob) I F0 F vs l k) := fun ob => ⟨V.keep _ _ _ _ HB.out.i (AL.out ob).size (AL.out ob).os (AL.out ob).tape (AL.out ob).output (fun x hx => (AL.out ob).block x (V.lt _ _ _ HB.out.i x hx)), HB.out.s.below (AL.out ob), HB.out.ap, HB.out.bt.trans (But.of_below (F := fun _ => False) (AL.out ob)) (fun x hx => hx.elim), HB.out.fn⟩
      have HJl : Hid (J ≤ S.length) := hJl
      obtain ⟨S0, hS0⟩ : ∃ S0, S0 = S.take J := ⟨_, rfl⟩
      have HS0 : Hid (S.take J = S0) := hS0.symm
      rw [← hS0] at HN
      have LS : Hid ((S0.length + 1) * KI.B ≤ 140737488355328) := by show (S0.length + 1) * 8 ≤ _; rw [hS0]; simp; omega
      clear hS0
      rcases HB.out.s.2 with ⟨hnil, h0⟩ | ⟨g, cs, cur, hvs, _, _, hcp, _⟩
      · rw [← hS] at h0
        have hSn : S = [] := List.length_eq_zero_iff.1 h0
        subst hnil
        have hm0 : m = 0 := by omega
        have hJ0 : J = 0 := by omega
        clear hm hJ hn hJi hJl hle hmJ hS
        subst hm0 hJ0 hSn
        have HS1 : S0 = [] := by rw [← HS0.out]; rfl
        subst HS1
        have CL : Hid (∀ (pv : Value) (w1 : World), IS w1 pv [] → pv.ownBlock = none → EW w w1 I F0 F (.slice none 0 0) l k → Calls Tryd.prog fn (#[.int .i64 k, pv] ++ cp) w1 fun e w' => e = .returned (.tuple #[]) ∧ ∃ F', I (k + 1) F' w' ∧ (∀ x, F' x → F x ∨ w1.heap.size ≤ x) ∧ But F w1 w') := fun pv w1 hp hb he =>
          HV.out k F w1 pv hlt he.i (by rw [HP.out]; exact hp) (fun x hx => by rw [hb] at hx; cases hx) he.fn he.bt
        go_wp2_with fail
        refine Calls.mono (CL.out _ _ (Or.inl ⟨Or.inl rfl, rfl⟩) rfl (IA.out _)) ?_
        rintro e w1 ⟨rfl, F1, i1, f1, b1⟩
        have O1 : Hid (OwnG KI w1 w.heap.size (.slice none 0 0) []) := OwnG.nil _ _ _
        have Z1 : Hid (w.heap.size ≤ w1.heap.size) := Nat.le_trans (Nat.le_trans HB.out.bt.size (AL.out _).size) b1.size
        have I1 : Hid (I (k + 1) F1 w1 ∧ (∀ x, F1 x → F x ∨ _ ≤ x) ∧ But F _ w1) := ⟨i1, f1, b1⟩
        clear i1 f1 b1 CL
        go_wp2_with (at_builtin; refine append_g KI KI_ok rfl (.tmp 28) (.tmp 30) 100 rfl w.heap.size Tryd.underlying100 _ _ _ (.slice none 0 0) [] (k : Int) _ rfl O1.out _ rfl rfl rfl LS.out Z1.out ?_; intro g2 c2 w2 ho2 hb2 hk2 hg2)
        go_roundw
        case rel =>
          refine ⟨k + 1, _, F1, _, by go_num, rfl, rfl, by omega, ?_⟩
          have hl2 : ([] : List Int).length + 1 = (stK l (k + 1)).length := by rw [HN.out]; simp
          rw [← HN.out] at ho2
          rw [hl2] at ho2
          have FN := (IA.out _).next V I1.out.1 I1.out.2.1 I1.out.2.2 ho2 hb2.os hb2.tape hb2.output hb2.size hk2 hg2
          rw [← hl2] at FN
          exact FN
        case measure => simp [intOf]; omega
      · rw [← hS] at hvs hcp
        subst hvs
        clear hS hm hJ hn
        have hJc : J ≤ cs := by omega
        have HCP : Hid (S.length ≤ cs) := hcp
        have OS1 : Hid (∀ ob, OwnG KI (wr.alloc ob) w.heap.size (.slice (some ⟨g, 0, none⟩) S.length cs) S) := fun ob => by have := (IA.out ob).s; rw [← HSk.out] at this; exact this
        have CL : Hid (∀ (pv : Value) (w1 : World), IS w1 pv (S.drop J) → pv.ownBlock = some g → EW w w1 I F0 F (.slice (some ⟨g, 0, none⟩) S.length cs) l k → Calls Tryd.prog fn (#[.int .i64 k, pv] ++ cp) w1 fun e w' => e = .returned (.tuple #[]) ∧ ∃ F', I (k + 1) F' w' ∧ (∀ x, F' x → F x ∨ w1.heap.size ≤ x) ∧ But F w1 w') := fun pv w1 hp hb he =>
          HV.out k F w1 pv hlt he.i (by rw [HP.out]; exact hp) (fun x hx => he.ap x (by rw [← hx, hb]; rfl)) he.fn he.bt
        go_wp2_with fail
        · subst h
          have hSJ : S.length - cs = 0 := by have := HCP.out; omega
          rw [hSJ]
          refine Calls.mono (CL.out _ _ (by rw [List.drop_eq_nil_of_le (by omega)]; exact is_nil _ _ _) rfl (IA.out _)) ?_
          rintro e w1 ⟨rfl, F1, i1, f1, b1⟩
          have O1 : Hid (OwnG KI w1 w.heap.size (.slice (some ⟨g, 0, none⟩) cs cs) S0) := HS0.out ▸ ((OS1.out _).far (fun x hx => b1.block x ((OS1.out _).lt hx).2 (HB.out.ap x hx))).cut KI_ok.len cs HJl.out
          have Z1 : Hid (w.heap.size ≤ w1.heap.size) := Nat.le_trans (Nat.le_trans HB.out.bt.size (AL.out _).size) b1.size
          have I1 : Hid (I (k + 1) F1 w1 ∧ (∀ x, F1 x → F x ∨ _ ≤ x) ∧ But F _ w1) := ⟨i1, f1, b1⟩
          clear i1 f1 b1 CL
          go_wp2_with (at_builtin; refine append_g KI KI_ok rfl (.tmp 28) (.tmp 30) 100 rfl w.heap.size Tryd.underlying100 _ _ _ (.slice (some ⟨g, 0, none⟩) cs cs) S0 (k : Int) _ rfl O1.out _ rfl rfl rfl LS.out Z1.out ?_; intro g2 c2 w2 ho2 hb2 hk2 hg2)
          go_roundw
          case rel =>
            refine ⟨k + 1, _, F1, _, by go_num, rfl, rfl, by omega, ?_⟩
            have hl2 : S0.length + 1 = (stK l (k + 1)).length := by rw [HN.out]; simp
            rw [← HN.out] at ho2
            rw [hl2] at ho2 ⊢
            exact (IA.out _).next V I1.out.1 I1.out.2.1 I1.out.2.2 ho2 hb2.os hb2.tape hb2.output hb2.size hk2 hg2
          case measure => simp [intOf]; omega
        · refine Calls.mono (CL.out _ _ (is_drop (OS1.out _) rfl HJl.out HCP.out) rfl (IA.out _)) ?_
          rintro e w1 ⟨rfl, F1, i1, f1, b1⟩
          have O1 : Hid (OwnG KI w1 w.heap.size (.slice (some ⟨g, 0, none⟩) J cs) S0) := HS0.out ▸ ((OS1.out _).far (fun x hx => b1.block x ((OS1.out _).lt hx).2 (HB.out.ap x hx))).cut KI_ok.len J HJl.out
          have Z1 : Hid (w.heap.size ≤ w1.heap.size) := Nat.le_trans (Nat.le_trans HB.out.bt.size (AL.out _).size) b1.size
          have I1 : Hid (I (k + 1) F1 w1 ∧ (∀ x, F1 x → F x ∨ _ ≤ x) ∧ But F _ w1) := ⟨i1, f1, b1⟩
          clear i1 f1 b1 CL
          go_wp2_with (at_builtin; refine append_g KI KI_ok rfl (.tmp 28) (.tmp 30) 100 rfl w.heap.size Tryd.underlying100 _ _ _ (.slice (some ⟨g, 0, none⟩) J cs) S0 (k : Int) _ rfl O1.out _ rfl rfl rfl LS.out Z1.out ?_; intro g2 c2 w2 ho2 hb2 hk2 hg2)
          go_roundw
          case rel =>
            refine ⟨k + 1, _, F1, _, by go_num, rfl, rfl, by omega, ?_⟩
            have hl2 : S0.length + 1 = (stK l (k + 1)).length := by rw [HN.out]; simp
            rw [← HN.out] at ho2
            rw [hl2] at ho2 ⊢
            exact (IA.out _).next V I1.out.1 I1.out.2.1 I1.out.2.2 ho2 hb2.os hb2.tape hb2.output hb2.size hk2 hg2
          case measure => simp [intOf]; omega
    · have hkl : k = l.length := by omega
      have FN : Hid (∃ F', I l.length F' wr ∧ (∀ x, F' x → F0 x ∨ w.heap.size ≤ x) ∧ But F0 w wr) := ⟨F, hkl ▸ HB.out.i, HB.out.fn, HB.out.bt⟩
      clear hkl
      go_wp2
      go_end0
      exact ⟨rfl, FN.out⟩
end Go.Proofs.YtffabehipcomfaaDoor
