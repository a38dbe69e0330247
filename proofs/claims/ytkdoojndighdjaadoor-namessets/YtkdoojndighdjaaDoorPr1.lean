/- Names: clones, Parts. -/
import Derived.Test.YtkdoojndighdjaaDoorPt2
namespace Go.Proofs.YtkdoojndighdjaaDoor
open Go.RowKit

set_option maxHeartbeats 4000000 in
theorem cloneI_any (w : World) (v : Value) (l : List Int) (h : IS w v l) (_hl : l.length ≤ 1000000) :
    Calls Tryd.prog 66 #[v] w fun e w' => ∃ p cap, e = .returned (.slice p l.length cap) ∧ OwnG KI w' w.heap.size (.slice p l.length cap) l ∧ Below w.heap.size w w' := by
  have hl := _hl
  have h0 := h
  have EQ : ∀ a l c w, Sem.run Tryd.prog (binOp .eql 49 (.slice a l c) (.slice none 0 0)) w = .ok (.bool a.isNone) w := fun a l c w => by
    simp only [binOp]
    simp [run_equal_slice_nil w 49 _ a l c Tryd.underlying49]
  have H0 : Hid (IS (w.alloc (.cells #[] 3)) v l) := h0.below ((Below.refl _ _).alloc (Nat.le_refl _) _)
  have E0 : Hid (OwnG KI (w.alloc (.cells #[] 3)) w.heap.size (.slice (some ⟨w.heap.size, 0, none⟩) 0 0) []) := OwnG.empty KI w
  have HL : Hid ((([] : List Int).length + l.length) * KI.B ≤ 140737488355328) := by show (([] : List Int).length + l.length) * 8 ≤ _; simp; omega
  obtain ⟨p, cap, rfl⟩ := h.form
  cases p with
  | none =>
    have hn : l = [] := by
      rcases h with ⟨_, e⟩ | ⟨X, o, c, e, _⟩
      · exact e
      · cases e
    subst hn
    clear h h0
    go_enter Tryd.func66, Tryd.ntmps66
    go_wp2
    go_ret
    exact ⟨none, 0, rfl, OwnG.nil _ _ _, Below.refl _ _⟩
  | some a =>
    clear h h0
    go_enter Tryd.func66, Tryd.ntmps66
    go_wp2_with (at_builtin; refine append_gs KI KI_ok rfl (.tmp 5) (.tmp 6) 49 rfl w.heap.size Tryd.underlying49 _ _ (.slice (some a) l.length cap) [] l rfl rfl E0.out H0.out HL.out (by simp) ?_; intro v8 w8 ho8 hb8 hk8)
    go_ret
    rw [List.nil_append] at ho8
    obtain ⟨p, cap2, rfl, _⟩ := ho8.form
    exact ⟨p, cap2, rfl, ho8, ((Below.refl _ _).alloc (Nat.le_refl _) _).trans hb8⟩
set_option maxHeartbeats 4000000 in
theorem cloneO_any (w : World) (v : Value) (l : List Opn) (h : OS w v l) (_hl : l.length ≤ 1000000) :
    Calls Tryd.prog 68 #[v] w fun e w' => ∃ p cap, e = .returned (.slice p l.length cap) ∧ OwnG KO w' w.heap.size (.slice p l.length cap) l ∧ Below w.heap.size w w' := by
  have hl := _hl
  have h0 := h
  have EQ : ∀ a l c w, Sem.run Tryd.prog (binOp .eql 23 (.slice a l c) (.slice none 0 0)) w = .ok (.bool a.isNone) w := fun a l c w => by
    simp only [binOp]
    simp [run_equal_slice_nil w 23 _ a l c Tryd.underlying23]
  have H0 : Hid (OS (w.alloc (.cells #[] 56)) v l) := h0.below ((Below.refl _ _).alloc (Nat.le_refl _) _)
  have E0 : Hid (OwnG KO (w.alloc (.cells #[] 56)) w.heap.size (.slice (some ⟨w.heap.size, 0, none⟩) 0 0) []) := OwnG.empty KO w
  have HL : Hid ((([] : List Opn).length + l.length) * KO.B ≤ 140737488355328) := by show (([] : List Opn).length + l.length) * 40 ≤ _; simp; omega
  obtain ⟨p, cap, rfl⟩ := h.form
  cases p with
  | none =>
    have hn : l = [] := by
      rcases h with ⟨_, e⟩ | ⟨X, o, c, e, _⟩
      · exact e
      · cases e
    subst hn
    clear h h0
    go_enter Tryd.func68, Tryd.ntmps68
    go_wp2
    go_ret
    exact ⟨none, 0, rfl, OwnG.nil _ _ _, Below.refl _ _⟩
  | some a =>
    clear h h0
    go_enter Tryd.func68, Tryd.ntmps68
    go_wp2_with (at_builtin; refine append_gs KO KO_ok rfl (.tmp 5) (.tmp 6) 23 rfl w.heap.size Tryd.underlying23 _ _ (.slice (some a) l.length cap) [] l rfl rfl E0.out H0.out HL.out (by simp) ?_; intro v8 w8 ho8 hb8 hk8)
    go_ret
    rw [List.nil_append] at ho8
    obtain ⟨p, cap2, rfl, _⟩ := ho8.form
    exact ⟨p, cap2, rfl, ho8, ((Below.refl _ _).alloc (Nat.le_refl _) _).trans hb8⟩
set_option maxHeartbeats 4000000 in
theorem sameInts_same (w : World) (v1 v2 : Value) (l : List Int) (h1 : IS w v1 l) (h2 : IS w v2 l) (hl : l.length ≤ 100000000000000000) :
    Calls Tryd.prog 26 #[v1, v2] w fun e w' => e = .returned (.bool true) ∧ Below w.heap.size w w' := by
  obtain ⟨p1, c1, rfl⟩ := h1.form
  obtain ⟨p2, c2, rfl⟩ := h2.form
  have A1 : Hid (IS w (.slice p1 l.length c1) l) := h1
  have A2 : Hid (IS w (.slice p2 l.length c2) l) := h2
  have DR : Hid (∀ n, Below w.heap.size w (w.drewN n)) := fun n => ⟨rfl, rfl, rfl, Nat.le_refl _, fun _ _ => rfl⟩
  clear h1 h2
  go_enter Tryd.func26, Tryd.ntmps26
  go_wp2
  go_loopw [5] (fun v5 wr => ∃ (k m : Nat), v5 = .int .i64 k ∧ k ≤ l.length ∧ wr = w.drewN m) (fun v5 _ => l.length - (intOf v5).toNat)
  case atStart => exact ⟨0, 0, rfl, Nat.zero_le _, rfl⟩
  case round =>
    obtain ⟨k, m, rfl, hk, rfl⟩ := hrel
    by_cases hlt : k < l.length
    · obtain ⟨X1, o1, e1, x1⟩ := A1.out.atI hlt
      obtain rfl : p1 = some ⟨X1, o1, none⟩ := e1
      obtain ⟨X2, o2, e2, y1⟩ := A2.out.atI hlt
      obtain rfl : p2 = some ⟨X2, o2, none⟩ := e2
      obtain ⟨f, hf⟩ : ∃ f, f = l[k] := ⟨_, rfl⟩
      rw [← hf] at x1 y1
      clear hf
      go_wp2
      go_quiet (fail)
      go_wp2
      all_goals
        go_roundw
        case rel => exact ⟨k + 1, _, by go_num, by omega, rfl⟩
        case measure => simp [intOf]; omega
    · go_wp2
      go_ret
      exact ⟨rfl, DR.out _⟩
/-- A box with a row of numbers, by how many were visited. -/
def UG (f : Nat → List Int) (b : Nat) (base : Nat) (k : Nat) (F : Nat → Prop) (w : World) : Prop := ∃ v, w.heap[b]? = some (.cells #[v] 49) ∧ OwnG KI w base v (f k) ∧ b < base ∧ ∀ x, F x ↔ x = b ∨ v.ownBlock = some x
theorem UG_vis (f : Nat → List Int) (b base : Nat) : Vis (UG f b base) where
  lt := fun k F w h x hx => by
    obtain ⟨v, h1, h2, h3, h4⟩ := h
    rcases (h4 x).1 hx with e | e
    · subst e; exact (Array.getElem?_eq_some_iff.1 h1).1
    · exact (h2.lt e).2
  keep := fun k F w w' h hs _ _ _ hk => by
    obtain ⟨v, h1, h2, h3, h4⟩ := h
    have hb : w'.heap[b]? = w.heap[b]? := hk b ((h4 b).2 (Or.inl rfl))
    exact ⟨v, hb.trans h1, h2.far (fun g hg => hk g ((h4 g).2 (Or.inr hg))), h3, h4⟩
theorem UG.store {f : Nat → List Int} {b base k : Nat} {F : Nat → Prop} {w w2 : World} {v v' : Value} (h1 : w.heap[b]? = some (.cells #[v] 49)) (h4 : ∀ x, F x ↔ x = b ∨ v.ownBlock = some x) (h3 : b < base) (B : But F w w2) (hb : w2.heap[b]? = w.heap[b]?) (o2 : OwnG KI w2 base v' (f (k + 1))) (hn : ∀ g, v'.ownBlock = some g → F g ∨ w.heap.size ≤ g) :
    ∃ F', UG f b base (k + 1) F' (w2.setCell ⟨b, 0, none⟩ v') ∧ (∀ x, F' x → F x ∨ w.heap.size ≤ x) ∧ But F w (w2.setCell ⟨b, 0, none⟩ v') := by
  refine ⟨fun x => x = b ∨ v'.ownBlock = some x, ⟨v', box_set (hb.trans h1), o2.far (fun g hg => set_far (by have := (o2.lt hg).1; omega)), h3, fun x => Iff.rfl⟩, fun x hx => ?_, ⟨B.os, B.tape, B.output, by rw [set_size]; exact B.size, fun x hx hf => (set_far (fun e => hf ((h4 x).2 (Or.inl e)))).trans (B.block x hx hf)⟩⟩
  rcases hx with e | e
  · exact Or.inl ((h4 x).2 (Or.inl e))
  · exact hn x e
/-- What Parts has found behind k visits. -/
def fndP (l : List Opn) (at' : Nat) (k : Nat) : List Int := if at' < k then ptO l at' else []
theorem ptO_le {l : List Opn} {k : Nat} (hk : k < l.length) : (ptO l k).length ≤ k := by
  rw [ptO_stK hk, List.length_drop]
  have := stK_le l k
  omega
set_option maxHeartbeats 8000000 in
theorem partsV_any (l : List Opn) (at' k bf ba base : Nat) (F : Nat → Prop) (vp : Value) (w : World) (hk : k < l.length) (hlm : l.length ≤ 256)
    (U : UG (fndP l at') bf base k F w) (hbase : base ≤ w.heap.size) (ca : w.cell? ⟨ba, 0, none⟩ = some (.int .i64 at')) (hP : IS w vp (ptO l k)) :
    Calls Tryd.prog 65 (#[.int .i64 k, vp] ++ #[.pointer (some ⟨ba, 0, none⟩), .pointer (some ⟨bf, 0, none⟩)]) w fun e w' => e = .returned (.tuple #[]) ∧ ∃ F', UG (fndP l at') bf base (k + 1) F' w' ∧ (∀ x, F' x → F x ∨ w.heap.size ≤ x) ∧ But F w w' := by
  have U0 : Hid (UG (fndP l at') bf base k F w) := U
  obtain ⟨vu, h1, h2, h3, h4⟩ := U
  have hpl := ptO_le hk
  have CL : Hid _ := cloneI_any w vp (ptO l k) hP (by omega)
  obtain ⟨p1, c1, rfl⟩ := hP.form
  have H1 : Hid (w.heap[bf]? = some (.cells #[vu] 49)) := h1
  have H4 : Hid (∀ x, F x ↔ x = bf ∨ vu.ownBlock = some x) := h4
  have ZB : Hid (bf < w.heap.size) := (Array.getElem?_eq_some_iff.1 h1).1
  by_cases hka : k = at'
  · have HF : Hid (fndP l at' (k + 1) = ptO l k) := by show _ = _; unfold fndP; rw [if_pos (by omega), hka]
    have hkb : ((k : Int) == (at' : Int)) = true := by rw [hka]; simp
    have FZ : Hid (∀ w2 : World, w2.heap[bf]? = w.heap[bf]? → w2.frozen? ⟨bf, 0, none⟩ = false ∧ w2.cell? ⟨bf, 0, none⟩ = some vu) := fun w2 h => ⟨box_frozen (h.trans H1.out), box_cell (h.trans H1.out)⟩
    clear h1 h2 hP hka
    go_enter Tryd.func65, Tryd.ntmps65
    go_wp2_with fail
    refine Calls.mono CL.out ?_
    rintro e w2 ⟨p3, c3, rfl, ho2, hb2⟩
    have hbu : w2.heap[bf]? = w.heap[bf]? := hb2.block bf ZB.out
    obtain ⟨fz, cz⟩ := FZ.out _ hbu
    have B2 : Hid (Below w.heap.size w w2) := hb2
    have O2 : Hid (OwnG KI w2 w.heap.size _ (ptO l k)) := ho2
    have HBU : Hid _ := hbu
    clear hbu ho2 hb2 CL
    go_wp2_with fail
    go_end0
    exact ⟨rfl, UG.store H1.out H4.out h3 (w2 := w2) (But.of_below B2.out) HBU.out (HF.out ▸ O2.out.low hbase) (fun g hg => Or.inr (O2.out.lt hg).1)⟩
  · have HF : Hid (fndP l at' (k + 1) = fndP l at' k) := by
      show _ = _
      unfold fndP
      by_cases h : at' < k
      · rw [if_pos h, if_pos (by omega)]
      · rw [if_neg h, if_neg (by omega)]
    have hkb : ((k : Int) == (at' : Int)) = false := by rw [beq_eq_false_iff_ne]; omega
    clear h1 h2 hP CL
    go_enter Tryd.func65, Tryd.ntmps65
    go_wp2_with fail
    go_end0
    obtain ⟨u, a, b, c, d⟩ := U0.out
    exact ⟨rfl, F, ⟨u, a, HF.out ▸ b, c, d⟩, fun x hx => Or.inl hx, But.refl _ _⟩
/-- What Parts answers. -/
def partsE (l : List Opn) (a : Int) : Int := if chkO l = 0 then (if 0 ≤ a ∧ a < l.length then 0 else 1) else chkO l
def partsL (l : List Opn) (a : Int) : List Int := if partsE l a = 0 then ptO l a.toNat else []
end Go.Proofs.YtkdoojndighdjaaDoor
