/- Tokens: Clone. -/
import Derived.Test.YtkebflllbphkkaaDoorTa7
import Derived.Shelf.SlMaps.Clone
import Derived.Deep.RegionHeld3
namespace Go.Proofs.YtkebflllbphkkaaDoor
open Go.RowKit

/-- A copy of one's own. -/
def ClR {α : Type} (K : RK α) (w w' : World) (e : Ending) (l : List α) : Prop := ∃ v, e = .returned v ∧ OwnG K w' w.heap.size v l ∧ Below w.heap.size w w'
set_option maxHeartbeats 4000000 in
set_option maxRecDepth 100000 in
theorem cloneP_any (w : World) (v : Value) (l : List Nat) (h : OwnG KP w 0 v l) (hl : l.length ≤ 100000) :
    Calls Tryd.prog 39 #[v] w fun e w' => ClR KP w w' e l := by
  have EQ : ∀ a l c w, Sem.run Tryd.prog (binOp .eql 51 (.slice a l c) (.slice none 0 0)) w = .ok (.bool a.isNone) w := fun a l c w => by
    simp only [binOp]
    simp [run_equal_slice_nil w 51 _ a l c Tryd.underlying51]
  have hl2 : (0 + l.length) * 8 ≤ 140737488355328 := by omega
  have AL : Hid (∀ ob, Below w.heap.size w (w.alloc ob)) := fun ob => (Below.refl _ _).alloc (Nat.le_refl _) ob
  rcases h.2 with ⟨e0, e1⟩ | ⟨g, cap, cur, e0, _⟩
  · subst e0
    have e2 : l = [] := List.length_eq_zero_iff.1 e1
    have FIN : Hid (ClR KP w w (.returned (.slice none 0 0)) l) := by rw [e2]; exact ⟨_, rfl, OwnG.nil _ _ _, Below.refl _ _⟩
    clear h
    go_enter Tryd.func39, Tryd.ntmps39
    go_wp2
    go_ret
    exact FIN.out
  · subst e0
    have OE : Hid (OwnG KP (w.alloc (.cells #[] 3)) w.heap.size (.slice (some ⟨w.heap.size, 0, none⟩) 0 0) []) := OwnG.empty KP w
    have GA : Hid (GS KP (w.alloc (.cells #[] 3)) (.slice (some ⟨g, 0, none⟩) l.length cap) l) := (h.below (AL.out _)).gs KP_ok.len
    have HLN : Hid ((([] : List Nat).length + l.length) * KP.B ≤ 140737488355328) := hl2
    have ZB : Hid (w.heap.size ≤ (w.alloc (.cells #[] 3)).heap.size) := by show _ ≤ _; simp
    clear h
    go_enter Tryd.func39, Tryd.ntmps39
    go_wp2_with (at_builtin; refine append_gs KP KP_ok rfl (.tmp 5) (.tmp 6) 51 rfl w.heap.size Tryd.underlying51 _ _ _ [] l rfl rfl OE.out GA.out HLN.out ZB.out ?_; intro v5 w5 ho5 hb5 hk5; have O5 := hid ho5; have B5 := hid hb5; clear ho5 hb5 hk5)
    go_ret
    exact ⟨_, rfl, O5.out, (AL.out _).trans B5.out⟩
set_option maxHeartbeats 4000000 in
set_option maxRecDepth 100000 in
theorem cloneN_any (w : World) (v : Value) (l : List NM) (h : OwnG KN w 0 v l) (hl : l.length ≤ 100000) :
    Calls Tryd.prog 36 #[v] w fun e w' => ClR KN w w' e l := by
  have EQ : ∀ a l c w, Sem.run Tryd.prog (binOp .eql 59 (.slice a l c) (.slice none 0 0)) w = .ok (.bool a.isNone) w := fun a l c w => by
    simp only [binOp]
    simp [run_equal_slice_nil w 59 _ a l c Tryd.underlying59]
  have hl2 : (0 + l.length) * 96 ≤ 140737488355328 := by omega
  have AL : Hid (∀ ob, Below w.heap.size w (w.alloc ob)) := fun ob => (Below.refl _ _).alloc (Nat.le_refl _) ob
  rcases h.2 with ⟨e0, e1⟩ | ⟨g, cap, cur, e0, _⟩
  · subst e0
    have e2 : l = [] := List.length_eq_zero_iff.1 e1
    have FIN : Hid (ClR KN w w (.returned (.slice none 0 0)) l) := by rw [e2]; exact ⟨_, rfl, OwnG.nil _ _ _, Below.refl _ _⟩
    clear h
    go_enter Tryd.func36, Tryd.ntmps36
    go_wp2
    go_ret
    exact FIN.out
  · subst e0
    have OE : Hid (OwnG KN (w.alloc (.cells #[] 71)) w.heap.size (.slice (some ⟨w.heap.size, 0, none⟩) 0 0) []) := OwnG.empty KN w
    have GA : Hid (GS KN (w.alloc (.cells #[] 71)) (.slice (some ⟨g, 0, none⟩) l.length cap) l) := (h.below (AL.out _)).gs KN_ok.len
    have HLN : Hid ((([] : List NM).length + l.length) * KN.B ≤ 140737488355328) := hl2
    have ZB : Hid (w.heap.size ≤ (w.alloc (.cells #[] 71)).heap.size) := by show _ ≤ _; simp
    clear h
    go_enter Tryd.func36, Tryd.ntmps36
    go_wp2_with (at_builtin; refine append_gs KN KN_ok rfl (.tmp 5) (.tmp 6) 59 rfl w.heap.size Tryd.underlying59 _ _ _ [] l rfl rfl OE.out GA.out HLN.out ZB.out ?_; intro v5 w5 ho5 hb5 hk5; have O5 := hid ho5; have B5 := hid hb5; clear ho5 hb5 hk5)
    go_ret
    exact ⟨_, rfl, O5.out, (AL.out _).trans B5.out⟩
set_option maxHeartbeats 4000000 in
set_option maxRecDepth 100000 in
theorem cloneC_any (w : World) (v : Value) (l : List Cr) (h : OwnG KC w 0 v l) (hl : l.length ≤ 100000) :
    Calls Tryd.prog 27 #[v] w fun e w' => ClR KC w w' e l := by
  have EQ : ∀ a l c w, Sem.run Tryd.prog (binOp .eql 30 (.slice a l c) (.slice none 0 0)) w = .ok (.bool a.isNone) w := fun a l c w => by
    simp only [binOp]
    simp [run_equal_slice_nil w 30 _ a l c Tryd.underlying30]
  have hl2 : (0 + l.length) * 32 ≤ 140737488355328 := by omega
  have AL : Hid (∀ ob, Below w.heap.size w (w.alloc ob)) := fun ob => (Below.refl _ _).alloc (Nat.le_refl _) ob
  rcases h.2 with ⟨e0, e1⟩ | ⟨g, cap, cur, e0, _⟩
  · subst e0
    have e2 : l = [] := List.length_eq_zero_iff.1 e1
    have FIN : Hid (ClR KC w w (.returned (.slice none 0 0)) l) := by rw [e2]; exact ⟨_, rfl, OwnG.nil _ _ _, Below.refl _ _⟩
    clear h
    go_enter Tryd.func27, Tryd.ntmps27
    go_wp2
    go_ret
    exact FIN.out
  · subst e0
    have OE : Hid (OwnG KC (w.alloc (.cells #[] 56)) w.heap.size (.slice (some ⟨w.heap.size, 0, none⟩) 0 0) []) := OwnG.empty KC w
    have GA : Hid (GS KC (w.alloc (.cells #[] 56)) (.slice (some ⟨g, 0, none⟩) l.length cap) l) := (h.below (AL.out _)).gs KC_ok.len
    have HLN : Hid ((([] : List Cr).length + l.length) * KC.B ≤ 140737488355328) := hl2
    have ZB : Hid (w.heap.size ≤ (w.alloc (.cells #[] 56)).heap.size) := by show _ ≤ _; simp
    clear h
    go_enter Tryd.func27, Tryd.ntmps27
    go_wp2_with (at_builtin; refine append_gs KC KC_ok rfl (.tmp 5) (.tmp 6) 30 rfl w.heap.size Tryd.underlying30 _ _ _ [] l rfl rfl OE.out GA.out HLN.out ZB.out ?_; intro v5 w5 ho5 hb5 hk5; have O5 := hid ho5; have B5 := hid hb5; clear ho5 hb5 hk5)
    go_ret
    exact ⟨_, rfl, O5.out, (AL.out _).trans B5.out⟩
set_option maxHeartbeats 4000000 in
set_option maxRecDepth 100000 in
theorem cloneQ_any (w : World) :
    Calls Tryd.prog 56 #[.slice none 0 0] w fun e w' => e = .returned (.slice none 0 0) ∧ w' = w := by
  have EQ : ∀ a l c w, Sem.run Tryd.prog (binOp .eql 97 (.slice a l c) (.slice none 0 0)) w = .ok (.bool a.isNone) w := fun a l c w => by
    simp only [binOp]
    simp [run_equal_slice_nil w 97 _ a l c Tryd.underlying97]
  go_enter Tryd.func56, Tryd.ntmps56
  go_wp2
  go_ret
  exact ⟨rfl, rfl⟩
set_option maxHeartbeats 4000000 in
set_option maxRecDepth 100000 in
theorem cnew_any (w : World) :
    Calls Tryd.prog 43 #[] w fun e w' => e = .returned (.pointer (some ⟨w.heap.size, 0, none⟩)) ∧ w' = w.alloc (.cells #[.int .i64 0, .int .i64 0, .slice none 0 0] 99) := by
  go_enter Tryd.func43, Tryd.ntmps43
  go_wp2
  go_ret
  exact ⟨rfl, rfl⟩
def T0 : Tr := ⟨0, [], []⟩
theorem T0_no {p : Nat} (h : p < T0.ns.length) : False := by simp [T0] at h
theorem T0_nd {p : Nat} (h : p ∈ T0.od) : False := by simp [T0] at h
theorem T0_inv : Inv T0 := ⟨by decide, by decide, fun _ h => (T0_nd h).elim, fun _ _ h => (T0_no h).elim, fun _ h => (T0_no h).elim, fun _ h => (T0_nd h).elim, fun _ h => (T0_nd h).elim, fun _ _ h => (T0_no h).elim, fun _ _ _ h => (T0_no h).elim, fun _ _ h => (T0_no h).elim, by decide, fun _ h => (T0_no h).elim, fun _ h => (T0_no h).elim, fun _ _ h => (T0_no h).elim⟩
set_option maxHeartbeats 4000000 in
set_option maxRecDepth 100000 in
theorem new_any (w : World) (base : Nat) (hB : base ≤ w.heap.size) (hf : FB w base) :
    Calls Tryd.prog 23 #[] w fun e w' => ∃ b F, e = .returned (.pointer (some ⟨b, 0, none⟩)) ∧ TV w' base b F T0 ∧ (∀ x, F x → w.heap.size ≤ x) ∧ Below w.heap.size w w' := by
  have CN := hid (cnew_any w)
  have FIN : Hid (∀ W, W = (((w.alloc (.cells #[.int .i64 0, .int .i64 0, .slice none 0 0] 99)).alloc (.map #[] 0)).alloc (.cells #[.pointer (some ⟨w.heap.size, 0, none⟩), .slice none 0 0, .map (some (w.heap.size + 1)), .slice none 0 0] 62)) → ∃ b F, Ending.returned (.pointer (some ⟨w.heap.size + 1 + 1, 0, none⟩)) = .returned (.pointer (some ⟨b, 0, none⟩)) ∧ TV W base b F T0 ∧ (∀ x, F x → w.heap.size ≤ x) ∧ Below w.heap.size w W) := fun W hW => by
    have e1 : (w.alloc (.cells #[.int .i64 0, .int .i64 0, .slice none 0 0] 99)).heap.size = w.heap.size + 1 := by simp
    have e2 : ((w.alloc (.cells #[.int .i64 0, .int .i64 0, .slice none 0 0] 99)).alloc (.map #[] 0)).heap.size = w.heap.size + 1 + 1 := by simp
    have bl : Below w.heap.size w W := by rw [hW]; exact (((Below.refl _ _).alloc (Nat.le_refl _) _).alloc (by simp) _).alloc (by simp; omega) _
    have t : TX W (w.heap.size + 1 + 1) w.heap.size (w.heap.size + 1) (.slice none 0 0) (.slice none 0 0) [] T0 := by
      refine ⟨?_, ?_, OwnG.nil _ _ _, OwnG.nil _ _ _, ?_, rfl, fun p hp => by simp [T0] at hp, by decide, by decide, fun p _ hp => by simp [T0] at hp⟩
      · rw [hW, ← e2]; exact heap_alloc_new _ _
      · rw [hW, Below.heap_alloc _ _ _ (by rw [e2]; omega), Below.heap_alloc _ _ _ (by rw [e1]; omega)]; exact heap_alloc_new _ _
      · have m := MV.made (w.alloc (.cells #[.int .i64 0, .int .i64 0, .slice none 0 0] 99))
        rw [e1] at m
        have m2 := m.far (w' := W) (by rw [hW]; exact Below.heap_alloc _ _ _ (by rw [e2]; omega))
        exact m2.congr (fun s => rfl)
    have ge : ∀ x, fp (w.heap.size + 1 + 1) w.heap.size (w.heap.size + 1) (.slice none 0 0) (.slice none 0 0) x → w.heap.size ≤ x := by
      rintro x (q | q | q | q | q)
      · omega
      · omega
      · omega
      · cases q
      · cases q
    exact ⟨_, _, rfl, ⟨⟨_, _, _, _, _, t, rfl⟩, fun x hx => Nat.le_trans hB (ge x hx), Nat.le_trans hB bl.size, hf.below (bl.mono hB), T0_inv⟩, ge, bl⟩
  have hmm := @run_makeMap Tryd.prog
  clear hf
  go_enter Tryd.func23, Tryd.ntmps23
  go_wp2_with (go_at_call 43; refine CN.out.mono ?_; rintro e w1 ⟨rfl, hw1⟩; subst w1)
  go_ret
  exact FIN.out _ rfl
/-- What Fail answers. -/
def FaiR (w : World) (T : Tr) (s : ByteArray) (w' : World) (e : Ending) : Prop :=
  ∃ v err, e = .returned (.tuple #[v, .int .i64 err]) ∧ Below w.heap.size w w' ∧ ((∃ p, plO T.nms s = some p ∧ p ∈ T.od ∧ err = 0 ∧ OwnC w' w.heap.size v (T.n (T.n p).bw).why) ∨ ((plO T.nms s = none ∨ ∃ p, plO T.nms s = some p ∧ p ∉ T.od) ∧ err ≠ 0 ∧ OwnC w' w.heap.size v []))
set_option maxHeartbeats 8000000 in
set_option maxRecDepth 100000 in
theorem fail_any (w : World) (base b : Nat) (F : Nat → Prop) (T : Tr) (h : TV w base b F T) (s : ByteArray) (hs : s.size ≤ maxLen) :
    Calls Tryd.prog 10 #[.pointer (some ⟨b, 0, none⟩), .string s] w fun e w' => FaiR w T s w' e := by
  obtain ⟨cb, mb, nv, ov, L, t, e⟩ := h.ex
  obtain ⟨c0, c1, c2, c3⟩ := t.cells
  have FD := find_any w b cb mb nv ov L T t s hs
  cases hp : plO T.nms s with
  | none =>
    have BAD : Hid (FaiR w T s w (.returned (.tuple #[.slice none 0 0, .int .i64 4]))) := ⟨_, 4, rfl, Below.refl _ _, Or.inr ⟨Or.inl hp, by decide, World.ownsRow_nil _ _ _ _⟩⟩
    rw [hp] at FD
    have FD2 : Hid (Calls Tryd.prog 25 #[.pointer (some ⟨b, 0, none⟩), .string s] w fun e w' => e = .returned (.tuple #[.int .i64 0, .int .i64 4]) ∧ w' = w) := FD
    clear FD hp h t c0 c1 c2 c3 e
    go_enter Tryd.func10, Tryd.ntmps10
    go_wp2_with (go_at_call 25; refine FD2.out.mono ?_; rintro e w2 ⟨rfl, hw2⟩; subst w2)
    go_ret2
    exact BAD.out
  | some p =>
    rw [hp] at FD
    have FD2 : Hid (Calls Tryd.prog 25 #[.pointer (some ⟨b, 0, none⟩), .string s] w fun e w' => e = .returned (.tuple #[.int .i64 (p : Nat), .int .i64 0]) ∧ w' = w) := FD
    obtain ⟨hpl, hnm⟩ := plO_some hp
    have DN := isDone_any w b cb mb nv ov L T t p hpl
    by_cases hd : p ∈ T.od
    · rw [decide_eq_true hd] at DN
      have DN2 := hid DN
      have hbd := h.inv.bw p hd
      have hbl := h.inv.lt _ hbd
      obtain ⟨X, cap, hnv, hcap, hX, fz, n0, n1, n5, n6, n7, wp, wc, n8, ow⟩ := t.nd hpl
      obtain ⟨X', cap', hnv', hcap', hX', fz', m0, m1, m5, m6, m7, wp', wc', m8, ow'⟩ := t.nd hbl
      have hX2 : X' = X := by
        rw [hnv] at hnv'
        injection hnv' with e _ _
        injection e with e
        injection e with e _ _
        exact e.symm
      subst hX2
      rw [hnv] at c1
      have hnl := t.nl
      have CL : Hid (∀ n, Calls Tryd.prog 27 #[.slice wp' (T.n (T.n p).bw).why.length wc'] (w.drewN n) fun e w' => ∃ v, e = .returned v ∧ FaiR w T s w' (.returned (.tuple #[v, .int .i64 0]))) := fun n => by
        have bn : Below w.heap.size w (w.drewN n) := ⟨rfl, rfl, rfl, Nat.le_refl _, fun _ _ => rfl⟩
        refine (cloneC_any (w.drewN n) _ _ (ow'.below bn).g (by have := h.inv.wl _ hbl; omega)).mono ?_
        rintro e w' ⟨v, rfl, ho, hb⟩
        exact ⟨v, rfl, v, 0, rfl, bn.trans hb, Or.inl ⟨p, hp, hd, rfl, ownC_g ho⟩⟩
      clear FD hp h t DN n0 n1 n5 n6 n8 ow m0 m1 m5 m6 m7 ow' fz fz' hnv hnv' c0 c2 c3 e hd hbd hnm
      generalize (T.n (T.n p).bw).why.length = wl at *
      generalize (T.n p).bw = q at *
      generalize T.ns.length = N at *
      go_enter Tryd.func10, Tryd.ntmps10
      go_upto_region 6 with (first | (go_at_call 25; refine FD2.out.mono ?_; rintro e w2 ⟨rfl, hw2⟩; subst w2) | (go_at_call 26; refine DN2.out.mono ?_; rintro e w2 ⟨rfl, hw2⟩; subst w2))
      go_region_with (go_at_call 27; refine (CL.out 1).mono ?_; rintro e w3 ⟨v3, rfl, hq⟩; have HQ := hid hq; clear hq)
      all_goals
        go_wp2_with fail
        go_ret2
        exact HQ.out
    · have BAD : Hid (FaiR w T s w (.returned (.tuple #[.slice none 0 0, .int .i64 7]))) := ⟨_, 7, rfl, Below.refl _ _, Or.inr ⟨Or.inr ⟨p, hp, hd⟩, by decide, World.ownsRow_nil _ _ _ _⟩⟩
      rw [decide_eq_false hd] at DN
      have DN2 := hid DN
      clear FD hp h t c0 c1 c2 c3 e DN hd hnm
      go_enter Tryd.func10, Tryd.ntmps10
      go_wp2_with (first | (go_at_call 25; refine FD2.out.mono ?_; rintro e w2 ⟨rfl, hw2⟩; subst w2) | (go_at_call 26; refine DN2.out.mono ?_; rintro e w2 ⟨rfl, hw2⟩; subst w2))
      go_ret2
      exact BAD.out
end Go.Proofs.YtkebflllbphkkaaDoor
namespace Go.Proofs.YtkebflllbphkkaaDoor
open Go.RowKit Go.Maps

set_option maxHeartbeats 4000000 in
set_option maxRecDepth 100000 in
theorem mclone_any (w : World) (b n : Nat) (f : ByteArray → Option Value) (h : MV w b n f) :
    Calls Tryd.prog 38 #[.map (some b)] w fun e w' => e = .returned (.map (some w.heap.size)) ∧ MV w' w.heap.size n f ∧ Below w.heap.size w w' := by
  obtain ⟨D, ⟨es, cl, h1, h2⟩, h3⟩ := h
  have hq := fun w => run_eql_map_nil_sl (P := Tryd.prog) w 60 _ _ (some b) Tryd.underlying60
  obtain ⟨fn, hfn⟩ : ∃ fn, Tryd.prog.funcs[57]? = some fn := ⟨_, rfl⟩
  have FN : Hid (MV (w.alloc (.map es cl)) w.heap.size n f ∧ Below w.heap.size w (w.alloc (.map es cl))) := ⟨⟨D, ⟨es, cl, (MapKept.heap_alloc w _).1, h2⟩, h3⟩, (Below.refl _ _).alloc (Nat.le_refl _) _⟩
  have EX : Sem.run Tryd.prog (callFunc 57 #[.iface 60 (.map (some b))]) w = .ok (.value (.iface 60 (.map (some w.heap.size)))) (w.alloc (.map es cl)) := by
    rw [run_callFunc_extern (f := 57) (fn := _) (e := Extern.MapsClone.clone) rfl (by kernel_rfl) (by kernel_rfl) (by kernel_rfl) (by kernel_rfl), run_maps_clone_sl w 60 h1]
    rfl
  clear h2 h3 hfn
  go_enter Tryd.func38, Tryd.ntmps38
  go_wp2
  rw [run_typeAssert_map_sl _ 60 _ _ _ _ Tryd.underlying60]
  simp only [Result.andThen]
  rw [Oper.upon_value]
  go_wp2
  go_ret
  exact ⟨rfl, FN.out⟩
/-- A copy of a clock. -/
def CCl (w : World) (now : Int) (w' : World) (e : Ending) : Prop := ∃ B, e = .returned (.pointer (some ⟨B, 0, none⟩)) ∧ w.heap.size ≤ B ∧ w'.heap[B]? = some (.cells #[.int .i64 now, .int .i64 0, .slice none 0 0] 99) ∧ Below w.heap.size w w'
set_option maxHeartbeats 8000000 in
set_option maxRecDepth 100000 in
theorem cclone_any (w : World) (cb : Nat) (now : Int) (h : w.heap[cb]? = some (.cells #[.int .i64 now, .int .i64 0, .slice none 0 0] 99)) :
    Calls Tryd.prog 37 #[.pointer (some ⟨cb, 0, none⟩)] w fun e w' => CCl w now w' e := by
  have c0 : w.cell? ⟨cb, 0, none⟩ = some (.int .i64 now) := by rw [cell_of_row _ _ _ _ _ _ h]; rfl
  have c1 : w.cell? ⟨cb, 1, none⟩ = some (.int .i64 0) := by rw [cell_of_row _ _ _ _ _ _ h]; rfl
  have c2 : w.cell? ⟨cb, 2, none⟩ = some (.slice none 0 0) := by rw [cell_of_row _ _ _ _ _ _ h]; rfl
  have CQ := fun w' => cloneQ_any w'
  have FIN : Hid (CCl w now (w.drew.alloc (.cells #[.int .i64 now, .int .i64 0, .slice none 0 0] 99)) (.returned (.pointer (some ⟨w.heap.size, 0, none⟩)))) := ⟨w.heap.size, rfl, Nat.le_refl _, heap_alloc_new w.drew _, ((Below.refl _ _).drew).alloc (Nat.le_refl _) _⟩
  clear h
  go_enter Tryd.func37, Tryd.ntmps37
  go_wp2
  go_region_held3 (fun w' => w'.cell? ⟨cb, 0, none⟩ = some (.int .i64 now) ∧ w'.cell? ⟨cb, 1, none⟩ = some (.int .i64 0) ∧ w'.cell? ⟨cb, 2, none⟩ = some (.slice none 0 0)) (go_keep) ((go_at_call 56; refine (CQ _).mono ?_; rintro e w2 ⟨rfl, hw2⟩; subst w2))
  all_goals
    go_wp2_with fail
    go_ret
    exact FIN.out
/-- The copies make a tree. -/
theorem clone_tx {w V : World} {base : Nat} {T : Tr} (hb : base ≤ w.heap.size) (hfb : FB w base) (hi : Inv T) (bl : Below w.heap.size w V) {nv ov : Value} {L : List NM} {B mb : Nat} (hn : OwnG KN V w.heap.size nv L) (hl : L.length = T.ns.length) (hr : ∀ p, p < T.ns.length → NR V T.od p (L.getD p NM0) (T.n p)) (hB : w.heap.size ≤ B) (hc : V.heap[B]? = some (.cells #[.int .i64 T.now, .int .i64 0, .slice none 0 0] 99)) (hmb : w.heap.size ≤ mb) (hm : MV V mb T.ns.length (plF T.nms)) (ho : OwnG KP V w.heap.size ov T.od) :
    ∃ F, TV (V.alloc (.cells #[.pointer (some ⟨B, 0, none⟩), nv, .map (some mb), ov] 62)) base V.heap.size F T ∧ (∀ x, F x → w.heap.size ≤ x) ∧ Below w.heap.size w (V.alloc (.cells #[.pointer (some ⟨B, 0, none⟩), nv, .map (some mb), ov] 62)) := by
  have b1 : Below V.heap.size V (V.alloc (.cells #[.pointer (some ⟨B, 0, none⟩), nv, .map (some mb), ov] 62)) := (Below.refl _ _).alloc (Nat.le_refl _) _
  have b2 := bl.trans (b1.mono bl.size)
  have t : TX (V.alloc (.cells #[.pointer (some ⟨B, 0, none⟩), nv, .map (some mb), ov] 62)) V.heap.size B mb nv ov L T := ⟨heap_alloc_new _ _, (b1.block B (lt_of_heap hc)).trans hc, (hn.below b1).low (Nat.zero_le _), (ho.below b1).low (Nat.zero_le _), hm.below b1, hl, fun p hp => (hr p hp).keep (But.of_below (F := fun _ => False) b1) (fun _ q => q.elim), hi.len, Nat.le_trans (nodup_len _ _ hi.nd hi.lt) hi.len, hi.wd⟩
  have ge : ∀ x, fp V.heap.size B mb nv ov x → w.heap.size ≤ x := by
    rintro x (q | q | q | q | q)
    · rw [q]; exact bl.size
    · rw [q]; exact hB
    · rw [q]; exact hmb
    · exact (hn.lt q).1
    · exact (ho.lt q).1
  exact ⟨_, ⟨⟨_, _, _, _, _, t, rfl⟩, fun x hx => Nat.le_trans hb (ge x hx), Nat.le_trans hb b2.size, hfb.below (b2.mono hb), hi⟩, ge, b2⟩
/-- Where the loop over the copied nodes stands. -/
def CLs (w wk : World) (T : Tr) (nv : Value) : Prop := ∃ L, OwnG KN wk w.heap.size nv L ∧ L.length = T.ns.length ∧ (∀ p, p < T.ns.length → NR wk T.od p (L.getD p NM0) (T.n p)) ∧ Below w.heap.size w wk
theorem CLs.below {w wk w' : World} {T : Tr} {nv : Value} (h : CLs w wk T nv) (k : Below wk.heap.size wk w') : CLs w w' T nv := by
  obtain ⟨L, h1, h2, h3, h4⟩ := h
  exact ⟨L, h1.below k, h2, fun p hp => (h3 p hp).keep (But.of_below (F := fun _ => False) k) (fun _ q => q.elim), h4.trans (k.mono h4.size)⟩
theorem CLs.at {w wk : World} {T : Tr} {g n cap : Nat} (h : CLs w wk T (.slice (some ⟨g, 0, none⟩) n cap)) {p : Nat} (hp : p < T.ns.length) : ∃ wp wc, wk.cell? ⟨g, p * 9 + 8, none⟩ = some (.slice wp (T.n p).why.length wc) ∧ OwnC wk 0 (.slice wp (T.n p).why.length wc) (T.n p).why ∧ wk.frozen? ⟨g, p * 9 + 8, none⟩ = false := by
  obtain ⟨L, h1, h2, h3, h4⟩ := h
  have hl : p < L.length := by omega
  have hr := h3 p hp
  rw [show L.getD p NM0 = L[p] by simp [List.getD, hl]] at hr
  obtain ⟨X', o', e', _, hc'⟩ := (h1.gs KN_ok.len).at hl
  injection e' with e'
  injection e' with e1 e2 _
  subst e1 e2
  have := hc' 8 _ rfl
  rw [show KN.W = 9 from rfl, Nat.zero_add] at this
  obtain ⟨wp, wc, ew⟩ := hr.why.form
  have ew2 : L[p].wn = (T.n p).why.length := by injection ew
  have hw := hr.why
  rw [ew2] at hw
  exact ⟨L[p].wp, L[p].wc, by rw [this, ew2], hw, own_frozen h1 _⟩
theorem CLs.put {w wk : World} {T : Tr} {g n cap : Nat} (h : CLs w wk T (.slice (some ⟨g, 0, none⟩) n cap)) {p : Nat} (hp : p < T.ns.length) {yp : Option Addr} {yc : Nat} (hy : OwnC wk 0 (.slice yp (T.n p).why.length yc) (T.n p).why) : CLs w (wk.setCell ⟨g, p * 9 + 8, none⟩ (.slice yp (T.n p).why.length yc)) T (.slice (some ⟨g, 0, none⟩) n cap) := by
  obtain ⟨L, h1, h2, h3, h4⟩ := h
  have hl : p < L.length := by omega
  have k : But (fun x => x = g) wk (wk.setCell ⟨g, p * 9 + 8, none⟩ (.slice yp (T.n p).why.length yc)) := But.set g _ _
  obtain ⟨cur, hcur⟩ := h1.ty (g := g) rfl
  have ok : OkF wk (fun x => x = g) := fun z hz => by subst hz; exact ⟨_, hcur, Or.inr (Or.inr (Or.inl rfl))⟩
  refine ⟨L.set p { L[p] with wp := yp, wn := (T.n p).why.length, wc := yc }, h1.setW KN_ok.len hl (j := 8) (by decide) _ _ rfl, by rw [List.length_set]; exact h2, fun a ha => ?_, h4.setCell (p := ⟨g, _, none⟩) (h1.lt (g := g) rfl).1 _⟩
  have hr := (h3 a ha).keep k ok
  by_cases e : a = p
  · subst e
    have e1 : (L.set a { L[a] with wp := yp, wn := (T.n a).why.length, wc := yc }).getD a NM0 = { L[a] with wp := yp, wn := (T.n a).why.length, wc := yc } := by simp [List.getD, hl]
    rw [show L.getD a NM0 = L[a] by simp [List.getD, hl]] at hr
    rw [e1]
    exact ⟨hr.name, hr.ab, hr.til, hr.rk, hr.bw, ownC_g (hy.g.butF k ok kc_no)⟩
  · have e1 : (L.set p { L[p] with wp := yp, wn := (T.n p).why.length, wc := yc }).getD a NM0 = L.getD a NM0 := by simp [List.getD, Ne.symm e]
    rw [e1]; exact hr
end Go.Proofs.YtkebflllbphkkaaDoor
