/- Names: Parts, both sides. -/
import Derived.Test.YtkdoojndighdjaaDoorPr1
import Derived.Test.YtkdoojndighdjaaDoorPu4
namespace Go.Proofs.YtkdoojndighdjaaDoor
open Go.RowKit

/-- A slice of numbers, with an error's number. -/
def AnsI (w w' : World) (e : Ending) (l : List Int) (c : Int) : Prop := ∃ p cap, e = .returned (.tuple #[.slice p l.length cap, .int .i64 c]) ∧ IS w' (.slice p l.length cap) l ∧ Below w.heap.size w w'
theorem partsEach_any (v : Value) (l : List Opn) (at' ba bf : Nat) (w : World) (h : OS w v l) (hw : walkN 0 (nsO l) = some 1) (hlm : l.length ≤ 256) (hX : ∀ x, v.ownBlock = some x → x ≠ bf) (hab : ba ≠ bf) (hat : at' < l.length)
    (ca : w.cell? ⟨ba, 0, none⟩ = some (.int .i64 at')) (cf : w.heap[bf]? = some (.cells #[.slice none 0 0] 49)) :
    Calls Tryd.prog 64 #[v, .func (.func 65) #[] #[.pointer (some ⟨ba, 0, none⟩), .pointer (some ⟨bf, 0, none⟩)]] w fun e w' => e = .returned (.tuple #[]) ∧ ∃ p c, w'.cell? ⟨bf, 0, none⟩ = some (.slice p (ptO l at').length c) ∧ IS w' (.slice p (ptO l at').length c) (ptO l at') ∧ But (fun x => x = bf) w w' := by
  have hbf : bf < w.heap.size := (Array.getElem?_eq_some_iff.1 cf).1
  have hba : ba < w.heap.size := block_lt_of_cell ca
  have hF : ∀ x, (x = bf ∨ (Value.slice none 0 0).ownBlock = some x) → x = bf := fun x hx => by
    rcases hx with e | e
    · exact e
    · simp [Value.ownBlock] at e
  refine (eachWhole_any v l 65 _ w (UG (fndP l at') bf w.heap.size) (fun x => x = bf ∨ (Value.slice none 0 0).ownBlock = some x) (UG_vis _ _ _) h (fun x hx e => hX x hx (hF x e)) hw hlm ⟨.slice none 0 0, cf, by unfold fndP; simp; exact OwnG.nil _ _ _, hbf, fun x => Iff.rfl⟩ Tryd.call65 (fun k F wk vp hk hI hP hap hfn hbt => ?_)).mono ?_
  · exact partsV_any l at' k bf ba w.heap.size F vp wk hk hlm hI hbt.size ((World.cell?_of_block (w := w) (w' := wk) (a := ⟨ba, 0, none⟩) (hbt.block ba hba (fun e => hab (hF _ e)))).trans ca) hP
  · rintro e w' ⟨rfl, F', ⟨vu, u1, u2, _⟩, _, hbt⟩
    have e : fndP l at' l.length = ptO l at' := by unfold fndP; rw [if_pos hat]
    rw [e] at u2
    obtain ⟨p, c, rfl, _⟩ := u2.form
    exact ⟨rfl, p, c, box_cell u1, u2.gs KI_ok.len, ⟨hbt.os, hbt.tape, hbt.output, hbt.size, fun x hx hn => hbt.block x hx (fun e => hn (hF x e))⟩⟩
set_option maxHeartbeats 4000000 in
theorem parts_any (v : Value) (l : List Opn) (a : Int) (w : World) (h : OS w v l) (ht : ∀ c ∈ l, c.text.size ≤ maxLen) (hv : NV w) (hlm : l.length ≤ 1000000000000000) :
    Calls Tryd.prog 24 #[v, .int .i64 a] w fun e w' => AnsI w w' e (partsL l a) (partsE l a) := by
  have A0 : Hid (∀ ob, Below w.heap.size w (w.alloc ob)) := fun ob => (Below.refl _ _).alloc (Nat.le_refl _) ob
  have CK : Hid _ := check_any v l (w.alloc (.cells #[.int .i64 a] 3)) (h.below (A0.out _)) ht (hv.below (A0.out _)) hlm
  have C0 : Hid (∀ w1, Below (w.alloc (.cells #[.int .i64 a] 3)).heap.size (w.alloc (.cells #[.int .i64 a] 3)) w1 → w1.cell? ⟨w.heap.size, 0, none⟩ = some (.int .i64 a)) := fun w1 b => (b.cell (p := ⟨w.heap.size, 0, none⟩) (by simp)).trans (by simp)
  have HE : Hid (partsE l a = if chkO l = 0 then (if 0 ≤ a ∧ a < l.length then 0 else 1) else chkO l) := rfl
  by_cases hc : chkO l = 0
  · rw [if_pos hc] at HE
    rw [hc] at CK
    obtain ⟨hl, hwh, _⟩ := chkO_ok hc
    obtain ⟨_, hw⟩ := wholeB_ok hwh
    have hne := walk_ne hw
    by_cases ha : 0 ≤ a ∧ a < l.length
    · obtain ⟨m, rfl⟩ : ∃ m : Nat, a = m := ⟨a.toNat, by omega⟩
      have hm : m < l.length := by omega
      rw [if_pos ha] at HE
      have HL : Hid (partsL l m = ptO l m) := by show _ = _; unfold partsL; rw [HE.out, if_pos rfl, Int.toNat_natCast]
      rw [HE.out, HL.out]
      have PE : Hid (∀ w1, Below w.heap.size w w1 → w1.cell? ⟨w.heap.size, 0, none⟩ = some (.int .i64 m) → Calls Tryd.prog 64 #[v, .func (.func 65) #[] #[.pointer (some ⟨w.heap.size, 0, none⟩), .pointer (some ⟨w1.heap.size, 0, none⟩)]] (w1.alloc (.cells #[.slice none 0 0] 49)) fun e w' => e = .returned (.tuple #[]) ∧ ∃ p c, w'.cell? ⟨w1.heap.size, 0, none⟩ = some (.slice p (ptO l m).length c) ∧ IS w' (.slice p (ptO l m).length c) (ptO l m) ∧ Below w.heap.size w w') := fun w1 b cc => by
        have hlt : w.heap.size < w1.heap.size := block_lt_of_cell cc
        have AL := (Below.refl _ w1).alloc (Nat.le_refl _) (.cells #[.slice none 0 0] 49)
        refine (partsEach_any v l m w.heap.size w1.heap.size _ ((h.below b).below AL) hw hl (fun x hx e => by have := h.lt hne hx; omega) (by omega) hm ((AL.cell (p := ⟨w.heap.size, 0, none⟩) hlt).trans cc) (heap_alloc_new _ _)).mono ?_
        rintro e w' ⟨rfl, p, c, c1, c2, hbt⟩
        exact ⟨rfl, p, c, c1, c2, (b.trans (AL.mono b.size)).trans ⟨hbt.os, hbt.tape, hbt.output, hbt.size, fun x hx => hbt.block x (Nat.lt_of_lt_of_le hx (Nat.le_trans b.size AL.size)) (by omega)⟩⟩
      obtain ⟨p, cap, rfl⟩ := h.form
      have hmf : ∀ (fn : Fn) (first cap : Array Value) (w : World), (Instr.makeFunc fn first cap).run Tryd.prog w = .ok (.func fn first cap) w := fun _ _ _ _ => rfl
      generalize ptO l m = P at *
      have h1 : ¬ (m : Int) < 0 := by omega
      have h2 : ¬ (m : Int) ≥ l.length := by omega
      clear h ht hv HE HL ha
      go_enter Tryd.func24, Tryd.ntmps24
      go_wp2_with fail
      refine Calls.mono CK.out ?_
      rintro e w1 ⟨rfl, hb1⟩
      have c1 := C0.out _ hb1
      have B1 : Hid (Below w.heap.size w w1) := (A0.out _).trans (hb1.mono (A0.out _).size)
      have PE1 : Hid _ := PE.out _ B1.out c1
      have c2 : ∀ ob, (w1.alloc ob).cell? ⟨w.heap.size, 0, none⟩ = some (.int .i64 m) := fun ob => (((Below.refl _ w1).alloc (Nat.le_refl _) ob).cell (p := ⟨w.heap.size, 0, none⟩) (block_lt_of_cell c1)).trans c1
      clear hb1 CK C0 PE
      go_wp2_with fail
      refine Calls.mono PE1.out ?_
      rintro e w2 ⟨rfl, p2, cc2, q1, q2, hb2⟩
      have B2 : Hid (Below w.heap.size w w2) := hb2
      have I2 : Hid _ := q2
      clear hb2 q2 PE1
      go_wp2_with fail
      go_ret2
      exact ⟨p2, cc2, rfl, I2.out, B2.out⟩
    · rw [if_neg ha] at HE
      have HL : Hid (partsL l a = []) := by show _ = _; unfold partsL; rw [HE.out, if_neg (by decide)]
      rw [HE.out, HL.out]
      obtain ⟨p, cap, rfl⟩ := h.form
      clear h ht hv HE HL
      by_cases h1 : a < 0
      · go_enter Tryd.func24, Tryd.ntmps24
        go_wp2_with fail
        refine Calls.mono CK.out ?_
        rintro e w1 ⟨rfl, hb1⟩
        have c1 := C0.out _ hb1
        have B1 : Hid (Below w.heap.size w w1) := (A0.out _).trans (hb1.mono (A0.out _).size)
        clear hb1 CK C0
        go_wp2_with fail
        go_ret2
        exact ⟨none, 0, rfl, Or.inl ⟨Or.inl rfl, rfl⟩, B1.out⟩
      · have h2 : a ≥ l.length := by omega
        go_enter Tryd.func24, Tryd.ntmps24
        go_wp2_with fail
        refine Calls.mono CK.out ?_
        rintro e w1 ⟨rfl, hb1⟩
        have c1 := C0.out _ hb1
        have B1 : Hid (Below w.heap.size w w1) := (A0.out _).trans (hb1.mono (A0.out _).size)
        clear hb1 CK C0
        go_wp2_with fail
        go_ret2
        exact ⟨none, 0, rfl, Or.inl ⟨Or.inl rfl, rfl⟩, B1.out⟩
  · rw [if_neg hc] at HE
    have HL : Hid (partsL l a = []) := by show _ = _; unfold partsL; rw [HE.out, if_neg hc]
    rw [HE.out, HL.out]
    obtain ⟨p, cap, rfl⟩ := h.form
    generalize chkO l = c at *
    have h1 : (c == 0) = false := by simpa using hc
    have h2 : (c != 0) = true := by simpa using hc
    clear h ht hv HE HL
    go_enter Tryd.func24, Tryd.ntmps24
    go_wp2_with fail
    refine Calls.mono CK.out ?_
    rintro e w1 ⟨rfl, hb1⟩
    have B1 : Hid (Below w.heap.size w w1) := (A0.out _).trans (hb1.mono (A0.out _).size)
    clear hb1 CK C0
    go_wp2_with fail
    go_ret2
    exact ⟨none, 0, rfl, Or.inl ⟨Or.inl rfl, rfl⟩, B1.out⟩
end Go.Proofs.YtkdoojndighdjaaDoor
