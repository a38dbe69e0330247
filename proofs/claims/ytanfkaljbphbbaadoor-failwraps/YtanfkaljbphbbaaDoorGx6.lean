/- Failures: the reference's long, Wrap, Token. -/
import Derived.Test.YtanfkaljbphbbaaDoorGx5
namespace Go.Proofs.YtanfkaljbphbbaaDoor
open Go.RowKit

def longL (l : List Cr) : List Cr := if 1024 < l.length then [⟨11, 0, ByteArray.empty⟩] else l
theorem longL_ar (k : Int) (t : ByteArray) (ll : List (List Cr)) : longL (ll.flatten ++ [⟨k, ll.length, t⟩]) = arL k t ll := by
  unfold longL arL
  rw [List.length_append, List.length_singleton, Nat.add_comm]
set_option maxHeartbeats 4000000 in
set_option maxRecDepth 100000 in
theorem long_any (v : Value) (l : List Cr) (w : World) (h : CS w v l) (hlm : l.length ≤ 1000000000000000) :
    Calls Tryd.prog 52 #[v] w fun e w' => ∃ p cap, e = .returned (.slice p (longL l).length cap) ∧ CS w' (.slice p (longL l).length cap) (longL l) ∧ Below w.heap.size w w' := by
  obtain ⟨p, cap, rfl⟩ := h.form
  by_cases hb : 1024 < l.length
  · have e1 : longL l = [⟨11, 0, ByteArray.empty⟩] := by unfold longL; rw [if_pos hb]
    rw [e1]
    clear h
    go_enter Tryd.func52, Tryd.ntmps52
    go_wp2
    go_ret
    exact ⟨_, _, rfl, (ownC_one w 11 0 ByteArray.empty).cs, (Below.refl _ _).alloc (Nat.le_refl _) _⟩
  · have e1 : longL l = l := by unfold longL; rw [if_neg hb]
    rw [e1]
    have HS : Hid (CS w (.slice p l.length cap) l) := h
    clear h
    go_enter Tryd.func52, Tryd.ntmps52
    go_wp2
    go_ret
    exact ⟨p, cap, rfl, HS.out, Below.refl _ _⟩
/-- A failure that is read, and an error beside it. -/
def AnsR (w w' : World) (e : Ending) (l : List Cr) (x : Int) : Prop := ∃ p cap, e = .returned (.tuple #[.slice p l.length cap, .int .i64 x]) ∧ CS w' (.slice p l.length cap) l ∧ Below w.heap.size w w'
theorem ansR_nil {w w' : World} {l : List Cr} {x : Int} (hl : l = []) (b : Below w.heap.size w w') : AnsR w w' (.returned (.tuple #[.slice none 0 0, .int .i64 x])) l x := by
  subst hl; exact ⟨none, 0, rfl, Or.inl ⟨Or.inl rfl, rfl⟩, b⟩
set_option maxHeartbeats 4000000 in
set_option maxRecDepth 100000 in
theorem rwrap_any (n : ByteArray) (v : Value) (l : List Cr) (w : World) (hn : n.size ≤ maxLen) (h : CS w v l) (ht : ∀ c ∈ l, c.text.size ≤ maxLen) (hlm : l.length ≤ 1000000000000000) :
    Calls Tryd.prog 18 #[.string n, v] w fun e w' => AnsR w w' e (wrapL n l) (wrapE n l) := by
  have IN := baseName_any n w hn
  cases hb : nameB n with
  | false =>
    have e1 : wrapE n l = 2 := by unfold wrapE; rw [hb]; rfl
    have e2 : wrapL n l = [] := by unfold wrapL; rw [e1]; rfl
    rw [e1]
    rw [hb] at IN
    have AN : Hid (∀ w', Below w.heap.size w w' → AnsR w w' (.returned (.tuple #[.slice none 0 0, .int .i64 2])) (wrapL n l) 2) := fun w' b => ansR_nil e2 b
    clear h
    go_enter Tryd.func18, Tryd.ntmps18
    go_wp2_with (go_at_call 51; refine IN.mono ?_; rintro e w1 ⟨rfl, hb1⟩)
    go_ret2
    exact AN.out _ hb1
  | true =>
    have e1 : wrapE n l = chk l := by unfold wrapE; rw [hb]; rfl
    rw [e1]
    rw [hb] at IN
    have CK : Hid (∀ w1, Below w.heap.size w w1 → _) := fun w1 b => rcheck_any v l w1 (h.below b) ht hlm
    by_cases hc : chk l = 0
    · have hl := (chk_ok hc).1
      have e2 : wrapL n l = longL (l ++ [⟨9, 1, n⟩]) := by
        unfold wrapL; rw [e1, if_pos hc]
        have := longL_ar 9 n [l]
        simpa using this.symm
      rw [e2, hc]
      rw [hc] at CK
      have CP : Hid (∀ w1, Below w.heap.size w w1 → _) := fun w1 b => copyFail_any v l w1 (h.below b) (by omega)
      have LN : Hid (∀ w1 v', CS w1 v' (l ++ [⟨9, 1, n⟩]) → _) := fun w1 v' cs => long_any v' _ w1 cs (by simp; omega)
      have HL : Hid ((l.length + 1) * 32 ≤ 140737488355328) := by show (l.length + 1) * 32 ≤ 140737488355328; omega
      clear h ht
      generalize longL (l ++ [⟨9, 1, n⟩]) = R at *
      go_enter Tryd.func18, Tryd.ntmps18
      go_wp2_with (first | (go_at_call 51; refine IN.mono ?_; rintro e w1 ⟨rfl, hb1⟩; have B1 : Hid (Below w.heap.size w w1) := hb1; clear hb1) | (go_at_call 15; refine (CK.out _ B1.out).mono ?_; rintro e w2 ⟨rfl, hb2⟩; have B2 : Hid (Below w.heap.size w w2) := B1.out.trans (hb2.mono B1.out.size); clear hb2) | (go_at_call 9; refine (CP.out _ B2.out).mono ?_; rintro e w3 ⟨p3, c3, rfl, ho3, hb3⟩; have O3 : Hid (OwnC w3 w2.heap.size (.slice p3 l.length c3) l) := ho3; have B3 : Hid (Below w.heap.size w w3) := B2.out.trans (hb3.mono B2.out.size); have Z3 : Hid (w2.heap.size ≤ w3.heap.size) := hb3.size; clear ho3 hb3) | (at_builtin; refine append_cr rfl (.tmp 16) (.tmp 19) 23 rfl w2.heap.size Tryd.underlying23 info_cr _ _ _ (.slice p3 l.length c3) l ⟨9, 1, n⟩ _ rfl O3.out _ rfl rfl rfl HL.out Z3.out ?_; intro v4 w4 ho4 hb4; have O4 : Hid (CS w4 v4 (l ++ [⟨9, 1, n⟩])) := ho4.cs; have B4 : Hid (Below w.heap.size w w4) := B3.out.trans (hb4.mono B2.out.size); clear ho4 hb4) | (go_at_call 52; refine (LN.out _ _ O4.out).mono ?_; rintro e w5 ⟨p5, c5, rfl, ho5, hb5⟩))
      go_ret2
      exact ⟨p5, c5, rfl, ho5, B4.out.trans (hb5.mono B4.out.size)⟩
    · have e2 : wrapL n l = [] := by unfold wrapL; rw [e1, if_neg hc]
      have AN : Hid (∀ w', Below w.heap.size w w' → AnsR w w' (.returned (.tuple #[.slice none 0 0, .int .i64 (chk l)])) (wrapL n l) (chk l)) := fun w' b => ansR_nil e2 b
      clear h ht
      generalize chk l = c at *
      have h1 : (c == 0) = false := by simpa using hc
      have h2 : (c != 0) = true := by simpa using hc
      go_enter Tryd.func18, Tryd.ntmps18
      go_wp2_with (first | (go_at_call 51; refine IN.mono ?_; rintro e w1 ⟨rfl, hb1⟩; have B1 : Hid (Below w.heap.size w w1) := hb1; clear hb1) | (go_at_call 15; refine (CK.out _ B1.out).mono ?_; rintro e w2 ⟨rfl, hb2⟩; have B2 : Hid (Below w.heap.size w w2) := B1.out.trans (hb2.mono B1.out.size); clear hb2))
      go_ret2
      exact AN.out _ B2.out
end Go.Proofs.YtanfkaljbphbbaaDoor
