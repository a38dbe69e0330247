/- Failures: the reference's Token and Join. -/
import Derived.Test.YtanfkaljbphbbaaDoorGx6
namespace Go.Proofs.YtanfkaljbphbbaaDoor
open Go.RowKit

theorem gaE_one (l : List Cr) : gaE [l] = if l.length = 0 then 0 else chk l := by
  rw [gaE, gaE]
  by_cases h0 : l.length = 0
  · rw [if_pos h0, if_pos h0]
  · rw [if_neg h0, if_neg h0]
    by_cases hc : chk l = 0
    · rw [if_pos hc, hc]
    · rw [if_neg hc]
set_option maxHeartbeats 4000000 in
set_option maxRecDepth 100000 in
theorem rtoken_any (t : ByteArray) (v : Value) (l : List Cr) (w : World) (hn : t.size ≤ maxLen) (h : CS w v l) (ht : ∀ c ∈ l, c.text.size ≤ maxLen) (hlm : l.length ≤ 1000000000000000) :
    Calls Tryd.prog 21 #[.string t, v] w fun e w' => AnsR w w' e (tokL t l) (tokE t l) := by
  have hn2 := hn
  unfold maxLen at hn2
  by_cases hb : 4096 < t.size
  · have e1 : tokE t l = 3 := by unfold tokE; rw [if_pos hb]
    have e2 : tokL t l = [] := by unfold tokL; rw [e1]; rfl
    rw [e1]
    have AN : Hid (∀ w', Below w.heap.size w w' → AnsR w w' (.returned (.tuple #[.slice none 0 0, .int .i64 3])) (tokL t l) 3) := fun w' b => ansR_nil e2 b
    clear h ht
    go_enter Tryd.func21, Tryd.ntmps21
    go_wp2
    go_ret2
    exact AN.out _ (Below.refl _ _)
  · have e1 : tokE t l = if l.length = 0 then 0 else chk l := by unfold tokE; rw [if_neg hb, gaE_one]
    have hnb : ¬ ((4096 : Int) < (t.size : Int)) := by omega
    by_cases h0 : l.length = 0
    · have e2 : tokL t l = [⟨8, 0, t⟩] := by
        unfold tokL; rw [e1, if_pos h0, if_pos rfl]
        have : neL [l] = [] := by unfold neL; rw [List.filter_cons_of_neg (by simpa using h0)]; rfl
        rw [this]; rfl
      rw [e1, if_pos h0, e2]
      obtain ⟨pu, cu, rfl⟩ := h.form
      rw [h0]
      clear h ht
      go_enter Tryd.func21, Tryd.ntmps21
      go_wp2
      go_ret2
      exact ⟨_, _, rfl, (ownC_one w 8 0 t).cs, (Below.refl _ _).alloc (Nat.le_refl _) _⟩
    · rw [e1, if_neg h0]
      rw [if_neg h0] at e1
      have CK := rcheck_any v l w h ht hlm
      have hz1 : ((l.length : Int) == 0) = false := by rw [beq_eq_false_iff_ne]; omega
      have hz2 : ¬ ((l.length : Int) = 0) := by omega
      by_cases hc : chk l = 0
      · have hl := (chk_ok hc).1
        have e2 : tokL t l = longL (l ++ [⟨8, 1, t⟩]) := by
          unfold tokL; rw [e1, if_pos hc]
          have h3 : neL [l] = [l] := by unfold neL; rw [List.filter_cons_of_pos (by simpa using h0)]; rfl
          rw [h3]
          have := longL_ar 8 t [l]
          simpa using this.symm
        rw [e2, hc]
        rw [hc] at CK
        have CP : Hid (∀ w1, Below w.heap.size w w1 → _) := fun w1 b => copyFail_any v l w1 (h.below b) (by omega)
        have LN : Hid (∀ w1 v', CS w1 v' (l ++ [⟨8, 1, t⟩]) → _) := fun w1 v' cs => long_any v' _ w1 cs (by simp; omega)
        have HL : Hid ((l.length + 1) * 32 ≤ 140737488355328) := by show (l.length + 1) * 32 ≤ 140737488355328; omega
        obtain ⟨pu, cu, rfl⟩ := h.form
        clear h ht
        generalize longL (l ++ [⟨8, 1, t⟩]) = R at *
        go_enter Tryd.func21, Tryd.ntmps21
        go_wp2_with (first | (go_at_call 15; refine CK.mono ?_; rintro e w2 ⟨rfl, hb2⟩; have B2 : Hid (Below w.heap.size w w2) := hb2; clear hb2) | (go_at_call 9; refine (CP.out _ B2.out).mono ?_; rintro e w3 ⟨p3, c3, rfl, ho3, hb3⟩; have O3 : Hid (OwnC w3 w2.heap.size (.slice p3 l.length c3) l) := ho3; have B3 : Hid (Below w.heap.size w w3) := B2.out.trans (hb3.mono B2.out.size); have Z3 : Hid (w2.heap.size ≤ w3.heap.size) := hb3.size; clear ho3 hb3) | (at_builtin; refine append_cr rfl (.tmp 22) (.tmp 25) 23 rfl w2.heap.size Tryd.underlying23 info_cr _ _ _ (.slice p3 l.length c3) l ⟨8, 1, t⟩ _ rfl O3.out _ rfl rfl rfl HL.out Z3.out ?_; intro v4 w4 ho4 hb4; have O4 : Hid (CS w4 v4 (l ++ [⟨8, 1, t⟩])) := ho4.cs; have B4 : Hid (Below w.heap.size w w4) := B3.out.trans (hb4.mono B2.out.size); clear ho4 hb4) | (go_at_call 52; refine (LN.out _ _ O4.out).mono ?_; rintro e w5 ⟨p5, c5, rfl, ho5, hb5⟩))
        go_ret2
        exact ⟨p5, c5, rfl, ho5, B4.out.trans (hb5.mono B4.out.size)⟩
      · have e2 : tokL t l = [] := by unfold tokL; rw [e1, if_neg hc]
        have AN : Hid (∀ w', Below w.heap.size w w' → AnsR w w' (.returned (.tuple #[.slice none 0 0, .int .i64 (chk l)])) (tokL t l) (chk l)) := fun w' b => ansR_nil e2 b
        obtain ⟨pu, cu, rfl⟩ := h.form
        clear h ht
        generalize chk l = c at *
        have h1 : (c == 0) = false := by simpa using hc
        have h2 : (c != 0) = true := by simpa using hc
        go_enter Tryd.func21, Tryd.ntmps21
        go_wp2_with (go_at_call 15; refine CK.mono ?_; rintro e w2 ⟨rfl, hb2⟩; have B2 : Hid (Below w.heap.size w w2) := hb2; clear hb2)
        go_ret2
        exact AN.out _ B2.out
end Go.Proofs.YtanfkaljbphbbaaDoor
