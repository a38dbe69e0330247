/- Failures: Token, Join. -/
import Derived.Test.YtanfkaljbphbbaaDoorGx4
namespace Go.Proofs.YtanfkaljbphbbaaDoor
open Go.RowKit

set_option maxHeartbeats 4000000 in
set_option maxRecDepth 100000 in
theorem token_any (t : ByteArray) (v : Value) (l : List Cr) (w : World) (hn : t.size ≤ maxLen) (h : CS w v l) (ht : ∀ c ∈ l, c.text.size ≤ maxLen) (hlm : l.length ≤ 1000000000000000) (hv : FV w) :
    Calls Tryd.prog 20 #[.string t, v] w fun e w' => Ans w w' e (tokL t l) (tokE t l) := by
  have hn2 := hn
  unfold maxLen at hn2
  by_cases hb : 4096 < t.size
  · have e1 : tokE t l = 3 := by unfold tokE; rw [if_pos hb]
    have e2 : tokL t l = [] := by unfold tokL; rw [e1]; rfl
    rw [e1]
    have AN : Hid (∀ w', Below w.heap.size w w' → Ans w w' (.returned (.tuple #[.slice none 0 0, .int .i64 3])) (tokL t l) 3) := fun w' b => ans_nil e2 b
    clear h hv ht
    go_enter Tryd.func20, Tryd.ntmps20
    go_wp2
    go_ret2
    exact AN.out _ (Below.refl _ _)
  · have e1 : tokE t l = gaE [l] := by unfold tokE; rw [if_neg hb]
    rw [e1]
    obtain ⟨pu, cu, rfl⟩ := h.form
    have GA : Hid (∀ w2, w2 = w.alloc (.cells #[.slice pu l.length cu] 23) → Calls Tryd.prog 53 #[.slice (some ⟨w.heap.size, 0, none⟩) 1 1] w2 fun e w' => ∃ p cap, e = .returned (.tuple #[.slice p (gaL [l]).length cap, .int .i64 (gaE [l])]) ∧ FS w' (.slice p (gaL [l]).length cap) (gaL [l]) ∧ Below w.heap.size w w') := fun w2 e => by
      have b2 : Below w.heap.size w w2 := e ▸ (Below.refl _ _).alloc (Nat.le_refl _) _
      refine (gather_any w2 _ [l] (fs_one (h.below b2) _ e) (fun x hx => by simp at hx; subst hx; exact ht) (fun x hx => by simp at hx; subst hx; exact hlm) (by simp) (hv.below b2)).mono ?_
      rintro e w' ⟨p, cap, rfl, ho, hb⟩
      exact ⟨p, cap, rfl, ho, b2.trans (hb.mono b2.size)⟩
    have hnb : ¬ ((4096 : Int) < (t.size : Int)) := by omega
    by_cases hc : gaE [l] = 0
    · have e2 : tokL t l = arL 8 t (gaL [l]) := by unfold tokL gaL; rw [e1, if_pos hc, if_pos hc]
      have hok : ∀ x ∈ gaL [l], x.length ≤ 1024 := fun x hx => by
        unfold gaL at hx; rw [if_pos hc] at hx
        exact (chk_ok (gaE_ok hc x hx).2).1
      have hll : (gaL [l]).length ≤ 4096 := by
        unfold gaL; rw [if_pos hc]; have := neL_len [l]; simp at this; omega
      rw [e2, hc]
      rw [hc] at GA
      have AR : Hid (∀ w2 v', FS w2 v' (gaL [l]) → _) := fun w2 v' fs => around_any 8 t w2 v' (gaL [l]) fs hok hll
      generalize arL 8 t (gaL [l]) = R at *
      generalize gaL [l] = G at *
      clear h hv ht
      go_enter Tryd.func20, Tryd.ntmps20
      go_wp2_with (first | (go_at_call 53; refine (GA.out _ rfl).mono ?_; rintro e w2 ⟨p2, c2, rfl, ho2, hb2⟩; have O2 : Hid (FS w2 (.slice p2 G.length c2) G) := ho2; have B2 : Hid (Below w.heap.size w w2) := hb2; clear ho2 hb2) | (go_at_call 46; refine (AR.out w2 _ O2.out).mono ?_; rintro e w3 ⟨p3, c3, rfl, ho3, hb3⟩))
      go_ret2
      exact ⟨p3, c3, rfl, ho3.low B2.out.size, B2.out.trans (hb3.mono B2.out.size)⟩
    · have e2 : tokL t l = [] := by unfold tokL; rw [e1, if_neg hc]
      have AN : Hid (∀ w', Below w.heap.size w w' → Ans w w' (.returned (.tuple #[.slice none 0 0, .int .i64 (gaE [l])])) (tokL t l) (gaE [l])) := fun w' b => ans_nil e2 b
      clear h hv ht
      generalize gaE [l] = c at *
      have h1 : (c == 0) = false := by simpa using hc
      have h2 : (c != 0) = true := by simpa using hc
      go_enter Tryd.func20, Tryd.ntmps20
      go_wp2_with (go_at_call 53; refine (GA.out _ rfl).mono ?_; rintro e w2 ⟨p2, c2, rfl, ho2, hb2⟩)
      go_ret2
      exact AN.out _ hb2
set_option maxHeartbeats 4000000 in
set_option maxRecDepth 100000 in
theorem join_any (v : Value) (ll : List (List Cr)) (w : World) (h : FS w v ll) (ht : ∀ x ∈ ll, ∀ c ∈ x, c.text.size ≤ maxLen) (hx : ∀ x ∈ ll, x.length ≤ 1000000000000000) (hl : (ll.length + 1) * 24 ≤ 140737488355328) (hv : FV w) :
    Calls Tryd.prog 22 #[v] w fun e w' => Ans w w' e (joinL ll) (joinE ll) := by
  obtain ⟨p, cap, rfl⟩ := h.form
  by_cases hb : 4096 < ll.length
  · have e1 : joinE ll = 3 := by unfold joinE; rw [if_pos hb]
    have e2 : joinL ll = [] := by unfold joinL; rw [e1]; simp
    rw [e1]
    have AN : Hid (∀ w', Below w.heap.size w w' → Ans w w' (.returned (.tuple #[.slice none 0 0, .int .i64 3])) (joinL ll) 3) := fun w' b => ans_nil e2 b
    clear h hv ht hx
    go_enter Tryd.func22, Tryd.ntmps22
    go_wp2
    go_ret2
    exact AN.out _ (Below.refl _ _)
  · have e1 : joinE ll = gaE ll := by unfold joinE; rw [if_neg hb]
    rw [e1]
    have GA := gather_any w _ ll h ht hx hl hv
    have hnb : ¬ ((4096 : Int) < (ll.length : Int)) := by omega
    by_cases hc : gaE ll = 0
    · have e3 : gaL ll = neL ll := by unfold gaL; rw [if_pos hc]
      have hnl := neL_len ll
      by_cases hz : (neL ll).length = 0
      · have e2 : joinL ll = [] := by unfold joinL; rw [if_neg (by intro h; exact h.2 hz)]
        rw [hc]
        rw [hc, e3, hz] at GA
        have AN : Hid (∀ w', Below w.heap.size w w' → Ans w w' (.returned (.tuple #[.slice none 0 0, .int .i64 0])) (joinL ll) 0) := fun w' b => ans_nil e2 b
        clear h hv ht hx
        go_enter Tryd.func22, Tryd.ntmps22
        go_wp2_with (go_at_call 53; refine GA.mono ?_; rintro e w2 ⟨p2, c2, rfl, ho2, hb2⟩)
        go_ret2
        exact AN.out _ hb2
      · have e2 : joinL ll = arL 10 ByteArray.empty (neL ll) := by unfold joinL; rw [if_pos ⟨by rw [e1]; exact hc, hz⟩]
        have hok : ∀ x ∈ neL ll, x.length ≤ 1024 := fun x hx => (chk_ok (gaE_ok hc x hx).2).1
        have AR : Hid (∀ w2 v', FS w2 v' (neL ll) → _) := fun w2 v' fs => around_any 10 ByteArray.empty w2 v' (neL ll) fs hok (by omega)
        rw [e2, hc]
        rw [hc, e3] at GA
        have hz1 : (((neL ll).length : Int) == 0) = false := by rw [beq_eq_false_iff_ne]; omega
        have hz2 : ¬ ((neL ll).length : Int) = 0 := by omega
        generalize arL 10 ByteArray.empty (neL ll) = R at *
        generalize neL ll = G at *
        clear h hv ht hx
        go_enter Tryd.func22, Tryd.ntmps22
        go_wp2_with (first | (go_at_call 53; refine GA.mono ?_; rintro e w2 ⟨p2, c2, rfl, ho2, hb2⟩; have O2 : Hid (FS w2 (.slice p2 G.length c2) G) := ho2; have B2 : Hid (Below w.heap.size w w2) := hb2; clear ho2 hb2) | (go_at_call 46; refine (AR.out w2 _ O2.out).mono ?_; rintro e w3 ⟨p3, c3, rfl, ho3, hb3⟩))
        go_ret2
        exact ⟨p3, c3, rfl, ho3.low B2.out.size, B2.out.trans (hb3.mono B2.out.size)⟩
    · have e2 : joinL ll = [] := by unfold joinL; rw [if_neg (by intro h; exact hc (by rw [← e1]; exact h.1))]
      have AN : Hid (∀ w', Below w.heap.size w w' → Ans w w' (.returned (.tuple #[.slice none 0 0, .int .i64 (gaE ll)])) (joinL ll) (gaE ll)) := fun w' b => ans_nil e2 b
      clear h hv ht hx
      generalize gaE ll = c at *
      have h1 : (c == 0) = false := by simpa using hc
      have h2 : (c != 0) = true := by simpa using hc
      go_enter Tryd.func22, Tryd.ntmps22
      go_wp2_with (go_at_call 53; refine GA.mono ?_; rintro e w2 ⟨p2, c2, rfl, ho2, hb2⟩)
      go_ret2
      exact AN.out _ hb2
end Go.Proofs.YtanfkaljbphbbaaDoor
