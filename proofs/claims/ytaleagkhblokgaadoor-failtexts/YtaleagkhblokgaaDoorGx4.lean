/- Failures: Wrap, Token, Join. -/
import Derived.Test.YtaleagkhblokgaaDoorGx3
import Derived.Test.YtaleagkhblokgaaDoorFx10
namespace Go.Proofs.YtaleagkhblokgaaDoor
open Go.RowKit

theorem fs_one {w w' : World} {pu : Option Addr} {cu : Nat} {l : List Cr} (h : CS w' (.slice pu l.length cu) l) (T : TypeId) (hw : w' = w.alloc (.cells #[.slice pu l.length cu] T)) : FS w' (.slice (some ⟨w.heap.size, 0, none⟩) 1 1) [l] := by
  refine ⟨_, 1, rfl, Nat.le_refl _, fun k hk => ?_⟩
  have hk0 : k = 0 := by simpa using hk
  subst hk0
  refine ⟨w.heap.size, 0, _, rfl, by rw [hw]; simp, ?_, h⟩
  rw [hw]
  exact cell_of_row _ _ _ _ _ _ (heap_alloc_new w _)
theorem gaE_ok : ∀ {ll : List (List Cr)}, gaE ll = 0 → ∀ x ∈ neL ll, x.length ≠ 0 ∧ chk x = 0
  | [], _, x, hx => by simp [neL] at hx
  | a :: r, h, x, hx => by
    rw [gaE] at h
    unfold neL at hx
    by_cases h0 : a.length = 0
    · rw [if_pos h0] at h
      rw [List.filter_cons_of_neg (by simpa using h0)] at hx
      exact gaE_ok h x hx
    · rw [if_neg h0] at h
      rw [List.filter_cons_of_pos (by simpa using h0)] at hx
      by_cases hc : chk a = 0
      · rw [if_pos hc] at h
        rcases List.mem_cons.1 hx with e | e
        · subst e; exact ⟨h0, hc⟩
        · exact gaE_ok h x e
      · rw [if_neg hc] at h; exact absurd h hc
theorem neL_len (ll : List (List Cr)) : (neL ll).length ≤ ll.length := List.length_filter_le _ _
def wrapE (n : ByteArray) (l : List Cr) : Int := if nameB n = true then chk l else 2
def wrapL (n : ByteArray) (l : List Cr) : List Cr := if wrapE n l = 0 then arL 9 n [l] else []
def tokE (t : ByteArray) (l : List Cr) : Int := if 4096 < t.size then 3 else gaE [l]
def tokL (t : ByteArray) (l : List Cr) : List Cr := if tokE t l = 0 then arL 8 t (neL [l]) else []
def joinE (ll : List (List Cr)) : Int := if 4096 < ll.length then 3 else gaE ll
def joinL (ll : List (List Cr)) : List Cr := if joinE ll = 0 ∧ (neL ll).length ≠ 0 then arL 10 ByteArray.empty (neL ll) else []
/-- A failure of the call's own, and an error beside it. -/
def Ans (w w' : World) (e : Ending) (l : List Cr) (x : Int) : Prop := ∃ p cap, e = .returned (.tuple #[.slice p l.length cap, .int .i64 x]) ∧ OwnC w' w.heap.size (.slice p l.length cap) l ∧ Below w.heap.size w w'
theorem ans_nil {w w' : World} {l : List Cr} {x : Int} (hl : l = []) (b : Below w.heap.size w w') : Ans w w' (.returned (.tuple #[.slice none 0 0, .int .i64 x])) l x := by
  subst hl; exact ⟨none, 0, rfl, World.ownsRow_nil _ _ _ _, b⟩
theorem OwnC.low {w : World} {base base' : Nat} {v : Value} {l : List Cr} (h : OwnC w base v l) (hb : base' ≤ base) : OwnC w base' v l := by
  obtain ⟨h1, h2⟩ := h
  refine ⟨h1, ?_⟩
  rcases h2 with h2 | ⟨g, cap, cur, e1, e2, e3⟩
  · exact Or.inl h2
  · exact Or.inr ⟨g, cap, cur, e1, Nat.le_trans hb e2, e3⟩
set_option maxHeartbeats 4000000 in
set_option maxRecDepth 100000 in
theorem wrap_any (n : ByteArray) (v : Value) (l : List Cr) (w : World) (hn : n.size ≤ maxLen) (h : CS w v l) (ht : ∀ c ∈ l, c.text.size ≤ maxLen) (hlm : l.length ≤ 1000000000000000) (hv : FV w) :
    Calls Tryd.prog 33 #[.string n, v] w fun e w' => Ans w w' e (wrapL n l) (wrapE n l) := by
  have IN := isName_any n w hn hv.keys
  cases hb : nameB n with
  | false =>
    have e1 : wrapE n l = 2 := by unfold wrapE; rw [hb]; rfl
    have e2 : wrapL n l = [] := by unfold wrapL; rw [e1]; rfl
    rw [e1]
    rw [hb] at IN
    have AN : Hid (∀ w', Below w.heap.size w w' → Ans w w' (.returned (.tuple #[.slice none 0 0, .int .i64 2])) (wrapL n l) 2) := fun w' b => ans_nil e2 b
    clear h hv
    go_enter Tryd.func33, Tryd.ntmps33
    go_wp2_with (go_at_call 53; refine IN.mono ?_; rintro e w1 ⟨rfl, rfl⟩)
    go_ret2
    exact AN.out _ (Below.refl _ _)
  | true =>
    have e1 : wrapE n l = chk l := by unfold wrapE; rw [hb]; rfl
    rw [e1]
    rw [hb] at IN
    have CK := check_any v l w h ht hv hlm
    by_cases hc : chk l = 0
    · have e2 : wrapL n l = arL 9 n [l] := by unfold wrapL; rw [e1, if_pos hc]
      have hl := (chk_ok hc).1
      rw [e2, hc]
      rw [hc] at CK
      obtain ⟨pu, cu, rfl⟩ := h.form
      have AR : Hid (∀ w1 w2, Below w.heap.size w w1 → w2 = w1.alloc (.cells #[.slice pu l.length cu] 23) → Calls Tryd.prog 54 #[.int .i64 9, .string n, .slice (some ⟨w1.heap.size, 0, none⟩) 1 1] w2 fun e w' => ∃ p cap, e = .returned (.slice p (arL 9 n [l]).length cap) ∧ OwnC w' w.heap.size (.slice p (arL 9 n [l]).length cap) (arL 9 n [l]) ∧ Below w.heap.size w w') := fun w1 w2 b e => by
        have b2 : Below w.heap.size w w2 := e ▸ b.alloc b.size _
        refine (around_any 9 n w2 _ [l] (fs_one (h.below b2) _ e) (fun x hx => by simp at hx; subst hx; exact hl) (by simp)).mono ?_
        rintro e w' ⟨p, cap, rfl, ho, hb⟩
        exact ⟨p, cap, rfl, ho.low b2.size, b2.trans (hb.mono b2.size)⟩
      generalize arL 9 n [l] = R at *
      clear h hv ht
      go_enter Tryd.func33, Tryd.ntmps33
      go_wp2_with (first | (go_at_call 53; refine IN.mono ?_; rintro e w1 ⟨rfl, hw1⟩; subst w1) | (go_at_call 31; refine CK.mono ?_; rintro e w2 ⟨rfl, hb2⟩; have B2 : Hid (Below w.heap.size w w2) := hb2; clear hb2) | (go_at_call 54; refine (AR.out w2 _ B2.out rfl).mono ?_; rintro e w3 ⟨p3, c3, rfl, ho3, hb3⟩))
      go_ret2
      exact ⟨p3, c3, rfl, ho3, hb3⟩
    · have e2 : wrapL n l = [] := by unfold wrapL; rw [e1, if_neg hc]
      have AN : Hid (∀ w', Below w.heap.size w w' → Ans w w' (.returned (.tuple #[.slice none 0 0, .int .i64 (chk l)])) (wrapL n l) (chk l)) := fun w' b => ans_nil e2 b
      clear h hv ht
      generalize chk l = c at *
      have h1 : (c == 0) = false := by simpa using hc
      have h2 : (c != 0) = true := by simpa using hc
      go_enter Tryd.func33, Tryd.ntmps33
      go_wp2_with (first | (go_at_call 53; refine IN.mono ?_; rintro e w1 ⟨rfl, hw1⟩; subst w1) | (go_at_call 31; refine CK.mono ?_; rintro e w2 ⟨rfl, hb2⟩; have B2 : Hid (Below w.heap.size w w2) := hb2; clear hb2))
      go_ret2
      exact AN.out _ B2.out
end Go.Proofs.YtaleagkhblokgaaDoor
