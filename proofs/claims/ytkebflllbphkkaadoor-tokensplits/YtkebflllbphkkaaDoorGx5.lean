/- Failures: Token, Join. -/
import Derived.Test.YtkebflllbphkkaaDoorGx3
import Derived.Test.YtkebflllbphkkaaDoorFx10
namespace Go.Proofs.YtkebflllbphkkaaDoor
open Go.RowKit

theorem fs_one {w w' : World} {pu : Option Addr} {cu : Nat} {l : List Cr} (h : CS w' (.slice pu l.length cu) l) (T : TypeId) (hw : w' = w.alloc (.cells #[.slice pu l.length cu] T)) : FS w' (.slice (some ⟨w.heap.size, 0, none⟩) 1 1) [l] := by
  refine ⟨_, 1, rfl, Nat.le_refl _, fun k hk => ?_⟩
  have hk0 : k = 0 := by simpa using hk
  subst hk0
  refine ⟨w.heap.size, 0, _, rfl, by rw [hw]; simp, ?_, h⟩
  rw [hw]
  exact cell_of_row _ _ _ _ _ _ (heap_alloc_new w _)
theorem gaE_ok : ∀ {ll : List (List Cr)}, gaE ll = 0 → ∀ x ∈ neL ll, x.length ≠ 0 ∧ chk x = 0
  | [], _, x, hx => by simp [neL] at hx
  | a :: r, h, x, hx => by
    rw [gaE] at h
    unfold neL at hx
    by_cases h0 : a.length = 0
    · rw [if_pos h0] at h
      rw [List.filter_cons_of_neg (by simpa using h0)] at hx
      exact gaE_ok h x hx
    · rw [if_neg h0] at h
      rw [List.filter_cons_of_pos (by simpa using h0)] at hx
      by_cases hc : chk a = 0
      · rw [if_pos hc] at h
        rcases List.mem_cons.1 hx with e | e
        · subst e; exact ⟨h0, hc⟩
        · exact gaE_ok h x e
      · rw [if_neg hc] at h; exact absurd h hc
theorem neL_len (ll : List (List Cr)) : (neL ll).length ≤ ll.length := List.length_filter_le _ _
def wrapE (n : ByteArray) (l : List Cr) : Int := if nameB n = true then chk l else 2
def wrapL (n : ByteArray) (l : List Cr) : List Cr := if wrapE n l = 0 then arL 9 n [l] else []
def tokE (t : ByteArray) (l : List Cr) : Int := if 4096 < t.size then 3 else gaE [l]
def tokL (t : ByteArray) (l : List Cr) : List Cr := if tokE t l = 0 then arL 8 t (neL [l]) else []
def joinE (ll : List (List Cr)) : Int := if 4096 < ll.length then 3 else gaE ll
def joinL (ll : List (List Cr)) : List Cr := if joinE ll = 0 ∧ (neL ll).length ≠ 0 then arL 10 ByteArray.empty (neL ll) else []
/-- A failure of the call's own, and an error beside it. -/
def Ans (w w' : World) (e : Ending) (l : List Cr) (x : Int) : Prop := ∃ p cap, e = .returned (.tuple #[.slice p l.length cap, .int .i64 x]) ∧ OwnC w' w.heap.size (.slice p l.length cap) l ∧ Below w.heap.size w w'
theorem ans_nil {w w' : World} {l : List Cr} {x : Int} (hl : l = []) (b : Below w.heap.size w w') : Ans w w' (.returned (.tuple #[.slice none 0 0, .int .i64 x])) l x := by
  subst hl; exact ⟨none, 0, rfl, World.ownsRow_nil _ _ _ _, b⟩
theorem OwnC.low {w : World} {base base' : Nat} {v : Value} {l : List Cr} (h : OwnC w base v l) (hb : base' ≤ base) : OwnC w base' v l := by
  obtain ⟨h1, h2⟩ := h
  refine ⟨h1, ?_⟩
  rcases h2 with h2 | ⟨g, cap, cur, e1, e2, e3⟩
  · exact Or.inl h2
  · exact Or.inr ⟨g, cap, cur, e1, Nat.le_trans hb e2, e3⟩
end Go.Proofs.YtkebflllbphkkaaDoor
namespace Go.Proofs.YtkebflllbphkkaaDoor
open Go.RowKit

set_option maxHeartbeats 4000000 in
set_option maxRecDepth 100000 in
theorem token_any (t : ByteArray) (v : Value) (l : List Cr) (w : World) (hn : t.size ≤ maxLen) (h : CS w v l) (ht : ∀ c ∈ l, c.text.size ≤ maxLen) (hlm : l.length ≤ 1000000000000000) (hv : FV w) :
    Calls Tryd.prog 32 #[.string t, v] w fun e w' => Ans w w' e (tokL t l) (tokE t l) := by
  have hn2 := hn
  unfold maxLen at hn2
  by_cases hb : 4096 < t.size
  · have e1 : tokE t l = 3 := by unfold tokE; rw [if_pos hb]
    have e2 : tokL t l = [] := by unfold tokL; rw [e1]; rfl
    rw [e1]
    have AN : Hid (∀ w', Below w.heap.size w w' → Ans w w' (.returned (.tuple #[.slice none 0 0, .int .i64 3])) (tokL t l) 3) := fun w' b => ans_nil e2 b
    clear h hv ht
    go_enter Tryd.func32, Tryd.ntmps32
    go_wp2
    go_ret2
    exact AN.out _ (Below.refl _ _)
  · have e1 : tokE t l = gaE [l] := by unfold tokE; rw [if_neg hb]
    rw [e1]
    obtain ⟨pu, cu, rfl⟩ := h.form
    have GA : Hid (∀ w2, w2 = w.alloc (.cells #[.slice pu l.length cu] 30) → Calls Tryd.prog 48 #[.slice (some ⟨w.heap.size, 0, none⟩) 1 1] w2 fun e w' => ∃ p cap, e = .returned (.tuple #[.slice p (gaL [l]).length cap, .int .i64 (gaE [l])]) ∧ FS w' (.slice p (gaL [l]).length cap) (gaL [l]) ∧ Below w.heap.size w w') := fun w2 e => by
      have b2 : Below w.heap.size w w2 := e ▸ (Below.refl _ _).alloc (Nat.le_refl _) _
      refine (gather_any w2 _ [l] (fs_one (h.below b2) _ e) (fun x hx => by simp at hx; subst hx; exact ht) (fun x hx => by simp at hx; subst hx; exact hlm) (by simp) (hv.below b2)).mono ?_
      rintro e w' ⟨p, cap, rfl, ho, hb⟩
      exact ⟨p, cap, rfl, ho, b2.trans (hb.mono b2.size)⟩
    have hnb : ¬ ((4096 : Int) < (t.size : Int)) := by omega
    by_cases hc : gaE [l] = 0
    · have e2 : tokL t l = arL 8 t (gaL [l]) := by unfold tokL gaL; rw [e1, if_pos hc, if_pos hc]
      have hok : ∀ x ∈ gaL [l], x.length ≤ 1024 := fun x hx => by
        unfold gaL at hx; rw [if_pos hc] at hx
        exact (chk_ok (gaE_ok hc x hx).2).1
      have hll : (gaL [l]).length ≤ 4096 := by
        unfold gaL; rw [if_pos hc]; have := neL_len [l]; simp at this; omega
      rw [e2, hc]
      rw [hc] at GA
      have AR : Hid (∀ w2 v', FS w2 v' (gaL [l]) → _) := fun w2 v' fs => around_any 8 t w2 v' (gaL [l]) fs hok hll
      generalize arL 8 t (gaL [l]) = R at *
      generalize gaL [l] = G at *
      clear h hv ht
      go_enter Tryd.func32, Tryd.ntmps32
      go_wp2_with (first | (go_at_call 48; refine (GA.out _ rfl).mono ?_; rintro e w2 ⟨p2, c2, rfl, ho2, hb2⟩; have O2 : Hid (FS w2 (.slice p2 G.length c2) G) := ho2; have B2 : Hid (Below w.heap.size w w2) := hb2; clear ho2 hb2) | (go_at_call 49; refine (AR.out w2 _ O2.out).mono ?_; rintro e w3 ⟨p3, c3, rfl, ho3, hb3⟩))
      go_ret2
      exact ⟨p3, c3, rfl, ho3.low B2.out.size, B2.out.trans (hb3.mono B2.out.size)⟩
    · have e2 : tokL t l = [] := by unfold tokL; rw [e1, if_neg hc]
      have AN : Hid (∀ w', Below w.heap.size w w' → Ans w w' (.returned (.tuple #[.slice none 0 0, .int .i64 (gaE [l])])) (tokL t l) (gaE [l])) := fun w' b => ans_nil e2 b
      clear h hv ht
      generalize gaE [l] = c at *
      have h1 : (c == 0) = false := by simpa using hc
      have h2 : (c != 0) = true := by simpa using hc
      go_enter Tryd.func32, Tryd.ntmps32
      go_wp2_with (go_at_call 48; refine (GA.out _ rfl).mono ?_; rintro e w2 ⟨p2, c2, rfl, ho2, hb2⟩)
      go_ret2
      exact AN.out _ hb2
end Go.Proofs.YtkebflllbphkkaaDoor
