/- Tokens: Limit. -/
import Derived.Test.YtkebflllbphkkaaDoorTh2
namespace Go.Proofs.YtkebflllbphkkaaDoor
open Go.RowKit

/-- The least deadline of a token and of those that it hangs on, among the first. -/
def limT (T : Tr) (p : Nat) : Nat → Int
  | 0 => (T.n p).til
  | k + 1 => if T.up p k = true then min (limT T p k) (T.n k).til else limT T p k
theorem limT_le (T : Tr) (p : Nat) (x : Int) : ∀ k, limT T p k ≤ x ↔ (T.n p).til ≤ x ∨ ∃ q, q < k ∧ T.up p q = true ∧ (T.n q).til ≤ x
  | 0 => by
    show (T.n p).til ≤ x ↔ _
    constructor
    · exact Or.inl
    · rintro (h | ⟨q, h, _⟩)
      · exact h
      · omega
  | k + 1 => by
    have ih := limT_le T p x k
    show (if T.up p k = true then min (limT T p k) (T.n k).til else limT T p k) ≤ x ↔ _
    by_cases hu : T.up p k = true
    · rw [if_pos hu, show (min (limT T p k) (T.n k).til ≤ x ↔ limT T p k ≤ x ∨ (T.n k).til ≤ x) by omega, ih]
      constructor
      · rintro ((h | ⟨q, h1, h2⟩) | h)
        · exact Or.inl h
        · exact Or.inr ⟨q, by omega, h2⟩
        · exact Or.inr ⟨k, by omega, hu, h⟩
      · rintro (h | ⟨q, h1, h2, h3⟩)
        · exact Or.inl (Or.inl h)
        · by_cases e : q = k
          · subst e; exact Or.inr h3
          · exact Or.inl (Or.inr ⟨q, by omega, h2, h3⟩)
    · rw [if_neg hu, ih]
      constructor
      · rintro (h | ⟨q, h1, h2⟩)
        · exact Or.inl h
        · exact Or.inr ⟨q, by omega, h2⟩
      · rintro (h | ⟨q, h1, h2, h3⟩)
        · exact Or.inl h
        · by_cases e : q = k
          · subst e; exact absurd h2 hu
          · exact Or.inr ⟨q, by omega, h2, h3⟩
theorem limT_bd {T : Tr} (h : ∀ q, q < T.ns.length → 0 ≤ (T.n q).til ∧ (T.n q).til ≤ 1099511627777) {p : Nat} (hp : p < T.ns.length) : ∀ k, k ≤ p → 0 ≤ limT T p k ∧ limT T p k ≤ 1099511627777
  | 0, _ => h p hp
  | k + 1, hk => by
    have ih := limT_bd h hp k (by omega)
    have h1 := h k (by omega)
    show 0 ≤ (if T.up p k = true then min (limT T p k) (T.n k).til else limT T p k) ∧ (if T.up p k = true then min (limT T p k) (T.n k).til else limT T p k) ≤ _
    split
    · omega
    · exact ih
set_option maxHeartbeats 4000000 in
theorem lim1_any (w : World) (b cb mb : Nat) (nv ov : Value) (L : List NM) (T : Tr) (h : TX w b cb mb nv ov L T) (B1 B2 a : Nat) (x : Int) (h1 : w.heap[B1]? = some (.cells #[.int .i64 x] 3)) (h2 : w.cell? ⟨B2, 0, none⟩ = some (.pointer (some ⟨b, 0, none⟩))) (ha : a < T.ns.length) :
    Calls Tryd.prog 42 #[.int .i64 a, .pointer (some ⟨B1, 0, none⟩), .pointer (some ⟨B2, 0, none⟩)] w fun e w' => e = .returned (.tuple #[]) ∧ w' = (w.setCell ⟨B1, 0, none⟩ (.int .i64 (min x (T.n a).til))).drew := by
  obtain ⟨c0, c1, c2, c3⟩ := h.cells
  obtain ⟨X, cap, hnv, hcap, hX, fz, n0, n1, n5, n6, n7, wp, wc, n8, ow⟩ := h.nd ha
  rw [hnv] at c1
  have hnl := h.nl
  have d1 : w.cell? ⟨B1, 0, none⟩ = some (.int .i64 x) := by rw [cell_of_row _ _ _ _ _ _ h1]; rfl
  have f1 : w.frozen? ⟨B1, 0, none⟩ = false := by simp [World.frozen?, h1]
  generalize (T.n a).til = ta at *
  generalize T.ns.length = N at *
  clear h n0 n1 n6 n7 n8 ow c0 c2 c3 fz hnv h1
  go_enter Tryd.func42, Tryd.ntmps42
  go_wp2
  go_region
  all_goals go_wp2
  all_goals
    go_end0
    refine ⟨rfl, ?_⟩
    first | rfl | (congr 3; omega)
/-- The cell of the least deadline. -/
theorem lim_keep {w w' : World} {b cb mb : Nat} {nv ov : Value} {L : List NM} {T : Tr} (h : TX w b cb mb nv ov L T) {B1 : Nat} {o : Array Value} (h1 : w.heap[B1]? = some (.cells o 3)) (k : But (fun x => x = B1) w w') (f1 : ¬ fp b cb mb nv ov B1) : TX w' b cb mb nv ov L T :=
  h.keep k (fun x hx => by subst hx; exact ⟨_, h1, Or.inr (Or.inr (Or.inr rfl))⟩) (fun x hx e => by subst e; exact f1 hx)
set_option maxHeartbeats 8000000 in
set_option maxRecDepth 100000 in
theorem above_any (w : World) (b cb mb : Nat) (nv ov : Value) (L : List NM) (T : Tr) (h : TX w b cb mb nv ov L T) (B1 B2 p : Nat) (h1 : w.heap[B1]? = some (.cells #[.int .i64 (T.n p).til] 3)) (h2 : w.cell? ⟨B2, 0, none⟩ = some (.pointer (some ⟨b, 0, none⟩))) (hp : p < T.ns.length) (f1 : ¬ fp b cb mb nv ov B1) (hne : B2 ≠ B1) :
    Calls Tryd.prog 41 #[.pointer (some ⟨b, 0, none⟩), .int .i64 p, .func (.func 42) #[] #[.pointer (some ⟨B1, 0, none⟩), .pointer (some ⟨B2, 0, none⟩)]] w fun e w' => e = .returned (.tuple #[]) ∧ w'.heap[B1]? = some (.cells #[.int .i64 (limT T p p)] 3) ∧ But (fun x => x = B1) w w' := by
  have hnl := h.nl
  have H := hid h
  have H1 := hid h1
  have S0 : Hid (w.heap[B1]? = some (.cells #[.int .i64 (limT T p 0)] 3) ∧ But (fun x => x = B1) w w) := ⟨h1, But.refl _ _⟩
  have B2C : Hid (∀ wk, But (fun x => x = B1) w wk → wk.cell? ⟨B2, 0, none⟩ = some (.pointer (some ⟨b, 0, none⟩))) := fun wk k => (World.cell?_of_block (w := w) (a := ⟨B2, 0, none⟩) (k.block B2 (block_lt_of_cell h2) hne)).trans h2
  clear h h1 h2 hne
  go_enter Tryd.func41, Tryd.ntmps41
  go_wp2
  go_loopw [8] (fun i wr => ∃ (k : Nat) (wk : World), k ≤ p ∧ i = .int .i64 k ∧ wk = wr ∧ Hid (wk.heap[B1]? = some (.cells #[.int .i64 (limT T p k)] 3) ∧ But (fun x => x = B1) w wk)) (fun i _ => p - (intOf i).toNat)
  case atStart => exact ⟨0, w, Nat.zero_le _, rfl, rfl, S0⟩
  case round =>
    obtain ⟨k, wr, hk, rfl, rfl, HR⟩ := hrel
    clear S0
    obtain ⟨r1, r2⟩ := HR.out
    have t1 := lim_keep H.out H1.out r2 f1
    obtain ⟨c0, c1, c2, c3⟩ := t1.cells
    by_cases hlt : k < p
    · obtain ⟨X, cap, hnv2, hcap, hX, fz, n0, n1, n5, n6, n7, wp, wc, n8, ow⟩ := t1.nd hp
      rw [hnv2] at c1
      have HA := hid (has_any X (p * 9 + 1) k (T.n p).ab wr n1 (by omega) (fun j => t1.wd p j hp))
      cases hu : hasW (T.n p).ab k with
      | false =>
        rw [hu] at HA
        have FIN : Hid (∀ n, (wr.drewN n).heap[B1]? = some (.cells #[.int .i64 (limT T p (k + 1))] 3) ∧ But (fun x => x = B1) w (wr.drewN n)) := fun n => by
          have e : limT T p (k + 1) = limT T p k := by
            show (if T.up p k = true then min (limT T p k) (T.n k).til else limT T p k) = _
            rw [if_neg]
            unfold Tr.up
            rw [hu]; simp
          rw [e]
          exact ⟨r1, r2.drewN n⟩
        clear t1 r1 r2 n0 n1 n5 n6 n7 n8 ow fz HR hu hnv2 c0 c2 c3
        generalize T.ns.length = N at *
        go_wp2_with (go_at_call 58; refine HA.out.mono ?_; rintro e w2 ⟨rfl, nq, hw2⟩; subst w2)
        go_roundw
        case rel => exact ⟨k + 1, _, by omega, by go_num, rfl, FIN.out nq⟩
        case measure => simp [intOf]; omega
      | true =>
        rw [hu] at HA
        have CC : Hid (∀ n, Calls Tryd.prog 42 #[.int .i64 k, .pointer (some ⟨B1, 0, none⟩), .pointer (some ⟨B2, 0, none⟩)] (wr.drewN n) fun e w' => e = .returned (.tuple #[]) ∧ w'.heap[B1]? = some (.cells #[.int .i64 (limT T p (k + 1))] 3) ∧ But (fun x => x = B1) w w') := fun n => by
          have q := lim1_any (wr.drewN n) b cb mb nv ov L T (t1.drewN n) B1 B2 k (limT T p k) r1 (B2C.out _ (r2.drewN n)) (by omega)
          refine q.mono ?_
          rintro e' w' ⟨rfl, rfl⟩
          have e : limT T p (k + 1) = min (limT T p k) (T.n k).til := by
            show (if T.up p k = true then min (limT T p k) (T.n k).til else limT T p k) = _
            rw [if_pos]
            unfold Tr.up
            rw [hu]
          rw [e]
          refine ⟨rfl, ?_, ((r2.drewN n).trans (But.set B1 0 _) (fun y hy => Or.inl hy)).drew⟩
          exact heap_setCell_same (wr.drewN n) B1 0 _ _ _ r1
        clear t1 r1 r2 n0 n1 n5 n6 n7 n8 ow fz HR hu hnv2 c0 c2 c3
        generalize T.ns.length = N at *
        go_wp2_with (first | (go_at_call 58; refine HA.out.mono ?_; rintro e w2 ⟨rfl, nq, hw2⟩; subst w2) | (go_at_call 42; refine (CC.out nq).mono ?_; rintro e w3 ⟨rfl, hq⟩; have HQ := hid hq; clear hq))
        go_roundw
        case rel => exact ⟨k + 1, _, by omega, by go_num, rfl, HQ⟩
        case measure => simp [intOf]; omega
    · have hkp : k = p := by omega
      have FIN : Hid (wr.heap[B1]? = some (.cells #[.int .i64 (limT T p p)] 3) ∧ But (fun x => x = B1) w wr) := by rw [hkp] at r1; exact ⟨r1, r2⟩
      clear t1 r1 r2 HR c0 c1 c2 c3
      go_wp2
      go_end0
      exact ⟨rfl, FIN.out⟩
end Go.Proofs.YtkebflllbphkkaaDoor
