/- sort.breakPatterns over a queue's address: some elements change places. -/
import Derived.Test.YteiadigafkollaaSt3b
import Derived.Test.YteiadigafkollaaShelf
import Derived.Sort.Walk7
import Derived.Shelf.SlSortFunc.Xorshift
namespace Go.Proofs.Yteiadigafkollaa
open Go.RowKit Go.Sort Go.Shelf Go.Lib

theorem Keep.alloc {X : Nat} {a b : World} (h : Keep X a b) (o : Obj) : Keep X a (b.alloc o) :=
  h.trans ⟨rfl, rfl, rfl, by show b.heap.size ≤ (b.heap.push o).size; simp, fun k hk _ => Below.heap_alloc b o k hk⟩
theorem Keep.setNew {X : Nat} {a b : World} (h : Keep X a b) {p : Addr} (hp : a.heap.size ≤ p.block) (u : Value) : Keep X a (b.setCell p u) :=
  ⟨h.os, h.tape, h.output, by simpa [World.setCell] using h.size, fun k hk hx => (Below.heap_setCell b p u k (by omega)).trans (h.block k hk hx)⟩
theorem Keep.mono_below {X : Nat} {a b c : World} (h : Keep X a b) (k : Below b.heap.size b c) : Keep X a c :=
  h.trans ⟨k.os, k.tape, k.output, k.size, fun i hi _ => k.block i hi⟩
/-- A queue, and beside it the numbers drawn. -/
structure QR (w : World) (qb qo X cap : Nat) (d : Array Tm) (B R : Nat) : Prop where
  q : QAt w qb qo X cap d
  box : w.cell? ⟨B, 0, none⟩ = some (.int .u64 R)
  free : w.frozen? ⟨B, 0, none⟩ = false
  neq : B ≠ qb
  nex : B ≠ X
  lt : R < 18446744073709551616
theorem QR.next {w : World} {qb qo X cap : Nat} {d : Array Tm} {B R : Nat} (h : QR w qb qo X cap d B R) (S : Nat) (hS : S < 18446744073709551616) : QR ((w.setCell ⟨B, 0, none⟩ (.int .u64 S)).drewN 3) qb qo X cap d B S := by
  have b1 : ∀ k, k ≠ B → (w.setCell ⟨B, 0, none⟩ (.int .u64 S)).heap[k]? = w.heap[k]? := fun k hk => Below.heap_setCell _ _ _ _ hk
  refine ⟨QAt.drewN ⟨?_, ?_, h.q.row.keep (b1 X (fun e => h.nex e.symm)), h.q.ne, ?_⟩ 3, World.cell?_setCell_same _ _ _ h.box, ?_, h.neq, h.nex, hS⟩
  · rw [World.cell?_of_block (w := w) (b1 qb (fun e => h.neq e.symm))]; exact h.q.head
  · rw [World.frozen?_setCell]; exact h.q.free
  · simpa [World.setCell] using h.q.lt
  · show (w.setCell ⟨B, 0, none⟩ (.int .u64 S)).frozen? _ = false
    rw [World.frozen?_setCell]; exact h.free
theorem QR.swapped {w w' : World} {qb qo X cap : Nat} {d d' : Array Tm} {B R : Nat} (h : QR w qb qo X cap d B R) (hB : B < w.heap.size) (q : QAt w' qb qo X cap d') (k : Keep X w w') : QR w' qb qo X cap d' B R :=
  ⟨q, (k.cell (p := ⟨B, 0, none⟩) hB h.nex).trans h.box, (k.frozen (p := ⟨B, 0, none⟩) hB h.nex).trans h.free, h.neq, h.nex, h.lt⟩
theorem QAt.random {w : World} {qb qo X cap : Nat} {d : Array Tm} (h : QAt w qb qo X cap d) (n : Nat) (hn : n < 18446744073709551616) (t : TypeId) : QR (w.alloc (.cells #[.int .u64 n] t)) qb qo X cap d w.heap.size n := by
  refine ⟨h.alloc _, ?_, by simp, ?_, ?_, hn⟩
  · rw [cell_of_row _ _ _ _ _ _ (heap_alloc_new w _)]; rfl
  · have := h.lt; omega
  · have := h.row.lt; omega

set_option maxHeartbeats 8000000 in
set_option maxRecDepth 100000 in
theorem break_q (w : World) (qb qo X cap : Nat) (d : Array Tm) (h : QAt w qb qo X cap d) (a L : Nat) (h8 : 8 ≤ L) (hb : a + L ≤ d.size) (hm : d.size ≤ 1000000000000) (x y : Int) (hx : x = a) (hy : y = (a : Int) + L) :
    Calls Try.prog 59 #[.iface 74 (.pointer (some ⟨qb, qo, none⟩)), .int .i64 x, .int .i64 y] w fun e w' => e = .returned (.tuple #[]) ∧ ∃ d', PermIn a (a + L) d d' ∧ QAt w' qb qo X cap d' ∧ Keep X w w' := by
  subst hx hy
  obtain ⟨M, hM⟩ : ∃ M : Nat, M = 1 <<< bitsLen L := ⟨_, rfl⟩
  have hM1 : 1 ≤ M := by rw [hM, Nat.one_shiftLeft]; exact Nat.two_pow_pos _
  have hM2 : M ≤ 2 * L := by rw [hM, Nat.one_shiftLeft]; exact two_pow_bitsLen_le (by omega)
  have NP : ∀ w, Calls Try.prog 69 #[.int .i64 (L : Int)] w fun e w' => e = .returned (.int .u64 (M : Int)) ∧ w' = w := by rw [hM]; exact fun w => Try.nextPowerOfTwo L (by omega) w
  clear hM
  have HR : Hid (QR (w.alloc (.cells #[.int .u64 (L : Nat)] 109)) qb qo X cap d w.heap.size L) := h.random L (by omega) _
  have HK0 : Hid (Keep X w (w.alloc (.cells #[.int .u64 (L : Nat)] 109))) := (Keep.refl X w).alloc _
  have hLz : ((a : Int) + (L : Int) - (a : Int)) = (L : Int) := by omega
  have h8z : (8 : Int) ≤ (L : Int) := by omega
  have eS := ent_swap
  clear h
  go_enter Try.func59, Try.ntmps59
  go_wp2_with (first | (go_at_call 69; refine (NP _).mono ?_; rintro e w' ⟨rfl, rfl⟩))
  go_loopw [9] (fun vi wr => ∃ (t R : Nat) (dk : Array Tm), vi = .int .i64 ((a : Int) + (L : Int) / 4 * 2 - 1 + (t : Int)) ∧ t ≤ 3 ∧ dk.size = d.size ∧ Hid (QR wr qb qo X cap dk w.heap.size R) ∧ Hid (Keep X w wr) ∧ w.heap.size < wr.heap.size ∧ Hid (PermIn a (a + L) d dk)) (fun vi _ => ((a : Int) + (L : Int) / 4 * 2 + 2 - intOf vi).toNat)
  case atStart => exact ⟨0, L, d, by simp, by omega, rfl, HR, HK0, by simp, permIn_refl _ _ _⟩
  case round =>
    obtain ⟨t, R, dk, rfl, ht, hs, Q, W, hBl, P⟩ := hrel
    rename_i wr
    by_cases ht3 : t < 3
    · have hle : (a : Int) + (L : Int) / 4 * 2 - 1 + (t : Int) ≤ (a : Int) + (L : Int) / 4 * 2 + 1 := by omega
      obtain ⟨S, hS⟩ : ∃ S : Nat, S = xorNextN R := ⟨_, rfl⟩
      have lS : S < 18446744073709551616 := by rw [hS]; exact xorNextN_lt R Q.out.lt
      obtain ⟨O, hO⟩ : ∃ O : Nat, O = S &&& (M - 1) := ⟨_, rfl⟩
      have lO : O ≤ M - 1 := by rw [hO]; exact Nat.and_le_right
      have eAnd : bits .and .u64 (S : Int) ((M : Int) - 1) = (O : Int) := by
        rw [show ((M : Int) - 1) = ((M - 1 : Nat) : Int) by omega, bits_and_u64_nat _ _ lS (by omega), hO]
      have NX : Calls Try.prog 70 #[.pointer (some ⟨w.heap.size, 0, none⟩)] wr fun e w' => e = .returned (.int .u64 (S : Int)) ∧ w' = (wr.setCell ⟨w.heap.size, 0, none⟩ (.int .u64 (S : Int))).drewN 3 := by
        rw [hS]; exact Try.xorshift_Next _ _ R Q.out.lt wr Q.out.box Q.out.free
      have Q2 : Hid _ := Q.out.next S lS
      have W2 : Hid (Keep X w ((wr.setCell ⟨w.heap.size, 0, none⟩ (.int .u64 (S : Int))).drewN 3)) := (W.out.setNew (p := ⟨w.heap.size, 0, none⟩) (Nat.le_refl _) _).drewN 3
      have hB2 : w.heap.size < ((wr.setCell ⟨w.heap.size, 0, none⟩ (.int .u64 (S : Int))).drewN 3).heap.size := by simpa [World.setCell, World.drewN] using hBl
      generalize (wr.setCell ⟨w.heap.size, 0, none⟩ (.int .u64 (S : Int))).drewN 3 = w2 at NX Q2 W2 hB2
      clear hS hO Q W hBl
      have mS := inv_swap Q2.out.q.head
      simp only [hs] at mS
      have SW : ∀ (o : Nat), o < L → ∀ (u v : Int), u = (a : Int) + (L : Int) / 4 * 2 - 1 + (t : Int) → v = (a : Int) + o → Calls Try.prog 93 #[.slice (some ⟨X, 0, none⟩) d.size cap, .int .i64 u, .int .i64 v] w2 fun e w' => e = .returned (.tuple #[]) ∧ ∃ d2, d2.size = d.size ∧ Hid (QR w' qb qo X cap d2 w.heap.size S) ∧ Hid (Keep X w w') ∧ w.heap.size < w'.heap.size ∧ Hid (PermIn a (a + L) d d2) := fun o ho u v hu hv =>
        (Q2.out.q.swapC hs (a + L / 4 * 2 - 1 + t) (a + o) (by omega) (by omega) (x := u) (y := v) (by omega) (by omega)).mono fun e w' ⟨he, q, k⟩ =>
          ⟨he, _, by rw [size_swp]; exact hs, Q2.out.swapped hB2 q k, W2.out.trans k, Nat.lt_of_lt_of_le hB2 k.size, permIn_trans _ _ _ _ _ P.out (swp_permIn dk a (a + L) _ _ (by omega) (by omega) (by omega) (by omega) (by omega))⟩
      by_cases hLO : (L : Int) ≤ (O : Int)
      · go_wp2_with (first | (go_at_call 70; refine NX.mono ?_; rintro e w' ⟨rfl, rfl⟩) | (go_at_fn 93; refine (SW (O - L) (by omega) _ _ rfl (by omega)).mono ?_; rintro e w3 ⟨rfl, d2, hs2, Q3, W3, hB3, P3⟩))
        go_roundw
        case rel => exact ⟨t + 1, S, d2, by congr 1; omega, by omega, hs2, Q3, W3, hB3, P3⟩
        case measure => simp [intOf]; omega
      · go_wp2_with (first | (go_at_call 70; refine NX.mono ?_; rintro e w' ⟨rfl, rfl⟩) | (go_at_fn 93; refine (SW O (by omega) _ _ rfl (by omega)).mono ?_; rintro e w3 ⟨rfl, d2, hs2, Q3, W3, hB3, P3⟩))
        go_roundw
        case rel => exact ⟨t + 1, S, d2, by congr 1; omega, by omega, hs2, Q3, W3, hB3, P3⟩
        case measure => simp [intOf]; omega
    · have hle : ¬ (a : Int) + (L : Int) / 4 * 2 - 1 + (t : Int) ≤ (a : Int) + (L : Int) / 4 * 2 + 1 := by omega
      go_wp2
      go_end0
      exact ⟨rfl, dk, P.out, Q.out.q, W.out⟩
end Go.Proofs.Yteiadigafkollaa
