/- Tokens: a token that is being made, in memory; all places of another. -/
import Derived.Test.YtkebflllbphkkaaDoorTb1
import Derived.Test.YtkebflllbphkkaaDoorTp1
import Derived.BigRegion
import Derived.BigQuiet
import Derived.Deep.QuietTactic
import Derived.Deep.RegionWith
import Derived.Laws.Bits64b
namespace Go.Proofs.YtkebflllbphkkaaDoor
open Go.RowKit

theorem pow_lt {r : Nat} (hr : r < 64) : 2 ^ r < 18446744073709551616 := Nat.pow_lt_pow_right (by omega) (show r < 64 from hr)
theorem wrap_bit {r : Nat} (hr : r < 64) : IntKind.u64.wrap (2 ^ r) = ((2 ^ r : Nat) : Int) := by
  have h := pow_lt hr
  have e : ((2 : Int) ^ r) = ((2 ^ r : Nat) : Int) := by push_cast; rfl
  rw [e]
  rw [IntKind.wrap_u64]
  generalize 2 ^ r = z at *
  omega
theorem and_pow (x r : Nat) : (x &&& 2 ^ r = 0) ↔ x.testBit r = false := by
  constructor
  · intro h
    have := Nat.testBit_and x (2 ^ r) r
    rw [h, Nat.testBit_two_pow_self] at this
    simpa using this.symm
  · intro h
    refine Nat.eq_of_testBit_eq (fun i => ?_)
    rw [Nat.testBit_and, Nat.testBit_two_pow]
    by_cases e : r = i
    · subst e; simp [h]
    · simp [e]
theorem and_bit {x r : Nat} (hx : x < 18446744073709551616) (hr : r < 64) : (bits BinOp.and IntKind.u64 (↑x) (IntKind.u64.wrap (2 ^ r)) != 0) = x.testBit r := by
  rw [wrap_bit hr, bits_and_u64_nat x (2 ^ r) hx (pow_lt hr)]
  have k := and_pow x r
  generalize x &&& 2 ^ r = z at *
  cases hb : x.testBit r with
  | false => rw [hb] at k; have := k.2 rfl; subst this; rfl
  | true =>
    have hz : ¬ z = 0 := fun q => by rw [k.1 q] at hb; cases hb
    simp; omega
theorem or_bit {x r : Nat} (hx : x < 18446744073709551616) (hr : r < 64) : bits BinOp.or IntKind.u64 (↑x) (IntKind.u64.wrap (2 ^ r)) = ((x ||| 2 ^ r : Nat) : Int) := by
  rw [wrap_bit hr, bits_or_u64_nat x (2 ^ r) hx (pow_lt hr)]
/-- Four words lie there. -/
def AB (w : World) (X o : Nat) (ab : Nat → Nat) : Prop := ∀ k, k < 4 → w.cell? ⟨X, o + k, none⟩ = some (.int .u64 (ab k))
set_option maxHeartbeats 4000000 in
theorem has_any (X o p : Nat) (ab : Nat → Nat) (w : World) (h : AB w X o ab) (hp : p < 256) (hw : ∀ k, ab k < 18446744073709551616) :
    Calls Tryd.prog 58 #[.pointer (some ⟨X, o, none⟩), .int .i64 p] w fun e w' => e = .returned (.bool (hasW ab p)) ∧ ∃ n, w' = w.drewN n := by
  have hq : p / 64 < 4 := by omega
  have hc := h (p / 64) hq
  have hwp := hw (p / 64)
  have hr : p % 64 < 64 := Nat.mod_lt _ (by omega)
  have H : Hid (hasW ab p = (ab (p / 64)).testBit (p % 64)) := rfl
  obtain ⟨q, hqd⟩ : ∃ q, q = p / 64 := ⟨_, rfl⟩
  obtain ⟨r, hrd⟩ : ∃ r, r = p % 64 := ⟨_, rfl⟩
  rw [← hqd] at hq hc hwp H
  rw [← hrd] at hr H
  have e1 : (p : Int) / 64 = (q : Int) := by omega
  have e2 : (p : Int) % 64 = (r : Int) := by omega
  generalize hasW ab p = R at *
  clear h hw hqd hrd
  generalize ab q = x at *
  go_enter Tryd.func58, Tryd.ntmps58
  go_wp2
  go_quiet (fail)
  rw [and_bit hwp hr]
  go_wp2
  go_ret
  exact ⟨ret_bool H.out.symm, _, rfl⟩
/-- One place more. -/
def addW (ab : Nat → Nat) (p : Nat) : Nat → Nat := fun k => if k = p / 64 then ab k ||| 2 ^ (p % 64) else ab k
def allW (ab cd : Nat → Nat) : Nat → Nat := fun k => ab k ||| cd k
theorem hasW_add (ab : Nat → Nat) (p a : Nat) : hasW (addW ab p) a = (hasW ab a || decide (a = p)) := by
  unfold hasW addW
  by_cases e : a / 64 = p / 64
  · rw [if_pos e, Nat.testBit_or, Nat.testBit_two_pow]
    congr 1
    exact decide_eq_decide.2 (by omega)
  · rw [if_neg e]
    have : ¬ a = p := fun h => e (by rw [h])
    simp [this]
theorem hasW_all (ab cd : Nat → Nat) (a : Nat) : hasW (allW ab cd) a = (hasW ab a || hasW cd a) := by
  unfold hasW allW; rw [Nat.testBit_or]
theorem addW_lt {ab : Nat → Nat} (h : ∀ k, ab k < 18446744073709551616) (p k : Nat) : addW ab p k < 18446744073709551616 := by
  unfold addW
  split
  · exact Nat.or_lt_two_pow (n := 64) (h k) (pow_lt (Nat.mod_lt _ (by omega)))
  · exact h k
theorem allW_lt {ab cd : Nat → Nat} (h : ∀ k, ab k < 18446744073709551616) (h2 : ∀ k, cd k < 18446744073709551616) (k : Nat) : allW ab cd k < 18446744073709551616 := Nat.or_lt_two_pow (n := 64) (h k) (h2 k)
set_option maxHeartbeats 4000000 in
theorem add_any (X o p : Nat) (ab : Nat → Nat) (w : World) (h : AB w X o ab) (hp : p < 256) (hw : ∀ k, ab k < 18446744073709551616) (hf : ∀ j, w.frozen? ⟨X, j, none⟩ = false) :
    Calls Tryd.prog 46 #[.pointer (some ⟨X, o, none⟩), .int .i64 p] w fun e w' => e = .returned (.tuple #[]) ∧ ∃ n, w' = (w.setCell ⟨X, o + p / 64, none⟩ (.int .u64 (addW ab p (p / 64)))).drewN n := by
  have hq : p / 64 < 4 := by omega
  have hc := h (p / 64) hq
  have hwp := hw (p / 64)
  have hr : p % 64 < 64 := Nat.mod_lt _ (by omega)
  have H : Hid (addW ab p (p / 64) = ab (p / 64) ||| 2 ^ (p % 64)) := by show _ = _; unfold addW; rw [if_pos rfl]
  obtain ⟨q, hqd⟩ : ∃ q, q = p / 64 := ⟨_, rfl⟩
  obtain ⟨r, hrd⟩ : ∃ r, r = p % 64 := ⟨_, rfl⟩
  rw [← hqd] at hq hc hwp H ⊢
  rw [← hrd] at hr H
  have e1 : (p : Int) / 64 = (q : Int) := by omega
  have e2 : (p : Int) % 64 = (r : Int) := by omega
  have fz := hf (o + q)
  generalize addW ab p q = R at *
  clear h hw hqd hrd hf
  generalize ab q = x at *
  go_enter Tryd.func46, Tryd.ntmps46
  go_wp2
  go_region
  rw [or_bit hwp hr, ← H.out]
  go_wp2
  go_end0
  exact ⟨rfl, _, rfl⟩
end Go.Proofs.YtkebflllbphkkaaDoor
namespace Go.Proofs.YtkebflllbphkkaaDoor
open Go.RowKit

def ndA (nm : ByteArray) (ab : Nat → Nat) (til : Int) (rk bw : Int) (wv : Value) : Array Value := #[.string nm, .int .u64 (ab 0), .int .u64 (ab 1), .int .u64 (ab 2), .int .u64 (ab 3), .int .i64 til, .int .i64 rk, .int .i64 bw, wv]
/-- A token's cells. -/
def NB (w : World) (X : Nat) (nm : ByteArray) (ab : Nat → Nat) (til : Int) (rk bw : Int) (wv : Value) : Prop := w.heap[X]? = some (.cells (ndA nm ab til rk bw wv) 71)
theorem NB.fz {w : World} {X : Nat} {nm : ByteArray} {ab : Nat → Nat} {til rk bw : Int} {wv : Value} (h : NB w X nm ab til rk bw wv) (j : Nat) : w.frozen? ⟨X, j, none⟩ = false := by
  unfold NB at h; simp [World.frozen?, h]
theorem NB.ab {w : World} {X : Nat} {nm : ByteArray} {ab : Nat → Nat} {til rk bw : Int} {wv : Value} (h : NB w X nm ab til rk bw wv) : AB w X 1 ab := fun k hk => by
  rw [cell_of_row _ _ _ _ _ _ h]
  have : k = 0 ∨ k = 1 ∨ k = 2 ∨ k = 3 := by omega
  rcases this with rfl | rfl | rfl | rfl <;> rfl
theorem NB.set {w : World} {X : Nat} {nm : ByteArray} {ab : Nat → Nat} {til rk bw : Int} {wv : Value} (h : NB w X nm ab til rk bw wv) {q : Nat} (hq : q < 4) (v : Nat) {cd : Nat → Nat} (hc : ∀ k, cd k = if k = q then v else ab k) : NB (w.setCell ⟨X, 1 + q, none⟩ (.int .u64 v)) X nm cd til rk bw wv := by
  unfold NB
  rw [heap_setCell_same w X (1 + q) _ _ _ h]
  have : q = 0 ∨ q = 1 ∨ q = 2 ∨ q = 3 := by omega
  rcases this with rfl | rfl | rfl | rfl <;> simp [ndA, hc]
theorem NB.far {w w' : World} {X : Nat} {nm : ByteArray} {ab : Nat → Nat} {til rk bw : Int} {wv : Value} (h : NB w X nm ab til rk bw wv) (k : w'.heap[X]? = w.heap[X]?) : NB w' X nm ab til rk bw wv := k.trans h
theorem NB.lt {w : World} {X : Nat} {nm : ByteArray} {ab : Nat → Nat} {til rk bw : Int} {wv : Value} (h : NB w X nm ab til rk bw wv) : X < w.heap.size := by
  unfold NB at h
  by_cases hx : X < w.heap.size
  · exact hx
  · rw [Array.getElem?_eq_none (by omega)] at h; cases h
def mixW (ab cd : Nat → Nat) (k : Nat) : Nat → Nat := fun j => if j < k then ab j ||| cd j else ab j
theorem mixW_next (ab cd : Nat → Nat) (k j : Nat) : mixW ab cd (k + 1) j = if j = k then ab k ||| cd k else mixW ab cd k j := by
  unfold mixW
  by_cases e : j = k
  · subst e; rw [if_pos (by omega), if_pos rfl]
  · rw [if_neg e]
    by_cases h : j < k
    · rw [if_pos h, if_pos (by omega)]
    · rw [if_neg h, if_neg (by omega)]
theorem mixW_at (ab cd : Nat → Nat) (k : Nat) : mixW ab cd k k = ab k := by unfold mixW; rw [if_neg (by omega)]
theorem NB.mix {w : World} {X : Nat} {nm : ByteArray} {ab cd : Nat → Nat} {til rk bw : Int} {wv : Value} (h : NB w X nm (mixW ab cd 4) til rk bw wv) : NB w X nm (allW ab cd) til rk bw wv := by
  unfold NB at h ⊢
  rw [h]; rfl
theorem run_index_plain {P : Program} (t e : TypeId) (n : Nat) (cs : Array Value) (k : Nat) (v : Value) (w : World) (hu : P.underlying t = some (.array n e)) (he : P.underlying e = some (.int .u64))
    (hi : (P.info? e).map (·.size) = some 1) (hk : k < n) (hc : cs[k]? = some v) : (Instr.index t (.agg cs) (.int .i64 k)).run P w = .ok v w := by
  cases hq : P.info? e with
  | none => simp [hq] at hi
  | some i =>
    have hs : i.size = 1 := by simpa [hq] using hi
    have hagg : (isAgg e).run P w = .ok false w := by
      unfold isAgg
      rw [Sem.run_bind, run_underlying he w]
      simp
    have h1 : (0 : Int) ≤ (k : Int) ∧ (k : Int) < (n : Int) := by omega
    simp only [Instr.index, asIntOf, Sem.run_bind, Sem.run_pure, Result.andThen_ok, run_underlying hu w]
    simp [h1, sizeOf, typeInfo, Sem.run_bind, hq, hs, part, hagg, hc]
set_option maxHeartbeats 8000000 in
set_option maxRecDepth 100000 in
theorem addAll_any (base X : Nat) (nm : ByteArray) (ab cd : Nat → Nat) (til rk bw : Int) (wv : Value) (w : World) (h : NB w X nm ab til rk bw wv) (hX : base ≤ X) (h1 : ∀ k, ab k < 18446744073709551616) (h2 : ∀ k, cd k < 18446744073709551616) :
    Calls Tryd.prog 47 #[.pointer (some ⟨X, 1, none⟩), .agg #[.int .u64 (cd 0), .int .u64 (cd 1), .int .u64 (cd 2), .int .u64 (cd 3)]] w fun e w' => e = .returned (.tuple #[]) ∧ NB w' X nm (allW ab cd) til rk bw wv ∧ Below base w w' := by
  have hlt := h.lt
  have A0 : Hid (NB (w.alloc (.cells #[.int .u64 (cd 0), .int .u64 (cd 1), .int .u64 (cd 2), .int .u64 (cd 3)] 69)) X nm (mixW ab cd 0) til rk bw wv ∧ Below base w (w.alloc (.cells #[.int .u64 (cd 0), .int .u64 (cd 1), .int .u64 (cd 2), .int .u64 (cd 3)] 69))) := ⟨h.far (Below.heap_alloc w _ X hlt), (Below.refl _ _).alloc (by omega) _⟩
  have H1 : Hid (∀ k, ab k < 18446744073709551616) := h1
  have H2 : Hid (∀ k, cd k < 18446744073709551616) := h2
  clear h h1 h2
  go_enter Tryd.func47, Tryd.ntmps47
  go_wp2
  go_loopw [7] (fun v7 wr => ∃ (k : Nat) (wk : World), v7 = .int .i64 k ∧ wk = wr ∧ k ≤ 4 ∧ Hid (NB wk X nm (mixW ab cd k) til rk bw wv ∧ Below base w wk)) (fun v7 _ => 4 - (intOf v7).toNat)
  case atStart => exact ⟨0, _, rfl, rfl, by omega, A0⟩
  case round =>
    obtain ⟨k, wr, rfl, rfl, hk, HS⟩ := hrel
    clear A0
    by_cases hlt4 : k < 4
    · have hc := HS.out.1.ab k hlt4
      rw [mixW_at] at hc
      have fz := HS.out.1.fz (1 + k)
      have N1 : Hid (NB (wr.setCell ⟨X, 1 + k, none⟩ (.int .u64 ((ab k ||| cd k : Nat) : Int))) X nm (mixW ab cd (k + 1)) til rk bw wv ∧ Below base w (wr.setCell ⟨X, 1 + k, none⟩ (.int .u64 ((ab k ||| cd k : Nat) : Int)))) := ⟨HS.out.1.set hlt4 _ (mixW_next ab cd k), HS.out.2.setCell (p := ⟨X, 1 + k, none⟩) hX _⟩
      have OB : Hid (bits BinOp.or IntKind.u64 (↑(ab k)) (↑(cd k)) = ((ab k ||| cd k : Nat) : Int)) := bits_or_u64_nat _ _ (H1.out k) (H2.out k)
      clear HS
      have IX : ∀ w', (Instr.index 69 (.agg #[.int .u64 (cd 0), .int .u64 (cd 1), .int .u64 (cd 2), .int .u64 (cd 3)]) (.int .i64 k)).run Tryd.prog w' = .ok (.int .u64 (cd k)) w' := fun w' => by
        refine run_index_plain 69 67 4 _ k _ w' Tryd.underlying69 Tryd.underlying67 (by kernel_rfl) hlt4 ?_
        have : k = 0 ∨ k = 1 ∨ k = 2 ∨ k = 3 := by omega
        rcases this with rfl | rfl | rfl | rfl <;> rfl
      go_wp2
      go_region
      rw [OB.out]
      go_wp2
      go_roundw
      case rel => exact ⟨k + 1, _, by go_num, rfl, by omega, ⟨N1.out.1.far rfl, N1.out.2.drew⟩⟩
      case measure => simp [intOf]; omega
    · obtain rfl : k = 4 := by omega
      go_wp2
      go_end0
      exact ⟨rfl, HS.out.1.mix, HS.out.2⟩
end Go.Proofs.YtkebflllbphkkaaDoor
