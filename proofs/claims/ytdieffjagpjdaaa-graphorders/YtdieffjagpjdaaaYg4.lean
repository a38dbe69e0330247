/- Graph: the row beneath the library's heap: Len, Less, Swap. -/
import Derived.Test.YtdieffjagpjdaaaHp1
import Derived.Test.YtdieffjagpjdaaaYd4
import Derived.LaidMore
import Derived.Carry
import Derived.Shelf.Abstract
import Derived.ProofKit
namespace Go.Proofs.Ytdieffjagpjdaaa.Hq
open Go.RowKit Go.Sort Go.Shelf

def nlt (a b : Nat) : Bool := decide (a < b)
theorem nlt_swo : SWO nlt where
  irrefl x := by simp [nlt]
  trans x y z h1 h2 := by simp [nlt] at *; omega
  ntrans x y z h1 h2 := by simp [nlt] at *; omega
theorem drewN_two (w : World) (a b : Nat) : (w.drewN a).drewN b = w.drewN (a + b) := by unfold World.drewN; simp [Nat.add_assoc]
/-- Block X is a row of nodes with room for cap, which holds d. -/
def Row (w : World) (X cap : Nat) (d : Array Nat) : Prop := OwnG KI w X (.slice (some ⟨X, 0, none⟩) d.size cap) (nI d.toList)
theorem get!_list (d : Array Nat) (i : Nat) (h : i < d.size) : d[i]! = d.toList[i]'(by simpa using h) := by rw [getElem!_pos d i h]; simp
theorem Row.cells {w : World} {X cap : Nat} {d : Array Nat} (h : Row w X cap d) {i : Nat} (hi : i < d.size) : w.cell? ⟨X, i, none⟩ = some (.int .i64 (d[i]! : Nat)) := by
  have hl : i < d.toList.length := by simpa using hi
  obtain ⟨Y, o, e, hc⟩ := (OwnG.gs KI_ok.len h).atI (k := i) (by rw [nI_len]; exact hl)
  injection e with e
  injection e with e1 e2 _
  subst e1 e2
  rw [Nat.zero_add, nI_at hl, ← get!_list d i hi] at hc
  exact hc
theorem Row.frozen {w : World} {X cap : Nat} {d : Array Nat} (h : Row w X cap d) (j : Nat) : w.frozen? ⟨X, j, none⟩ = false := own_frozen h j
theorem Row.bound {w : World} {X cap : Nat} {d : Array Nat} (h : Row w X cap d) : d.size ≤ cap ∧ cap ≤ maxLen := by
  obtain ⟨_, h | ⟨g, c, cur, e1, _, _, e2, e3, _⟩⟩ := h
  · cases h.1
  · injection e1 with _ _ e1
    rw [nI_len] at e2
    rw [e1]
    exact ⟨by simpa using e2, e3⟩
theorem Row.lt {w : World} {X cap : Nat} {d : Array Nat} (h : Row w X cap d) : X < w.heap.size := (OwnG.lt h (g := X) rfl).2
theorem Row.keep {w w' : World} {X cap : Nat} {d : Array Nat} (h : Row w X cap d) (hb : w'.heap[X]? = w.heap[X]?) : Row w' X cap d := OwnG.far h fun g hg => by
  injection hg with hg
  have hg : X = g := hg
  rw [← hg]; exact hb
theorem Row.put {w : World} {X cap : Nat} {d : Array Nat} (h : Row w X cap d) (i : Nat) (t : Nat) : Row (w.setCell ⟨X, i, none⟩ (.int .i64 (t : Nat))) X cap (d.setIfInBounds i t) := by
  have := OwnG.set1 rfl KI_ok.len h (k := i) (t : Int) (.int .i64 t) rfl
  unfold Row
  rw [Array.size_setIfInBounds, Array.toList_setIfInBounds]
  have e : nI (d.toList.set i t) = (nI d.toList).set i (t : Int) := by unfold nI; rw [List.map_set]
  rw [e]
  exact this
/-- All but one block stands as it stood. -/
structure Keep (X : Nat) (w w' : World) : Prop where
  os : w'.os = w.os
  tape : w'.tape = w.tape
  output : w'.output = w.output
  size : w.heap.size ≤ w'.heap.size
  block : ∀ k, k < w.heap.size → k ≠ X → w'.heap[k]? = w.heap[k]?
theorem Keep.refl (X : Nat) (w : World) : Keep X w w := ⟨rfl, rfl, rfl, Nat.le_refl _, fun _ _ _ => rfl⟩
theorem Keep.trans {X : Nat} {a b c : World} (h : Keep X a b) (k : Keep X b c) : Keep X a c :=
  ⟨k.os.trans h.os, k.tape.trans h.tape, k.output.trans h.output, Nat.le_trans h.size k.size, fun i hi hx => (k.block i (Nat.lt_of_lt_of_le hi h.size) hx).trans (h.block i hi hx)⟩
theorem Keep.drewN {X : Nat} {a b : World} (h : Keep X a b) (n : Nat) : Keep X a (b.drewN n) := h.trans ⟨rfl, rfl, rfl, Nat.le_refl _, fun _ _ _ => rfl⟩
theorem Keep.put {X : Nat} {a b : World} (h : Keep X a b) (i : Nat) (u : Value) : Keep X a (b.setCell ⟨X, i, none⟩ u) := h.trans ⟨rfl, rfl, rfl, by simp [World.setCell], fun k _ hx => set_far hx⟩
theorem Keep.cell {X : Nat} {w w' : World} (h : Keep X w w') {p : Addr} (hp : p.block < w.heap.size) (hx : p.block ≠ X) : w'.cell? p = w.cell? p := World.cell?_of_block (w := w) (h.block p.block hp hx)
theorem Keep.frozen {X : Nat} {w w' : World} (h : Keep X w w') {p : Addr} (hp : p.block < w.heap.size) (hx : p.block ≠ X) : w'.frozen? p = w.frozen? p := World.frozen?_of_block (w := w) (h.block p.block hp hx)
theorem Keep.but {X : Nat} {w w' : World} (h : Keep X w w') : But (fun x => x = X) w w' := ⟨h.os, h.tape, h.output, h.size, h.block⟩

set_option maxHeartbeats 2000000 in
theorem less_any (w : World) (X cap : Nat) (d : Array Nat) (h : Row w X cap d) (i j : Nat) (hi : i < d.size) (hj : j < d.size) (x y : Int) (hx : x = i) (hy : y = j) :
    Calls Try.prog 136 #[.slice (some ⟨X, 0, none⟩) d.size cap, .int .i64 x, .int .i64 y] w fun e w' => e = .returned (.bool (nlt d[i]! d[j]!)) ∧ ∃ n, w' = w.drewN n := by
  subst hx hy
  have a1 := h.cells hi
  have b1 := h.cells hj
  have hb := h.bound
  unfold maxLen at hb
  obtain ⟨hb1, hb2⟩ := hb
  have HT : Hid (nlt d[i]! d[j]! = decide (d[i]! < d[j]!)) := rfl
  generalize nlt d[i]! d[j]! = r at *
  generalize d[i]! = s at *
  generalize d[j]! = t at *
  have hd : decide ((s : Int) < (t : Int)) = decide (s < t) := by simp
  clear h
  go_enter Try.func136, Try.ntmps136
  go_wp2
  go_quiet (fail)
  go_wp2
  go_ret
  exact ⟨ret_bool (by rw [HT.out]; try exact hd), _, rfl⟩
theorem len_any (w : World) (p : Option Addr) (n cap : Nat) :
    Calls Try.prog 76 #[.slice p n cap] w fun e w' => e = .returned (.int .i64 n) ∧ w' = w := by
  go_enter Try.func76, Try.ntmps76
  go_wp2
  go_ret
  exact ⟨rfl, rfl⟩
set_option maxHeartbeats 2000000 in
theorem swap_any (w : World) (X cap : Nat) (d : Array Nat) (h : Row w X cap d) (i j : Nat) (hi : i < d.size) (hj : j < d.size) (x y : Int) (hx : x = i) (hy : y = j) :
    Calls Try.prog 137 #[.slice (some ⟨X, 0, none⟩) d.size cap, .int .i64 x, .int .i64 y] w fun e w' => e = .returned (.tuple #[]) ∧ Row w' X cap (swp d i j) ∧ Keep X w w' := by
  subst hx hy
  have a1 := h.cells hi
  have b1 := h.cells hj
  have hf := h.frozen
  have hb := h.bound
  unfold maxLen at hb
  obtain ⟨hb1, hb2⟩ := hb
  have hd : Row w.drew X cap d := h.keep rfl
  have hp := (h.put i d[j]!).cells (i := j) (by simpa using hj)
  generalize (d.setIfInBounds i d[j]!)[j]! = u at hp
  have FK : Hid (Row ((w.drew.setCell ⟨X, i, none⟩ (.int .i64 (d[j]! : Nat))).setCell ⟨X, j, none⟩ (.int .i64 (d[i]! : Nat))) X cap (swp d i j) ∧ Keep X w ((w.drew.setCell ⟨X, i, none⟩ (.int .i64 (d[j]! : Nat))).setCell ⟨X, j, none⟩ (.int .i64 (d[i]! : Nat)))) := ⟨(hd.put i d[j]!).put j d[i]!, (((Keep.refl X w).drewN 1).put _ _).put _ _⟩
  generalize swp d i j = D at *
  generalize d[i]! = s at *
  generalize d[j]! = t at *
  clear h hd
  go_enter Try.func137, Try.ntmps137
  go_wp2
  go_region
  all_goals (try go_wp2)
  all_goals go_end0
  all_goals exact ⟨rfl, FK.out⟩
end Go.Proofs.Ytdieffjagpjdaaa.Hq
