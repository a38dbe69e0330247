/- Graph: how the heap's methods are reached through an interface that holds its address. -/
import Derived.Test.YtghkhceplpjegaaHp1
import Derived.Test.YtghkhceplpjegaaYd4
import Derived.LaidMore
import Derived.Carry
import Derived.Shelf.Abstract
import Derived.ProofKit
import Derived.WalkKit
import Derived.WalkSpells
import Derived.WalkLawsBesides
namespace Go.Proofs.Ytghkhceplpjegaa.Hq
open Go.RowKit Go.Sort Go.Shelf

def nlt (a b : Nat) : Bool := decide (a < b)
theorem nlt_swo : SWO nlt where
  irrefl x := by simp [nlt]
  trans x y z h1 h2 := by simp [nlt] at *; omega
  ntrans x y z h1 h2 := by simp [nlt] at *; omega
theorem drewN_two (w : World) (a b : Nat) : (w.drewN a).drewN b = w.drewN (a + b) := by unfold World.drewN; simp [Nat.add_assoc]
/-- Block X is a row of nodes with room for cap, which holds d. -/
def Row (w : World) (X cap : Nat) (d : Array Nat) : Prop := OwnG KI w X (.slice (some ⟨X, 0, none⟩) d.size cap) (nI d.toList)
theorem get!_list (d : Array Nat) (i : Nat) (h : i < d.size) : d[i]! = d.toList[i]'(by simpa using h) := by rw [getElem!_pos d i h]; simp
theorem Row.cells {w : World} {X cap : Nat} {d : Array Nat} (h : Row w X cap d) {i : Nat} (hi : i < d.size) : w.cell? ⟨X, i, none⟩ = some (.int .i64 (d[i]! : Nat)) := by
  have hl : i < d.toList.length := by simpa using hi
  obtain ⟨Y, o, e, hc⟩ := (OwnG.gs KI_ok.len h).atI (k := i) (by rw [nI_len]; exact hl)
  injection e with e
  injection e with e1 e2 _
  subst e1 e2
  rw [Nat.zero_add, nI_at hl, ← get!_list d i hi] at hc
  exact hc
theorem Row.frozen {w : World} {X cap : Nat} {d : Array Nat} (h : Row w X cap d) (j : Nat) : w.frozen? ⟨X, j, none⟩ = false := own_frozen h j
theorem Row.bound {w : World} {X cap : Nat} {d : Array Nat} (h : Row w X cap d) : d.size ≤ cap ∧ cap ≤ maxLen := by
  obtain ⟨_, h | ⟨g, c, cur, e1, _, _, e2, e3, _⟩⟩ := h
  · cases h.1
  · injection e1 with _ _ e1
    rw [nI_len] at e2
    rw [e1]
    exact ⟨by simpa using e2, e3⟩
theorem Row.lt {w : World} {X cap : Nat} {d : Array Nat} (h : Row w X cap d) : X < w.heap.size := (OwnG.lt h (g := X) rfl).2
theorem Row.keep {w w' : World} {X cap : Nat} {d : Array Nat} (h : Row w X cap d) (hb : w'.heap[X]? = w.heap[X]?) : Row w' X cap d := OwnG.far h fun g hg => by
  injection hg with hg
  have hg : X = g := hg
  rw [← hg]; exact hb
theorem Row.put {w : World} {X cap : Nat} {d : Array Nat} (h : Row w X cap d) (i : Nat) (t : Nat) : Row (w.setCell ⟨X, i, none⟩ (.int .i64 (t : Nat))) X cap (d.setIfInBounds i t) := by
  have := OwnG.set1 rfl KI_ok.len h (k := i) (t : Int) (.int .i64 t) rfl
  unfold Row
  rw [Array.size_setIfInBounds, Array.toList_setIfInBounds]
  have e : nI (d.toList.set i t) = (nI d.toList).set i (t : Int) := by unfold nI; rw [List.map_set]
  rw [e]
  exact this
/-- All but one block stands as it stood. -/
structure Keep (X : Nat) (w w' : World) : Prop where
  os : w'.os = w.os
  tape : w'.tape = w.tape
  output : w'.output = w.output
  size : w.heap.size ≤ w'.heap.size
  block : ∀ k, k < w.heap.size → k ≠ X → w'.heap[k]? = w.heap[k]?
theorem Keep.refl (X : Nat) (w : World) : Keep X w w := ⟨rfl, rfl, rfl, Nat.le_refl _, fun _ _ _ => rfl⟩
theorem Keep.trans {X : Nat} {a b c : World} (h : Keep X a b) (k : Keep X b c) : Keep X a c :=
  ⟨k.os.trans h.os, k.tape.trans h.tape, k.output.trans h.output, Nat.le_trans h.size k.size, fun i hi hx => (k.block i (Nat.lt_of_lt_of_le hi h.size) hx).trans (h.block i hi hx)⟩
theorem Keep.drewN {X : Nat} {a b : World} (h : Keep X a b) (n : Nat) : Keep X a (b.drewN n) := h.trans ⟨rfl, rfl, rfl, Nat.le_refl _, fun _ _ _ => rfl⟩
theorem Keep.put {X : Nat} {a b : World} (h : Keep X a b) (i : Nat) (u : Value) : Keep X a (b.setCell ⟨X, i, none⟩ u) := h.trans ⟨rfl, rfl, rfl, by simp [World.setCell], fun k _ hx => set_far hx⟩
theorem Keep.cell {X : Nat} {w w' : World} (h : Keep X w w') {p : Addr} (hp : p.block < w.heap.size) (hx : p.block ≠ X) : w'.cell? p = w.cell? p := World.cell?_of_block (w := w) (h.block p.block hp hx)
theorem Keep.frozen {X : Nat} {w w' : World} (h : Keep X w w') {p : Addr} (hp : p.block < w.heap.size) (hx : p.block ≠ X) : w'.frozen? p = w.frozen? p := World.frozen?_of_block (w := w) (h.block p.block hp hx)
theorem Keep.but {X : Nat} {w w' : World} (h : Keep X w w') : But (fun x => x = X) w w' := ⟨h.os, h.tape, h.output, h.size, h.block⟩

set_option maxHeartbeats 2000000 in
theorem less_any (w : World) (X cap : Nat) (d : Array Nat) (h : Row w X cap d) (i j : Nat) (hi : i < d.size) (hj : j < d.size) (x y : Int) (hx : x = i) (hy : y = j) :
    Calls Try.prog 130 #[.slice (some ⟨X, 0, none⟩) d.size cap, .int .i64 x, .int .i64 y] w fun e w' => e = .returned (.bool (nlt d[i]! d[j]!)) ∧ ∃ n, w' = w.drewN n := by
  subst hx hy
  have a1 := h.cells hi
  have b1 := h.cells hj
  have hb := h.bound
  unfold maxLen at hb
  obtain ⟨hb1, hb2⟩ := hb
  have HT : Hid (nlt d[i]! d[j]! = decide (d[i]! < d[j]!)) := rfl
  generalize nlt d[i]! d[j]! = r at *
  generalize d[i]! = s at *
  generalize d[j]! = t at *
  have hd : decide ((s : Int) < (t : Int)) = decide (s < t) := by simp
  clear h
  go_enter Try.func130, Try.ntmps130
  go_wp2
  go_quiet (fail)
  go_wp2
  go_ret
  exact ⟨ret_bool (by rw [HT.out]; try exact hd), _, rfl⟩
theorem len_any (w : World) (p : Option Addr) (n cap : Nat) :
    Calls Try.prog 60 #[.slice p n cap] w fun e w' => e = .returned (.int .i64 n) ∧ w' = w := by
  go_enter Try.func60, Try.ntmps60
  go_wp2
  go_ret
  exact ⟨rfl, rfl⟩
set_option maxHeartbeats 2000000 in
theorem swap_any (w : World) (X cap : Nat) (d : Array Nat) (h : Row w X cap d) (i j : Nat) (hi : i < d.size) (hj : j < d.size) (x y : Int) (hx : x = i) (hy : y = j) :
    Calls Try.prog 131 #[.slice (some ⟨X, 0, none⟩) d.size cap, .int .i64 x, .int .i64 y] w fun e w' => e = .returned (.tuple #[]) ∧ Row w' X cap (swp d i j) ∧ Keep X w w' := by
  subst hx hy
  have a1 := h.cells hi
  have b1 := h.cells hj
  have hf := h.frozen
  have hb := h.bound
  unfold maxLen at hb
  obtain ⟨hb1, hb2⟩ := hb
  have hd : Row w.drew X cap d := h.keep rfl
  have hp := (h.put i d[j]!).cells (i := j) (by simpa using hj)
  generalize (d.setIfInBounds i d[j]!)[j]! = u at hp
  have FK : Hid (Row ((w.drew.setCell ⟨X, i, none⟩ (.int .i64 (d[j]! : Nat))).setCell ⟨X, j, none⟩ (.int .i64 (d[i]! : Nat))) X cap (swp d i j) ∧ Keep X w ((w.drew.setCell ⟨X, i, none⟩ (.int .i64 (d[j]! : Nat))).setCell ⟨X, j, none⟩ (.int .i64 (d[i]! : Nat)))) := ⟨(hd.put i d[j]!).put j d[i]!, (((Keep.refl X w).drewN 1).put _ _).put _ _⟩
  generalize swp d i j = D at *
  generalize d[i]! = s at *
  generalize d[j]! = t at *
  clear h hd
  go_enter Try.func131, Try.ntmps131
  go_wp2
  go_region
  all_goals (try go_wp2)
  all_goals go_end0
  all_goals exact ⟨rfl, FK.out⟩
end Go.Proofs.Ytghkhceplpjegaa.Hq
namespace Go.Proofs.Ytghkhceplpjegaa.Hq
open Go.RowKit Go.Sort Go.Shelf

theorem run_wrapnil (P : Program) (ts : Array TypeId) (t : TypeId) (a : Addr) (s m : String) (w : World) : Sem.run P (Builtin.ssaWrapNilChk_ ts t #[.pointer (some a), strVal s, strVal m]) w = .ok (.pointer (some a)) w := rfl
theorem meth_at (name : String) (f : Nat) (w : World) (a : Addr) (v : Value) (h : w.cell? a = some v) 
    (hm : (Try.prog.info? 80).map (fun i => (i.methods.find? (·.name == name)).map (fun m => (m.path, m.func))) = some (some (#[], some (f, false)))) :
    Sem.run Try.prog (method 249 80 (.pointer (some a)) name) w = .ok (f, v) w := by
  obtain ⟨i, hi, hi2⟩ := Option.map_eq_some_iff.1 hm
  obtain ⟨m, hf, hm2⟩ := Option.map_eq_some_iff.1 hi2
  simp only [Prod.mk.injEq] at hm2
  obtain ⟨hp, hfn⟩ := hm2
  have hu : Try.prog.underlying 80 = some (.pointer 78) := by kernel_rfl
  have hu2 : Try.prog.underlying 78 = some (.slice 3) := by kernel_rfl
  unfold method
  simp [typeInfo, hi, hf, hp, hfn, follow, receiverAt, Place.get, run_underlying hu, run_wrapnil, asAddr, loadVar, isAgg, run_underlying hu2, h]
theorem meth_ptr (name : String) (f : Nat) (w : World) (a : Addr)
    (hm : (Try.prog.info? 80).map (fun i => (i.methods.find? (·.name == name)).map (fun m => (m.path, m.func))) = some (some (#[], some (f, true)))) :
    Sem.run Try.prog (method 249 80 (.pointer (some a)) name) w = .ok (f, .pointer (some a)) w := by
  obtain ⟨i, hi, hi2⟩ := Option.map_eq_some_iff.1 hm
  obtain ⟨m, hf, hm2⟩ := Option.map_eq_some_iff.1 hi2
  simp only [Prod.mk.injEq] at hm2
  obtain ⟨hp, hfn⟩ := hm2
  have hu : Try.prog.underlying 80 = some (.pointer 78) := by kernel_rfl
  unfold method
  simp [typeInfo, hi, hf, hp, hfn, follow, receiverAt, Place.get, run_underlying hu]
theorem ent_len : ∀ args w, (callFunc 60 args).run Try.prog w = .ok (.enter 60 args) w := enters_of Try.func60 (by kernel_rfl) rfl
theorem inv_len {w : World} {a : Addr} {v : Value} (h : w.cell? a = some v) : Sem.run Try.prog (method 249 80 (.pointer (some a)) "Len") w = .ok (60, v) w := meth_at "Len" 60 w a v h (by kernel_rfl)
theorem ent_less : ∀ args w, (callFunc 130 args).run Try.prog w = .ok (.enter 130 args) w := enters_of Try.func130 (by kernel_rfl) rfl
theorem inv_less {w : World} {a : Addr} {v : Value} (h : w.cell? a = some v) : Sem.run Try.prog (method 249 80 (.pointer (some a)) "Less") w = .ok (130, v) w := meth_at "Less" 130 w a v h (by kernel_rfl)
theorem ent_swap : ∀ args w, (callFunc 131 args).run Try.prog w = .ok (.enter 131 args) w := enters_of Try.func131 (by kernel_rfl) rfl
theorem inv_swap {w : World} {a : Addr} {v : Value} (h : w.cell? a = some v) : Sem.run Try.prog (method 249 80 (.pointer (some a)) "Swap") w = .ok (131, v) w := meth_at "Swap" 131 w a v h (by kernel_rfl)
theorem ent_push : ∀ args w, (callFunc 133 args).run Try.prog w = .ok (.enter 133 args) w := enters_of Try.func133 (by kernel_rfl) rfl
theorem inv_push (w : World) (a : Addr) : Sem.run Try.prog (method 249 80 (.pointer (some a)) "Push") w = .ok (133, .pointer (some a)) w := meth_ptr "Push" 133 w a (by kernel_rfl)
theorem ent_pop : ∀ args w, (callFunc 132 args).run Try.prog w = .ok (.enter 132 args) w := enters_of Try.func132 (by kernel_rfl) rfl
theorem inv_pop (w : World) (a : Addr) : Sem.run Try.prog (method 249 80 (.pointer (some a)) "Pop") w = .ok (132, .pointer (some a)) w := meth_ptr "Pop" 132 w a (by kernel_rfl)
/-- At the address (qb, qo) lies the queue whose row is block X, with room for cap; it holds d. -/
structure QAt (w : World) (qb qo X cap : Nat) (d : Array Nat) : Prop where
  head : w.cell? ⟨qb, qo, none⟩ = some (.slice (some ⟨X, 0, none⟩) d.size cap)
  free : w.frozen? ⟨qb, qo, none⟩ = false
  row : Row w X cap d
  ne : qb ≠ X
  lt : qb < w.heap.size
theorem QAt.drewN {w : World} {qb qo X cap : Nat} {d : Array Nat} (h : QAt w qb qo X cap d) (n : Nat) : QAt (w.drewN n) qb qo X cap d := ⟨h.head, h.free, h.row.keep rfl, h.ne, h.lt⟩
theorem QAt.swap {w w' : World} {qb qo X cap : Nat} {d d' : Array Nat} (h : QAt w qb qo X cap d) (hr : Row w' X cap d') (hs : d'.size = d.size) (hk : Keep X w w') : QAt w' qb qo X cap d' :=
  ⟨by rw [hk.cell (p := ⟨qb, qo, none⟩) h.lt h.ne, hs]; exact h.head, by rw [hk.frozen (p := ⟨qb, qo, none⟩) h.lt h.ne]; exact h.free, hr, h.ne, Nat.lt_of_lt_of_le h.lt hk.size⟩
theorem QAt.less {w : World} {qb qo X cap : Nat} {d : Array Nat} (h : QAt w qb qo X cap d) {N : Nat} (hN : d.size = N) (i j : Nat) (hi : i < N) (hj : j < N) {x y : Int} (hx : x = i) (hy : y = j) :
    Calls Try.prog 130 #[.slice (some ⟨X, 0, none⟩) N cap, .int .i64 x, .int .i64 y] w fun e w' => e = .returned (.bool (nlt d[i]! d[j]!)) ∧ ∃ n, w' = w.drewN n := by
  subst hN; exact less_any w X cap d h.row i j hi hj x y hx hy
theorem QAt.swapC {w : World} {qb qo X cap : Nat} {d : Array Nat} (h : QAt w qb qo X cap d) {N : Nat} (hN : d.size = N) (i j : Nat) (hi : i < N) (hj : j < N) {x y : Int} (hx : x = i) (hy : y = j) :
    Calls Try.prog 131 #[.slice (some ⟨X, 0, none⟩) N cap, .int .i64 x, .int .i64 y] w fun e w' => e = .returned (.tuple #[]) ∧ QAt w' qb qo X cap (swp d i j) ∧ Keep X w w' := by
  subst hN; exact (swap_any w X cap d h.row i j hi hj x y hx hy).mono fun e w' ⟨he, hr, hk⟩ => ⟨he, h.swap hr (size_swp _ _ _) hk, hk⟩

set_option maxHeartbeats 2000000 in
set_option maxRecDepth 100000 in
theorem up_any (w : World) (qb qo X cap : Nat) (d : Array Nat) (h : QAt w qb qo X cap d) (j : Nat) (hj : j < d.size) (hm : d.size ≤ maxLen) (x : Int) (hx : x = j) :
    Calls Try.prog 76 #[.iface 80 (.pointer (some ⟨qb, qo, none⟩)), .int .i64 x] w fun e w' => e = .returned (.tuple #[]) ∧ QAt w' qb qo X cap (hUp nlt j d) ∧ Keep X w w' := by
  subst hx
  unfold maxLen at hm
  have HQ : Hid _ := h
  clear h
  go_enter Try.func76, Try.ntmps76
  go_wp2
  go_loopw [1] (fun vj wr => ∃ (k : Nat) (dk : Array Nat), vj = .int .i64 k ∧ k < d.size ∧ dk.size = d.size ∧ Hid (QAt wr qb qo X cap dk) ∧ Hid (Keep X w wr) ∧ Hid (hUp nlt k dk = hUp nlt j d)) (fun vj _ => (intOf vj).toNat)
  case atStart => exact ⟨j, d, rfl, hj, rfl, HQ, Keep.refl _ _, rfl⟩
  case round =>
    obtain ⟨k, dk, rfl, hk, hs, HK, HW, HE⟩ := hrel
    rename_i wr
    by_cases h0 : k = 0
    · subst h0
      go_wp2
      go_end0
      refine ⟨rfl, ?_, HW.out⟩
      rw [← HE.out, hUp_zero]; exact HK.out
    · have hne : (((k : Int) - 1) / 2 == (k : Int)) = false := by simp; omega
      have hk1 : 1 ≤ (k : Int) := by omega
      have eL := ent_less
      have eS := ent_swap
      have mL := inv_less HK.out.head
      have mS := fun n => inv_swap (HK.out.drewN n).head
      rw [hs] at mL
      simp only [hs] at mS
      have hl1 := HK.out.less hs k ((k - 1) / 2) hk (by omega) (x := k) (y := ((k : Int) - 1) / 2) rfl (by omega)
      cases hl : nlt dk[k]! dk[(k - 1) / 2]! with
      | false =>
        rw [hl] at hl1
        go_wp2_with (go_at_fn 130; refine hl1.mono ?_; rintro e w' ⟨rfl, n, rfl⟩)
        first | go_end0 | (simp only [Exit.inBlock, Exit.then]; refine bodyPost_ret (results_none rfl _ _ _) rfl ?_) | refine bodyPost_ret (results_none rfl _ _ _) rfl ?_
        refine ⟨rfl, ?_, HW.out.drewN n⟩
        rw [← HE.out, hUp_stop hl]; exact HK.out.drewN n
      | true =>
        rw [hl] at hl1
        have hs1 := fun n => (HK.out.drewN n).swapC hs ((k - 1) / 2) k (by omega) hk (x := ((k : Int) - 1) / 2) (y := k) (by omega) rfl
        go_wp2_with (first | (go_at_fn 130; refine hl1.mono ?_; rintro e w' ⟨rfl, n, rfl⟩) | (go_at_fn 131; refine (hs1 _).mono ?_; rintro e w' ⟨rfl, HQ2, HK2⟩))
        go_roundw
        case rel => exact ⟨(k - 1) / 2, swp dk ((k - 1) / 2) k, by congr 1; omega, by omega, by rw [size_swp]; exact hs, HQ2, HW.out.trans (((Keep.refl _ _).drewN _).trans HK2), by show _ = _; rw [← HE.out, hUp_go (by omega) hl]⟩
        case measure => simp [intOf]; omega
end Go.Proofs.Ytghkhceplpjegaa.Hq
