/- Graph: how the heap's methods are reached through an interface that holds its address. -/
import Derived.Test.YtdieffjagpjdaaaYg4
import Derived.Shelf.Abstract
import Derived.WalkKit
import Derived.WalkSpells
import Derived.WalkLawsBesides
import Derived.ProofKit
namespace Go.Proofs.Ytdieffjagpjdaaa.Hq
open Go.RowKit Go.Sort Go.Shelf

theorem run_wrapnil (P : Program) (ts : Array TypeId) (t : TypeId) (a : Addr) (s m : String) (w : World) : Sem.run P (Builtin.ssaWrapNilChk_ ts t #[.pointer (some a), strVal s, strVal m]) w = .ok (.pointer (some a)) w := rfl
theorem meth_at (name : String) (f : Nat) (w : World) (a : Addr) (v : Value) (h : w.cell? a = some v) 
    (hm : (Try.prog.info? 85).map (fun i => (i.methods.find? (·.name == name)).map (fun m => (m.path, m.func))) = some (some (#[], some (f, false)))) :
    Sem.run Try.prog (method 249 85 (.pointer (some a)) name) w = .ok (f, v) w := by
  obtain ⟨i, hi, hi2⟩ := Option.map_eq_some_iff.1 hm
  obtain ⟨m, hf, hm2⟩ := Option.map_eq_some_iff.1 hi2
  simp only [Prod.mk.injEq] at hm2
  obtain ⟨hp, hfn⟩ := hm2
  have hu : Try.prog.underlying 85 = some (.pointer 83) := by kernel_rfl
  have hu2 : Try.prog.underlying 83 = some (.slice 3) := by kernel_rfl
  unfold method
  simp [typeInfo, hi, hf, hp, hfn, follow, receiverAt, Place.get, run_underlying hu, run_wrapnil, asAddr, loadVar, isAgg, run_underlying hu2, h]
theorem meth_ptr (name : String) (f : Nat) (w : World) (a : Addr)
    (hm : (Try.prog.info? 85).map (fun i => (i.methods.find? (·.name == name)).map (fun m => (m.path, m.func))) = some (some (#[], some (f, true)))) :
    Sem.run Try.prog (method 249 85 (.pointer (some a)) name) w = .ok (f, .pointer (some a)) w := by
  obtain ⟨i, hi, hi2⟩ := Option.map_eq_some_iff.1 hm
  obtain ⟨m, hf, hm2⟩ := Option.map_eq_some_iff.1 hi2
  simp only [Prod.mk.injEq] at hm2
  obtain ⟨hp, hfn⟩ := hm2
  have hu : Try.prog.underlying 85 = some (.pointer 83) := by kernel_rfl
  unfold method
  simp [typeInfo, hi, hf, hp, hfn, follow, receiverAt, Place.get, run_underlying hu]
theorem ent_len : ∀ args w, (callFunc 76 args).run Try.prog w = .ok (.enter 76 args) w := enters_of Try.func76 (by kernel_rfl) rfl
theorem inv_len {w : World} {a : Addr} {v : Value} (h : w.cell? a = some v) : Sem.run Try.prog (method 249 85 (.pointer (some a)) "Len") w = .ok (76, v) w := meth_at "Len" 76 w a v h (by kernel_rfl)
theorem ent_less : ∀ args w, (callFunc 136 args).run Try.prog w = .ok (.enter 136 args) w := enters_of Try.func136 (by kernel_rfl) rfl
theorem inv_less {w : World} {a : Addr} {v : Value} (h : w.cell? a = some v) : Sem.run Try.prog (method 249 85 (.pointer (some a)) "Less") w = .ok (136, v) w := meth_at "Less" 136 w a v h (by kernel_rfl)
theorem ent_swap : ∀ args w, (callFunc 137 args).run Try.prog w = .ok (.enter 137 args) w := enters_of Try.func137 (by kernel_rfl) rfl
theorem inv_swap {w : World} {a : Addr} {v : Value} (h : w.cell? a = some v) : Sem.run Try.prog (method 249 85 (.pointer (some a)) "Swap") w = .ok (137, v) w := meth_at "Swap" 137 w a v h (by kernel_rfl)
theorem ent_push : ∀ args w, (callFunc 139 args).run Try.prog w = .ok (.enter 139 args) w := enters_of Try.func139 (by kernel_rfl) rfl
theorem inv_push (w : World) (a : Addr) : Sem.run Try.prog (method 249 85 (.pointer (some a)) "Push") w = .ok (139, .pointer (some a)) w := meth_ptr "Push" 139 w a (by kernel_rfl)
theorem ent_pop : ∀ args w, (callFunc 138 args).run Try.prog w = .ok (.enter 138 args) w := enters_of Try.func138 (by kernel_rfl) rfl
theorem inv_pop (w : World) (a : Addr) : Sem.run Try.prog (method 249 85 (.pointer (some a)) "Pop") w = .ok (138, .pointer (some a)) w := meth_ptr "Pop" 138 w a (by kernel_rfl)
/-- At the address (qb, qo) lies the queue whose row is block X, with room for cap; it holds d. -/
structure QAt (w : World) (qb qo X cap : Nat) (d : Array Nat) : Prop where
  head : w.cell? ⟨qb, qo, none⟩ = some (.slice (some ⟨X, 0, none⟩) d.size cap)
  free : w.frozen? ⟨qb, qo, none⟩ = false
  row : Row w X cap d
  ne : qb ≠ X
  lt : qb < w.heap.size
theorem QAt.drewN {w : World} {qb qo X cap : Nat} {d : Array Nat} (h : QAt w qb qo X cap d) (n : Nat) : QAt (w.drewN n) qb qo X cap d := ⟨h.head, h.free, h.row.keep rfl, h.ne, h.lt⟩
theorem QAt.swap {w w' : World} {qb qo X cap : Nat} {d d' : Array Nat} (h : QAt w qb qo X cap d) (hr : Row w' X cap d') (hs : d'.size = d.size) (hk : Keep X w w') : QAt w' qb qo X cap d' :=
  ⟨by rw [hk.cell (p := ⟨qb, qo, none⟩) h.lt h.ne, hs]; exact h.head, by rw [hk.frozen (p := ⟨qb, qo, none⟩) h.lt h.ne]; exact h.free, hr, h.ne, Nat.lt_of_lt_of_le h.lt hk.size⟩
theorem QAt.less {w : World} {qb qo X cap : Nat} {d : Array Nat} (h : QAt w qb qo X cap d) {N : Nat} (hN : d.size = N) (i j : Nat) (hi : i < N) (hj : j < N) {x y : Int} (hx : x = i) (hy : y = j) :
    Calls Try.prog 136 #[.slice (some ⟨X, 0, none⟩) N cap, .int .i64 x, .int .i64 y] w fun e w' => e = .returned (.bool (nlt d[i]! d[j]!)) ∧ ∃ n, w' = w.drewN n := by
  subst hN; exact less_any w X cap d h.row i j hi hj x y hx hy
theorem QAt.swapC {w : World} {qb qo X cap : Nat} {d : Array Nat} (h : QAt w qb qo X cap d) {N : Nat} (hN : d.size = N) (i j : Nat) (hi : i < N) (hj : j < N) {x y : Int} (hx : x = i) (hy : y = j) :
    Calls Try.prog 137 #[.slice (some ⟨X, 0, none⟩) N cap, .int .i64 x, .int .i64 y] w fun e w' => e = .returned (.tuple #[]) ∧ QAt w' qb qo X cap (swp d i j) ∧ Keep X w w' := by
  subst hN; exact (swap_any w X cap d h.row i j hi hj x y hx hy).mono fun e w' ⟨he, hr, hk⟩ => ⟨he, h.swap hr (size_swp _ _ _) hk, hk⟩

set_option maxHeartbeats 2000000 in
set_option maxRecDepth 100000 in
theorem up_any (w : World) (qb qo X cap : Nat) (d : Array Nat) (h : QAt w qb qo X cap d) (j : Nat) (hj : j < d.size) (hm : d.size ≤ maxLen) (x : Int) (hx : x = j) :
    Calls Try.prog 95 #[.iface 85 (.pointer (some ⟨qb, qo, none⟩)), .int .i64 x] w fun e w' => e = .returned (.tuple #[]) ∧ QAt w' qb qo X cap (hUp nlt j d) ∧ Keep X w w' := by
  subst hx
  unfold maxLen at hm
  have HQ : Hid _ := h
  clear h
  go_enter Try.func95, Try.ntmps95
  go_wp2
  go_loopw [1] (fun vj wr => ∃ (k : Nat) (dk : Array Nat), vj = .int .i64 k ∧ k < d.size ∧ dk.size = d.size ∧ Hid (QAt wr qb qo X cap dk) ∧ Hid (Keep X w wr) ∧ Hid (hUp nlt k dk = hUp nlt j d)) (fun vj _ => (intOf vj).toNat)
  case atStart => exact ⟨j, d, rfl, hj, rfl, HQ, Keep.refl _ _, rfl⟩
  case round =>
    obtain ⟨k, dk, rfl, hk, hs, HK, HW, HE⟩ := hrel
    rename_i wr
    by_cases h0 : k = 0
    · subst h0
      go_wp2
      go_end0
      refine ⟨rfl, ?_, HW.out⟩
      rw [← HE.out, hUp_zero]; exact HK.out
    · have hne : (((k : Int) - 1) / 2 == (k : Int)) = false := by simp; omega
      have hk1 : 1 ≤ (k : Int) := by omega
      have eL := ent_less
      have eS := ent_swap
      have mL := inv_less HK.out.head
      have mS := fun n => inv_swap (HK.out.drewN n).head
      rw [hs] at mL
      simp only [hs] at mS
      have hl1 := HK.out.less hs k ((k - 1) / 2) hk (by omega) (x := k) (y := ((k : Int) - 1) / 2) rfl (by omega)
      cases hl : nlt dk[k]! dk[(k - 1) / 2]! with
      | false =>
        rw [hl] at hl1
        go_wp2_with (go_at_fn 136; refine hl1.mono ?_; rintro e w' ⟨rfl, n, rfl⟩)
        first | go_end0 | (simp only [Exit.inBlock, Exit.then]; refine bodyPost_ret (results_none rfl _ _ _) rfl ?_) | refine bodyPost_ret (results_none rfl _ _ _) rfl ?_
        refine ⟨rfl, ?_, HW.out.drewN n⟩
        rw [← HE.out, hUp_stop hl]; exact HK.out.drewN n
      | true =>
        rw [hl] at hl1
        have hs1 := fun n => (HK.out.drewN n).swapC hs ((k - 1) / 2) k (by omega) hk (x := ((k : Int) - 1) / 2) (y := k) (by omega) rfl
        go_wp2_with (first | (go_at_fn 136; refine hl1.mono ?_; rintro e w' ⟨rfl, n, rfl⟩) | (go_at_fn 137; refine (hs1 _).mono ?_; rintro e w' ⟨rfl, HQ2, HK2⟩))
        go_roundw
        case rel => exact ⟨(k - 1) / 2, swp dk ((k - 1) / 2) k, by congr 1; omega, by omega, by rw [size_swp]; exact hs, HQ2, HW.out.trans (((Keep.refl _ _).drewN _).trans HK2), by show _ = _; rw [← HE.out, hUp_go (by omega) hl]⟩
        case measure => simp [intOf]; omega
end Go.Proofs.Ytdieffjagpjdaaa.Hq
