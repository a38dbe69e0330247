/- Retry: maps from numbers to numbers; a breaker in memory; its small functions. -/
import Derived.Test.YtddnagoljdhnlaaXb1
import Derived.Test.YtddnagoljdhnlaaXa2
import Derived.Maps.OwnSet
import Derived.BigQuiet
import Derived.BigRegion
namespace Go.Proofs.Ytddnagoljdhnlaa
open Go.RowKit Go.Maps

theorem lawI : Keyed Try.prog 3 := int_keyed Try.underlying3
def kI (x : Int) : Lit := .int .i64 x
theorem kI_inj {s t : Int} : kI s = kI t ↔ s = t := by
  constructor
  · intro h; unfold kI at h; injection h
  · intro h; rw [h]
theorem kI_key (x : Int) : WideAt.IsKeyLit (kI x) := trivial
theorem keyI {x : Int} (h : (Lit.int .i64 x).wf = true) : keyOf Try.prog 3 (.int .i64 x) = some (kI x) := keyOf_int_mk Try.underlying3 h
theorem wfI {x : Int} (h : -9223372036854775808 ≤ x ∧ x ≤ 9223372036854775807) : (Lit.int .i64 x).wf = true := by
  have e1 : IntKind.i64.min = -9223372036854775808 := by decide
  have e2 : IntKind.i64.max = 9223372036854775807 := by decide
  simp [Lit.wf, e1, e2]
  omega
def hE (v : Value) : Option (DataW Value × List MemPlace) := some (.held v, [])
theorem hE_inj {v z : Value} {ps : List MemPlace} (h : hE v = some (.held z, ps)) : v = z := by
  have q : (some (DataW.held v, []) : Option (DataW Value × List MemPlace)) = some (.held z, ps) := h
  exact DataW.held.inj (congrArg Prod.fst (Option.some.inj q))
/-- The block is a map that holds just these. -/
def MI (w : World) (b : Nat) (L : List (Int × Int)) : Prop := ∃ D : DataW Value, w.ownsMap Try.prog 3 hE b L.length D ∧ Maps.size D = L.length ∧ (∀ s, Maps.has D (kI s) = (lkp L s).isSome) ∧ ∀ s z, D.atKey (kI s) (.held z) = .held (((lkp L s).map (fun x => Value.int .i64 x)).getD z)
theorem MI.far {w w' : World} {b : Nat} {L : List (Int × Int)} (h : MI w b L) (k : w'.heap[b]? = w.heap[b]?) : MI w' b L := by
  obtain ⟨D, ⟨es, cl, h1, h2⟩, h3⟩ := h
  exact ⟨D, ⟨es, cl, k.trans h1, h2⟩, h3⟩
theorem MI.lt {w : World} {b : Nat} {L : List (Int × Int)} (h : MI w b L) : b < w.heap.size := by
  obtain ⟨D, h1, _⟩ := h
  exact h1.lt
theorem MI.made (w : World) : MI (w.alloc (.map #[] 0)) w.heap.size [] := ⟨.map [], World.ownsMap_made _ _ _ _, rfl, fun _ => rfl, fun _ _ => rfl⟩
theorem owns_fit {w : World} {b n : Nat} {D : DataW Value} (h : w.ownsMap Try.prog 3 hE b n D) : w.ownsMap Try.prog 3 hE b (Maps.size D) D := by
  obtain ⟨es, clock, hb, F, _, rfl⟩ := h
  refine ⟨es, clock, hb, F, ?_, rfl⟩
  simp [Maps.size, length_sorted]
/-- All blocks but two stay. -/
structure Bq (b m : Nat) (a w : World) : Prop where
  os : w.os = a.os
  tape : w.tape = a.tape
  output : w.output = a.output
  size : a.heap.size ≤ w.heap.size
  block : ∀ x, x < a.heap.size → x ≠ b → x ≠ m → w.heap[x]? = a.heap[x]?
theorem Bq.refl (b m : Nat) (a : World) : Bq b m a a := ⟨rfl, rfl, rfl, Nat.le_refl _, fun _ _ _ _ => rfl⟩
theorem Bq.of {b m : Nat} {a w : World} (h : Below a.heap.size a w) : Bq b m a w := ⟨h.os, h.tape, h.output, h.size, fun x hx _ _ => h.block x hx⟩
theorem Bq.trans {b m : Nat} {x y z : World} (h : Bq b m x y) (k : Bq b m y z) : Bq b m x z :=
  ⟨k.os.trans h.os, k.tape.trans h.tape, k.output.trans h.output, Nat.le_trans h.size k.size, fun q hq h1 h2 => (k.block q (Nat.lt_of_lt_of_le hq h.size) h1 h2).trans (h.block q hq h1 h2)⟩
theorem Bq.set (b m o : Nat) (a : World) (v : Value) : Bq b m a (a.setCell ⟨b, o, none⟩ v) :=
  ⟨rfl, rfl, rfl, by simp, fun _ _ hx _ => Below.heap_setCell _ _ _ _ hx⟩
theorem Bq.map {b m : Nat} {a w : World} (h : a.mapTurned w m) : Bq b m a w := by
  have g := h.grown
  exact ⟨g.os, g.tape, g.output, g.size, fun x hx _ hm => g.block x hx (fun e => hm (by injection e))⟩
theorem Bq.to {b m base : Nat} {a w : World} (h : Bq b m a w) (hb : base ≤ b) (hm : base ≤ m) (hs : base ≤ a.heap.size) : Below base a w := ⟨h.os, h.tape, h.output, h.size, fun x hx => h.block x (by omega) (by omega) (by omega)⟩
/-- A breaker's cells. -/
def bkA (k : Bk) (m : Nat) : Array Value := #[.int .i64 k.lim, .int .i64 k.rst, .int .i64 k.st, .int .i64 k.row, .int .i64 k.unt, .int .i64 k.trn, .int .i64 k.lst, .int .i64 k.trs, .map (some m)]
structure BX (w : World) (b m : Nat) (k : Bk) : Prop where
  hp : w.heap[b]? = some (.cells (bkA k m) 56)
  mp : MI w m k.ways
theorem BX.lt {w : World} {b m : Nat} {k : Bk} (h : BX w b m k) : b < w.heap.size := lt_of_heap h.hp
theorem BX.ne {w : World} {b m : Nat} {k : Bk} (h : BX w b m k) : b ≠ m := by
  intro e
  subst e
  obtain ⟨D, ⟨es, cl, h1, _⟩, _⟩ := h.mp
  rw [h.hp] at h1; cases h1
theorem BX.fz {w : World} {b m : Nat} {k : Bk} (h : BX w b m k) (o : Nat) : w.frozen? ⟨b, o, none⟩ = false := by simp [World.frozen?, h.hp]
theorem BX.cells {w : World} {b m : Nat} {k : Bk} (h : BX w b m k) :
    w.cell? ⟨b, 0, none⟩ = some (.int .i64 k.lim) ∧ w.cell? ⟨b, 1, none⟩ = some (.int .i64 k.rst) ∧ w.cell? ⟨b, 2, none⟩ = some (.int .i64 k.st) ∧ w.cell? ⟨b, 3, none⟩ = some (.int .i64 k.row) ∧ w.cell? ⟨b, 4, none⟩ = some (.int .i64 k.unt) ∧ w.cell? ⟨b, 5, none⟩ = some (.int .i64 k.trn) ∧ w.cell? ⟨b, 6, none⟩ = some (.int .i64 k.lst) ∧ w.cell? ⟨b, 7, none⟩ = some (.int .i64 k.trs) ∧ w.cell? ⟨b, 8, none⟩ = some (.map (some m)) :=
  ⟨cell_of_row _ _ _ _ _ _ h.hp, cell_of_row _ _ _ _ _ _ h.hp, cell_of_row _ _ _ _ _ _ h.hp, cell_of_row _ _ _ _ _ _ h.hp, cell_of_row _ _ _ _ _ _ h.hp, cell_of_row _ _ _ _ _ _ h.hp, cell_of_row _ _ _ _ _ _ h.hp, cell_of_row _ _ _ _ _ _ h.hp, cell_of_row _ _ _ _ _ _ h.hp⟩
theorem BX.far {w w' : World} {b m : Nat} {k : Bk} (h : BX w b m k) (k1 : w'.heap[b]? = w.heap[b]?) (k2 : w'.heap[m]? = w.heap[m]?) : BX w' b m k := ⟨k1.trans h.hp, h.mp.far k2⟩
theorem BX.below {w w' : World} {b m : Nat} {k : Bk} (h : BX w b m k) (q : Below w.heap.size w w') : BX w' b m k := h.far (q.block _ h.lt) (q.block _ h.mp.lt)
/-- The breaker's block, its map, and all else as it was. -/
structure HK (w : World) (b m : Nat) (A : Array Value) (L : List (Int × Int)) (w' : World) : Prop where
  hp : w'.heap[b]? = some (.cells A 56)
  mp : MI w' m L
  bq : Bq b m w w'
  ne : b ≠ m
theorem HK.of {w w' : World} {b m : Nat} {k : Bk} (h : BX w' b m k) (q : Bq b m w w') : HK w b m (bkA k m) k.ways w' := ⟨h.hp, h.mp, q, h.ne⟩
theorem HK.set {w w' : World} {b m : Nat} {A : Array Value} {L : List (Int × Int)} (h : HK w b m A L w') (o : Nat) (v : Value) : HK w b m (A.setIfInBounds o v) L (w'.setCell ⟨b, o, none⟩ v) :=
  ⟨heap_setCell_same w' b o _ _ v h.hp, h.mp.far (Below.heap_setCell _ _ _ _ (fun e => h.ne e.symm)), h.bq.trans (Bq.set b m o w' v), h.ne⟩
theorem HK.drew {w w' : World} {b m : Nat} {A : Array Value} {L : List (Int × Int)} (h : HK w b m A L w') (n : Nat) : HK w b m A L (w'.drewN n) := ⟨h.hp, h.mp.far rfl, ⟨h.bq.os, h.bq.tape, h.bq.output, h.bq.size, h.bq.block⟩, h.ne⟩
theorem HK.bx {w w' : World} {b m : Nat} {A : Array Value} {L : List (Int × Int)} (h : HK w b m A L w') (k : Bk) (hA : A = bkA k m) (hL : k.ways = L) : BX w' b m k ∧ Bq b m w w' := ⟨⟨by rw [h.hp, hA], by rw [hL]; exact h.mp⟩, h.bq⟩
/-- A try more. -/
theorem MI.put {w : World} {b : Nat} {L : List (Int × Int)} (h : MI w b L) {t e : TypeId} (ht : Try.prog.underlying t = some (.map 3 e)) (hn : L.length < maxLen) {s : Int} (hs : (Lit.int .i64 s).wf = true) (v : Int) (hl : lkp L s = none) :
    ∃ w', (Instr.mapUpdate t (.map (some b)) (.int .i64 s) (.int .i64 v)).run Try.prog w = .ok () w' ∧ MI w' b (L ++ [(s, v)]) ∧ w.mapTurned w' b := by
  obtain ⟨D, h1, hz, h2, h3⟩ := h
  have HM : IsMap D := h1.isMap
  obtain ⟨w', hrun, ho, hgr⟩ := h1.store lawI ht hn (keyI hs) (show hE (.int .i64 v) = some (.held (.int .i64 v), []) from rfl)
  refine ⟨w', hrun, ⟨_, by rw [List.length_append]; exact ho, ?_, fun y => ?_, fun y z => ?_⟩, hgr⟩
  · rw [size_put (h1.tidy lawI), h2, hl]; simp [hz]
  · rw [lkp_app _ _ _ _ hl]
    by_cases e : y = s
    · subst e; rw [has_put_same HM (kI_key _), if_pos rfl]; rfl
    · rw [has_put_other (fun q => e (kI_inj.1 q)), if_neg e, h2]
  · rw [lkp_app _ _ _ _ hl]
    by_cases e : y = s
    · subst e; rw [atKey_put_same HM (kI_key _), if_pos rfl]; rfl
    · rw [atKey_put_other (fun q => e (kI_inj.1 q)), if_neg e, h3]
/-- A try gone. -/
theorem MI.drop {w : World} {b : Nat} {L : List (Int × Int)} (h : MI w b L) {t e : TypeId} (ht : Try.prog.underlying t = some (.map 3 e)) {s v : Int} (hs : (Lit.int .i64 s).wf = true) (hl : lkp L s = some v) (hd : DK L) (ty : TypeId) :
    ∃ w', (Builtin.delete_ #[t, 3] ty #[.map (some b), .int .i64 s]).run Try.prog w = .ok (.tuple #[]) w' ∧ MI w' b (rmv L s) ∧ w.mapTurned w' b := by
  obtain ⟨D, h1, hz, h2, h3⟩ := h
  obtain ⟨w', hrun, ho, hgr⟩ := h1.drop lawI ht (keyI hs) ty
  have hsz : Maps.size (D.del (kI s)) = (rmv L s).length := by
    have := size_del (k := kI s) (h1.tidy lawI)
    rw [h2, hl] at this
    have := rmv_len hd hl
    simp at *
    omega
  refine ⟨w', hrun, ⟨_, by rw [← hsz]; exact owns_fit ho, hsz, fun y => ?_, fun y z => ?_⟩, hgr⟩
  · rw [lkp_rmv]
    by_cases e : y = s
    · subst e; rw [has_del_same, if_pos rfl]; rfl
    · rw [has_del_other (fun q => e (kI_inj.1 q)), if_neg e, h2]
  · rw [lkp_rmv]
    by_cases e : y = s
    · subst e; rw [atKey_del_same, if_pos rfl]; rfl
    · rw [atKey_del_other (fun q => e (kI_inj.1 q)), if_neg e, h3]
theorem MI.look {w : World} {b : Nat} {L : List (Int × Int)} (h : MI w b L) {t : TypeId} (ht : Try.prog.underlying t = some (.map 3 3)) (hz : (zeroValue 3).run Try.prog w = .ok (.int .i64 0) w) {s : Int} (hs : (Lit.int .i64 s).wf = true) :
    (Instr.lookup t (.map (some b)) (.int .i64 s) true).run Try.prog w = .ok (.tuple #[.int .i64 ((lkp L s).getD 0), .bool (lkp L s).isSome]) w := by
  obtain ⟨D, h1, _, h2, h3⟩ := h
  obtain ⟨v, ps, hrun, hv⟩ := h1.look_ok lawI ht hz (show hE (.int .i64 0) = some (.held (.int .i64 0), []) from rfl) (keyI hs)
  rw [h3] at hv
  have e1 := hE_inj hv
  rw [hrun, h2, e1]
  cases lkp L s <;> rfl
theorem MI.len {w : World} {b : Nat} {L : List (Int × Int)} (h : MI w b L) {t e : TypeId} (ht : Try.prog.underlying t = some (.map 3 e)) (ty : TypeId) : (Builtin.len_ #[t] ty #[.map (some b)]).run Try.prog w = .ok (.int .i64 L.length) w := by
  obtain ⟨D, h1, hz, _⟩ := h
  rw [h1.len ht ty, hz]
theorem checkTime_any (w : World) (b m : Nat) (k : Bk) (h : BX w b m k) (a : Int) : Calls Try.prog 17 #[.pointer (some ⟨b, 0, none⟩), .int .i64 a] w fun e w' => e = .returned (.int .i64 (tdE k a)) ∧ w' = w := by
  have IT := fun w' => isTime_any a w'
  have HT : Hid (tdE k a = if timB a = false then 1 else if a < k.lst then 7 else 0) := rfl
  obtain ⟨_, _, _, _, _, _, c6, _⟩ := h.cells
  generalize tdE k a = r at *
  clear h
  cases ht : timB a with
  | false =>
    rw [ht] at IT HT
    clear ht
    go_enter Try.func17, Try.ntmps17
    go_wp2_with (go_at_call 25; refine (IT _).mono ?_; rintro e w' ⟨rfl, rfl⟩)
    go_ret
    exact ⟨ret_int (by rw [HT.out]; simp), rfl⟩
  | true =>
    rw [ht] at IT HT
    clear ht
    by_cases hl : a < k.lst
    · go_enter Try.func17, Try.ntmps17
      go_wp2_with (go_at_call 25; refine (IT _).mono ?_; rintro e w' ⟨rfl, rfl⟩)
      go_ret
      exact ⟨ret_int (by rw [HT.out]; simp [hl]), rfl⟩
    · go_enter Try.func17, Try.ntmps17
      go_wp2_with (go_at_call 25; refine (IT _).mono ?_; rintro e w' ⟨rfl, rfl⟩)
      go_ret
      exact ⟨ret_int (by rw [HT.out]; rw [if_neg (by decide), if_neg (by omega)]), rfl⟩
theorem lets_any (w : World) (b m : Nat) (k : Bk) (h : BX w b m k) (a : Int) : Calls Try.prog 18 #[.pointer (some ⟨b, 0, none⟩), .int .i64 a] w fun e w' => e = .returned (.bool (letB k a)) ∧ w' = w := by
  have HT : Hid (letB k a = (decide (k.st = 1) || (decide (k.st = 2) && decide (k.unt ≤ a)))) := rfl
  obtain ⟨_, _, c2, _, c4, _⟩ := h.cells
  generalize letB k a = r at *
  clear h
  generalize k.st = st at *
  generalize k.unt = un at *
  by_cases h1 : st = 1
  · subst h1
    go_enter Try.func18, Try.ntmps18
    go_wp2
    go_ret
    exact ⟨ret_bool (by rw [HT.out]; simp), rfl⟩
  · have b1 : (st == 1) = false := by simpa using h1
    by_cases h2 : st = 2
    · subst h2
      go_enter Try.func18, Try.ntmps18
      go_wp2
      go_ret
      exact ⟨ret_bool (by rw [HT.out]; simp), rfl⟩
    · have b2 : (st == 2) = false := by simpa using h2
      go_enter Try.func18, Try.ntmps18
      go_wp2
      go_ret
      exact ⟨ret_bool (by rw [HT.out]; simp [h1, h2]), rfl⟩
theorem ret_three {a b c d e f : Int} (h : a = b) (k : c = d) (l : e = f) : Ending.returned (.tuple #[.int .i64 a, .int .i64 c, .int .i64 e]) = .returned (.tuple #[.int .i64 b, .int .i64 d, .int .i64 f]) := by rw [h, k, l]
theorem state_any (w : World) (b m : Nat) (k : Bk) (h : BX w b m k) : Calls Try.prog 12 #[.pointer (some ⟨b, 0, none⟩)] w fun e w' => e = .returned (.tuple #[.int .i64 k.st, .int .i64 k.row, .int .i64 k.unt]) ∧ ∃ n, w' = w.drewN n := by
  obtain ⟨_, _, c2, c3, c4, _⟩ := h.cells
  clear h
  generalize k.st = st at *
  generalize k.row = rw at *
  generalize k.unt = un at *
  go_enter Try.func12, Try.ntmps12
  go_wp2
  go_quiet (fail)
  go_wp2
  go_ret3
  exact ⟨rfl, _, rfl⟩
set_option maxHeartbeats 2000000 in
theorem turn_any (w : World) (b m : Nat) (k : Bk) (h : BX w b m k) (ht : 0 ≤ k.trn ∧ k.trn ≤ 1000000000000000000) (s : Int) : Calls Try.prog 19 #[.pointer (some ⟨b, 0, none⟩), .int .i64 s] w fun e w' => e = .returned (.tuple #[]) ∧ BX w' b m (k.turn s 0) ∧ Bq b m w w' := by
  obtain ⟨c0, c1, c2, c3, c4, c5, c6, c7, c8⟩ := h.cells
  have fz := h.fz
  have HK0 := hid (HK.of h (Bq.refl b m w))
  have KK : Hid (bkA (k.turn s 0) m = ((((bkA k m).setIfInBounds 2 (.int .i64 s)).setIfInBounds 3 (.int .i64 0)).setIfInBounds 4 (.int .i64 0)).setIfInBounds 5 (.int .i64 (k.trn + 1))) := rfl
  have KW : Hid ((k.turn s 0).ways = k.ways) := rfl
  generalize k.turn s 0 = k2 at *
  clear h
  go_enter Try.func19, Try.ntmps19
  go_wp2
  go_end0
  refine ⟨rfl, ?_⟩
  exact ((((HK0.out.set 2 _).set 3 _).set 4 _).set 5 _).bx k2 KK.out.symm KW.out
end Go.Proofs.Ytddnagoljdhnlaa
