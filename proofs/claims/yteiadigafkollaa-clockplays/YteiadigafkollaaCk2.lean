/- The queue's add, remove, move; IndexFunc and place; slices.Clone. -/
import Derived.Test.YteiadigafkollaaCk1
import Derived.Laws.AppendOwnNone
namespace Go.Proofs.Yteiadigafkollaa
open Go.RowKit Go.Sort Go.Shelf

theorem KeepQ.below {qb qo X : Nat} {a b c : World} (h : KeepQ qb qo X a b) (k : Below b.heap.size b c) (hq : qb < b.heap.size) : KeepQ qb qo X a c :=
  ⟨k.os.trans h.os, k.tape.trans h.tape, k.output.trans h.output, Nat.le_trans h.size k.size, fun i hi h1 h2 => (k.block i (Nat.lt_of_lt_of_le hi h.size)).trans (h.block i hi h1 h2), fun o ho => (k.cell (p := ⟨qb, o, none⟩) hq).trans (h.cell o ho), fun o => (k.frozen (p := ⟨qb, o, none⟩) hq).trans (h.frozen o)⟩
theorem QAt.below {w w' : World} {qb qo X cap : Nat} {d : Array Tm} (h : QAt w qb qo X cap d) (k : Below w.heap.size w w') : QAt w' qb qo X cap d :=
  ⟨(k.cell (p := ⟨qb, qo, none⟩) h.lt).trans h.head, (k.frozen (p := ⟨qb, qo, none⟩) h.lt).trans h.free, h.row.keep (k.block X h.row.lt), h.ne, Nat.lt_of_lt_of_le h.lt k.size⟩

theorem set_same {l : List Value} {i : Nat} {x : Value} (h : l[i]? = some x) : l.set i x = l := by
  obtain ⟨hi, e⟩ := List.getElem?_eq_some_iff.1 h
  rw [← e]; exact List.set_getElem_self hi
set_option maxHeartbeats 2000000 in
theorem qremove_any (w : World) (qb qo X cap : Nat) (d : Array Tm) (h : QAt w qb qo X cap d) (hm : d.size ≤ 1000000000000) (i : Nat) (hi : i < d.size) (x : Int) (hx : x = i) :
    Calls Try.prog 40 #[.pointer (some ⟨qb, qo, none⟩), .int .i64 x] w fun e w' => e = .returned (.tuple #[]) ∧ QAt w' qb qo X cap (hRem i d) ∧ KeepQ qb qo X w w' := by
  subst hx
  have R := remove_any w qb qo X cap d h hm i hi _ rfl
  clear h
  go_enter Try.func40, Try.ntmps40
  go_wp2_with (go_at_call 52; refine R.mono ?_; rintro e w' ⟨⟨v, rfl⟩, hq, hk⟩)
  go_end0
  exact ⟨rfl, hq, hk⟩
set_option maxHeartbeats 2000000 in
theorem qmove_any (w : World) (qb qo X cap : Nat) (d : Array Tm) (h : QAt w qb qo X cap d) (hm : d.size ≤ 1000000000000) (i : Nat) (hi : i < d.size) (x at' : Int) (hx : x = i) :
    Calls Try.prog 42 #[.pointer (some ⟨qb, qo, none⟩), .int .i64 x, .int .i64 at'] w fun e w' => e = .returned (.tuple #[]) ∧ QAt w' qb qo X cap (hFix d.size i (d.setIfInBounds i ⟨d[i]!.num, at', d[i]!.ev⟩)) ∧ KeepQ qb qo X w w' := by
  subst hx
  obtain ⟨c1, c2, c3⟩ := h.row.cells hi
  have hf := h.row.frozen
  have hc := h.head
  have hb := h.row.bound
  unfold maxLen at hb
  obtain ⟨hb1, hb2⟩ := hb
  have Q2 : QAt (w.setCell ⟨X, i * 3 + 1, none⟩ (.int .i64 at')) qb qo X cap (d.setIfInBounds i ⟨d[i]!.num, at', d[i]!.ev⟩) := by
    have b1 : ∀ k, k ≠ X → (w.setCell ⟨X, i * 3 + 1, none⟩ (.int .i64 at')).heap[k]? = w.heap[k]? := fun k hk => Below.heap_setCell _ _ _ _ hk
    refine ⟨?_, ?_, ?_, h.ne, by simpa [World.setCell] using h.lt⟩
    · rw [World.cell?_of_block (w := w) (b1 qb h.ne), Array.size_setIfInBounds]; exact h.head
    · rw [World.frozen?_setCell]; exact h.free
    · unfold Row
      rw [Array.size_setIfInBounds, Array.toList_setIfInBounds, ← tmC_set _ _ _ (by simpa using hi)]
      have e := (World.ownsRow.stored h.row (i * 3 + 1) (.int .i64 at')).1
      have hl : i < d.toList.length := by simpa using hi
      have g0 : (d.toList.flatMap tmC)[i * 3]? = some (.int .i64 d[i]!.num) := by have := tmC_at d.toList i 0 hl (by omega); rw [get!_list d i hi]; simpa [tmC] using this
      have g2 : (d.toList.flatMap tmC)[i * 3 + 2]? = some (.int .i64 d[i]!.ev) := by have := tmC_at d.toList i 2 hl (by omega); rw [get!_list d i hi]; simpa [tmC] using this
      have s0 : (d.toList.flatMap tmC).set (i * 3) (.int .i64 d[i]!.num) = d.toList.flatMap tmC := set_same g0
      have s2 : ((d.toList.flatMap tmC).set (i * 3 + 1) (.int .i64 at')).set (i * 3 + 2) (.int .i64 d[i]!.ev) = (d.toList.flatMap tmC).set (i * 3 + 1) (.int .i64 at') := by
        refine set_same ?_
        rw [List.getElem?_set_ne (by omega)]; exact g2
      rw [s0, s2]; exact e
  have K2 : Keep X w (w.setCell ⟨X, i * 3 + 1, none⟩ (.int .i64 at')) := ⟨rfl, rfl, rfl, by simp [World.setCell], fun k _ hk => Below.heap_setCell _ _ _ _ hk⟩
  have F := fix_any _ qb qo X cap _ Q2 (by simpa using hm) i (by simpa using hi) i rfl
  rw [Array.size_setIfInBounds] at F
  have hne := h.ne
  have hlt := h.lt
  have HK : Hid _ := K2
  clear h Q2 K2
  generalize d[i]! = t at *
  go_enter Try.func42, Try.ntmps42
  go_wp2_with (go_at_call 53; refine F.mono ?_; rintro e w' ⟨rfl, hq, hk⟩)
  go_end0
  exact ⟨rfl, hq, (HK.out.trans hk).q hne hlt⟩
set_option maxHeartbeats 2000000 in
theorem qadd_any (w : World) (qb qo X : Nat) (d : Array Tm) (v : Value) (hc : w.cell? ⟨qb, qo, none⟩ = some v) (hf : w.frozen? ⟨qb, qo, none⟩ = false) (hlt : qb < w.heap.size) (hne : qb ≠ X) (hX : X ≤ w.heap.size) (hsv : SV w X v d) (t : Tm) (hl : d.size ≤ 100000) :
    Calls Try.prog 49 #[.pointer (some ⟨qb, qo, none⟩), .agg #[.int .i64 t.num, .int .i64 t.tm, .int .i64 t.ev]] w fun e w' => e = .returned (.tuple #[]) ∧ ∃ g cap, QAt w' qb qo g cap (hUp tlt d.size (d.push t)) ∧ (g = X ∨ w.heap.size ≤ g) ∧ KeepQ qb qo X w w' := by
  have P1 : ∀ o, Calls Try.prog 65 #[.iface 74 (.pointer (some ⟨qb, qo, none⟩)), .iface 47 (.agg #[.int .i64 t.num, .int .i64 t.tm, .int .i64 t.ev])] (w.alloc o) fun e w' => e = .returned (.tuple #[]) ∧ ∃ g cap, QAt w' qb qo g cap (hUp tlt d.size (d.push t)) ∧ (g = X ∨ w.heap.size ≤ g) ∧ KeepQ qb qo X w w' := by
    intro o
    have hs : (w.alloc o).heap.size = w.heap.size + 1 := by show (w.heap.push o).size = _; simp
    have bl := fun k hk => Below.heap_alloc w o k hk
    have hsv2 : SV (w.alloc o) X v d := by
      rcases hsv with ⟨cap, rfl, hr⟩ | h
      · exact Or.inl ⟨cap, rfl, hr.keep (bl X hr.lt)⟩
      · exact Or.inr h
    refine (heapPush_any (w.alloc o) qb qo X d v ((World.cell?_of_block (w := w) (bl qb hlt)).trans hc) ((World.frozen?_of_block (w := w) (bl qb hlt)).trans hf) (by omega) hne (by omega) hsv2 t hl).mono ?_
    rintro e w' ⟨he, g, cap, hq, hg, hk⟩
    refine ⟨he, g, cap, hq, by omega, ⟨hk.os, hk.tape, hk.output, by have := hk.size; omega, fun k h1 h2 h3 => (hk.block k (by omega) h2 h3).trans (bl k h1), fun o' ho' => (hk.cell o' ho').trans (World.cell?_of_block (w := w) (bl qb hlt)), fun o' => (hk.frozen o').trans (World.frozen?_of_block (w := w) (bl qb hlt))⟩⟩
  clear hsv hX
  go_enter Try.func49, Try.ntmps49
  go_wp2_with (go_at_call 65; refine (P1 _).mono ?_; rintro e w' ⟨rfl, g, cap, hq, hg, hk⟩)
  go_end0
  exact ⟨rfl, g, cap, hq, hg, hk⟩

/-- Where the timer of a number stands, from k on; -1: nowhere. -/
def plc (n : Int) (k : Nat) : List Tm → Int
  | [] => -1
  | t :: r => if t.num = n then k else plc n (k + 1) r
theorem drop_cons {α : Type} {l : List α} {k : Nat} (h : k < l.length) : l.drop k = l[k] :: l.drop (k + 1) := List.drop_eq_getElem_cons h
set_option maxHeartbeats 2000000 in
/-- The function that place hands on, at a timer. -/
theorem place1_any (t : Tm) (n : Int) (b : Nat) (w : World) (hb : w.cell? ⟨b, 0, none⟩ = some (.int .i64 n)) (hlt : b < w.heap.size) :
    Calls Try.prog 51 #[.agg #[.int .i64 t.num, .int .i64 t.tm, .int .i64 t.ev], .pointer (some ⟨b, 0, none⟩)] w fun e w' => e = .returned (.bool (t.num == n)) ∧ Below w.heap.size w w' := by
  have hc : ∀ o, (w.alloc o).cell? ⟨b, 0, none⟩ = some (.int .i64 n) := fun o => (World.cell?_of_block (w := w) (Below.heap_alloc w o b hlt)).trans hb
  have HB : Hid (∀ o, Below w.heap.size w (w.alloc o)) := fun o => (Below.refl _ _).alloc (Nat.le_refl _) o
  go_enter Try.func51, Try.ntmps51
  go_wp2
  go_ret
  exact ⟨rfl, HB.out _⟩
end Go.Proofs.Yteiadigafkollaa
