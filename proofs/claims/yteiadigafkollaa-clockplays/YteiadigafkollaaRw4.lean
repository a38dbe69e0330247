/- A timer appended to the queue; heap.Push. -/
import Derived.Test.YteiadigafkollaaRw3
import Derived.Deep.AppendLies
import Derived.Deep.RegionLaw
import Derived.ArgAppend
namespace Go.Proofs.Yteiadigafkollaa
open Go.RowKit Go.Sort Go.Shelf

theorem info_parts {P : Program} {t : TypeId} {z : Value} {n m : Nat} (h : (P.info? t).map (fun i => (i.zero, i.size, i.bytes)) = some (some z, n, m)) : ∃ i, P.info? t = some i ∧ i.zero = some z ∧ i.size = n ∧ i.bytes = m := by
  obtain ⟨i, h1, h2⟩ := Option.map_eq_some_iff.1 h
  simp only [Prod.mk.injEq] at h2
  exact ⟨i, h1, h2.1, h2.2.1, h2.2.2⟩
theorem info_tm : (Try.prog.info? 47).map (fun i => (i.zero, i.size, i.bytes)) = some (some (.agg #[.int .i64 0, .int .i64 0, .int .i64 0]), 3, 24) := by kernel_rfl
/-- The slice is the row X, or one that has no room and holds nothing. -/
def SV (w : World) (X : Nat) (v : Value) (d : Array Tm) : Prop := (∃ cap, v = .slice (some ⟨X, 0, none⟩) d.size cap ∧ Row w X cap d) ∨ (d = #[] ∧ ∃ ao, v = .slice ao 0 0)
theorem alloc_block (w : World) (o : Obj) (k : Nat) (h : k < w.heap.size) : (w.drew.alloc o).heap[k]? = w.heap[k]? := Below.heap_alloc w.drew o k h
theorem SV.alloc {w : World} {X : Nat} {v : Value} {d : Array Tm} (h : SV w X v d) (_ : X ≤ w.heap.size) (o : Obj) : SV (w.drew.alloc o) X v d := by
  rcases h with ⟨cap, rfl, hr⟩ | h
  · exact Or.inl ⟨cap, rfl, hr.keep (alloc_block w o X hr.lt)⟩
  · exact Or.inr h
theorem news_at (w0 : World) (cells : Array Value) (t : TypeId) (news : List Value) (h : cells.toList = news) : ∀ j u, news[j]? = some u → (w0.alloc (.cells cells t)).cell? ((⟨w0.heap.size, 0, none⟩ : Addr).add j) = some u := by
  intro j u hj
  have hadd : (⟨w0.heap.size, 0, none⟩ : Addr).add j = ⟨w0.heap.size, j, none⟩ := by unfold Addr.add; split <;> simp_all
  rw [hadd, cell_of_row _ _ _ _ _ _ (heap_alloc_new w0 _), ← Array.getElem?_toList, h]; exact hj
theorem row_of_owns {w : World} {base g cap : Nat} {d : Array Tm} (h : w.ownsRow base 47 3 (.slice (some ⟨g, 0, none⟩) d.size cap) d.size (d.toList.flatMap tmC)) : Row w g cap d ∧ base ≤ g := by
  obtain ⟨h0, h | ⟨g', c, cur, e1, e2, e0, e3⟩⟩ := h
  · cases h.1
  · cases e1; exact ⟨⟨h0, Or.inr ⟨g, cap, cur, rfl, Nat.le_refl _, e0, e3⟩⟩, e2⟩
theorem Row.base {w : World} {X cap : Nat} {d : Array Tm} (h : Row w X cap d) : w.ownsRow X 47 3 (.slice (some ⟨X, 0, none⟩) d.size cap) d.size (d.toList.flatMap tmC) := h
theorem keep_of_grown {w w' : World} {X : Nat} {row : Option Nat} (h : w.grownBy w' row) (hr : row = none ∨ row = some X) : Keep X w w' :=
  ⟨h.os, h.tape, h.output, h.size, fun k hk hx => h.block k hk (by rcases hr with rfl | rfl <;> simp [hx])⟩
theorem run_push_tm {P : Program} (hi : (P.info? 47).map (fun i => (i.zero, i.size, i.bytes)) = some (some (.agg #[.int .i64 0, .int .i64 0, .int .i64 0]), 3, 24)) (t ty : TypeId) (ht : P.underlying t = some (.slice 47))
    (w : World) (X : Nat) (v : Value) (d : Array Tm) (hsv : SV w X v d) (hX : X ≤ w.heap.size) (nt : Tm) (b c : Nat) (hnews : ∀ j u, (tmC nt)[j]? = some u → w.cell? ((⟨b, 0, none⟩ : Addr).add j) = some u) (hlen : d.size ≤ 100000) :
    ∃ g cap w', (Builtin.append_ #[t, t] ty #[v, .slice (some ⟨b, 0, none⟩) 1 c]).run P w = .ok (.slice (some ⟨g, 0, none⟩) (d.size + 1) cap) w' ∧ Row w' g cap (d.push nt) ∧ (g = X ∨ w.heap.size ≤ g) ∧ Keep X w w' := by
  obtain ⟨i0, hi0, hz0, hz1, hz2⟩ := info_parts hi
  have hfl : (d.push nt).toList.flatMap tmC = d.toList.flatMap tmC ++ tmC nt := by simp
  rcases hsv with ⟨cap, rfl, hr⟩ | ⟨rfl, ao, rfl⟩
  · obtain ⟨g, cap', w', e1, e2, e3, e4, e5⟩ := run_append_lies w t ty X 47 i0 (.agg #[.int .i64 0, .int .i64 0, .int .i64 0]) 3 24 ht hi0 hz0 hz1 hz2 rfl (by decide) _ d.size (d.toList.flatMap tmC) hr.base ⟨b, 0, none⟩ 1 c (tmC nt) rfl hnews (fun u hu => tmC_one [nt] u (by simpa using hu)) (by decide) (by unfold maxLen; omega) (by omega) hX _ rfl
    refine ⟨g, cap', w', e1, ?_, ?_, keep_of_grown e3 (Or.inr rfl)⟩
    · rw [← hfl] at e2
      have := row_of_owns (d := d.push nt) (by rw [Array.size_push]; exact e2)
      exact this.1
    · rcases e4 with e4 | e4
      · left; simpa [Value.ownBlock] using e4.symm
      · right; omega
  · cases ao with
    | none =>
      obtain ⟨g, cap', w', e1, e2, e3, e4, e5⟩ := run_append_lies w t ty w.heap.size 47 i0 (.agg #[.int .i64 0, .int .i64 0, .int .i64 0]) 3 24 ht hi0 hz0 hz1 hz2 rfl (by decide) (.slice none 0 0) 0 [] (World.ownsRow_nil _ _ _ _) ⟨b, 0, none⟩ 1 c (tmC nt) rfl hnews (fun u hu => tmC_one [nt] u (by simpa using hu)) (by decide) (by unfold maxLen; omega) (by omega) (Nat.le_refl _) _ rfl
      have := row_of_owns (w := w') (base := w.heap.size) (g := g) (cap := cap') (d := #[nt]) (by simpa using e2)
      exact ⟨g, cap', w', e1, this.1, Or.inr this.2, keep_of_grown e3 (Or.inl rfl)⟩
    | some a0 =>
      obtain ⟨v', w', e1, e2, e3⟩ := run_append_arg_grows w t ty 47 i0 (.agg #[.int .i64 0, .int .i64 0, .int .i64 0]) 3 24 ht hi0 hz0 hz1 hz2 rfl (by decide) a0 0 0 [] rfl (fun j u hj => by simp at hj) ⟨b, 0, none⟩ 1 c (tmC nt) rfl hnews (by decide) (by unfold maxLen; omega) (by omega)
      obtain ⟨g, cap', rfl, _, _⟩ := e2.form (by decide)
      have := row_of_owns (w := w') (base := w.heap.size) (g := g) (cap := cap') (d := #[nt]) (by simpa using e2)
      exact ⟨g, cap', w', e1, this.1, Or.inr this.2, keep_of_grown e3 (Or.inl rfl)⟩
theorem step_push {P : Program} {ops : Array Oper} {o : Oper} {a : Act} {K : Act → World → Prop} {Q : Exit → Act → World → Prop} {E : Prop} (hgd : o.guard = none) (s x : Operand) (t : TypeId)
    (ho : o.op = .call { callee := .builtin .append, args := #[s, x], argTypes := #[t, t] })
    (hi : (P.info? 47).map (fun i => (i.zero, i.size, i.bytes)) = some (some (.agg #[.int .i64 0, .int .i64 0, .int .i64 0]), 3, 24)) (ht : P.underlying t = some (.slice 47))
    (w : World) (X : Nat) (v : Value) (d : Array Tm) (hs : a.eval s = v) (hsv : SV w X v d) (hX : X ≤ w.heap.size) (nt : Tm) (b c : Nat) (hx : a.eval x = .slice (some ⟨b, 0, none⟩) 1 c)
    (hnews : ∀ j u, (tmC nt)[j]? = some u → w.cell? ((⟨b, 0, none⟩ : Addr).add j) = some u) (hlen : d.size ≤ 100000)
    (h : ∀ g cap w', Row w' g cap (d.push nt) → (g = X ∨ w.heap.size ≤ g) → Keep X w w' → K (a.put o.dst (.slice (some ⟨g, 0, none⟩) (d.size + 1) cap)) w') :
    if Region.wanted o (yielded ops a.tmps) = true then Oper.wp P o a w K Q else E := by
  have hw : Region.wanted o (yielded ops a.tmps) = true := by simp [Region.wanted, hgd]
  rw [if_pos hw]
  obtain ⟨g, cap, w', hr, h2, h3, h4⟩ := run_push_tm hi t o.type ht w X v d hsv hX nt b c hnews hlen
  unfold Oper.wp execOp
  simp only [ho, resolve, invoke, builtin, Sem.run_bind, Sem.run_pure, Result.andThen_ok, List.map_toArray, List.map_cons, List.map_nil, hs, hx, hr]
  exact h g cap w' h2 h3 h4

theorem run_assert_tm (v : Value) (w : World) : Sem.run Try.prog (Instr.typeAssert (.iface 47 v) 20 47 false) w = .ok v w := by
  obtain ⟨fs, hu⟩ : ∃ fs, Try.prog.underlying 47 = some (.struct fs) := ⟨_, Try.underlying47⟩
  simp [Instr.typeAssert, run_underlying hu]
theorem head_set {w : World} {qb qo : Nat} {v u : Value} (h : w.cell? ⟨qb, qo, none⟩ = some u) : (w.setCell ⟨qb, qo, none⟩ v).cell? ⟨qb, qo, none⟩ = some v := World.cell?_setCell_same _ _ _ h
theorem other_set {w : World} {qb qo o : Nat} {v : Value} (h : o ≠ qo) : (w.setCell ⟨qb, qo, none⟩ v).cell? ⟨qb, o, none⟩ = w.cell? ⟨qb, o, none⟩ := World.cell?_setCell_other _ _ _ _ (by intro e; injection e with _ e2 _; exact h e2.symm)
/-- All stands as it stood, but for one row and one cell of another block. -/
structure KeepQ (qb qo X : Nat) (w w' : World) : Prop where
  os : w'.os = w.os
  tape : w'.tape = w.tape
  output : w'.output = w.output
  size : w.heap.size ≤ w'.heap.size
  block : ∀ k, k < w.heap.size → k ≠ qb → k ≠ X → w'.heap[k]? = w.heap[k]?
  cell : ∀ o, o ≠ qo → w'.cell? ⟨qb, o, none⟩ = w.cell? ⟨qb, o, none⟩
  frozen : ∀ o, w'.frozen? ⟨qb, o, none⟩ = w.frozen? ⟨qb, o, none⟩
theorem Keep.q {qb qo X : Nat} {w w' : World} (h : Keep X w w') (hn : qb ≠ X) (hq : qb < w.heap.size) : KeepQ qb qo X w w' :=
  ⟨h.os, h.tape, h.output, h.size, fun k hk _ hx => h.block k hk hx, fun o _ => h.cell (p := ⟨qb, o, none⟩) hq hn, fun o => h.frozen (p := ⟨qb, o, none⟩) hq hn⟩
theorem KeepQ.refl (qb qo X : Nat) (w : World) : KeepQ qb qo X w w := ⟨rfl, rfl, rfl, Nat.le_refl _, fun _ _ _ _ => rfl, fun _ _ => rfl, fun _ => rfl⟩
/-- The row may be another one behind it: the old one, or a new one. -/
theorem KeepQ.trans {qb qo X X' : Nat} {a b c : World} (h : KeepQ qb qo X a b) (k : KeepQ qb qo X' b c) (hX : X' = X ∨ a.heap.size ≤ X') : KeepQ qb qo X a c :=
  ⟨k.os.trans h.os, k.tape.trans h.tape, k.output.trans h.output, Nat.le_trans h.size k.size,
   fun i hi hq hx => (k.block i (Nat.lt_of_lt_of_le hi h.size) hq (by omega)).trans (h.block i hi hq hx), fun o ho => (k.cell o ho).trans (h.cell o ho), fun o => (k.frozen o).trans (h.frozen o)⟩
set_option maxHeartbeats 2000000 in
set_option maxRecDepth 100000 in
theorem push_any (w : World) (qb qo X : Nat) (d : Array Tm) (v : Value) (hc : w.cell? ⟨qb, qo, none⟩ = some v) (hf : w.frozen? ⟨qb, qo, none⟩ = false) (hlt : qb < w.heap.size) (hne : qb ≠ X) (hX : X ≤ w.heap.size) (hsv : SV w X v d) (t : Tm) (hl : d.size ≤ 100000) :
    Calls Try.prog 95 #[.pointer (some ⟨qb, qo, none⟩), .iface 47 (.agg #[.int .i64 t.num, .int .i64 t.tm, .int .i64 t.ev])] w fun e w' => e = .returned (.tuple #[]) ∧ ∃ g cap, QAt w' qb qo g cap (d.push t) ∧ (g = X ∨ w.heap.size ≤ g) ∧ KeepQ qb qo X w w' := by
  have ta := run_assert_tm
  have HS : Hid (∀ o, SV (w.drew.alloc o) X v d) := fun o => hsv.alloc hX o
  have HX : Hid (∀ o, X ≤ (w.drew.alloc o).heap.size) := fun o => by show X ≤ (w.heap.push o).size; simp; omega
  have K1 : Hid (∀ o w3, Keep X (w.drew.alloc o) w3 → w3.cell? ⟨qb, qo, none⟩ = some v ∧ w3.frozen? ⟨qb, qo, none⟩ = false) := fun o w3 hk =>
    ⟨(hk.cell (p := ⟨qb, qo, none⟩) (by show qb < (w.heap.push o).size; simp; omega) hne).trans ((World.cell?_of_block (w := w) (alloc_block w o qb hlt)).trans hc),
     (hk.frozen (p := ⟨qb, qo, none⟩) (by show qb < (w.heap.push o).size; simp; omega) hne).trans ((World.frozen?_of_block (w := w) (alloc_block w o qb hlt)).trans hf)⟩
  have END : Hid (∀ o w3 g cap, Row w3 g cap (d.push t) → (g = X ∨ (w.drew.alloc o).heap.size ≤ g) → Keep X (w.drew.alloc o) w3 → QAt (w3.setCell ⟨qb, qo, none⟩ (.slice (some ⟨g, 0, none⟩) (d.size + 1) cap)) qb qo g cap (d.push t) ∧ (g = X ∨ w.heap.size ≤ g) ∧ KeepQ qb qo X w (w3.setCell ⟨qb, qo, none⟩ (.slice (some ⟨g, 0, none⟩) (d.size + 1) cap))) := by
    intro o w3 g cap hr hg hk
    have hs : (w.drew.alloc o).heap.size = w.heap.size + 1 := by show (w.heap.push o).size = _; simp
    have hgq : qb ≠ g := by omega
    obtain ⟨k1, k2⟩ := K1.out o w3 hk
    refine ⟨⟨?_, ?_, hr.keep (Below.heap_setCell _ _ _ _ (fun e => hgq e.symm)), hgq, ?_⟩, by omega, ⟨hk.os, hk.tape, hk.output, ?_, ?_, ?_, ?_⟩⟩
    · rw [Array.size_push]; exact head_set k1
    · rw [World.frozen?_setCell]; exact k2
    · have := hk.size; simp [World.setCell]; omega
    · have := hk.size; simp [World.setCell]; omega
    · intro k hk1 hk2 hk3
      rw [Below.heap_setCell _ _ _ _ (fun e => hk2 e), hk.block k (by omega) hk3, alloc_block w o k hk1]
    · intro o' ho'
      rw [other_set ho']
      exact (hk.cell (p := ⟨qb, o', none⟩) (by show qb < (w.heap.push o).size; simp; omega) hne).trans (World.cell?_of_block (w := w) (alloc_block w o qb hlt))
    · intro o'
      rw [World.frozen?_setCell]
      exact (hk.frozen (p := ⟨qb, o', none⟩) (by show qb < (w.heap.push o).size; simp; omega) hne).trans (World.frozen?_of_block (w := w) (alloc_block w o qb hlt))
  clear hsv hX
  go_enter Try.func95, Try.ntmps95
  go_region_law (refine step_push (by rfl) (.tmp 7) (.tmp 10) 58 (by rfl) info_tm Try.underlying58 _ X _ d (by rfl) (HS.out _) (HX.out _) t w.heap.size _ (by rfl) (news_at w.drew #[.int .i64 t.num, .int .i64 t.tm, .int .i64 t.ev] _ _ rfl) hl ?_; intro g cap w3 hr3 hg3 hk3; have hc3 := (K1.out _ _ hk3).1; have hf3 := (K1.out _ _ hk3).2)
  all_goals (try go_wp2)
  all_goals go_end0
  all_goals exact ⟨rfl, g, cap, END.out _ _ _ _ hr3 hg3 hk3⟩
end Go.Proofs.Yteiadigafkollaa
