/- Tokens: an argument of the type []onceweblaw04.Call, opened: the calls that it reads as. -/
import Derived.Test.YtkebflllbphkkaaDoorLaid
import Derived.Test.YtkebflllbphkkaaDoorFx2
import Derived.Test.YtkebflllbphkkaaDoorFx6
import Derived.Test.YtkebflllbphkkaaDoorRows
import Derived.Deep.Slices
import Derived.ProofKit
import Derived.OpenShut
import Derived.Carry
import Derived.Test.YtkebflllbphkkaaDoorGx3
import Derived.SizedLaws
import Derived.Test.YtkebflllbphkkaaDoorTl3
namespace Go.Proofs.YtkebflllbphkkaaDoor
open Go.ChangeShapes Go.WideShapes Go.ChangeAt Go.WideMaps Go.WideElems Go.RowKit

def frD {H : Type} (r : FRow) : DataW H := .agg [.lit (.string r.word.data.toList), .lit (.int .i64 r.text), .lit (.int .i64 r.least), .lit (.int .i64 r.most), .lit (.string r.op.data.toList), .lit (.string r.bt.data.toList), .lit (.string r.en.data.toList)]
theorem rowsData {H : Type} : (Rows.laid_onceweb_fail_rows : DataW H) = .agg (frows.map frD) := rfl
theorem wordsData {H : Type} : (Rows.laid_onceweb_fail_words : DataW H) = .agg (wd.map fun z => .lit (.string z.data.toList)) := rfl
theorem gRows : Tryd.prog.globalNamed "onceweb/fail.rows" = some 0 := by kernel_rfl
theorem tRows : (Tryd.prog.globals[0]?).map (·.type) = some 120 := by kernel_rfl
theorem gWords : Tryd.prog.globalNamed "onceweb/fail.words" = some 1 := by kernel_rfl
theorem tWords : (Tryd.prog.globals[1]?).map (·.type) = some 130 := by kernel_rfl
theorem cellsRow : Tryd.prog.cellsOf 119 = 7 := by kernel_rfl
theorem cellsInt : Tryd.prog.cellsOf 3 = 1 := by kernel_rfl
theorem bytes_of_list {a b : ByteArray} (h : a.data.toList = b.data.toList) : a = b := by
  cases a; cases b; simp at h; subst h; rfl
set_option maxRecDepth 100000 in
theorem open_frow {H : Type} {enc : TypeId × Value → H} {W : World} {base : Nat} {sp : Nat → Bool} {held : Bool} {n : Nat} {cs : List Value} {p : List MemPlace} {r : FRow}
    (h : DataW.trod enc Tryd.prog W base sp held n 119 cs = some (frD r, p)) : cs = frC r := by
  obtain ⟨xs, k, _, hx, hcl, hxl, hf⟩ := DataW.trod_struct Tryd.underlying119 h
  rw [cellsRow] at hcl
  match xs, hxl, cs, hcl with
  | [y0, y1, y2, y3, y4, y5, y6], _, [c0, c1, c2, c3, c4, c5, c6], _ =>
    have g0 := hf 0 _ rfl
    have g1 := hf 1 _ rfl
    have g2 := hf 2 _ rfl
    have g3 := hf 3 _ rfl
    have g4 := hf 4 _ rfl
    have g5 := hf 5 _ rfl
    have g6 := hf 6 _ rfl
    simp [cellsInt, cellsStr] at g0 g1 g2 g3 g4 g5 g6
    obtain ⟨s0, e0, f0, _⟩ := DataW.trod_string Tryd.underlying9 g0
    obtain ⟨m1, e1, f1, _⟩ := DataW.trod_int Tryd.underlying3 g1
    obtain ⟨m2, e2, f2, _⟩ := DataW.trod_int Tryd.underlying3 g2
    obtain ⟨m3, e3, f3, _⟩ := DataW.trod_int Tryd.underlying3 g3
    obtain ⟨s4, e4, f4, _⟩ := DataW.trod_string Tryd.underlying9 g4
    obtain ⟨s5, e5, f5, _⟩ := DataW.trod_string Tryd.underlying9 g5
    obtain ⟨s6, e6, f6, _⟩ := DataW.trod_string Tryd.underlying9 g6
    simp only [List.cons.injEq, and_true] at e0 e1 e2 e3 e4 e5 e6
    subst e0 e1 e2 e3 e4 e5 e6 f0 f1 f2 f3 f4 f5 f6
    simp only [frD, Prod.mk.injEq, DataW.agg.injEq, List.map_cons, List.map_nil, List.cons.injEq, DataW.lit.injEq, Lit.string.injEq, Lit.int.injEq, and_true, true_and] at hx
    obtain ⟨⟨h0, h1, h2, h3, h4, h5, h6⟩, _⟩ := hx
    unfold frC
    rw [bytes_of_list h0, h1, h2, h3, bytes_of_list h4, bytes_of_list h5, bytes_of_list h6]
theorem rowsAt_of {W : World} {t : TypeId} {cs : Array Value} {g fuel : Nat} {p : List MemPlace} (hg : Tryd.prog.globalNamed "onceweb/fail.rows" = some g) (ht : (Tryd.prog.globals[g]?).map (·.type) = some t) (hv : W.var? Tryd.prog "onceweb/fail.rows" = some cs)
    (hd : DataW.trod (fun _ => ()) Tryd.prog W 0 (fun _ => true) false fuel t cs.toList = some (Rows.laid_onceweb_fail_rows, p)) : RowsAt W := by
  obtain rfl := Option.some.inj (gRows.symm.trans hg)
  obtain rfl := Option.some.inj (tRows.symm.trans ht)
  rw [rowsData] at hd
  obtain ⟨xs, m, _, hx, hlen, hxl, hel⟩ := DataW.trod_array Tryd.underlying120 hd
  intro k hk j hj
  rw [World.var?_cell hg hv (k * 7 + j), ← Array.getElem?_toList]
  have hk12 : k < 12 := by rw [frows_len] at hk; exact hk
  have h0 := hel k hk12
  have hxi : xs[k]? = some (xs[k]'(by omega)) := by simp
  simp only [Prod.mk.injEq, DataW.agg.injEq] at hx
  obtain ⟨r, hr⟩ : ∃ r, r = frows[k] := ⟨_, rfl⟩
  have hr2 : frows[k]? = some r := by rw [hr]; exact List.getElem?_eq_getElem hk
  have h2 : (xs.map (·.1))[k]? = some (frD r) := by rw [← hx.1, List.getElem?_map, hr2]; rfl
  rw [List.getElem?_map, hxi, Option.map_some, Option.some.injEq] at h2
  rw [hxi, cellsRow] at h0
  have h3 := open_frow (r := r) (p := (xs[k]'(by omega)).2) (by rw [h0, ← h2])
  show cs.toList[k * 7 + j]? = (frC frows[k])[j]?
  rw [← hr, ← h3]
  rw [List.getElem?_take_of_lt hj, List.getElem?_drop]
theorem wordsAt_of {W : World} {t : TypeId} {cs : Array Value} {g fuel : Nat} {p : List MemPlace} (hg : Tryd.prog.globalNamed "onceweb/fail.words" = some g) (ht : (Tryd.prog.globals[g]?).map (·.type) = some t) (hv : W.var? Tryd.prog "onceweb/fail.words" = some cs)
    (hd : DataW.trod (fun _ => ()) Tryd.prog W 0 (fun _ => true) false fuel t cs.toList = some (Rows.laid_onceweb_fail_words, p)) : WordsAt W := by
  obtain rfl := Option.some.inj (gWords.symm.trans hg)
  obtain rfl := Option.some.inj (tWords.symm.trans ht)
  rw [wordsData] at hd
  intro i hi
  rw [World.var?_cell hg hv i, ← Array.getElem?_toList]
  exact cells_of_strs Tryd.underlying130 Tryd.underlying9 cellsStr wd_len hd i hi
end Go.Proofs.YtkebflllbphkkaaDoor
namespace Go.Proofs.YtkebflllbphkkaaDoor
open Go.ChangeShapes Go.WideShapes Go.ChangeAt Go.RowKit

theorem cellsCr : Tryd.prog.cellsOf 56 = 3 := by kernel_rfl
theorem cellsI : Tryd.prog.cellsOf 3 = 1 := by kernel_rfl
theorem cellsS : Tryd.prog.cellsOf 9 = 1 := by kernel_rfl
set_option maxRecDepth 100000 in
theorem open_cr {H : Type} {enc : TypeId × Value → H} {W : World} {base : Nat} {sp : Nat → Bool} {held : Bool} {n : Nat} {cs : List Value} {x : DataW H × List MemPlace} (h : DataW.trod enc Tryd.prog W base sp held n 56 cs = some x) :
    ∃ c : Cr, cs = crC c ∧ c.text.size ≤ maxLen := by
  obtain ⟨xs, k, _, hx, hcl, hxl, hf⟩ := DataW.trod_struct Tryd.underlying56 h
  rw [cellsCr] at hcl
  match xs, hxl, cs, hcl with
  | [y0, y1, y2], _, [c0, c1, c2], _ =>
    have g0 := hf 0 _ rfl
    have g1 := hf 1 _ rfl
    have g2 := hf 2 _ rfl
    simp [cellsI, cellsS] at g0 g1 g2
    obtain ⟨m0, e0, f0, _⟩ := DataW.trod_int Tryd.underlying3 g0
    obtain ⟨m1, e1, f1, _⟩ := DataW.trod_int Tryd.underlying3 g1
    obtain ⟨s, e2, f2, hs⟩ := DataW.trod_string Tryd.underlying9 g2
    simp only [List.cons.injEq, and_true] at e0 e1 e2
    subst e0 e1 e2
    exact ⟨⟨m0, m1, s⟩, rfl, hs⟩
set_option maxRecDepth 100000 in
theorem spot_none {W : World} {a : Addr} {u : Value} (h : W.cell? a = some u) : a = ⟨a.block, a.off, none⟩ := by
  obtain ⟨b, o, s⟩ := a
  cases s with
  | none => rfl
  | some k =>
    exfalso
    unfold World.cell? at h
    split at h
    · simp at h
    · cases h
set_option maxRecDepth 100000 in
theorem ok_place {W : World} {r : Reach} {b0 : Nat} {t e : TypeId} {a : Addr} {l c : Nat} (ht : Tryd.prog.underlying t = some (.slice e)) (h : Value.okWide Tryd.prog W r b0 t (.slice (some a) l c)) : a = ⟨a.block, a.off, none⟩ ∧ a.block < W.heap.size := by
  simp only [Value.okWide, ht, Cell.okWide, Cell.ok] at h
  obtain ⟨_, _, _, h2, row, cells, h3, _⟩ := h
  obtain ⟨b, o, s⟩ := a
  simp only at h2
  subst h2
  refine ⟨rfl, ?_⟩
  by_cases hb : b < W.heap.size
  · exact hb
  · simp [World.shape?, Array.getElem?_eq_none (Nat.le_of_not_lt hb)] at h3
set_option maxRecDepth 100000 in
theorem open_fail {H : Type} {enc : TypeId × Value → H} {W : World} {r : Reach} {b0 : Nat} {v : Value} {d : DataW H} {ps : List MemPlace} (hval : Value.okWide Tryd.prog W r b0 30 v) (h : DataW.Trod enc Tryd.prog W 0 (fun _ => true) true 30 v d ps) :
    ∃ l : List Cr, CS W v l ∧ (∀ c ∈ l, c.text.size ≤ maxLen) ∧ (l = [] ∨ ∃ es spare, d = .slice es spare ∧ es.length = l.length) := by
  obtain ⟨fuel, h⟩ := h
  obtain ⟨a0, l0, c0, rfl⟩ := okWide_slice Tryd.underlying30 hval
  rcases Deep.open_slice Tryd.underlying30 h with ⟨h1, h2⟩ | ⟨a, len, cap, m, n, D, Pl, hcs, _, hlc, hcm, hm, hx, hel⟩
  · simp [Value.cells] at h1
    obtain ⟨rfl, rfl, rfl⟩ := h1
    exact ⟨[], Or.inl ⟨Or.inl rfl, rfl⟩, by simp, Or.inl rfl⟩
  · simp [Value.cells] at hcs
    obtain ⟨rfl, rfl, rfl⟩ := hcs
    obtain ⟨ha, hlt⟩ := ok_place Tryd.underlying30 hval
    have hlm : l0 ≤ m := by rw [hm]; simp; exact hlc
    rw [cellsCr] at hel
    obtain ⟨T, hT⟩ := @Deep.choose_lt Cr ⟨⟨0, 0, ByteArray.empty⟩⟩ l0 (fun i t => W.cells? 0 (a.add (i * 3)) 3 = some (crC t) ∧ t.text.size ≤ maxLen) (fun i hi => by
      obtain ⟨cs', g1, g2⟩ := hel i (by omega)
      obtain ⟨t, e1, e2⟩ := open_cr g2
      exact ⟨t, by rw [g1, e1], e2⟩)
    have hll : ((List.range l0).map T).length = l0 := by simp
    simp only [Prod.mk.injEq] at hx
    refine ⟨(List.range l0).map T, ?_, ?_, Or.inr ⟨_, _, hx.1, by simp⟩⟩
    · refine Or.inr ⟨a.block, a.off, c0, by rw [hll, ← ha], hlt, by rw [hll]; exact hlc, fun k hk => ?_⟩
      have hk' : k < l0 := by rw [hll] at hk; exact hk
      have hcell : ∀ j, j < 3 → W.cell? ((a.add (k * 3)).add j) = (crC (T k))[j]? := (World.cells?_some (hT k hk').1).2.2
      have ek : ((List.range l0).map T)[k] = T k := by simp
      rw [ek]
      have hadd : ∀ j, (a.add (k * 3)).add j = ⟨a.block, a.off + k * 3 + j, none⟩ := by
        intro j
        rw [Deep.add_add]
        unfold Addr.add
        split
        · rename_i hz
          rw [show a.off + k * 3 + j = a.off by omega]; exact ha
        · simp
      have q0 := hcell 0 (by omega)
      have q1 := hcell 1 (by omega)
      have q2 := hcell 2 (by omega)
      rw [hadd] at q0 q1 q2
      exact ⟨q0, q1, q2⟩
    · intro t ht
      obtain ⟨i, hi, rfl⟩ := List.mem_map.1 ht
      exact (hT i (List.mem_range.1 hi)).2
theorem bytesCr : Tryd.prog.bytesOf 56 = 32 := by kernel_rfl
end Go.Proofs.YtkebflllbphkkaaDoor
namespace Go.Proofs.YtkebflllbphkkaaDoor
open Go.ChangeShapes Go.WideShapes Go.ChangeAt Go.RowKit

theorem cellsFl : Tryd.prog.cellsOf 30 = 1 := by kernel_rfl
set_option maxRecDepth 100000 in
theorem open_fl {H : Type} {enc : TypeId × Value → H} {W : World} {held : Bool} {n : Nat} {cs : List Value} {x : DataW H × List MemPlace} (h : DataW.trod enc Tryd.prog W 0 (fun _ => true) held n 30 cs = some x) :
    ∃ (v : Value) (l : List Cr), cs = [v] ∧ CS W v l ∧ (∀ c ∈ l, c.text.size ≤ maxLen) ∧ (l = [] ∨ ∃ es spare, x.1 = .slice es spare ∧ es.length = l.length) := by
  rcases Deep.open_slice Tryd.underlying30 h with ⟨h1, h2⟩ | ⟨a, l0, c0, m, n, D, Pl, hcs, _, hlc, hcm, hm, hx, hel⟩
  · exact ⟨_, [], h1, Or.inl ⟨Or.inl rfl, rfl⟩, by simp, Or.inl rfl⟩
  · have hlm : l0 ≤ m := by rw [hm]; simp; exact hlc
    by_cases h0 : l0 = 0
    · subst h0
      exact ⟨_, [], hcs, Or.inl ⟨Or.inr ⟨a, c0, rfl⟩, rfl⟩, by simp, Or.inl rfl⟩
    rw [cellsCr] at hel
    obtain ⟨T, hT⟩ := @Deep.choose_lt Cr ⟨⟨0, 0, ByteArray.empty⟩⟩ l0 (fun i t => W.cells? 0 (a.add (i * 3)) 3 = some (crC t) ∧ t.text.size ≤ maxLen) (fun i hi => by
      obtain ⟨cs', g1, g2⟩ := hel i (by omega)
      obtain ⟨t, e1, e2⟩ := open_cr g2
      exact ⟨t, by rw [g1, e1], e2⟩)
    have hll : ((List.range l0).map T).length = l0 := by simp
    have hcell : ∀ i, i < l0 → ∀ j, j < 3 → W.cell? ((a.add (i * 3)).add j) = (crC (T i))[j]? := fun i hi => (World.cells?_some (hT i hi).1).2.2
    have ha : a = ⟨a.block, a.off, none⟩ := by
      have := hcell 0 (by omega) 0 (by omega)
      simp [Addr.add, crC] at this
      exact spot_none this
    have hlt : a.block < W.heap.size := by
      have := hcell 0 (by omega) 0 (by omega)
      simp [Addr.add, crC] at this
      exact block_lt_of_cell this
    refine ⟨_, (List.range l0).map T, hcs, ?_, ?_, Or.inr ⟨_, _, by rw [hx], by simp⟩⟩
    · refine Or.inr ⟨a.block, a.off, c0, by rw [hll, ← ha], hlt, by rw [hll]; exact hlc, fun k hk => ?_⟩
      have hk' : k < l0 := by rw [hll] at hk; exact hk
      have ek : ((List.range l0).map T)[k] = T k := by simp
      rw [ek]
      have hadd : ∀ j, (a.add (k * 3)).add j = ⟨a.block, a.off + k * 3 + j, none⟩ := by
        intro j
        rw [Deep.add_add]
        unfold Addr.add
        split
        · rename_i hz
          rw [show a.off + k * 3 + j = a.off by omega]; exact ha
        · simp
      have q0 := hcell k hk' 0 (by omega)
      have q1 := hcell k hk' 1 (by omega)
      have q2 := hcell k hk' 2 (by omega)
      rw [hadd] at q0 q1 q2
      exact ⟨q0, q1, q2⟩
    · intro t ht
      obtain ⟨i, hi, rfl⟩ := List.mem_map.1 ht
      exact (hT i (List.mem_range.1 hi)).2
set_option maxRecDepth 100000 in
theorem open_fails {H : Type} {enc : TypeId × Value → H} {W : World} {r : Reach} {b0 : Nat} {v : Value} {d : DataW H} {ps : List MemPlace} (hval : Value.okWide Tryd.prog W r b0 28 v) (h : DataW.Trod enc Tryd.prog W 0 (fun _ => true) true 28 v d ps) :
    ∃ ll : List (List Cr), FS W v ll ∧ (∀ x ∈ ll, ∀ c ∈ x, c.text.size ≤ maxLen) ∧ (ll = [] ∨ ∃ es spare, d = .slice es spare ∧ es.length = ll.length ∧ ∀ x ∈ ll, x = [] ∨ ∃ e ∈ es, ∃ es' sp', e = .slice es' sp' ∧ es'.length = x.length) := by
  obtain ⟨fuel, h⟩ := h
  obtain ⟨a0, l0, c0, rfl⟩ := okWide_slice Tryd.underlying28 hval
  rcases Deep.open_slice Tryd.underlying28 h with ⟨h1, h2⟩ | ⟨a, len, cap, m, n, D, Pl, hcs, _, hlc, hcm, hm, hx, hel⟩
  · simp [Value.cells] at h1
    obtain ⟨rfl, rfl, rfl⟩ := h1
    exact ⟨[], ⟨none, 0, rfl, Nat.le_refl _, fun k hk => by simp at hk⟩, by simp, Or.inl rfl⟩
  · simp [Value.cells] at hcs
    obtain ⟨rfl, rfl, rfl⟩ := hcs
    obtain ⟨ha, hlt⟩ := ok_place Tryd.underlying28 hval
    have hlm : l0 ≤ m := by rw [hm]; simp; exact hlc
    rw [cellsFl] at hel
    obtain ⟨T, hT⟩ := @Deep.choose_lt (Value × List Cr) ⟨⟨.slice none 0 0, []⟩⟩ l0 (fun i t => W.cells? 0 (a.add (i * 1)) 1 = some [t.1] ∧ CS W t.1 t.2 ∧ (∀ c ∈ t.2, c.text.size ≤ maxLen) ∧ (t.2 = [] ∨ ∃ es spare, D i = .slice es spare ∧ es.length = t.2.length)) (fun i hi => by
      obtain ⟨cs', g1, g2⟩ := hel i (by omega)
      obtain ⟨u, l, e1, e2, e3, e4⟩ := open_fl g2
      exact ⟨⟨u, l⟩, by rw [g1, e1], e2, e3, e4⟩)
    have hll : ((List.range l0).map (fun i => (T i).2)).length = l0 := by simp
    simp only [Prod.mk.injEq] at hx
    refine ⟨(List.range l0).map (fun i => (T i).2), ?_, ?_, Or.inr ⟨_, _, hx.1, by simp, ?_⟩⟩
    · refine ⟨some a, c0, by rw [hll], by rw [hll]; exact hlc, fun k hk => ?_⟩
      have hk' : k < l0 := by rw [hll] at hk; exact hk
      have hcell := (World.cells?_some (hT k hk').1).2.2 0 (by omega)
      have ek : ((List.range l0).map (fun i => (T i).2))[k] = (T k).2 := by simp
      rw [ek]
      have hadd : (a.add (k * 1)).add 0 = ⟨a.block, a.off + k, none⟩ := by
        rw [Deep.add_add]
        unfold Addr.add
        split
        · rename_i hz
          rw [show a.off + k = a.off by omega]; exact ha
        · simp
      rw [hadd] at hcell
      exact ⟨a.block, a.off, (T k).1, by rw [← ha], hlt, by simpa using hcell, (hT k hk').2.1⟩
    · intro x hx'
      obtain ⟨i, hi, rfl⟩ := List.mem_map.1 hx'
      exact (hT i (List.mem_range.1 hi)).2.2.1
    · intro x hx'
      obtain ⟨i, hi, rfl⟩ := List.mem_map.1 hx'
      rcases (hT i (List.mem_range.1 hi)).2.2.2 with e | ⟨es, sp, e1, e2⟩
      · exact Or.inl e
      · exact Or.inr ⟨D i, List.mem_map.2 ⟨i, hi, rfl⟩, es, sp, e1, e2⟩
theorem weightsAll_mem {H : Type} {P : Program} {e : TypeId} : ∀ {es : List (DataW H)} {d : DataW H}, d ∈ es → ∀ n ∈ d.weights P e, n ∈ DataW.weightsAll P e es
  | [], _, h, _, _ => by cases h
  | a :: r, d, h, n, hn => by
    simp only [DataW.weightsAll, List.mem_append]
    rcases List.mem_cons.1 h with e | e
    · subst e; exact Or.inl hn
    · exact Or.inr (weightsAll_mem e n hn)
theorem sized_in {H : Type} {P : Program} {ts : List TypeId} {ds : List (DataW H)} (h : (DataW.weightsEach P ts ds).all (· ≤ reachBytes) = true) {j : Nat} {t q e : TypeId} {elems spare es sp : List (DataW H)} (ht : ts[j]? = some t) (hd : ds[j]? = some (.slice elems spare)) (hu : P.underlying t = some (.slice q)) (hq : P.underlying q = some (.slice e)) (hm : DataW.slice es sp ∈ elems) :
    (es.length + sp.length) * P.bytesOf e ≤ reachBytes := by
  have h1 : (es.length + sp.length) * P.bytesOf e ∈ (DataW.slice elems spare).weights P t := by
    simp only [DataW.weights, hu, List.mem_cons, List.mem_append]
    exact Or.inr (Or.inl (weightsAll_mem hm _ (by simp [DataW.weights, hq])))
  have := List.all_eq_true.1 h _ (DataW.weights_mem_each ht hd _ h1)
  simpa using this
theorem bytesFl : Tryd.prog.bytesOf 30 = 24 := by kernel_rfl
end Go.Proofs.YtkebflllbphkkaaDoor
namespace Go.Proofs.YtkebflllbphkkaaDoor
open Go.ChangeShapes Go.WideShapes Go.ChangeAt Go.RowKit

theorem cellsCall : Tryd.prog.cellsOf 35 = 5 := by kernel_rfl
theorem cellsSl : Tryd.prog.cellsOf 26 = 1 := by kernel_rfl
set_option maxRecDepth 100000 in
theorem open_strs {H : Type} {enc : TypeId × Value → H} {W : World} {held : Bool} {n : Nat} {cs : List Value} {x : DataW H × List MemPlace} (h : DataW.trod enc Tryd.prog W 0 (fun _ => true) held n 26 cs = some x) :
    ∃ (v : Value) (l : List ByteArray), cs = [v] ∧ GS KS W v l ∧ (∀ c ∈ l, c.size ≤ maxLen) ∧ (l = [] ∨ ∃ es spare, x.1 = .slice es spare ∧ es.length = l.length) := by
  rcases Deep.open_slice Tryd.underlying26 h with ⟨h1, h2⟩ | ⟨a, l0, c0, m, n, D, Pl, hcs, _, hlc, hcm, hm, hx, hel⟩
  · exact ⟨_, [], h1, Or.inl ⟨Or.inl rfl, rfl⟩, by simp, Or.inl rfl⟩
  · have hlm : l0 ≤ m := by rw [hm]; simp; exact hlc
    by_cases h0 : l0 = 0
    · subst h0
      exact ⟨_, [], hcs, Or.inl ⟨Or.inr ⟨a, c0, rfl⟩, rfl⟩, by simp, Or.inl rfl⟩
    rw [cellsS] at hel
    obtain ⟨T, hT⟩ := @Deep.choose_lt ByteArray ⟨ByteArray.empty⟩ l0 (fun i t => W.cells? 0 (a.add (i * 1)) 1 = some [.string t] ∧ t.size ≤ maxLen) (fun i hi => by
      obtain ⟨cs', g1, g2⟩ := hel i (by omega)
      obtain ⟨s, e1, e2, e3⟩ := DataW.trod_string Tryd.underlying9 g2
      exact ⟨s, by rw [g1, e1], e3⟩)
    have hll : ((List.range l0).map T).length = l0 := by simp
    have hcell : ∀ i, i < l0 → ∀ j, j < 1 → W.cell? ((a.add (i * 1)).add j) = [Value.string (T i)][j]? := fun i hi => (World.cells?_some (hT i hi).1).2.2
    have hq : W.cell? a = some (.string (T 0)) := by
      have := hcell 0 (by omega) 0 (by omega)
      simpa [Addr.add] using this
    have ha : a = ⟨a.block, a.off, none⟩ := spot_none hq
    have hlt : a.block < W.heap.size := block_lt_of_cell hq
    refine ⟨_, (List.range l0).map T, hcs, ?_, ?_, Or.inr ⟨_, _, by rw [hx], by simp⟩⟩
    · refine Or.inr ⟨a.block, a.off, c0, by rw [hll, ← ha], hlt, by rw [hll]; exact hlc, fun k hk j u hu => ?_⟩
      have hk' : k < l0 := by rw [hll] at hk; exact hk
      have ek : ((List.range l0).map T)[k] = T k := by simp
      rw [ek] at hu
      have hj : j < 1 := by
        by_cases hlt : j < 1
        · exact hlt
        · have : (KS.f (T k))[j]? = none := List.getElem?_eq_none (by simp [KS]; omega)
          rw [this] at hu; cases hu
      have hadd : (a.add (k * 1)).add j = ⟨a.block, a.off + k * 1 + j, none⟩ := by
        rw [Deep.add_add]
        unfold Addr.add
        split
        · rename_i hz
          rw [show a.off + k * 1 + j = a.off by omega]; exact ha
        · simp
      have q0 := hcell k hk' j hj
      rw [hadd] at q0
      exact q0.trans hu
    · intro t ht
      obtain ⟨i, hi, rfl⟩ := List.mem_map.1 ht
      exact (hT i (List.mem_range.1 hi)).2
theorem CS_form {W : World} {v : Value} {l : List Cr} (h : CS W v l) : ∃ p c, v = .slice p l.length c := by
  rcases h with ⟨rfl | ⟨a, c, rfl⟩, rfl⟩ | ⟨b, o, c, rfl, _⟩
  · exact ⟨_, _, rfl⟩
  · exact ⟨_, _, rfl⟩
  · exact ⟨_, _, rfl⟩
/-- What a call's own datum says of the lengths of its lists. -/
def Dx {H : Type} (d : DataW H) (x : Cx) : Prop :=
  (x.names = [] ∨ ∃ d0 d1 d2 es sp r, d = .agg (d0 :: d1 :: d2 :: .slice es sp :: r) ∧ es.length = x.names.length) ∧
  (x.cause = [] ∨ ∃ d0 d1 d2 d3 es sp, d = .agg [d0, d1, d2, d3, .slice es sp] ∧ es.length = x.cause.length)
structure OkX' (w : World) (x : Cx) : Prop where
  nm : x.name.size ≤ maxLen
  ns : GS KS w (.slice x.np x.nn x.nc) x.names
  nt : ∀ s ∈ x.names, s.size ≤ maxLen
  cs : CS w (.slice x.cp x.cn x.cc) x.cause
  ct : ∀ c ∈ x.cause, c.text.size ≤ maxLen
set_option maxRecDepth 100000 in
theorem open_call {H : Type} {enc : TypeId × Value → H} {W : World} {held : Bool} {n : Nat} {cs : List Value} {x : DataW H × List MemPlace} (h : DataW.trod enc Tryd.prog W 0 (fun _ => true) held n 35 cs = some x) :
    ∃ c : Cx, cs = cxC c ∧ OkX' W c ∧ Dx x.1 c := by
  obtain ⟨xs, k, _, hx, hcl, hxl, hf⟩ := DataW.trod_struct Tryd.underlying35 h
  rw [cellsCall] at hcl
  match xs, hxl, cs, hcl with
  | [y0, y1, y2, y3, y4], _, [c0, c1, c2, c3, c4], _ =>
    have g0 := hf 0 _ rfl
    have g1 := hf 1 _ rfl
    have g2 := hf 2 _ rfl
    have g3 := hf 3 _ rfl
    have g4 := hf 4 _ rfl
    simp [cellsI, cellsS, cellsSl, cellsFl] at g0 g1 g2 g3 g4
    obtain ⟨m0, e0, _⟩ := DataW.trod_int Tryd.underlying3 g0
    obtain ⟨m1, e1, _⟩ := DataW.trod_int Tryd.underlying3 g1
    obtain ⟨s, e2, _, hs⟩ := DataW.trod_string Tryd.underlying9 g2
    obtain ⟨v, l, e3, h3, t3, w3⟩ := open_strs g3
    obtain ⟨u, m, e4, h4, t4, w4⟩ := open_fl g4
    simp only [List.cons.injEq, and_true] at e0 e1 e2 e3 e4
    subst e0 e1 e2 e3 e4
    obtain ⟨p, c, rfl⟩ := h3.form
    obtain ⟨q, c', rfl⟩ := CS_form h4
    refine ⟨⟨m0, m1, s, p, l.length, c, l, q, m.length, c', m⟩, rfl, ⟨hs, h3, t3, h4, t4⟩, ?_, ?_⟩
    · rcases w3 with e | ⟨es, sp, e, e6⟩
      · exact Or.inl e
      · refine Or.inr ⟨y0.1, y1.1, y2.1, es, sp, [y4.1], ?_, e6⟩
        rw [hx]
        simp [e]
    · rcases w4 with e | ⟨es, sp, e, e6⟩
      · exact Or.inl e
      · refine Or.inr ⟨y0.1, y1.1, y2.1, y3.1, es, sp, ?_, e6⟩
        rw [hx]
        simp [e]
set_option maxRecDepth 100000 in
theorem open_calls {H : Type} {enc : TypeId × Value → H} {W : World} {r : Reach} {b0 : Nat} {v : Value} {d : DataW H} {ps : List MemPlace} (hval : Value.okWide Tryd.prog W r b0 22 v) (h : DataW.Trod enc Tryd.prog W 0 (fun _ => true) true 22 v d ps) :
    ∃ L : List Cx, GS KX W v L ∧ (∀ x ∈ L, OkX' W x) ∧ (L = [] ∨ ∃ es spare, d = .slice es spare ∧ es.length = L.length ∧ ∀ x ∈ L, ∃ e ∈ es, Dx e x) := by
  obtain ⟨fuel, h⟩ := h
  obtain ⟨a0, l0, c0, rfl⟩ := okWide_slice Tryd.underlying22 hval
  rcases Deep.open_slice Tryd.underlying22 h with ⟨h1, h2⟩ | ⟨a, len, cap, m, n, D, Pl, hcs, _, hlc, hcm, hm, hx, hel⟩
  · simp [Value.cells] at h1
    obtain ⟨rfl, rfl, rfl⟩ := h1
    exact ⟨[], Or.inl ⟨Or.inl rfl, rfl⟩, by simp, Or.inl rfl⟩
  · simp [Value.cells] at hcs
    obtain ⟨rfl, rfl, rfl⟩ := hcs
    have hlm : l0 ≤ m := by rw [hm]; simp; exact hlc
    by_cases h0 : l0 = 0
    · subst h0
      exact ⟨[], Or.inl ⟨Or.inr ⟨a, c0, rfl⟩, rfl⟩, by simp, Or.inl rfl⟩
    rw [cellsCall] at hel
    obtain ⟨T, hT⟩ := @Deep.choose_lt Cx ⟨⟨0, 0, ByteArray.empty, none, 0, 0, [], none, 0, 0, []⟩⟩ l0 (fun i t => W.cells? 0 (a.add (i * 5)) 5 = some (cxC t) ∧ OkX' W t ∧ Dx (D i) t) (fun i hi => by
      obtain ⟨cs', g1, g2⟩ := hel i (by omega)
      obtain ⟨c, e1, e2, e3⟩ := open_call g2
      exact ⟨c, by rw [g1, e1], e2, e3⟩)
    have hll : ((List.range l0).map T).length = l0 := by simp
    have hcell : ∀ i, i < l0 → ∀ j, j < 5 → W.cell? ((a.add (i * 5)).add j) = (cxC (T i))[j]? := fun i hi => (World.cells?_some (hT i hi).1).2.2
    have hq : W.cell? a = some (.int .i64 (T 0).kind) := by
      have := hcell 0 (by omega) 0 (by omega)
      simpa [Addr.add, cxC] using this
    have ha : a = ⟨a.block, a.off, none⟩ := spot_none hq
    have hlt : a.block < W.heap.size := block_lt_of_cell hq
    simp only [Prod.mk.injEq] at hx
    refine ⟨(List.range l0).map T, ?_, ?_, Or.inr ⟨_, _, hx.1, by simp, ?_⟩⟩
    · refine Or.inr ⟨a.block, a.off, c0, by rw [hll, ← ha], hlt, by rw [hll]; exact hlc, fun k hk j u hu => ?_⟩
      have hk' : k < l0 := by rw [hll] at hk; exact hk
      have ek : ((List.range l0).map T)[k] = T k := by simp
      rw [ek] at hu
      have hj : j < 5 := by
        by_cases hlt : j < 5
        · exact hlt
        · have : (KX.f (T k))[j]? = none := List.getElem?_eq_none (by simp [KX, cxC]; omega)
          rw [this] at hu; cases hu
      have hadd : (a.add (k * 5)).add j = ⟨a.block, a.off + k * 5 + j, none⟩ := by
        rw [Deep.add_add]
        unfold Addr.add
        split
        · rename_i hz
          rw [show a.off + k * 5 + j = a.off by omega]; exact ha
        · simp
      have q0 := hcell k hk' j hj
      rw [hadd] at q0
      exact q0.trans hu
    · intro t ht
      obtain ⟨i, hi, rfl⟩ := List.mem_map.1 ht
      exact (hT i (List.mem_range.1 hi)).2.1
    · intro x hx'
      obtain ⟨i, hi, rfl⟩ := List.mem_map.1 hx'
      exact ⟨D i, List.mem_map.2 ⟨i, hi, rfl⟩, (hT i (List.mem_range.1 hi)).2.2⟩
/-- The bytes of a slice in a field of a slice's member. -/
theorem sized_inG {H : Type} {P : Program} {ts : List TypeId} {ds : List (DataW H)} (h : (DataW.weightsEach P ts ds).all (· ≤ reachBytes) = true) {j f : Nat} {t q t1 e : TypeId} {fs : Array Field} {elems spare : List (DataW H)} {ms es sp : List (DataW H)} (ht : ts[j]? = some t) (hd : ds[j]? = some (.slice elems spare)) (hu : P.underlying t = some (.slice q)) (hs : P.underlying q = some (.struct fs)) (h1 : (fs.toList.map (·.type))[f]? = some t1) (hq : P.underlying t1 = some (.slice e)) (hm : DataW.agg ms ∈ elems) (hf : ms[f]? = some (.slice es sp)) :
    (es.length + sp.length) * P.bytesOf e ≤ reachBytes := by
  have hw : (es.length + sp.length) * P.bytesOf e ∈ (DataW.slice es sp).weights P t1 := by simp [DataW.weights, hq]
  have h2 : (es.length + sp.length) * P.bytesOf e ∈ (DataW.agg ms).weights P q := by
    simp only [DataW.weights, hs]
    exact DataW.weights_mem_each (j := f) h1 hf _ hw
  have h3 : (es.length + sp.length) * P.bytesOf e ∈ (DataW.slice elems spare).weights P t := by
    simp only [DataW.weights, hu, List.mem_cons, List.mem_append]
    exact Or.inr (Or.inl (weightsAll_mem hm _ h2))
  have := List.all_eq_true.1 h _ (DataW.weights_mem_each ht hd _ h3)
  simpa using this
theorem bytesCall : Tryd.prog.bytesOf 35 = 80 := by kernel_rfl
theorem bytesS : Tryd.prog.bytesOf 9 = 16 := by kernel_rfl
set_option maxRecDepth 100000 in
theorem open_arg {H : Type} {enc : TypeId × Value → H} {W : World} {r : Reach} {b0 : Nat} {v : Value} {d : DataW H} {ps : List MemPlace} {ts : List TypeId} {ds : List (DataW H)} {j : Nat} (hval : Value.okWide Tryd.prog W r b0 22 v) (h : DataW.Trod enc Tryd.prog W 0 (fun _ => true) true 22 v d ps)
    (hwt : (DataW.weightsEach Tryd.prog ts ds).all (· ≤ reachBytes) = true) (hp : ts[j]? = some 22) (hj : ds[j]? = some d) : ∃ L, ARG W v L := by
  obtain ⟨L, h1, h2, h3⟩ := open_calls hval h
  refine ⟨L, h1, fun x hx => ?_, ?_⟩
  · have k := h2 x hx
    rcases h3 with rfl | ⟨es, spare, rfl, hes, hin⟩
    · cases hx
    · obtain ⟨e, he, d1, d2⟩ := hin x hx
      refine ⟨k.nm, k.ns, k.nt, ?_, k.cs, k.ct, ?_⟩
      · rcases d1 with e1 | ⟨a0, a1, a2, es', sp', r', rfl, hl⟩
        · rw [e1]; simp
        · have := sized_inG (j := j) (f := 3) hwt hp hj Tryd.underlying22 Tryd.underlying35 rfl Tryd.underlying26 he rfl
          rw [bytesS, hl] at this
          unfold reachBytes at this
          omega
      · rcases d2 with e1 | ⟨a0, a1, a2, a3, es', sp', rfl, hl⟩
        · rw [e1]; simp
        · have := sized_inG (j := j) (f := 4) hwt hp hj Tryd.underlying22 Tryd.underlying35 rfl Tryd.underlying30 he rfl
          rw [bytesCr, hl] at this
          unfold reachBytes at this
          omega
  · rcases h3 with rfl | ⟨es, spare, rfl, hes, hin⟩
    · simp
    · have := sized_slice (j := j) hwt hp hj Tryd.underlying22
      rw [bytesCall, hes] at this
      unfold reachBytes at this
      omega
set_option maxRecDepth 100000 in
theorem FB_of {W : World} (h : FV W) : FB W W.heap.size := by
  refine ⟨h, ?_, ?_, ?_⟩
  · have := h.keys 0 (by decide)
    exact block_lt_of_cell this
  · have := h.words 0 (by decide)
    exact block_lt_of_cell this
  · have := h.rows 0 (by decide) 0 (by decide)
    exact block_lt_of_cell (this.trans (by rfl))
end Go.Proofs.YtkebflllbphkkaaDoor
