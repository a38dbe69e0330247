/- From what the row lists of the variables of the failures' package to what the walks ask of memory. -/
import Derived.Test.YtbgeihgenckihaaDoorLaid
import Derived.Test.YtbgeihgenckihaaDoorFx2
namespace Go.Proofs.YtbgeihgenckihaaDoor
open Go.ChangeShapes Go.WideShapes Go.ChangeAt Go.WideMaps Go.WideElems Go.RowKit

def frD {H : Type} (r : FRow) : DataW H := .agg [.lit (.string r.word.data.toList), .lit (.int .i64 r.text), .lit (.int .i64 r.least), .lit (.int .i64 r.most), .lit (.string r.op.data.toList), .lit (.string r.bt.data.toList), .lit (.string r.en.data.toList)]
theorem rowsData {H : Type} : (Rows.laid_onceweb_fail_rows : DataW H) = .agg (frows.map frD) := rfl
theorem wordsData {H : Type} : (Rows.laid_onceweb_fail_words : DataW H) = .agg (wd.map fun z => .lit (.string z.data.toList)) := rfl
theorem gRows : Tryd.prog.globalNamed "onceweb/fail.rows" = some 0 := by kernel_rfl
theorem tRows : (Tryd.prog.globals[0]?).map (·.type) = some 107 := by kernel_rfl
theorem gWords : Tryd.prog.globalNamed "onceweb/fail.words" = some 1 := by kernel_rfl
theorem tWords : (Tryd.prog.globals[1]?).map (·.type) = some 113 := by kernel_rfl
theorem cellsRow : Tryd.prog.cellsOf 106 = 7 := by kernel_rfl
theorem cellsInt : Tryd.prog.cellsOf 3 = 1 := by kernel_rfl
theorem bytes_of_list {a b : ByteArray} (h : a.data.toList = b.data.toList) : a = b := by
  cases a; cases b; simp at h; subst h; rfl
set_option maxRecDepth 100000 in
theorem open_frow {H : Type} {enc : TypeId × Value → H} {W : World} {base : Nat} {sp : Nat → Bool} {held : Bool} {n : Nat} {cs : List Value} {p : List MemPlace} {r : FRow}
    (h : DataW.trod enc Tryd.prog W base sp held n 106 cs = some (frD r, p)) : cs = frC r := by
  obtain ⟨xs, k, _, hx, hcl, hxl, hf⟩ := DataW.trod_struct Tryd.underlying106 h
  rw [cellsRow] at hcl
  match xs, hxl, cs, hcl with
  | [y0, y1, y2, y3, y4, y5, y6], _, [c0, c1, c2, c3, c4, c5, c6], _ =>
    have g0 := hf 0 _ rfl
    have g1 := hf 1 _ rfl
    have g2 := hf 2 _ rfl
    have g3 := hf 3 _ rfl
    have g4 := hf 4 _ rfl
    have g5 := hf 5 _ rfl
    have g6 := hf 6 _ rfl
    simp [cellsInt, cellsStr] at g0 g1 g2 g3 g4 g5 g6
    obtain ⟨s0, e0, f0, _⟩ := DataW.trod_string Tryd.underlying9 g0
    obtain ⟨m1, e1, f1, _⟩ := DataW.trod_int Tryd.underlying3 g1
    obtain ⟨m2, e2, f2, _⟩ := DataW.trod_int Tryd.underlying3 g2
    obtain ⟨m3, e3, f3, _⟩ := DataW.trod_int Tryd.underlying3 g3
    obtain ⟨s4, e4, f4, _⟩ := DataW.trod_string Tryd.underlying9 g4
    obtain ⟨s5, e5, f5, _⟩ := DataW.trod_string Tryd.underlying9 g5
    obtain ⟨s6, e6, f6, _⟩ := DataW.trod_string Tryd.underlying9 g6
    simp only [List.cons.injEq, and_true] at e0 e1 e2 e3 e4 e5 e6
    subst e0 e1 e2 e3 e4 e5 e6 f0 f1 f2 f3 f4 f5 f6
    simp only [frD, Prod.mk.injEq, DataW.agg.injEq, List.map_cons, List.map_nil, List.cons.injEq, DataW.lit.injEq, Lit.string.injEq, Lit.int.injEq, and_true, true_and] at hx
    obtain ⟨⟨h0, h1, h2, h3, h4, h5, h6⟩, _⟩ := hx
    unfold frC
    rw [bytes_of_list h0, h1, h2, h3, bytes_of_list h4, bytes_of_list h5, bytes_of_list h6]
theorem rowsAt_of {W : World} {t : TypeId} {cs : Array Value} {g fuel : Nat} {p : List MemPlace} (hg : Tryd.prog.globalNamed "onceweb/fail.rows" = some g) (ht : (Tryd.prog.globals[g]?).map (·.type) = some t) (hv : W.var? Tryd.prog "onceweb/fail.rows" = some cs)
    (hd : DataW.trod (fun _ => ()) Tryd.prog W 0 (fun _ => true) false fuel t cs.toList = some (Rows.laid_onceweb_fail_rows, p)) : RowsAt W := by
  obtain rfl := Option.some.inj (gRows.symm.trans hg)
  obtain rfl := Option.some.inj (tRows.symm.trans ht)
  rw [rowsData] at hd
  obtain ⟨xs, m, _, hx, hlen, hxl, hel⟩ := DataW.trod_array Tryd.underlying107 hd
  intro k hk j hj
  rw [World.var?_cell hg hv (k * 7 + j), ← Array.getElem?_toList]
  have hk12 : k < 12 := by rw [frows_len] at hk; exact hk
  have h0 := hel k hk12
  have hxi : xs[k]? = some (xs[k]'(by omega)) := by simp
  simp only [Prod.mk.injEq, DataW.agg.injEq] at hx
  obtain ⟨r, hr⟩ : ∃ r, r = frows[k] := ⟨_, rfl⟩
  have hr2 : frows[k]? = some r := by rw [hr]; exact List.getElem?_eq_getElem hk
  have h2 : (xs.map (·.1))[k]? = some (frD r) := by rw [← hx.1, List.getElem?_map, hr2]; rfl
  rw [List.getElem?_map, hxi, Option.map_some, Option.some.injEq] at h2
  rw [hxi, cellsRow] at h0
  have h3 := open_frow (r := r) (p := (xs[k]'(by omega)).2) (by rw [h0, ← h2])
  show cs.toList[k * 7 + j]? = (frC frows[k])[j]?
  rw [← hr, ← h3]
  rw [List.getElem?_take_of_lt hj, List.getElem?_drop]
theorem wordsAt_of {W : World} {t : TypeId} {cs : Array Value} {g fuel : Nat} {p : List MemPlace} (hg : Tryd.prog.globalNamed "onceweb/fail.words" = some g) (ht : (Tryd.prog.globals[g]?).map (·.type) = some t) (hv : W.var? Tryd.prog "onceweb/fail.words" = some cs)
    (hd : DataW.trod (fun _ => ()) Tryd.prog W 0 (fun _ => true) false fuel t cs.toList = some (Rows.laid_onceweb_fail_words, p)) : WordsAt W := by
  obtain rfl := Option.some.inj (gWords.symm.trans hg)
  obtain rfl := Option.some.inj (tWords.symm.trans ht)
  rw [wordsData] at hd
  intro i hi
  rw [World.var?_cell hg hv i, ← Array.getElem?_toList]
  exact cells_of_strs Tryd.underlying113 Tryd.underlying9 cellsStr wd_len hd i hi
end Go.Proofs.YtbgeihgenckihaaDoor
