/- An argument of the type []api.Provider, opened: the providers that it reads as. -/
import Derived.Test.YtffabehipcomfaaDoorRows
import Derived.Test.YtffabehipcomfaaDoorKey
import Derived.ProofKit
import Derived.LaidMore
import Derived.OpenShut
import Derived.Stop.Joined
import Derived.Lib.LaidTab
import Derived.Test.YtffabehipcomfaaDoorPt5
import Derived.Deep.Slices
import Derived.Carry
import Derived.SizedLaws
import Derived.Test.YtffabehipcomfaaDoorQa3
namespace Go.Proofs.YtffabehipcomfaaDoor
open Go.ChangeShapes Go.WideShapes Go.ChangeAt Go.WideMaps Go.WideElems Go.RowKit

theorem cells_of_strs {H : Type} {enc : TypeId × Value → H} {P : Program} {w : World} {base : Nat} {sp : Nat → Bool} {held : Bool} {fuel : Nat} {t e : TypeId} {n : Nat} {cs : List Value} {zs : List ByteArray} {p : List MemPlace}
    (ht : P.underlying t = some (.array n e)) (he : P.underlying e = some .string) (hce : P.cellsOf e = 1) (hz : zs.length = n)
    (h : DataW.trod enc P w base sp held fuel t cs = some (.agg (zs.map fun z => .lit (.string z.data.toList)), p)) : ∀ i, i < zs.length → cs[i]? = some (Value.string (zs.getD i ByteArray.empty)) := by
  obtain ⟨xs, m, rfl, hx, hlen, hxl, hel⟩ := DataW.trod_array ht h
  intro i hi
  have h0 := hel i (by omega)
  simp only [Prod.mk.injEq, DataW.agg.injEq] at hx
  have hxi : xs[i]? = some (xs[i]'(by omega)) := by simp
  rw [hxi] at h0
  obtain ⟨s, e1, e2, _⟩ := DataW.trod_string he h0
  rw [hce, Nat.mul_one] at e1
  have hc : cs[i]? = some (Value.string s) := by
    have := congrArg (·[0]?) e1
    simpa [List.getElem?_take, List.getElem?_drop] using this
  have h2 : (xs.map (·.1))[i]? = some (DataW.lit (.string s.data.toList)) := by rw [List.getElem?_map, hxi, e2]; rfl
  rw [← hx.1] at h2
  simp only [List.getElem?_map, Option.map_eq_some_iff, DataW.lit.injEq, Lit.string.injEq] at h2
  obtain ⟨z, hz', e3⟩ := h2
  have : z = s := by cases z; cases s; simp at e3; subst e3; rfl
  rw [hc, List.getD_eq_getElem?_getD, hz', this]; rfl

theorem own : ownKnob Tryd.prog.godebug = none := by kernel_rfl
theorem laidOut : laidOutB Tryd.prog = true := by kernel_rfl
theorem gKeys : Tryd.prog.globalNamed "onceweb/lex.keys" = some 0 := by kernel_rfl
theorem tKeys : (Tryd.prog.globals[0]?).map (·.type) = some 116 := by kernel_rfl
theorem keysData {H : Type} : (Rows.laid_onceweb_lex_keys : DataW H) = .agg (kw.map fun z => .lit (.string z.data.toList)) := rfl
theorem cellsStr : Tryd.prog.cellsOf 9 = 1 := by kernel_rfl

theorem keysAt_of {W : World} {t : TypeId} {cs : Array Value} {g fuel : Nat} {p : List MemPlace} (hg : Tryd.prog.globalNamed "onceweb/lex.keys" = some g) (ht : (Tryd.prog.globals[g]?).map (·.type) = some t) (hv : W.var? Tryd.prog "onceweb/lex.keys" = some cs)
    (hd : DataW.trod (fun _ => ()) Tryd.prog W 0 (fun _ => true) false fuel t cs.toList = some (Rows.laid_onceweb_lex_keys, p)) : KeysAt W := by
  obtain rfl := Option.some.inj (gKeys.symm.trans hg)
  obtain rfl := Option.some.inj (tKeys.symm.trans ht)
  rw [keysData] at hd
  intro i hi
  rw [World.var?_cell hg hv i, ← Array.getElem?_toList]
  exact cells_of_strs Tryd.underlying116 Tryd.underlying9 cellsStr kw_len hd i hi
end Go.Proofs.YtffabehipcomfaaDoor
namespace Go.Proofs.YtffabehipcomfaaDoor
open Go.ChangeShapes Go.WideShapes Go.ChangeAt Go.WideMaps Go.WideElems Go.RowKit

def orD {H : Type} (r : Int × Int) : DataW H := .agg [.lit (.int .i64 r.1), .lit (.int .i64 r.2)]
theorem orowsData {H : Type} : (Rows.laid_onceweb_names_rows : DataW H) = .agg (orow.map orD) := rfl
theorem gORows : Tryd.prog.globalNamed "onceweb/names.rows" = some 1 := by kernel_rfl
theorem tORows : (Tryd.prog.globals[1]?).map (·.type) = some 127 := by kernel_rfl
theorem cellsORow : Tryd.prog.cellsOf 126 = 2 := by kernel_rfl
theorem cellsInt : Tryd.prog.cellsOf 3 = 1 := by kernel_rfl
theorem cellsStr2 : Tryd.prog.cellsOf 9 = 1 := by kernel_rfl
theorem cellsBool : Tryd.prog.cellsOf 4 = 1 := by kernel_rfl
theorem cellsOp : Tryd.prog.cellsOf 71 = 4 := by kernel_rfl
theorem cellsExpr : Tryd.prog.cellsOf 31 = 1 := by kernel_rfl
theorem cellsPol : Tryd.prog.cellsOf 33 = 4 := by kernel_rfl
theorem cellsClo : Tryd.prog.cellsOf 35 = 2 := by kernel_rfl
theorem cellsPrv : Tryd.prog.cellsOf 37 = 9 := by kernel_rfl
theorem bytesOp : Tryd.prog.bytesOf 71 = 40 := by kernel_rfl
set_option maxRecDepth 100000 in
theorem open_orow {H : Type} {enc : TypeId × Value → H} {W : World} {base : Nat} {sp : Nat → Bool} {held : Bool} {n : Nat} {cs : List Value} {p : List MemPlace} {r : Int × Int}
    (h : DataW.trod enc Tryd.prog W base sp held n 126 cs = some (orD r, p)) : cs = [.int .i64 r.1, .int .i64 r.2] := by
  obtain ⟨xs, k, _, hx, hcl, hxl, hf⟩ := DataW.trod_struct Tryd.underlying126 h
  rw [cellsORow] at hcl
  match xs, hxl, cs, hcl with
  | [y0, y1], _, [c0, c1], _ =>
    have g0 := hf 0 _ rfl
    have g1 := hf 1 _ rfl
    simp [cellsInt] at g0 g1
    obtain ⟨m0, e0, f0, _⟩ := DataW.trod_int Tryd.underlying3 g0
    obtain ⟨m1, e1, f1, _⟩ := DataW.trod_int Tryd.underlying3 g1
    simp only [List.cons.injEq, and_true] at e0 e1
    subst e0 e1 f0 f1
    simp only [orD, Prod.mk.injEq, DataW.agg.injEq, List.map_cons, List.map_nil, List.cons.injEq, DataW.lit.injEq, Lit.int.injEq, and_true, true_and] at hx
    obtain ⟨⟨h0, h1⟩, _⟩ := hx
    rw [h0, h1]
theorem orowsAt_of {W : World} {t : TypeId} {cs : Array Value} {g fuel : Nat} {p : List MemPlace} (hg : Tryd.prog.globalNamed "onceweb/names.rows" = some g) (ht : (Tryd.prog.globals[g]?).map (·.type) = some t) (hv : W.var? Tryd.prog "onceweb/names.rows" = some cs)
    (hd : DataW.trod (fun _ => ()) Tryd.prog W 0 (fun _ => true) false fuel t cs.toList = some (Rows.laid_onceweb_names_rows, p)) : ORowsAt W := by
  obtain rfl := Option.some.inj (gORows.symm.trans hg)
  obtain rfl := Option.some.inj (tORows.symm.trans ht)
  rw [orowsData] at hd
  obtain ⟨xs, m, _, hx, hlen, hxl, hel⟩ := DataW.trod_array Tryd.underlying127 hd
  intro k hk
  have h0 := hel k hk
  have hxi : xs[k]? = some (xs[k]'(by omega)) := by simp
  simp only [Prod.mk.injEq, DataW.agg.injEq] at hx
  obtain ⟨r, hr⟩ : ∃ r, r = orow[k]'(by rw [orow_len]; exact hk) := ⟨_, rfl⟩
  have hr2 : orow[k]? = some r := by rw [hr]; exact List.getElem?_eq_getElem (by rw [orow_len]; exact hk)
  have h2 : (xs.map (·.1))[k]? = some (orD r) := by rw [← hx.1, List.getElem?_map, hr2]; rfl
  rw [List.getElem?_map, hxi, Option.map_some] at h2
  rw [hxi] at h0
  obtain ⟨q1, q2⟩ : ∃ q1 q2, xs[k]'(by omega) = (q1, q2) := ⟨_, _, rfl⟩
  obtain ⟨q2, hq⟩ := q2
  rw [hq] at h0 h2
  have e : q1 = orD r := by simpa using h2
  subst e
  have h3 := open_orow h0
  rw [cellsORow] at h3
  have g0 : cs.toList[k * 2]? = some (.int .i64 r.1) := by
    have := congrArg (·[0]?) h3
    simpa [List.getElem?_take, List.getElem?_drop] using this
  have g1 : cs.toList[k * 2 + 1]? = some (.int .i64 r.2) := by
    have := congrArg (·[1]?) h3
    simpa [List.getElem?_take, List.getElem?_drop] using this
  have ep : oprt (k : Int) = r.1 := by unfold oprt; rw [Int.toNat_natCast, List.getD_eq_getElem?_getD, hr2]; rfl
  have et : otxt (k : Int) = r.2 := by unfold otxt; rw [Int.toNat_natCast, List.getD_eq_getElem?_getD, hr2]; rfl
  rw [World.var?_cell hg hv (k * 2), World.var?_cell hg hv (k * 2 + 1), ← Array.getElem?_toList, ← Array.getElem?_toList, ep, et]
  exact ⟨g0, g1⟩
set_option maxRecDepth 100000 in
theorem open_op {H : Type} {enc : TypeId × Value → H} {W : World} {base : Nat} {sp : Nat → Bool} {held : Bool} {n : Nat} {cs : List Value} {x : DataW H × List MemPlace} (h : DataW.trod enc Tryd.prog W base sp held n 71 cs = some x) :
    ∃ c : Opn, cs = opC c ∧ c.text.size ≤ maxLen := by
  obtain ⟨xs, k, _, hx, hcl, hxl, hf⟩ := DataW.trod_struct Tryd.underlying71 h
  rw [cellsOp] at hcl
  match xs, hxl, cs, hcl with
  | [y0, y1, y2, y3], _, [c0, c1, c2, c3], _ =>
    have g0 := hf 0 _ rfl
    have g1 := hf 1 _ rfl
    have g2 := hf 2 _ rfl
    have g3 := hf 3 _ rfl
    simp [cellsInt, cellsStr2] at g0 g1 g2 g3
    obtain ⟨m0, e0, f0, _⟩ := DataW.trod_int Tryd.underlying3 g0
    obtain ⟨m1, e1, f1, _⟩ := DataW.trod_int Tryd.underlying3 g1
    obtain ⟨m2, e2, f2, _⟩ := DataW.trod_int Tryd.underlying3 g2
    obtain ⟨s, e3, f3, hs⟩ := DataW.trod_string Tryd.underlying9 g3
    simp only [List.cons.injEq, and_true] at e0 e1 e2 e3
    subst e0 e1 e2 e3
    exact ⟨⟨m0, m1, m2, s⟩, rfl, hs⟩
theorem spot_none {W : World} {a : Addr} {u : Value} (h : W.cell? a = some u) : a = ⟨a.block, a.off, none⟩ := by
  obtain ⟨b, o, s⟩ := a
  cases s with
  | none => rfl
  | some k =>
    exfalso
    unfold World.cell? at h
    split at h
    · simp at h
    · cases h
set_option maxRecDepth 100000 in
theorem open_expr {H : Type} {enc : TypeId × Value → H} {W : World} {held : Bool} {n : Nat} {cs : List Value} {x : DataW H × List MemPlace} (h : DataW.trod enc Tryd.prog W 0 (fun _ => true) held n 31 cs = some x) :
    ∃ (v : Value) (l : List Opn), cs = [v] ∧ OS W v l ∧ (∀ c ∈ l, c.text.size ≤ maxLen) ∧ (l = [] ∨ ∃ es spare, x.1 = .slice es spare ∧ es.length = l.length) := by
  rcases Deep.open_slice Tryd.underlying31 h with ⟨h1, h2⟩ | ⟨a, l0, c0, m, n, D, Pl, hcs, _, hlc, hcm, hm, hx, hel⟩
  · exact ⟨_, [], h1, Or.inl ⟨Or.inl rfl, rfl⟩, by simp, Or.inl rfl⟩
  · have hlm : l0 ≤ m := by rw [hm]; simp; exact hlc
    by_cases h0 : l0 = 0
    · subst h0
      exact ⟨_, [], hcs, Or.inl ⟨Or.inr ⟨a, c0, rfl⟩, rfl⟩, by simp, Or.inl rfl⟩
    rw [cellsOp] at hel
    obtain ⟨T, hT⟩ := @Deep.choose_lt Opn ⟨⟨0, 0, 0, ByteArray.empty⟩⟩ l0 (fun i t => W.cells? 0 (a.add (i * 4)) 4 = some (opC t) ∧ t.text.size ≤ maxLen) (fun i hi => by
      obtain ⟨cs', g1, g2⟩ := hel i (by omega)
      obtain ⟨t, e1, e2⟩ := open_op g2
      exact ⟨t, by rw [g1, e1], e2⟩)
    have hll : ((List.range l0).map T).length = l0 := by simp
    have hcell : ∀ i, i < l0 → ∀ j, j < 4 → W.cell? ((a.add (i * 4)).add j) = (opC (T i))[j]? := fun i hi => (World.cells?_some (hT i hi).1).2.2
    have hq : W.cell? a = some (.int .i64 (T 0).kind) := by
      have := hcell 0 (by omega) 0 (by omega)
      simpa [Addr.add, opC] using this
    have ha : a = ⟨a.block, a.off, none⟩ := spot_none hq
    have hlt : a.block < W.heap.size := block_lt_of_cell hq
    refine ⟨_, (List.range l0).map T, hcs, ?_, ?_, Or.inr ⟨_, _, by rw [hx], by simp⟩⟩
    · refine Or.inr ⟨a.block, a.off, c0, by rw [hll, ← ha], hlt, by rw [hll]; exact hlc, fun k hk j u hu => ?_⟩
      have hk' : k < l0 := by rw [hll] at hk; exact hk
      have ek : ((List.range l0).map T)[k] = T k := by simp
      rw [ek] at hu
      have hj : j < 4 := by
        by_cases hlt : j < 4
        · exact hlt
        · have : (KO.f (T k))[j]? = none := List.getElem?_eq_none (by simp [KO, opC]; omega)
          rw [this] at hu; cases hu
      have hadd : (a.add (k * 4)).add j = ⟨a.block, a.off + k * 4 + j, none⟩ := by
        rw [Deep.add_add]
        unfold Addr.add
        split
        · rename_i hz
          rw [show a.off + k * 4 + j = a.off by omega]; exact ha
        · simp
      have q0 := hcell k hk' j hj
      rw [hadd] at q0
      exact q0.trans hu
    · intro t ht
      obtain ⟨i, hi, rfl⟩ := List.mem_map.1 ht
      exact (hT i (List.mem_range.1 hi)).2
set_option maxRecDepth 100000 in
/-- An argument of the type api.Expr. -/
theorem open_exprA {H : Type} {enc : TypeId × Value → H} {W : World} {r : Reach} {b0 : Nat} {v : Value} {d : DataW H} {ps : List MemPlace} (hval : Value.okWide Tryd.prog W r b0 31 v) (h : DataW.Trod enc Tryd.prog W 0 (fun _ => true) true 31 v d ps) :
    ∃ l : List Opn, OS W v l ∧ (∀ c ∈ l, c.text.size ≤ maxLen) ∧ (l = [] ∨ ∃ es spare, d = .slice es spare ∧ es.length = l.length) := by
  obtain ⟨fuel, h⟩ := h
  obtain ⟨a0, l0, c0, rfl⟩ := okWide_slice Tryd.underlying31 hval
  obtain ⟨v, l, e1, e2, e3, e4⟩ := open_expr h
  have : Value.slice a0 l0 c0 = v := by simpa [Value.cells] using e1
  subst this
  exact ⟨l, e2, e3, e4⟩
set_option maxRecDepth 100000 in
theorem open_prv {H : Type} {enc : TypeId × Value → H} {W : World} {held : Bool} {n : Nat} {cs : List Value} {x : DataW H × List MemPlace} (h : DataW.trod enc Tryd.prog W 0 (fun _ => true) held n 37 cs = some x) :
    ∃ (p : Prv) (v : Value), cs = (prvC p v).toList ∧ OS W v p.ops ∧ (∀ c ∈ p.ops, c.text.size ≤ maxLen) ∧ p.name.size ≤ maxLen ∧ p.ct.size ≤ maxLen ∧ (p.ops = [] ∨ ∃ d0 es spare r, x.1 = .agg (d0 :: .slice es spare :: r) ∧ es.length = p.ops.length) := by
  obtain ⟨xs, k, _, hx, hcl, hxl, hf⟩ := DataW.trod_struct Tryd.underlying37 h
  rw [cellsPrv] at hcl
  match xs, hxl, cs, hcl with
  | [y0, y1, y2, y3, y4], _, [c0, c1, c2, c3, c4, c5, c6, c7, c8], _ =>
    have g0 := hf 0 _ rfl
    have g1 := hf 1 _ rfl
    have g2 := hf 2 _ rfl
    have g3 := hf 3 _ rfl
    have g4 := hf 4 _ rfl
    simp [cellsBool, cellsStr2, cellsExpr, cellsPol, cellsClo] at g0 g1 g2 g3 g4
    obtain ⟨s, e0, f0, hs⟩ := DataW.trod_string Tryd.underlying9 g0
    obtain ⟨v, l, e1, e2, e3, e4⟩ := open_expr g1
    obtain ⟨b, e5, f5⟩ := DataW.trod_bool Tryd.underlying4 g2
    obtain ⟨zs, kz, _, hz, _, hzl, hzf⟩ := DataW.trod_struct Tryd.underlying33 g3
    obtain ⟨us, ku, _, hu, _, hul, huf⟩ := DataW.trod_struct Tryd.underlying35 g4
    match zs, hzl, us, hul with
    | [z0, z1, z2, z3], _, [u0, u1], _ =>
      have k0 := hzf 0 _ rfl
      have k1 := hzf 1 _ rfl
      have k2 := hzf 2 _ rfl
      have k3 := hzf 3 _ rfl
      have j0 := huf 0 _ rfl
      have j1 := huf 1 _ rfl
      simp [cellsInt, cellsStr2] at k0 k1 k2 k3 j0 j1
      obtain ⟨m0, i0, _⟩ := DataW.trod_int Tryd.underlying3 k0
      obtain ⟨m1, i1, _⟩ := DataW.trod_int Tryd.underlying3 k1
      obtain ⟨m2, i2, _⟩ := DataW.trod_int Tryd.underlying3 k2
      obtain ⟨m3, i3, _⟩ := DataW.trod_int Tryd.underlying3 k3
      obtain ⟨m4, i4, _⟩ := DataW.trod_int Tryd.underlying3 j0
      obtain ⟨t, i5, _, ht⟩ := DataW.trod_string Tryd.underlying9 j1
      simp only [List.cons.injEq, and_true] at e0 e1 e5 i0 i1 i2 i3 i4 i5
      subst e0 e1 e5 i0 i1 i2 i3 i4 i5
      refine ⟨⟨s, l, b, ⟨m0, m1, m2, m3⟩, m4, t⟩, c1, rfl, e2, e3, hs, ht, ?_⟩
      rcases e4 with e | ⟨es, spare, e, e6⟩
      · exact Or.inl e
      · refine Or.inr ⟨y0.1, es, spare, [y2.1, y3.1, y4.1], ?_, e6⟩
        rw [hx]
        simp [e]
set_option maxRecDepth 100000 in
/-- An argument of the type api.Provider. -/
theorem open_prvA {H : Type} {enc : TypeId × Value → H} {W : World} {r : Reach} {b0 : Nat} {v : Value} {d : DataW H} {ps : List MemPlace} (hval : Value.okWide Tryd.prog W r b0 37 v) (h : DataW.Trod enc Tryd.prog W 0 (fun _ => true) true 37 v d ps) :
    ∃ (p : Prv) (ve : Value), v = prvV p ve ∧ OS W ve p.ops ∧ (∀ c ∈ p.ops, c.text.size ≤ maxLen) ∧ p.name.size ≤ maxLen ∧ p.ct.size ≤ maxLen ∧ (p.ops = [] ∨ ∃ d0 es spare r, d = .agg (d0 :: .slice es spare :: r) ∧ es.length = p.ops.length) := by
  obtain ⟨fuel, h⟩ := h
  obtain ⟨cs, rfl, hcs⟩ := okWide_struct Tryd.underlying37 hval
  obtain ⟨p, ve, e1, e2⟩ := open_prv h
  refine ⟨p, ve, ?_, e2⟩
  have : cs = prvC p ve := Array.toList_inj.1 (by simpa [Value.cells] using e1)
  rw [this]; rfl
/-- The bytes of a slice in a struct's second field. -/
theorem sized_field {H : Type} {P : Program} {ts : List TypeId} {ds : List (DataW H)} (h : (DataW.weightsEach P ts ds).all (· ≤ reachBytes) = true) {j : Nat} {t t1 e : TypeId} {fs : Array Field} {d0 : DataW H} {es sp r : List (DataW H)} (ht : ts[j]? = some t) (hd : ds[j]? = some (.agg (d0 :: .slice es sp :: r))) (hu : P.underlying t = some (.struct fs)) (h1 : (fs.toList.map (·.type))[1]? = some t1) (hq : P.underlying t1 = some (.slice e)) :
    (es.length + sp.length) * P.bytesOf e ≤ reachBytes := by
  have hw : (es.length + sp.length) * P.bytesOf e ∈ (DataW.slice es sp).weights P t1 := by simp [DataW.weights, hq]
  have h2 : (es.length + sp.length) * P.bytesOf e ∈ (DataW.agg (d0 :: .slice es sp :: r)).weights P t := by
    simp only [DataW.weights, hu]
    exact DataW.weights_mem_each (j := 1) h1 rfl _ hw
  have := List.all_eq_true.1 h _ (DataW.weights_mem_each ht hd _ h2)
  simpa using this
end Go.Proofs.YtffabehipcomfaaDoor
namespace Go.Proofs.YtffabehipcomfaaDoor
open Go.ChangeShapes Go.WideShapes Go.ChangeAt Go.RowKit

set_option maxRecDepth 100000 in
theorem open_prvs {H : Type} {enc : TypeId × Value → H} {W : World} {r : Reach} {b0 : Nat} {v : Value} {d : DataW H} {ps : List MemPlace} (hval : Value.okWide Tryd.prog W r b0 24 v) (h : DataW.Trod enc Tryd.prog W 0 (fun _ => true) true 24 v d ps) :
    ∃ L : List Pvx, GS KP W v L ∧ (∀ x ∈ L, OS W x.v x.p.ops ∧ (∀ c ∈ x.p.ops, c.text.size ≤ maxLen) ∧ x.p.name.size ≤ maxLen) ∧ (L = [] ∨ ∃ es spare, d = .slice es spare ∧ es.length = L.length ∧ ∀ x ∈ L, x.p.ops = [] ∨ ∃ e ∈ es, ∃ d0 es' sp' r', e = .agg (d0 :: .slice es' sp' :: r') ∧ es'.length = x.p.ops.length) := by
  obtain ⟨fuel, h⟩ := h
  obtain ⟨a0, l0, c0, rfl⟩ := okWide_slice Tryd.underlying24 hval
  rcases Deep.open_slice Tryd.underlying24 h with ⟨h1, h2⟩ | ⟨a, len, cap, m, n, D, Pl, hcs, _, hlc, hcm, hm, hx, hel⟩
  · simp [Value.cells] at h1
    obtain ⟨rfl, rfl, rfl⟩ := h1
    exact ⟨[], Or.inl ⟨Or.inl rfl, rfl⟩, by simp, Or.inl rfl⟩
  · simp [Value.cells] at hcs
    obtain ⟨rfl, rfl, rfl⟩ := hcs
    have hlm : l0 ≤ m := by rw [hm]; simp; exact hlc
    by_cases h0 : l0 = 0
    · subst h0
      exact ⟨[], Or.inl ⟨Or.inr ⟨a, c0, rfl⟩, rfl⟩, by simp, Or.inl rfl⟩
    rw [cellsPrv] at hel
    obtain ⟨T, hT⟩ := @Deep.choose_lt Pvx ⟨⟨⟨ByteArray.empty, [], false, ⟨0, 0, 0, 0⟩, 0, ByteArray.empty⟩, none, 0⟩⟩ l0 (fun i t => W.cells? 0 (a.add (i * 9)) 9 = some (pvxC t) ∧ (OS W t.v t.p.ops ∧ (∀ c ∈ t.p.ops, c.text.size ≤ maxLen) ∧ t.p.name.size ≤ maxLen) ∧ (t.p.ops = [] ∨ ∃ d0 es spare r, D i = .agg (d0 :: .slice es spare :: r) ∧ es.length = t.p.ops.length)) (fun i hi => by
      obtain ⟨cs', g1, g2⟩ := hel i (by omega)
      obtain ⟨p, u, e1, e2, e3, e4, e5, e6⟩ := open_prv g2
      obtain ⟨q, c, e7⟩ := e2.form
      subst e7
      exact ⟨⟨p, q, c⟩, by rw [g1, e1]; rfl, ⟨e2, e3, e4⟩, e6⟩)
    have hll : ((List.range l0).map T).length = l0 := by simp
    have hcell : ∀ i, i < l0 → ∀ j, j < 9 → W.cell? ((a.add (i * 9)).add j) = (pvxC (T i))[j]? := fun i hi => (World.cells?_some (hT i hi).1).2.2
    have hq : W.cell? a = some (.string (T 0).p.name) := by
      have := hcell 0 (by omega) 0 (by omega)
      simpa [Addr.add, pvxC] using this
    have ha : a = ⟨a.block, a.off, none⟩ := spot_none hq
    have hlt : a.block < W.heap.size := block_lt_of_cell hq
    simp only [Prod.mk.injEq] at hx
    refine ⟨(List.range l0).map T, ?_, ?_, Or.inr ⟨_, _, hx.1, by simp, ?_⟩⟩
    · refine Or.inr ⟨a.block, a.off, c0, by rw [hll, ← ha], hlt, by rw [hll]; exact hlc, fun k hk j u hu => ?_⟩
      have hk' : k < l0 := by rw [hll] at hk; exact hk
      have ek : ((List.range l0).map T)[k] = T k := by simp
      rw [ek] at hu
      have hj : j < 9 := by
        by_cases hlt : j < 9
        · exact hlt
        · have : (KP.f (T k))[j]? = none := List.getElem?_eq_none (by simp [KP, pvxC]; omega)
          rw [this] at hu; cases hu
      have hadd : (a.add (k * 9)).add j = ⟨a.block, a.off + k * 9 + j, none⟩ := by
        rw [Deep.add_add]
        unfold Addr.add
        split
        · rename_i hz
          rw [show a.off + k * 9 + j = a.off by omega]; exact ha
        · simp
      have q0 := hcell k hk' j hj
      rw [hadd] at q0
      exact q0.trans hu
    · intro t ht
      obtain ⟨i, hi, rfl⟩ := List.mem_map.1 ht
      exact (hT i (List.mem_range.1 hi)).2.1
    · intro x hx'
      obtain ⟨i, hi, rfl⟩ := List.mem_map.1 hx'
      rcases (hT i (List.mem_range.1 hi)).2.2 with e | ⟨d0, es, sp, r, e1, e2⟩
      · exact Or.inl e
      · exact Or.inr ⟨D i, List.mem_map.2 ⟨i, hi, rfl⟩, d0, es, sp, r, e1, e2⟩
theorem weightsAll_in {H : Type} {P : Program} {e : TypeId} : ∀ {es : List (DataW H)} {d : DataW H}, d ∈ es → ∀ n ∈ d.weights P e, n ∈ DataW.weightsAll P e es
  | [], _, h, _, _ => by cases h
  | a :: r, d, h, n, hn => by
    simp only [DataW.weightsAll, List.mem_append]
    rcases List.mem_cons.1 h with e | e
    · subst e; exact Or.inl hn
    · exact Or.inr (weightsAll_in e n hn)
/-- The bytes of a slice in the second field of a slice's member. -/
theorem sized_inF {H : Type} {P : Program} {ts : List TypeId} {ds : List (DataW H)} (h : (DataW.weightsEach P ts ds).all (· ≤ reachBytes) = true) {j : Nat} {t q t1 e : TypeId} {fs : Array Field} {elems spare : List (DataW H)} {d0 : DataW H} {es sp r : List (DataW H)} (ht : ts[j]? = some t) (hd : ds[j]? = some (.slice elems spare)) (hu : P.underlying t = some (.slice q)) (hs : P.underlying q = some (.struct fs)) (h1 : (fs.toList.map (·.type))[1]? = some t1) (hq : P.underlying t1 = some (.slice e)) (hm : DataW.agg (d0 :: .slice es sp :: r) ∈ elems) :
    (es.length + sp.length) * P.bytesOf e ≤ reachBytes := by
  have hw : (es.length + sp.length) * P.bytesOf e ∈ (DataW.slice es sp).weights P t1 := by simp [DataW.weights, hq]
  have h2 : (es.length + sp.length) * P.bytesOf e ∈ (DataW.agg (d0 :: .slice es sp :: r)).weights P q := by
    simp only [DataW.weights, hs]
    exact DataW.weights_mem_each (j := 1) h1 rfl _ hw
  have h3 : (es.length + sp.length) * P.bytesOf e ∈ (DataW.slice elems spare).weights P t := by
    simp only [DataW.weights, hu, List.mem_cons, List.mem_append]
    exact Or.inr (Or.inl (weightsAll_in hm _ h2))
  have := List.all_eq_true.1 h _ (DataW.weights_mem_each ht hd _ h3)
  simpa using this
theorem bytesPrv : Tryd.prog.bytesOf 37 = 104 := by kernel_rfl
end Go.Proofs.YtffabehipcomfaaDoor
