/- Graph: arguments opened: graphs, slices of numbers. -/
import Derived.Test.YtghkhceplpjegaaYb1
import Derived.Test.YtghkhceplpjegaaRows
import Derived.Deep.Slices
import Derived.ProofKit
import Derived.OpenShut
import Derived.Carry
import Derived.SizedLaws
namespace Go.Proofs.Ytghkhceplpjegaa
open Go.ChangeShapes Go.WideShapes Go.ChangeAt Go.RowKit

theorem own : ownKnob Try.prog.godebug = none := by kernel_rfl
theorem laidOut : laidOutB Try.prog = true := by kernel_rfl
theorem cellsInt : Try.prog.cellsOf 3 = 1 := by kernel_rfl
theorem cellsEdge : Try.prog.cellsOf 47 = 2 := by kernel_rfl
theorem cellsEdges : Try.prog.cellsOf 22 = 1 := by kernel_rfl
theorem cellsGraph : Try.prog.cellsOf 24 = 2 := by kernel_rfl
theorem spot_none {W : World} {a : Addr} {u : Value} (h : W.cell? a = some u) : a = ⟨a.block, a.off, none⟩ := by
  obtain ⟨b, o, s⟩ := a
  cases s with
  | none => rfl
  | some k =>
    exfalso
    unfold World.cell? at h
    split at h
    · simp at h
    · cases h
set_option maxRecDepth 1000000 in
/-- An argument that is a slice, of whatever elements: it reads as a list. -/
theorem open_gs {α : Type} (x0 : α) (K : RK α) (Pr : α → Prop) {t : TypeId} (ht : Try.prog.underlying t = some (.slice K.ty)) (hc : Try.prog.cellsOf K.ty = K.W) (hf : ∀ x, (K.f x).length = K.W) (hp : 0 < K.W) {H : Type} {enc : TypeId × Value → H} {W : World}
    (op : ∀ n cs x, DataW.trod enc Try.prog W 0 (fun _ => true) true n K.ty cs = some x → ∃ c : α, cs = K.f c ∧ Pr c)
    {r : Reach} {b0 : Nat} {v : Value} {d : DataW H} {ps : List MemPlace} (hval : Value.okWide Try.prog W r b0 t v) (h : DataW.Trod enc Try.prog W 0 (fun _ => true) true t v d ps) :
    ∃ l : List α, GS K W v l ∧ (∀ c ∈ l, Pr c) ∧ (l = [] ∨ ∃ es spare, d = .slice es spare ∧ es.length = l.length) := by
  obtain ⟨fuel, h⟩ := h
  obtain ⟨a0, l0, c0, rfl⟩ := okWide_slice ht hval
  rcases Deep.open_slice ht h with ⟨h1, h2⟩ | ⟨a, len, cap, m, n, D, Pl, hcs, _, hlc, hcm, hm, hx, hel⟩
  · simp [Value.cells] at h1
    obtain ⟨rfl, rfl, rfl⟩ := h1
    exact ⟨[], Or.inl ⟨Or.inl rfl, rfl⟩, (fun c hc => by cases hc), Or.inl rfl⟩
  · simp [Value.cells] at hcs
    obtain ⟨rfl, rfl, rfl⟩ := hcs
    by_cases h0 : l0 = 0
    · subst h0
      exact ⟨[], Or.inl ⟨Or.inr ⟨a, c0, rfl⟩, rfl⟩, (fun c hc => by cases hc), Or.inl rfl⟩
    have hlm : l0 ≤ m := by rw [hm]; simp; exact hlc
    rw [hc] at hel
    obtain ⟨T, hT⟩ := @Deep.choose_lt α ⟨x0⟩ l0 (fun i t => W.cells? 0 (a.add (i * K.W)) K.W = some (K.f t) ∧ Pr t) (fun i hi => by
      obtain ⟨cs', g1, g2⟩ := hel i (by omega)
      obtain ⟨t, e1, e2⟩ := op _ _ _ g2
      exact ⟨t, by rw [g1, e1], e2⟩)
    have hll : ((List.range l0).map T).length = l0 := by simp
    have hcell : ∀ i, i < l0 → ∀ j, j < K.W → W.cell? ((a.add (i * K.W)).add j) = (K.f (T i))[j]? := fun i hi => (World.cells?_some (hT i hi).1).2.2
    obtain ⟨u, hu⟩ : ∃ u, W.cell? a = some u := by
      have := hcell 0 (by omega) 0 hp
      rw [List.getElem?_eq_getElem (by rw [hf]; exact hp)] at this
      simp [Addr.add] at this
      exact ⟨_, this⟩
    have ha : a = ⟨a.block, a.off, none⟩ := spot_none hu
    have hlt : a.block < W.heap.size := block_lt_of_cell hu
    simp only [Prod.mk.injEq] at hx
    refine ⟨(List.range l0).map T, ?_, ?_, Or.inr ⟨_, _, hx.1, by simp⟩⟩
    · refine Or.inr ⟨a.block, a.off, c0, by rw [hll, ← ha], hlt, by rw [hll]; exact hlc, fun k hk j u hu => ?_⟩
      have hk' : k < l0 := by rw [hll] at hk; exact hk
      have ek : ((List.range l0).map T)[k] = T k := by simp
      rw [ek] at hu
      have hj : j < K.W := by
        by_cases q : j < K.W
        · exact q
        · rw [List.getElem?_eq_none (by rw [hf]; omega)] at hu; cases hu
      have hadd : (a.add (k * K.W)).add j = ⟨a.block, a.off + k * K.W + j, none⟩ := by
        rw [Deep.add_add]
        unfold Addr.add
        split
        · rename_i hz
          rw [show a.off + k * K.W + j = a.off by omega]; exact ha
        · simp
      rw [← hadd, hcell k hk' j hj, hu]
    · intro c hc'
      obtain ⟨i, hi, rfl⟩ := List.mem_map.1 hc'
      exact (hT i (List.mem_range.1 hi)).2
set_option maxRecDepth 1000000 in
theorem open_ints {H : Type} {enc : TypeId × Value → H} {W : World} {r : Reach} {b0 : Nat} {v : Value} {d : DataW H} {ps : List MemPlace} (hval : Value.okWide Try.prog W r b0 25 v) (h : DataW.Trod enc Try.prog W 0 (fun _ => true) true 25 v d ps) :
    ∃ l : List Int, GS KI W v l ∧ (l = [] ∨ ∃ es spare, d = .slice es spare ∧ es.length = l.length) := by
  obtain ⟨l, h1, _, h2⟩ := open_gs 0 KI (fun _ => True) Try.underlying25 cellsInt (fun _ => rfl) (by decide) (fun n cs x hq => by
    obtain ⟨m, e, _⟩ := DataW.trod_int Try.underlying3 hq
    exact ⟨m, e, trivial⟩) hval h
  exact ⟨l, h1, h2⟩
set_option maxRecDepth 1000000 in
/-- A slice, of whatever elements, where it lies in cells: it reads as a list. -/
theorem open_gc {α : Type} (x0 : α) (K : RK α) (Pr : α → Prop) {t : TypeId} (ht : Try.prog.underlying t = some (.slice K.ty)) (hc : Try.prog.cellsOf K.ty = K.W) (hf : ∀ x, (K.f x).length = K.W) (hp : 0 < K.W) {H : Type} {enc : TypeId × Value → H} {W : World}
    (op : ∀ n cs x, DataW.trod enc Try.prog W 0 (fun _ => true) true n K.ty cs = some x → ∃ c : α, cs = K.f c ∧ Pr c)
    {n0 : Nat} {v : Value} {x : DataW H × List MemPlace} (h : DataW.trod enc Try.prog W 0 (fun _ => true) true n0 t [v] = some x) :
    ∃ l : List α, GS K W v l ∧ (∀ c ∈ l, Pr c) ∧ (l = [] ∨ ∃ es spare, x.1 = .slice es spare ∧ es.length = l.length) := by
  rcases Deep.open_slice ht h with ⟨h1, h2⟩ | ⟨a, l0, c0, m, n, D, Pl, hcs, _, hlc, hcm, hm, hx, hel⟩
  · simp at h1
    subst h1
    exact ⟨[], Or.inl ⟨Or.inl rfl, rfl⟩, (fun c hc => by cases hc), Or.inl rfl⟩
  · simp at hcs
    subst hcs
    by_cases h0 : l0 = 0
    · subst h0
      exact ⟨[], Or.inl ⟨Or.inr ⟨a, c0, rfl⟩, rfl⟩, (fun c hc => by cases hc), Or.inl rfl⟩
    have hlm : l0 ≤ m := by rw [hm]; simp; exact hlc
    rw [hc] at hel
    obtain ⟨T, hT⟩ := @Deep.choose_lt α ⟨x0⟩ l0 (fun i t => W.cells? 0 (a.add (i * K.W)) K.W = some (K.f t) ∧ Pr t) (fun i hi => by
      obtain ⟨cs', g1, g2⟩ := hel i (by omega)
      obtain ⟨t, e1, e2⟩ := op _ _ _ g2
      exact ⟨t, by rw [g1, e1], e2⟩)
    have hll : ((List.range l0).map T).length = l0 := by simp
    have hcell : ∀ i, i < l0 → ∀ j, j < K.W → W.cell? ((a.add (i * K.W)).add j) = (K.f (T i))[j]? := fun i hi => (World.cells?_some (hT i hi).1).2.2
    obtain ⟨u, hu⟩ : ∃ u, W.cell? a = some u := by
      have := hcell 0 (by omega) 0 hp
      rw [List.getElem?_eq_getElem (by rw [hf]; exact hp)] at this
      simp [Addr.add] at this
      exact ⟨_, this⟩
    have ha : a = ⟨a.block, a.off, none⟩ := spot_none hu
    have hlt : a.block < W.heap.size := block_lt_of_cell hu
    refine ⟨(List.range l0).map T, ?_, ?_, Or.inr ⟨_, _, by rw [hx], by simp⟩⟩
    · refine Or.inr ⟨a.block, a.off, c0, by rw [hll, ← ha], hlt, by rw [hll]; exact hlc, fun k hk j u hu => ?_⟩
      have hk' : k < l0 := by rw [hll] at hk; exact hk
      have ek : ((List.range l0).map T)[k] = T k := by simp
      rw [ek] at hu
      have hj : j < K.W := by
        by_cases q : j < K.W
        · exact q
        · rw [List.getElem?_eq_none (by rw [hf]; omega)] at hu; cases hu
      have hadd : (a.add (k * K.W)).add j = ⟨a.block, a.off + k * K.W + j, none⟩ := by
        rw [Deep.add_add]
        unfold Addr.add
        split
        · rename_i hz
          rw [show a.off + k * K.W + j = a.off by omega]; exact ha
        · simp
      rw [← hadd, hcell k hk' j hj, hu]
    · intro c hc'
      obtain ⟨i, hi, rfl⟩ := List.mem_map.1 hc'
      exact (hT i (List.mem_range.1 hi)).2
set_option maxRecDepth 1000000 in
/-- An argument of the type api.Graph. -/
theorem open_graph {H : Type} {enc : TypeId × Value → H} {W : World} {r : Reach} {b0 : Nat} {v : Value} {d : DataW H} {ps : List MemPlace} (hval : Value.okWide Try.prog W r b0 24 v) (h : DataW.Trod enc Try.prog W 0 (fun _ => true) true 24 v d ps) :
    ∃ (n : Int) (sv : Value) (l : List (Int × Int)), v = .agg #[.int .i64 n, sv] ∧ GS KE W sv l ∧ (l = [] ∨ ∃ d0 es spare, d = .agg (d0 :: .slice es spare :: []) ∧ es.length = l.length) := by
  obtain ⟨fuel, h⟩ := h
  obtain ⟨cs, rfl, hcs⟩ := okWide_struct Try.underlying24 hval
  obtain ⟨xs, k, _, hx, hcl, hxl, hf⟩ := DataW.trod_struct Try.underlying24 h
  rw [cellsGraph] at hcl
  simp only [Value.cells] at hcl hf
  obtain ⟨cs⟩ := cs
  match xs, hxl, cs, hcl with
  | [y0, y1], _, [c0, c1], _ =>
    have g0 := hf 0 _ rfl
    have g1 := hf 1 _ rfl
    simp [cellsInt, cellsEdges] at g0 g1
    obtain ⟨m0, e0, _⟩ := DataW.trod_int Try.underlying3 g0
    obtain ⟨l, e1, _, e2⟩ := open_gc ((0, 0) : Int × Int) KE (fun _ => True) Try.underlying22 cellsEdge (fun _ => rfl) (by decide) (fun n cs x hq => by
      obtain ⟨xs, k, _, hx, hcl, hxl, hf⟩ := DataW.trod_struct Try.underlying47 hq
      rw [cellsEdge] at hcl
      match xs, hxl, cs, hcl with
      | [y0, y1], _, [c0, c1], _ =>
        have g0 := hf 0 _ rfl
        have g1 := hf 1 _ rfl
        simp [cellsInt] at g0 g1
        obtain ⟨m0, e0, _⟩ := DataW.trod_int Try.underlying3 g0
        obtain ⟨m1, e1, _⟩ := DataW.trod_int Try.underlying3 g1
        simp only [List.cons.injEq, and_true] at e0 e1
        subst e0 e1
        exact ⟨(m0, m1), rfl, trivial⟩) g1
    simp only [List.cons.injEq, and_true] at e0
    subst e0
    refine ⟨m0, c1, l, rfl, e1, ?_⟩
    rcases e2 with e | ⟨es, spare, e, e6⟩
    · exact Or.inl e
    · refine Or.inr ⟨y0.1, es, spare, ?_, e6⟩
      simp only [Prod.mk.injEq] at hx
      rw [hx.1]
      simp [e]
/-- The bytes of a slice in a struct's second field. -/
theorem sized_field {H : Type} {P : Program} {ts : List TypeId} {ds : List (DataW H)} (h : (DataW.weightsEach P ts ds).all (· ≤ reachBytes) = true) {j : Nat} {t t1 e : TypeId} {fs : Array Field} {d0 : DataW H} {es sp r : List (DataW H)} (ht : ts[j]? = some t) (hd : ds[j]? = some (.agg (d0 :: .slice es sp :: r))) (hu : P.underlying t = some (.struct fs)) (h1 : (fs.toList.map (·.type))[1]? = some t1) (hq : P.underlying t1 = some (.slice e)) :
    (es.length + sp.length) * P.bytesOf e ≤ reachBytes := by
  have hw : (es.length + sp.length) * P.bytesOf e ∈ (DataW.slice es sp).weights P t1 := by simp [DataW.weights, hq]
  have h2 : (es.length + sp.length) * P.bytesOf e ∈ (DataW.agg (d0 :: .slice es sp :: r)).weights P t := by
    simp only [DataW.weights, hu]
    exact DataW.weights_mem_each (j := 1) h1 rfl _ hw
  have := List.all_eq_true.1 h _ (DataW.weights_mem_each ht hd _ h2)
  simpa using this
end Go.Proofs.Ytghkhceplpjegaa
