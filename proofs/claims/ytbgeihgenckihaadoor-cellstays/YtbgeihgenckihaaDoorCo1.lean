/- Cells: arguments of the types []onceweblaw11.Act and onceweblaw11.New, opened. -/
import Derived.Test.YtbgeihgenckihaaDoorCe1
import Derived.Test.YtbgeihgenckihaaDoorLaid
import Derived.Test.YtbgeihgenckihaaDoorFy1
import Derived.Test.YtbgeihgenckihaaDoorFy2
import Derived.Test.YtbgeihgenckihaaDoorRows
import Derived.Deep.Slices
import Derived.ProofKit
import Derived.OpenShut
import Derived.Carry
import Derived.SizedLaws
namespace Go.Proofs.YtbgeihgenckihaaDoor
open Go.ChangeShapes Go.WideShapes Go.ChangeAt Go.RowKit

theorem cellsAt : Tryd.prog.cellsOf 77 = 4 := by kernel_rfl
theorem cellsVl : Tryd.prog.cellsOf 32 = 1 := by kernel_rfl
theorem bytesAt : Tryd.prog.bytesOf 77 = 40 := by kernel_rfl
theorem cellsFl : Tryd.prog.cellsOf 34 = 1 := by kernel_rfl
set_option maxRecDepth 100000 in
theorem open_at {H : Type} {enc : TypeId × Value → H} {W : World} {base : Nat} {sp : Nat → Bool} {held : Bool} {n : Nat} {cs : List Value} {x : DataW H × List MemPlace} (h : DataW.trod enc Tryd.prog W base sp held n 77 cs = some x) :
    ∃ c : Atm, cs = atC c ∧ c.text.size ≤ maxLen := by
  obtain ⟨xs, k, _, hx, hcl, hxl, hf⟩ := DataW.trod_struct Tryd.underlying77 h
  rw [cellsAt] at hcl
  match xs, hxl, cs, hcl with
  | [y0, y1, y2, y3], _, [c0, c1, c2, c3], _ =>
    have g0 := hf 0 _ rfl
    have g1 := hf 1 _ rfl
    have g2 := hf 2 _ rfl
    have g3 := hf 3 _ rfl
    simp [cellsI, cellsS] at g0 g1 g2 g3
    obtain ⟨m0, e0, f0, _⟩ := DataW.trod_int Tryd.underlying3 g0
    obtain ⟨m1, e1, f1, _⟩ := DataW.trod_int Tryd.underlying3 g1
    obtain ⟨m2, e2, f2, _⟩ := DataW.trod_int Tryd.underlying3 g2
    obtain ⟨s, e3, f3, hs⟩ := DataW.trod_string Tryd.underlying9 g3
    simp only [List.cons.injEq, and_true] at e0 e1 e2 e3
    subst e0 e1 e2 e3
    exact ⟨⟨m0, m1, m2, s⟩, rfl, hs⟩
set_option maxRecDepth 100000 in
theorem open_vl {H : Type} {enc : TypeId × Value → H} {W : World} {held : Bool} {n : Nat} {cs : List Value} {x : DataW H × List MemPlace} (h : DataW.trod enc Tryd.prog W 0 (fun _ => true) held n 32 cs = some x) :
    ∃ (q : Option Addr) (c : Nat) (l : List Atm), cs = [.slice q l.length c] ∧ AS W (.slice q l.length c) l ∧ AT l ∧ (l = [] ∨ ∃ es spare, x.1 = .slice es spare ∧ es.length = l.length) := by
  rcases Deep.open_slice Tryd.underlying32 h with ⟨h1, h2⟩ | ⟨a, l0, c0, m, n, D, Pl, hcs, _, hlc, hcm, hm, hx, hel⟩
  · exact ⟨none, 0, [], h1, Or.inl ⟨Or.inl rfl, rfl⟩, (fun c hc => by cases hc), Or.inl rfl⟩
  · have hlm : l0 ≤ m := by rw [hm]; simp; exact hlc
    by_cases h0 : l0 = 0
    · subst h0
      exact ⟨some a, c0, [], hcs, Or.inl ⟨Or.inr ⟨a, c0, rfl⟩, rfl⟩, (fun c hc => by cases hc), Or.inl rfl⟩
    rw [cellsAt] at hel
    obtain ⟨T, hT⟩ := @Deep.choose_lt Atm ⟨⟨0, 0, 0, ByteArray.empty⟩⟩ l0 (fun i t => W.cells? 0 (a.add (i * 4)) 4 = some (atC t) ∧ t.text.size ≤ maxLen) (fun i hi => by
      obtain ⟨cs', g1, g2⟩ := hel i (by omega)
      obtain ⟨t, e1, e2⟩ := open_at g2
      exact ⟨t, by rw [g1, e1], e2⟩)
    have hll : ((List.range l0).map T).length = l0 := by simp
    have hcell : ∀ i, i < l0 → ∀ j, j < 4 → W.cell? ((a.add (i * 4)).add j) = (atC (T i))[j]? := fun i hi => (World.cells?_some (hT i hi).1).2.2
    have hq : W.cell? a = some (.int .i64 (T 0).kind) := by
      have := hcell 0 (by omega) 0 (by omega)
      simpa [Addr.add, atC] using this
    have ha : a = ⟨a.block, a.off, none⟩ := spot_none hq
    have hlt : a.block < W.heap.size := block_lt_of_cell hq
    refine ⟨some a, c0, (List.range l0).map T, by rw [hll]; exact hcs, ?_, ?_, Or.inr ⟨_, _, by rw [hx], by simp⟩⟩
    · refine Or.inr ⟨a.block, a.off, c0, by rw [← ha], hlt, by rw [hll]; exact hlc, fun k hk j u hu => ?_⟩
      have hk' : k < l0 := by rw [hll] at hk; exact hk
      have ek : ((List.range l0).map T)[k] = T k := by simp
      rw [ek] at hu
      have hj : j < 4 := by
        by_cases hlt : j < 4
        · exact hlt
        · have : (KA.f (T k))[j]? = none := List.getElem?_eq_none (by simp [KA, atC]; omega)
          rw [this] at hu; cases hu
      have hadd : (a.add (k * 4)).add j = ⟨a.block, a.off + k * 4 + j, none⟩ := by
        rw [Deep.add_add]
        unfold Addr.add
        split
        · rename_i hz
          rw [show a.off + k * 4 + j = a.off by omega]; exact ha
        · simp
      have q0 := hcell k hk' j hj
      rw [hadd] at q0
      exact q0.trans hu
    · intro t ht
      obtain ⟨i, hi, rfl⟩ := List.mem_map.1 ht
      exact (hT i (List.mem_range.1 hi)).2
set_option maxRecDepth 100000 in
theorem open_fl {H : Type} {enc : TypeId × Value → H} {W : World} {held : Bool} {n : Nat} {cs : List Value} {x : DataW H × List MemPlace} (h : DataW.trod enc Tryd.prog W 0 (fun _ => true) held n 34 cs = some x) :
    ∃ (v : Value) (l : List Cr), cs = [v] ∧ CS W v l ∧ (∀ c ∈ l, c.text.size ≤ maxLen) ∧ (l = [] ∨ ∃ es spare, x.1 = .slice es spare ∧ es.length = l.length) := by
  rcases Deep.open_slice Tryd.underlying34 h with ⟨h1, h2⟩ | ⟨a, l0, c0, m, n, D, Pl, hcs, _, hlc, hcm, hm, hx, hel⟩
  · exact ⟨_, [], h1, Or.inl ⟨Or.inl rfl, rfl⟩, by simp, Or.inl rfl⟩
  · have hlm : l0 ≤ m := by rw [hm]; simp; exact hlc
    by_cases h0 : l0 = 0
    · subst h0
      exact ⟨_, [], hcs, Or.inl ⟨Or.inr ⟨a, c0, rfl⟩, rfl⟩, by simp, Or.inl rfl⟩
    rw [cellsCr] at hel
    obtain ⟨T, hT⟩ := @Deep.choose_lt Cr ⟨⟨0, 0, ByteArray.empty⟩⟩ l0 (fun i t => W.cells? 0 (a.add (i * 3)) 3 = some (crC t) ∧ t.text.size ≤ maxLen) (fun i hi => by
      obtain ⟨cs', g1, g2⟩ := hel i (by omega)
      obtain ⟨t, e1, e2⟩ := open_cr g2
      exact ⟨t, by rw [g1, e1], e2⟩)
    have hll : ((List.range l0).map T).length = l0 := by simp
    have hcell : ∀ i, i < l0 → ∀ j, j < 3 → W.cell? ((a.add (i * 3)).add j) = (crC (T i))[j]? := fun i hi => (World.cells?_some (hT i hi).1).2.2
    have ha : a = ⟨a.block, a.off, none⟩ := by
      have := hcell 0 (by omega) 0 (by omega)
      simp [Addr.add, crC] at this
      exact spot_none this
    have hlt : a.block < W.heap.size := by
      have := hcell 0 (by omega) 0 (by omega)
      simp [Addr.add, crC] at this
      exact block_lt_of_cell this
    refine ⟨_, (List.range l0).map T, hcs, ?_, ?_, Or.inr ⟨_, _, by rw [hx], by simp⟩⟩
    · refine Or.inr ⟨a.block, a.off, c0, by rw [hll, ← ha], hlt, by rw [hll]; exact hlc, fun k hk => ?_⟩
      have hk' : k < l0 := by rw [hll] at hk; exact hk
      have ek : ((List.range l0).map T)[k] = T k := by simp
      rw [ek]
      have hadd : ∀ j, (a.add (k * 3)).add j = ⟨a.block, a.off + k * 3 + j, none⟩ := by
        intro j
        rw [Deep.add_add]
        unfold Addr.add
        split
        · rename_i hz
          rw [show a.off + k * 3 + j = a.off by omega]; exact ha
        · simp
      have q0 := hcell k hk' 0 (by omega)
      have q1 := hcell k hk' 1 (by omega)
      have q2 := hcell k hk' 2 (by omega)
      rw [hadd] at q0 q1 q2
      exact ⟨q0, q1, q2⟩
    · intro t ht
      obtain ⟨i, hi, rfl⟩ := List.mem_map.1 ht
      exact (hT i (List.mem_range.1 hi)).2
theorem weightsAll_mem {H : Type} {P : Program} {e : TypeId} : ∀ {es : List (DataW H)} {d : DataW H}, d ∈ es → ∀ n ∈ d.weights P e, n ∈ DataW.weightsAll P e es
  | [], _, h, _, _ => by cases h
  | a :: r, d, h, n, hn => by
    simp only [DataW.weightsAll, List.mem_append]
    rcases List.mem_cons.1 h with e | e
    · subst e; exact Or.inl hn
    · exact Or.inr (weightsAll_mem e n hn)
theorem CS_form {W : World} {v : Value} {l : List Cr} (h : CS W v l) : ∃ p c, v = .slice p l.length c := by
  rcases h with ⟨rfl | ⟨a, c, rfl⟩, rfl⟩ | ⟨b, o, c, rfl, _⟩
  · exact ⟨_, _, rfl⟩
  · exact ⟨_, _, rfl⟩
  · exact ⟨_, _, rfl⟩
theorem cellsAct : Tryd.prog.cellsOf 43 = 6 := by kernel_rfl
theorem cellsOut : Tryd.prog.cellsOf 36 = 3 := by kernel_rfl
theorem cellsNew : Tryd.prog.cellsOf 25 = 5 := by kernel_rfl
theorem cellsPol : Tryd.prog.cellsOf 23 = 4 := by kernel_rfl
theorem cellsBool : Tryd.prog.cellsOf 4 = 1 := by kernel_rfl
/-- What an act's own datum says of the lengths of its lists. -/
def Dx {H : Type} (d : DataW H) (x : Ax) : Prop :=
  (x.val = [] ∨ ∃ d0 d1 d2 d3 es sp r, d = .agg [d0, d1, d2, .agg (d3 :: .slice es sp :: r)] ∧ es.length = x.val.length) ∧
  (x.fl = [] ∨ ∃ d0 d1 d2 d3 d4 es sp, d = .agg [d0, d1, d2, .agg [d3, d4, .slice es sp]] ∧ es.length = x.fl.length)
structure OkX' (w : World) (x : Ax) : Prop where
  sv : AS w (.slice x.vp x.val.length x.vc) x.val
  vt : AT x.val
  sf : CS w (.slice x.fp x.fl.length x.fc) x.fl
  ft : ∀ c ∈ x.fl, c.text.size ≤ maxLen
set_option maxRecDepth 100000 in
theorem open_act {H : Type} {enc : TypeId × Value → H} {W : World} {held : Bool} {n : Nat} {cs : List Value} {x : DataW H × List MemPlace} (h : DataW.trod enc Tryd.prog W 0 (fun _ => true) held n 43 cs = some x) :
    ∃ c : Ax, cs = axC c ∧ OkX' W c ∧ Dx x.1 c := by
  obtain ⟨xs, k, _, hx, hcl, hxl, hf⟩ := DataW.trod_struct Tryd.underlying43 h
  rw [cellsAct] at hcl
  match xs, hxl, cs, hcl with
  | [y0, y1, y2, y3], _, [c0, c1, c2, c3, c4, c5], _ =>
    have g0 := hf 0 _ rfl
    have g1 := hf 1 _ rfl
    have g2 := hf 2 _ rfl
    have g3 := hf 3 _ rfl
    simp [cellsI, cellsOut] at g0 g1 g2 g3
    obtain ⟨m0, e0, _⟩ := DataW.trod_int Tryd.underlying3 g0
    obtain ⟨m1, e1, _⟩ := DataW.trod_int Tryd.underlying3 g1
    obtain ⟨m2, e2, _⟩ := DataW.trod_int Tryd.underlying3 g2
    obtain ⟨zs, kz, _, hz, _, hzl, hzf⟩ := DataW.trod_struct Tryd.underlying36 g3
    match zs, hzl with
    | [z0, z1, z2], _ =>
      have k0 := hzf 0 _ rfl
      have k1 := hzf 1 _ rfl
      have k2 := hzf 2 _ rfl
      simp [cellsI, cellsVl, cellsFl] at k0 k1 k2
      obtain ⟨m3, e3, _⟩ := DataW.trod_int Tryd.underlying3 k0
      obtain ⟨q, c, l, e4, h4, t4, w4⟩ := open_vl k1
      obtain ⟨u, m, e5, h5, t5, w5⟩ := open_fl k2
      simp only [List.cons.injEq, and_true] at e0 e1 e2 e3 e4 e5
      subst e0 e1 e2 e3 e4 e5
      obtain ⟨q', c', rfl⟩ := CS_form h5
      refine ⟨⟨m0, m1, m2, m3, q, c, l, q', c', m⟩, rfl, ⟨h4, t4, h5, t5⟩, ?_, ?_⟩
      · rcases w4 with e | ⟨es, sp, e, e6⟩
        · exact Or.inl e
        · refine Or.inr ⟨y0.1, y1.1, y2.1, z0.1, es, sp, [z2.1], ?_, e6⟩
          rw [hx]
          simp [hz, e]
      · rcases w5 with e | ⟨es, sp, e, e6⟩
        · exact Or.inl e
        · refine Or.inr ⟨y0.1, y1.1, y2.1, z0.1, z1.1, es, sp, ?_, e6⟩
          rw [hx]
          simp [hz, e]
set_option maxRecDepth 100000 in
theorem open_acts {H : Type} {enc : TypeId × Value → H} {W : World} {r : Reach} {b0 : Nat} {v : Value} {d : DataW H} {ps : List MemPlace} (hval : Value.okWide Tryd.prog W r b0 26 v) (h : DataW.Trod enc Tryd.prog W 0 (fun _ => true) true 26 v d ps) :
    ∃ L : List Ax, GS KX W v L ∧ (∀ x ∈ L, OkX' W x) ∧ (L = [] ∨ ∃ es spare, d = .slice es spare ∧ es.length = L.length ∧ ∀ x ∈ L, ∃ e ∈ es, Dx e x) := by
  obtain ⟨fuel, h⟩ := h
  obtain ⟨a0, l0, c0, rfl⟩ := okWide_slice Tryd.underlying26 hval
  rcases Deep.open_slice Tryd.underlying26 h with ⟨h1, h2⟩ | ⟨a, len, cap, m, n, D, Pl, hcs, _, hlc, hcm, hm, hx, hel⟩
  · simp [Value.cells] at h1
    obtain ⟨rfl, rfl, rfl⟩ := h1
    exact ⟨[], Or.inl ⟨Or.inl rfl, rfl⟩, by simp, Or.inl rfl⟩
  · simp [Value.cells] at hcs
    obtain ⟨rfl, rfl, rfl⟩ := hcs
    have hlm : l0 ≤ m := by rw [hm]; simp; exact hlc
    by_cases h0 : l0 = 0
    · subst h0
      exact ⟨[], Or.inl ⟨Or.inr ⟨a, c0, rfl⟩, rfl⟩, by simp, Or.inl rfl⟩
    rw [cellsAct] at hel
    obtain ⟨T, hT⟩ := @Deep.choose_lt Ax ⟨⟨0, 0, 0, 0, none, 0, [], none, 0, []⟩⟩ l0 (fun i t => W.cells? 0 (a.add (i * 6)) 6 = some (axC t) ∧ OkX' W t ∧ Dx (D i) t) (fun i hi => by
      obtain ⟨cs', g1, g2⟩ := hel i (by omega)
      obtain ⟨c, e1, e2, e3⟩ := open_act g2
      exact ⟨c, by rw [g1, e1], e2, e3⟩)
    have hll : ((List.range l0).map T).length = l0 := by simp
    have hcell : ∀ i, i < l0 → ∀ j, j < 6 → W.cell? ((a.add (i * 6)).add j) = (axC (T i))[j]? := fun i hi => (World.cells?_some (hT i hi).1).2.2
    have hq : W.cell? a = some (.int .i64 (T 0).kind) := by
      have := hcell 0 (by omega) 0 (by omega)
      simpa [Addr.add, axC] using this
    have ha : a = ⟨a.block, a.off, none⟩ := spot_none hq
    have hlt : a.block < W.heap.size := block_lt_of_cell hq
    simp only [Prod.mk.injEq] at hx
    refine ⟨(List.range l0).map T, ?_, ?_, Or.inr ⟨_, _, hx.1, by simp, ?_⟩⟩
    · refine Or.inr ⟨a.block, a.off, c0, by rw [hll, ← ha], hlt, by rw [hll]; exact hlc, fun k hk j u hu => ?_⟩
      have hk' : k < l0 := by rw [hll] at hk; exact hk
      have ek : ((List.range l0).map T)[k] = T k := by simp
      rw [ek] at hu
      have hj : j < 6 := by
        by_cases hlt : j < 6
        · exact hlt
        · have : (KX.f (T k))[j]? = none := List.getElem?_eq_none (by simp [KX, axC]; omega)
          rw [this] at hu; cases hu
      have hadd : (a.add (k * 6)).add j = ⟨a.block, a.off + k * 6 + j, none⟩ := by
        rw [Deep.add_add]
        unfold Addr.add
        split
        · rename_i hz
          rw [show a.off + k * 6 + j = a.off by omega]; exact ha
        · simp
      have q0 := hcell k hk' j hj
      rw [hadd] at q0
      exact q0.trans hu
    · intro t ht
      obtain ⟨i, hi, rfl⟩ := List.mem_map.1 ht
      exact (hT i (List.mem_range.1 hi)).2.1
    · intro x hx'
      obtain ⟨i, hi, rfl⟩ := List.mem_map.1 hx'
      exact ⟨D i, List.mem_map.2 ⟨i, hi, rfl⟩, (hT i (List.mem_range.1 hi)).2.2⟩
/-- The bytes of a slice in a field of a struct that is a field of a slice's member. -/
theorem sized_inH {H : Type} {P : Program} {ts : List TypeId} {ds : List (DataW H)} (h : (DataW.weightsEach P ts ds).all (· ≤ reachBytes) = true) {j f f2 : Nat} {t q t1 t2 e : TypeId} {fs fs2 : Array Field} {elems spare : List (DataW H)} {ms ms2 es sp : List (DataW H)} (ht : ts[j]? = some t) (hd : ds[j]? = some (.slice elems spare)) (hu : P.underlying t = some (.slice q)) (hs : P.underlying q = some (.struct fs)) (h1 : (fs.toList.map (·.type))[f]? = some t1) (hs2 : P.underlying t1 = some (.struct fs2)) (h2 : (fs2.toList.map (·.type))[f2]? = some t2) (hq : P.underlying t2 = some (.slice e)) (hm : DataW.agg ms ∈ elems) (hf : ms[f]? = some (.agg ms2)) (hf2 : ms2[f2]? = some (.slice es sp)) :
    (es.length + sp.length) * P.bytesOf e ≤ reachBytes := by
  have hw : (es.length + sp.length) * P.bytesOf e ∈ (DataW.slice es sp).weights P t2 := by simp [DataW.weights, hq]
  have hw2 : (es.length + sp.length) * P.bytesOf e ∈ (DataW.agg ms2).weights P t1 := by
    simp only [DataW.weights, hs2]
    exact DataW.weights_mem_each (j := f2) h2 hf2 _ hw
  have h2 : (es.length + sp.length) * P.bytesOf e ∈ (DataW.agg ms).weights P q := by
    simp only [DataW.weights, hs]
    exact DataW.weights_mem_each (j := f) h1 hf _ hw2
  have h3 : (es.length + sp.length) * P.bytesOf e ∈ (DataW.slice elems spare).weights P t := by
    simp only [DataW.weights, hu, List.mem_cons, List.mem_append]
    exact Or.inr (Or.inl (weightsAll_mem hm _ h2))
  have := List.all_eq_true.1 h _ (DataW.weights_mem_each ht hd _ h3)
  simpa using this
theorem bytesAct : Tryd.prog.bytesOf 43 = 80 := by kernel_rfl
set_option maxRecDepth 100000 in
theorem open_arg {H : Type} {enc : TypeId × Value → H} {W : World} {r : Reach} {b0 : Nat} {v : Value} {d : DataW H} {ps : List MemPlace} {ts : List TypeId} {ds : List (DataW H)} {j : Nat} (hval : Value.okWide Tryd.prog W r b0 26 v) (h : DataW.Trod enc Tryd.prog W 0 (fun _ => true) true 26 v d ps)
    (hwt : (DataW.weightsEach Tryd.prog ts ds).all (· ≤ reachBytes) = true) (hp : ts[j]? = some 26) (hj : ds[j]? = some d) : ∃ L, ARG W v L := by
  obtain ⟨L, h1, h2, h3⟩ := open_acts hval h
  refine ⟨L, h1, fun x hx => ?_, ?_⟩
  · have k := h2 x hx
    rcases h3 with rfl | ⟨es, spare, rfl, hes, hin⟩
    · cases hx
    · obtain ⟨e, he, d1, d2⟩ := hin x hx
      refine ⟨k.sv, k.sf, k.vt, k.ft, ?_, ?_⟩
      · show x.val.length * 40 ≤ _
        rcases d1 with e1 | ⟨a0, a1, a2, a3, es', sp', r', rfl, hl⟩
        · rw [e1]; simp
        · have := sized_inH (j := j) (f := 3) (f2 := 1) hwt hp hj Tryd.underlying26 Tryd.underlying43 rfl Tryd.underlying36 rfl Tryd.underlying32 he rfl rfl
          rw [bytesAt, hl] at this
          unfold reachBytes at this
          omega
      · show x.fl.length * 32 ≤ _
        rcases d2 with e1 | ⟨a0, a1, a2, a3, a4, es', sp', rfl, hl⟩
        · rw [e1]; simp
        · have := sized_inH (j := j) (f := 3) (f2 := 2) hwt hp hj Tryd.underlying26 Tryd.underlying43 rfl Tryd.underlying36 rfl Tryd.underlying34 he rfl rfl
          rw [bytesCr, hl] at this
          unfold reachBytes at this
          omega
  · rcases h3 with rfl | ⟨es, spare, rfl, hes, hin⟩
    · simp
    · have := sized_slice (j := j) hwt hp hj Tryd.underlying26
      rw [bytesAct, hes] at this
      unfold reachBytes at this
      omega
set_option maxRecDepth 100000 in
theorem open_new {H : Type} {enc : TypeId × Value → H} {W : World} {r : Reach} {b0 : Nat} {v : Value} {d : DataW H} {ps : List MemPlace} (hval : Value.okWide Tryd.prog W r b0 25 v) (h : DataW.Trod enc Tryd.prog W 0 (fun _ => true) true 25 v d ps) :
    ∃ (ag : Bool) (p : Pol), v = .agg #[.bool ag, .int .i64 p.t, .int .i64 p.b, .int .i64 p.f, .int .i64 p.c] := by
  obtain ⟨fuel, h⟩ := h
  obtain ⟨cs, rfl, hcs⟩ := okWide_struct Tryd.underlying25 hval
  obtain ⟨xs, k, _, hx, hcl, hxl, hf⟩ := DataW.trod_struct Tryd.underlying25 h
  rw [cellsNew] at hcl
  simp only [Value.cells] at hcl hf
  obtain ⟨cs⟩ := cs
  match xs, hxl, cs, hcl with
  | [y0, y1], _, [c0, c1, c2, c3, c4], _ =>
    have g0 := hf 0 _ rfl
    have g1 := hf 1 _ rfl
    simp [cellsBool, cellsPol] at g0 g1
    obtain ⟨b, e5, f5⟩ := DataW.trod_bool Tryd.underlying4 g0
    obtain ⟨zs, kz, _, hz, _, hzl, hzf⟩ := DataW.trod_struct Tryd.underlying23 g1
    match zs, hzl with
    | [z0, z1, z2, z3], _ =>
      have k0 := hzf 0 _ rfl
      have k1 := hzf 1 _ rfl
      have k2 := hzf 2 _ rfl
      have k3 := hzf 3 _ rfl
      simp [cellsI] at k0 k1 k2 k3
      obtain ⟨m0, i0, _⟩ := DataW.trod_int Tryd.underlying3 k0
      obtain ⟨m1, i1, _⟩ := DataW.trod_int Tryd.underlying3 k1
      obtain ⟨m2, i2, _⟩ := DataW.trod_int Tryd.underlying3 k2
      obtain ⟨m3, i3, _⟩ := DataW.trod_int Tryd.underlying3 k3
      simp only [List.cons.injEq, and_true] at e5 i0 i1 i2 i3
      subst e5 i0 i1 i2 i3
      exact ⟨b, ⟨m0, m1, m2, m3⟩, rfl⟩
set_option maxRecDepth 100000 in
theorem FB_of {W : World} (h : FV W) : FB W W.heap.size := by
  refine ⟨h, ?_, ?_, ?_⟩
  · have := h.keys 0 (by decide)
    exact block_lt_of_cell this
  · have := h.words 0 (by decide)
    exact block_lt_of_cell this
  · have := h.rows 0 (by decide) 0 (by decide)
    exact block_lt_of_cell (this.trans (by rfl))
end Go.Proofs.YtbgeihgenckihaaDoor
