/- Arguments opened: calls of a room. -/
import Derived.Test.YtofdfofpdfaimaaWe3
import Derived.Test.YtofdfofpdfaimaaRows
import Derived.Deep.Slices
import Derived.ProofKit
import Derived.OpenShut
import Derived.Carry
import Derived.SizedLaws
namespace Go.Proofs.Ytofdfofpdfaimaa
open Go.ChangeShapes Go.WideShapes Go.ChangeAt Go.RowKit

theorem own : ownKnob Try.prog.godebug = none := by kernel_rfl
theorem laidOut : laidOutB Try.prog = true := by kernel_rfl
theorem cellsInt : Try.prog.cellsOf 3 = 1 := by kernel_rfl
theorem cellsS : Try.prog.cellsOf 9 = 1 := by kernel_rfl
theorem cellsWt : Try.prog.cellsOf 30 = 4 := by kernel_rfl
theorem cellsAc : Try.prog.cellsOf 32 = 6 := by kernel_rfl
theorem spot_none {W : World} {a : Addr} {u : Value} (h : W.cell? a = some u) : a = ⟨a.block, a.off, none⟩ := by
  obtain ⟨b, o, s⟩ := a
  cases s with
  | none => rfl
  | some k =>
    exfalso
    unfold World.cell? at h
    split at h
    · simp at h
    · cases h
set_option maxRecDepth 100000 in
/-- An argument that is a slice, of whatever elements: it reads as a list. -/
theorem open_gs {α : Type} (x0 : α) (K : RK α) (Pr : α → Prop) {t : TypeId} (ht : Try.prog.underlying t = some (.slice K.ty)) (hc : Try.prog.cellsOf K.ty = K.W) (hf : ∀ x, (K.f x).length = K.W) (hp : 0 < K.W) {H : Type} {enc : TypeId × Value → H} {W : World}
    (op : ∀ n cs x, DataW.trod enc Try.prog W 0 (fun _ => true) true n K.ty cs = some x → ∃ c : α, cs = K.f c ∧ Pr c)
    {r : Reach} {b0 : Nat} {v : Value} {d : DataW H} {ps : List MemPlace} (hval : Value.okWide Try.prog W r b0 t v) (h : DataW.Trod enc Try.prog W 0 (fun _ => true) true t v d ps) :
    ∃ l : List α, GS K W v l ∧ (∀ c ∈ l, Pr c) ∧ (l = [] ∨ ∃ es spare, d = .slice es spare ∧ es.length = l.length) := by
  obtain ⟨fuel, h⟩ := h
  obtain ⟨a0, l0, c0, rfl⟩ := okWide_slice ht hval
  rcases Deep.open_slice ht h with ⟨h1, h2⟩ | ⟨a, len, cap, m, n, D, Pl, hcs, _, hlc, hcm, hm, hx, hel⟩
  · simp [Value.cells] at h1
    obtain ⟨rfl, rfl, rfl⟩ := h1
    exact ⟨[], Or.inl ⟨Or.inl rfl, rfl⟩, (fun c hc => by cases hc), Or.inl rfl⟩
  · simp [Value.cells] at hcs
    obtain ⟨rfl, rfl, rfl⟩ := hcs
    by_cases h0 : l0 = 0
    · subst h0
      exact ⟨[], Or.inl ⟨Or.inr ⟨a, c0, rfl⟩, rfl⟩, (fun c hc => by cases hc), Or.inl rfl⟩
    have hlm : l0 ≤ m := by rw [hm]; simp; exact hlc
    rw [hc] at hel
    obtain ⟨T, hT⟩ := @Deep.choose_lt α ⟨x0⟩ l0 (fun i t => W.cells? 0 (a.add (i * K.W)) K.W = some (K.f t) ∧ Pr t) (fun i hi => by
      obtain ⟨cs', g1, g2⟩ := hel i (by omega)
      obtain ⟨t, e1, e2⟩ := op _ _ _ g2
      exact ⟨t, by rw [g1, e1], e2⟩)
    have hll : ((List.range l0).map T).length = l0 := by simp
    have hcell : ∀ i, i < l0 → ∀ j, j < K.W → W.cell? ((a.add (i * K.W)).add j) = (K.f (T i))[j]? := fun i hi => (World.cells?_some (hT i hi).1).2.2
    obtain ⟨u, hu⟩ : ∃ u, W.cell? a = some u := by
      have := hcell 0 (by omega) 0 hp
      rw [List.getElem?_eq_getElem (by rw [hf]; exact hp)] at this
      simp [Addr.add] at this
      exact ⟨_, this⟩
    have ha : a = ⟨a.block, a.off, none⟩ := spot_none hu
    have hlt : a.block < W.heap.size := block_lt_of_cell hu
    simp only [Prod.mk.injEq] at hx
    refine ⟨(List.range l0).map T, ?_, ?_, Or.inr ⟨_, _, hx.1, by simp⟩⟩
    · refine Or.inr ⟨a.block, a.off, c0, by rw [hll, ← ha], hlt, by rw [hll]; exact hlc, fun k hk j u hu => ?_⟩
      have hk' : k < l0 := by rw [hll] at hk; exact hk
      have ek : ((List.range l0).map T)[k] = T k := by simp
      rw [ek] at hu
      have hj : j < K.W := by
        by_cases q : j < K.W
        · exact q
        · rw [List.getElem?_eq_none (by rw [hf]; omega)] at hu; cases hu
      have hadd : (a.add (k * K.W)).add j = ⟨a.block, a.off + k * K.W + j, none⟩ := by
        rw [Deep.add_add]
        unfold Addr.add
        split
        · rename_i hz
          rw [show a.off + k * K.W + j = a.off by omega]; exact ha
        · simp
      rw [← hadd, hcell k hk' j hj, hu]
    · intro c hc'
      obtain ⟨i, hi, rfl⟩ := List.mem_map.1 hc'
      exact (hT i (List.mem_range.1 hi)).2
set_option maxRecDepth 100000 in
theorem open_ac {H : Type} {enc : TypeId × Value → H} {W : World} {base : Nat} {sp : Nat → Bool} {held : Bool} {n : Nat} {cs : List Value} {x : DataW H × List MemPlace} (h : DataW.trod enc Try.prog W base sp held n 32 cs = some x) :
    ∃ c : Ac, cs = acL c ∧ acOk c := by
  obtain ⟨xs, k, _, hx, hcl, hxl, hf⟩ := DataW.trod_struct Try.underlying32 h
  rw [cellsAc] at hcl
  match xs, hxl, cs, hcl with
  | [y0, y1, y2], _, [c0, c1, c2, c3, c4, c5], _ =>
    have g0 := hf 0 _ rfl
    have g1 := hf 1 _ rfl
    have g2 := hf 2 _ rfl
    simp [cellsInt, cellsWt] at g0 g1 g2
    obtain ⟨m0, e0, _⟩ := DataW.trod_int Try.underlying3 g0
    obtain ⟨m5, e5, _⟩ := DataW.trod_int Try.underlying3 g2
    obtain ⟨zs, kz, _, hz, _, hzl, hzf⟩ := DataW.trod_struct Try.underlying30 g1
    match zs, hzl with
    | [z0, z1, z2, z3], _ =>
      have k0 := hzf 0 _ rfl
      have k1 := hzf 1 _ rfl
      have k2 := hzf 2 _ rfl
      have k3 := hzf 3 _ rfl
      simp [cellsInt, cellsS] at k0 k1 k2 k3
      obtain ⟨m1, i1, _⟩ := DataW.trod_int Try.underlying3 k0
      obtain ⟨m2, i2, _⟩ := DataW.trod_int Try.underlying3 k1
      obtain ⟨s3, i3, _, h3⟩ := DataW.trod_string Try.underlying9 k2
      obtain ⟨s4, i4, _, h4⟩ := DataW.trod_string Try.underlying9 k3
      simp only [List.cons.injEq, and_true] at e0 e5 i1 i2 i3 i4
      subst e0 e5 i1 i2 i3 i4
      exact ⟨⟨m0, ⟨m1, m2, s3, s4⟩, m5⟩, rfl, h3, h4⟩
set_option maxRecDepth 100000 in
theorem open_acts {H : Type} {enc : TypeId × Value → H} {W : World} {r : Reach} {b0 : Nat} {v : Value} {d : DataW H} {ps : List MemPlace} (hval : Value.okWide Try.prog W r b0 22 v) (h : DataW.Trod enc Try.prog W 0 (fun _ => true) true 22 v d ps) :
    ∃ l : List Ac, GS KA W v l ∧ (∀ c ∈ l, acOk c) ∧ (l = [] ∨ ∃ es spare, d = .slice es spare ∧ es.length = l.length) :=
  open_gs ⟨0, w0, 0⟩ KA acOk Try.underlying22 cellsAc (fun _ => rfl) (by decide) (fun n cs x hq => open_ac hq) hval h
end Go.Proofs.Ytofdfofpdfaimaa
