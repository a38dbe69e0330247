/- What the law NamesChecks needs. -/
import Derived.Test.YtkdoojndighdjaaDoorPt4
import Derived.BigRegion
import Derived.Deep.RegionLaw
import Derived.Deep.RegionWith
import Derived.Deep.CutRange
import Derived.Deep.DeepCutAuto
namespace Go.Proofs.YtkdoojndighdjaaDoor
open Go.RowKit

theorem below_alloc' {w w' : World} (h : Below w.heap.size w w') (o : Obj) : Below w.heap.size w (w'.alloc o) := h.alloc h.size o
/-- A block that was laid right ahead of a call is there behind it. -/
theorem kept_new {W wA : World} {ob : Obj} (hb : Below (W.alloc ob).heap.size (W.alloc ob) wA) : wA.heap[W.heap.size]? = some ob := (hb.block _ (by simp)).trans (heap_alloc_new W ob)
theorem kept_newD {W wA : World} {ob : Obj} (hb : Below (W.alloc ob).drew.heap.size (W.alloc ob).drew wA) : wA.heap[W.heap.size]? = some ob := (hb.block _ (by show _ < (W.alloc ob).heap.size; simp)).trans (heap_alloc_new W ob)
theorem kept_old {wA wB : World} {g : Nat} {ob : Obj} (h : wA.heap[g]? = some ob) (hb : Below wA.heap.size wA wB) : wB.heap[g]? = some ob := (hb.block _ (Array.getElem?_eq_some_iff.1 h).1).trans h
theorem PBx.cellsA {w : World} {g : Nat} {p : Prv} {ve : Value} (h : PBx w g p ve) : (∀ ob, (w.alloc ob).cell? ⟨g, 0, none⟩ = some (.string p.name)) ∧ (∀ ob, (w.alloc ob).cell? ⟨g, 1, none⟩ = some ve) ∧ (∀ ob, (w.alloc ob).cell? ⟨g, 2, none⟩ = some (.bool p.again)) ∧ (∀ ob, (w.alloc ob).cell? ⟨g, 3, none⟩ = some (.int .i64 p.pol.t)) ∧ (∀ ob, (w.alloc ob).cell? ⟨g, 4, none⟩ = some (.int .i64 p.pol.b)) ∧ (∀ ob, (w.alloc ob).cell? ⟨g, 5, none⟩ = some (.int .i64 p.pol.f)) ∧ (∀ ob, (w.alloc ob).cell? ⟨g, 6, none⟩ = some (.int .i64 p.pol.c)) ∧ (∀ ob, (w.alloc ob).cell? ⟨g, 7, none⟩ = some (.int .i64 p.ck)) ∧ (∀ ob, (w.alloc ob).cell? ⟨g, 8, none⟩ = some (.string p.ct)) := by
  have q := fun ob => PBx.cells (h.below ((Below.refl _ _).alloc (Nat.le_refl _) ob))
  exact ⟨fun ob => (q ob).1, fun ob => (q ob).2.1, fun ob => (q ob).2.2.1, fun ob => (q ob).2.2.2.1, fun ob => (q ob).2.2.2.2.1, fun ob => (q ob).2.2.2.2.2.1, fun ob => (q ob).2.2.2.2.2.2.1, fun ob => (q ob).2.2.2.2.2.2.2.1, fun ob => (q ob).2.2.2.2.2.2.2.2⟩
/-- What the law's first statement has come to: the copy of the expression, that of the provider, the box for it. -/
structure NC (w w0 wc : World) (b0 : Nat) (l : List Opn) (p : Prv) (ve : Value) : Prop where
  bl : Below w.heap.size w wc
  b2 : Below w0.heap.size w0 wc
  bx : PBx wc b0 p ve
theorem NC.next {w w0 wc wd : World} {b0 : Nat} {l : List Opn} {p : Prv} {ve : Value} (h : NC w w0 wc b0 l p ve) (b : Below wc.heap.size wc wd) : NC w w0 wd b0 l p ve :=
  ⟨h.bl.trans (b.mono h.bl.size), h.b2.trans (b.mono h.b2.size), h.bx.below b⟩
theorem NC.alloc {w w0 wc : World} {b0 : Nat} {l : List Opn} {p : Prv} {ve : Value} (h : NC w w0 wc b0 l p ve) (ob : Obj) : NC w w0 (wc.alloc ob) b0 l p ve := h.next ((Below.refl _ _).alloc (Nat.le_refl _) ob)
theorem NC.drew {w w0 wc : World} {b0 : Nat} {l : List Opn} {p : Prv} {ve : Value} (h : NC w w0 wc b0 l p ve) : NC w w0 wc.drew b0 l p ve := h.next (Below.refl _ _).drew
theorem NC.drewN {w w0 wc : World} {b0 : Nat} {l : List Opn} {p : Prv} {ve : Value} (h : NC w w0 wc b0 l p ve) (n : Nat) : NC w w0 (wc.drewN n) b0 l p ve := h.next ⟨rfl, rfl, rfl, Nat.le_refl _, fun _ _ => rfl⟩
/-- Behind the law's first statement. -/
structure NR (w w0 wc : World) (b0 : Nat) (l : List Opn) (p : Prv) (ve v1 : Value) (g : Nat) (v2 : Value) : Prop where
  nc : NC w w0 wc b0 l p ve
  ex : OS wc v1 l
  mb : PBx wc g p v2
  mo : OS wc v2 p.ops
theorem PBx_store {w : World} {g : Nat} {p : Prv} {v : Value} (h : w.heap[g]? = some (.cells zPrv 29)) : PBx (((((((((w.setCell ⟨g, 0, none⟩ (.string p.name)).setCell ⟨g, 1, none⟩ v).setCell ⟨g, 2, none⟩ (.bool p.again)).setCell ⟨g, 3, none⟩ (.int .i64 p.pol.t)).setCell ⟨g, 4, none⟩ (.int .i64 p.pol.b)).setCell ⟨g, 5, none⟩ (.int .i64 p.pol.f)).setCell ⟨g, 6, none⟩ (.int .i64 p.pol.c)).setCell ⟨g, 7, none⟩ (.int .i64 p.ck)).setCell ⟨g, 8, none⟩ (.string p.ct)) g p v := by
  have a0 : (w.setCell ⟨g, 0, none⟩ (.string p.name)).heap[g]? = some (.cells #[.string p.name, .slice none 0 0, .bool false, .int .i64 0, .int .i64 0, .int .i64 0, .int .i64 0, .int .i64 0, .string ByteArray.empty] 29) := by
    have e := heap_setCell_same w g 0 _ _ (.string p.name) h
    simpa [zPrv] using e
  have a1 : ((w.setCell ⟨g, 0, none⟩ (.string p.name)).setCell ⟨g, 1, none⟩ (v)).heap[g]? = some (.cells #[.string p.name, v, .bool false, .int .i64 0, .int .i64 0, .int .i64 0, .int .i64 0, .int .i64 0, .string ByteArray.empty] 29) := by
    have e := heap_setCell_same (w.setCell ⟨g, 0, none⟩ (.string p.name)) g 1 _ _ (v) a0
    simpa [zPrv] using e
  have a2 : (((w.setCell ⟨g, 0, none⟩ (.string p.name)).setCell ⟨g, 1, none⟩ (v)).setCell ⟨g, 2, none⟩ (.bool p.again)).heap[g]? = some (.cells #[.string p.name, v, .bool p.again, .int .i64 0, .int .i64 0, .int .i64 0, .int .i64 0, .int .i64 0, .string ByteArray.empty] 29) := by
    have e := heap_setCell_same ((w.setCell ⟨g, 0, none⟩ (.string p.name)).setCell ⟨g, 1, none⟩ (v)) g 2 _ _ (.bool p.again) a1
    simpa [zPrv] using e
  have a3 : ((((w.setCell ⟨g, 0, none⟩ (.string p.name)).setCell ⟨g, 1, none⟩ (v)).setCell ⟨g, 2, none⟩ (.bool p.again)).setCell ⟨g, 3, none⟩ (.int .i64 p.pol.t)).heap[g]? = some (.cells #[.string p.name, v, .bool p.again, .int .i64 p.pol.t, .int .i64 0, .int .i64 0, .int .i64 0, .int .i64 0, .string ByteArray.empty] 29) := by
    have e := heap_setCell_same (((w.setCell ⟨g, 0, none⟩ (.string p.name)).setCell ⟨g, 1, none⟩ (v)).setCell ⟨g, 2, none⟩ (.bool p.again)) g 3 _ _ (.int .i64 p.pol.t) a2
    simpa [zPrv] using e
  have a4 : (((((w.setCell ⟨g, 0, none⟩ (.string p.name)).setCell ⟨g, 1, none⟩ (v)).setCell ⟨g, 2, none⟩ (.bool p.again)).setCell ⟨g, 3, none⟩ (.int .i64 p.pol.t)).setCell ⟨g, 4, none⟩ (.int .i64 p.pol.b)).heap[g]? = some (.cells #[.string p.name, v, .bool p.again, .int .i64 p.pol.t, .int .i64 p.pol.b, .int .i64 0, .int .i64 0, .int .i64 0, .string ByteArray.empty] 29) := by
    have e := heap_setCell_same ((((w.setCell ⟨g, 0, none⟩ (.string p.name)).setCell ⟨g, 1, none⟩ (v)).setCell ⟨g, 2, none⟩ (.bool p.again)).setCell ⟨g, 3, none⟩ (.int .i64 p.pol.t)) g 4 _ _ (.int .i64 p.pol.b) a3
    simpa [zPrv] using e
  have a5 : ((((((w.setCell ⟨g, 0, none⟩ (.string p.name)).setCell ⟨g, 1, none⟩ (v)).setCell ⟨g, 2, none⟩ (.bool p.again)).setCell ⟨g, 3, none⟩ (.int .i64 p.pol.t)).setCell ⟨g, 4, none⟩ (.int .i64 p.pol.b)).setCell ⟨g, 5, none⟩ (.int .i64 p.pol.f)).heap[g]? = some (.cells #[.string p.name, v, .bool p.again, .int .i64 p.pol.t, .int .i64 p.pol.b, .int .i64 p.pol.f, .int .i64 0, .int .i64 0, .string ByteArray.empty] 29) := by
    have e := heap_setCell_same (((((w.setCell ⟨g, 0, none⟩ (.string p.name)).setCell ⟨g, 1, none⟩ (v)).setCell ⟨g, 2, none⟩ (.bool p.again)).setCell ⟨g, 3, none⟩ (.int .i64 p.pol.t)).setCell ⟨g, 4, none⟩ (.int .i64 p.pol.b)) g 5 _ _ (.int .i64 p.pol.f) a4
    simpa [zPrv] using e
  have a6 : (((((((w.setCell ⟨g, 0, none⟩ (.string p.name)).setCell ⟨g, 1, none⟩ (v)).setCell ⟨g, 2, none⟩ (.bool p.again)).setCell ⟨g, 3, none⟩ (.int .i64 p.pol.t)).setCell ⟨g, 4, none⟩ (.int .i64 p.pol.b)).setCell ⟨g, 5, none⟩ (.int .i64 p.pol.f)).setCell ⟨g, 6, none⟩ (.int .i64 p.pol.c)).heap[g]? = some (.cells #[.string p.name, v, .bool p.again, .int .i64 p.pol.t, .int .i64 p.pol.b, .int .i64 p.pol.f, .int .i64 p.pol.c, .int .i64 0, .string ByteArray.empty] 29) := by
    have e := heap_setCell_same ((((((w.setCell ⟨g, 0, none⟩ (.string p.name)).setCell ⟨g, 1, none⟩ (v)).setCell ⟨g, 2, none⟩ (.bool p.again)).setCell ⟨g, 3, none⟩ (.int .i64 p.pol.t)).setCell ⟨g, 4, none⟩ (.int .i64 p.pol.b)).setCell ⟨g, 5, none⟩ (.int .i64 p.pol.f)) g 6 _ _ (.int .i64 p.pol.c) a5
    simpa [zPrv] using e
  have a7 : ((((((((w.setCell ⟨g, 0, none⟩ (.string p.name)).setCell ⟨g, 1, none⟩ (v)).setCell ⟨g, 2, none⟩ (.bool p.again)).setCell ⟨g, 3, none⟩ (.int .i64 p.pol.t)).setCell ⟨g, 4, none⟩ (.int .i64 p.pol.b)).setCell ⟨g, 5, none⟩ (.int .i64 p.pol.f)).setCell ⟨g, 6, none⟩ (.int .i64 p.pol.c)).setCell ⟨g, 7, none⟩ (.int .i64 p.ck)).heap[g]? = some (.cells #[.string p.name, v, .bool p.again, .int .i64 p.pol.t, .int .i64 p.pol.b, .int .i64 p.pol.f, .int .i64 p.pol.c, .int .i64 p.ck, .string ByteArray.empty] 29) := by
    have e := heap_setCell_same (((((((w.setCell ⟨g, 0, none⟩ (.string p.name)).setCell ⟨g, 1, none⟩ (v)).setCell ⟨g, 2, none⟩ (.bool p.again)).setCell ⟨g, 3, none⟩ (.int .i64 p.pol.t)).setCell ⟨g, 4, none⟩ (.int .i64 p.pol.b)).setCell ⟨g, 5, none⟩ (.int .i64 p.pol.f)).setCell ⟨g, 6, none⟩ (.int .i64 p.pol.c)) g 7 _ _ (.int .i64 p.ck) a6
    simpa [zPrv] using e
  have a8 : (((((((((w.setCell ⟨g, 0, none⟩ (.string p.name)).setCell ⟨g, 1, none⟩ (v)).setCell ⟨g, 2, none⟩ (.bool p.again)).setCell ⟨g, 3, none⟩ (.int .i64 p.pol.t)).setCell ⟨g, 4, none⟩ (.int .i64 p.pol.b)).setCell ⟨g, 5, none⟩ (.int .i64 p.pol.f)).setCell ⟨g, 6, none⟩ (.int .i64 p.pol.c)).setCell ⟨g, 7, none⟩ (.int .i64 p.ck)).setCell ⟨g, 8, none⟩ (.string p.ct)).heap[g]? = some (.cells #[.string p.name, v, .bool p.again, .int .i64 p.pol.t, .int .i64 p.pol.b, .int .i64 p.pol.f, .int .i64 p.pol.c, .int .i64 p.ck, .string p.ct] 29) := by
    have e := heap_setCell_same ((((((((w.setCell ⟨g, 0, none⟩ (.string p.name)).setCell ⟨g, 1, none⟩ (v)).setCell ⟨g, 2, none⟩ (.bool p.again)).setCell ⟨g, 3, none⟩ (.int .i64 p.pol.t)).setCell ⟨g, 4, none⟩ (.int .i64 p.pol.b)).setCell ⟨g, 5, none⟩ (.int .i64 p.pol.f)).setCell ⟨g, 6, none⟩ (.int .i64 p.pol.c)).setCell ⟨g, 7, none⟩ (.int .i64 p.ck)) g 8 _ _ (.string p.ct) a7
    simpa [zPrv] using e
  exact a8
theorem below9 (w : World) (g : Nat) (u0 u1 u2 u3 u4 u5 u6 u7 u8 : Value) : Below g w (((((((((w.setCell ⟨g, 0, none⟩ u0).setCell ⟨g, 1, none⟩ u1).setCell ⟨g, 2, none⟩ u2).setCell ⟨g, 3, none⟩ u3).setCell ⟨g, 4, none⟩ u4).setCell ⟨g, 5, none⟩ u5).setCell ⟨g, 6, none⟩ u6).setCell ⟨g, 7, none⟩ u7).setCell ⟨g, 8, none⟩ u8) := by
  have s : ∀ (W : World) (o : Nat) (u : Value), Below g w W → Below g w (W.setCell ⟨g, o, none⟩ u) := fun W o u h => h.setCell (p := ⟨g, o, none⟩) (Nat.le_refl _) u
  exact (s _ _ _ (s _ _ _ (s _ _ _ (s _ _ _ (s _ _ _ (s _ _ _ (s _ _ _ (s _ _ _ (s _ _ _ (Below.refl _ _))))))))))
theorem NR.fin_alloc {w w0 wB : World} {b0 : Nat} {l : List Opn} {p : Prv} {ve vA vB : Value} (N : NC w w0 wB b0 l p ve) (EA : OS wB vA l) (EB : OS wB vB p.ops) : NR w w0 (wB.alloc (.cells (prvC p vB) 29)) b0 l p ve vA wB.heap.size vB :=
  ⟨N.alloc _, EA.below ((Below.refl _ _).alloc (Nat.le_refl _) _), heap_alloc_new _ _, EB.below ((Below.refl _ _).alloc (Nat.le_refl _) _)⟩
theorem NR.fin_set {w w0 wB wc : World} {b0 g : Nat} {l : List Opn} {p : Prv} {ve vA vB : Value} (N : NC w w0 wB b0 l p ve) (EA : OS wB vA l) (EB : OS wB vB p.ops) (hw : w.heap.size ≤ w0.heap.size) (hb0 : b0 < w0.heap.size) (hg : w0.heap.size ≤ g)
    (hA : ∀ x, vA.ownBlock = some x → x ≠ g) (hB : ∀ x, vB.ownBlock = some x → x ≠ g) (B : Below g wB wc) (far : ∀ x, x ≠ g → wc.heap[x]? = wB.heap[x]?) (mb : PBx wc g p vB) : NR w w0 wc b0 l p ve vA g vB :=
  ⟨⟨N.bl.trans (B.mono (by omega)), N.b2.trans (B.mono hg), (far b0 (by omega)).trans N.bx⟩, EA.blk B.size (fun x hx _ => far x (hA x hx)), mb, EB.blk B.size (fun x hx _ => far x (hB x hx))⟩
theorem NR.next {w w0 wc wd : World} {b0 g : Nat} {l : List Opn} {p : Prv} {ve v1 v2 : Value} (h : NR w w0 wc b0 l p ve v1 g v2) (b : Below wc.heap.size wc wd) : NR w w0 wd b0 l p ve v1 g v2 :=
  ⟨h.nc.next b, h.ex.below b, h.mb.below b, h.mo.below b⟩
theorem NR.drew {w w0 wc : World} {b0 g : Nat} {l : List Opn} {p : Prv} {ve v1 v2 : Value} (h : NR w w0 wc b0 l p ve v1 g v2) : NR w w0 wc.drew b0 l p ve v1 g v2 := h.next (Below.refl _ _).drew
end Go.Proofs.YtkdoojndighdjaaDoor
