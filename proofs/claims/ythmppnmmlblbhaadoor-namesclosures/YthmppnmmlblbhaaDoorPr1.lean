/- Names: clones, Parts. -/
import Derived.Test.YthmppnmmlblbhaaDoorPt4
import Derived.BigRegion
import Derived.Deep.RegionLaw
import Derived.Deep.RegionWith
import Derived.Deep.CutRange
import Derived.Deep.DeepCutAuto
import Derived.Test.YthmppnmmlblbhaaDoorPt2
namespace Go.Proofs.YthmppnmmlblbhaaDoor
open Go.RowKit

theorem below_alloc' {w w' : World} (h : Below w.heap.size w w') (o : Obj) : Below w.heap.size w (w'.alloc o) := h.alloc h.size o
/-- A block that was laid right ahead of a call is there behind it. -/
theorem kept_new {W wA : World} {ob : Obj} (hb : Below (W.alloc ob).heap.size (W.alloc ob) wA) : wA.heap[W.heap.size]? = some ob := (hb.block _ (by simp)).trans (heap_alloc_new W ob)
theorem kept_newD {W wA : World} {ob : Obj} (hb : Below (W.alloc ob).drew.heap.size (W.alloc ob).drew wA) : wA.heap[W.heap.size]? = some ob := (hb.block _ (by show _ < (W.alloc ob).heap.size; simp)).trans (heap_alloc_new W ob)
theorem kept_old {wA wB : World} {g : Nat} {ob : Obj} (h : wA.heap[g]? = some ob) (hb : Below wA.heap.size wA wB) : wB.heap[g]? = some ob := (hb.block _ (Array.getElem?_eq_some_iff.1 h).1).trans h
theorem PBx.cellsA {w : World} {g : Nat} {p : Prv} {ve : Value} (h : PBx w g p ve) : (∀ ob, (w.alloc ob).cell? ⟨g, 0, none⟩ = some (.string p.name)) ∧ (∀ ob, (w.alloc ob).cell? ⟨g, 1, none⟩ = some ve) ∧ (∀ ob, (w.alloc ob).cell? ⟨g, 2, none⟩ = some (.bool p.again)) ∧ (∀ ob, (w.alloc ob).cell? ⟨g, 3, none⟩ = some (.int .i64 p.pol.t)) ∧ (∀ ob, (w.alloc ob).cell? ⟨g, 4, none⟩ = some (.int .i64 p.pol.b)) ∧ (∀ ob, (w.alloc ob).cell? ⟨g, 5, none⟩ = some (.int .i64 p.pol.f)) ∧ (∀ ob, (w.alloc ob).cell? ⟨g, 6, none⟩ = some (.int .i64 p.pol.c)) ∧ (∀ ob, (w.alloc ob).cell? ⟨g, 7, none⟩ = some (.int .i64 p.ck)) ∧ (∀ ob, (w.alloc ob).cell? ⟨g, 8, none⟩ = some (.string p.ct)) := by
  have q := fun ob => PBx.cells (h.below ((Below.refl _ _).alloc (Nat.le_refl _) ob))
  exact ⟨fun ob => (q ob).1, fun ob => (q ob).2.1, fun ob => (q ob).2.2.1, fun ob => (q ob).2.2.2.1, fun ob => (q ob).2.2.2.2.1, fun ob => (q ob).2.2.2.2.2.1, fun ob => (q ob).2.2.2.2.2.2.1, fun ob => (q ob).2.2.2.2.2.2.2.1, fun ob => (q ob).2.2.2.2.2.2.2.2⟩
/-- What the law's first statement has come to: the copy of the expression, that of the provider, the box for it. -/
structure NC (w w0 wc : World) (b0 : Nat) (l : List Opn) (p : Prv) (ve : Value) : Prop where
  bl : Below w.heap.size w wc
  b2 : Below w0.heap.size w0 wc
  bx : PBx wc b0 p ve
theorem NC.next {w w0 wc wd : World} {b0 : Nat} {l : List Opn} {p : Prv} {ve : Value} (h : NC w w0 wc b0 l p ve) (b : Below wc.heap.size wc wd) : NC w w0 wd b0 l p ve :=
  ⟨h.bl.trans (b.mono h.bl.size), h.b2.trans (b.mono h.b2.size), h.bx.below b⟩
theorem NC.alloc {w w0 wc : World} {b0 : Nat} {l : List Opn} {p : Prv} {ve : Value} (h : NC w w0 wc b0 l p ve) (ob : Obj) : NC w w0 (wc.alloc ob) b0 l p ve := h.next ((Below.refl _ _).alloc (Nat.le_refl _) ob)
theorem NC.drew {w w0 wc : World} {b0 : Nat} {l : List Opn} {p : Prv} {ve : Value} (h : NC w w0 wc b0 l p ve) : NC w w0 wc.drew b0 l p ve := h.next (Below.refl _ _).drew
theorem NC.drewN {w w0 wc : World} {b0 : Nat} {l : List Opn} {p : Prv} {ve : Value} (h : NC w w0 wc b0 l p ve) (n : Nat) : NC w w0 (wc.drewN n) b0 l p ve := h.next ⟨rfl, rfl, rfl, Nat.le_refl _, fun _ _ => rfl⟩
/-- Behind the law's first statement. -/
structure NR (w w0 wc : World) (b0 : Nat) (l : List Opn) (p : Prv) (ve v1 : Value) (g : Nat) (v2 : Value) : Prop where
  nc : NC w w0 wc b0 l p ve
  ex : OS wc v1 l
  mb : PBx wc g p v2
  mo : OS wc v2 p.ops
theorem PBx_store {w : World} {g : Nat} {p : Prv} {v : Value} (h : w.heap[g]? = some (.cells zPrv 60)) : PBx (((((((((w.setCell ⟨g, 0, none⟩ (.string p.name)).setCell ⟨g, 1, none⟩ v).setCell ⟨g, 2, none⟩ (.bool p.again)).setCell ⟨g, 3, none⟩ (.int .i64 p.pol.t)).setCell ⟨g, 4, none⟩ (.int .i64 p.pol.b)).setCell ⟨g, 5, none⟩ (.int .i64 p.pol.f)).setCell ⟨g, 6, none⟩ (.int .i64 p.pol.c)).setCell ⟨g, 7, none⟩ (.int .i64 p.ck)).setCell ⟨g, 8, none⟩ (.string p.ct)) g p v := by
  have a0 : (w.setCell ⟨g, 0, none⟩ (.string p.name)).heap[g]? = some (.cells #[.string p.name, .slice none 0 0, .bool false, .int .i64 0, .int .i64 0, .int .i64 0, .int .i64 0, .int .i64 0, .string ByteArray.empty] 60) := by
    have e := heap_setCell_same w g 0 _ _ (.string p.name) h
    simpa [zPrv] using e
  have a1 : ((w.setCell ⟨g, 0, none⟩ (.string p.name)).setCell ⟨g, 1, none⟩ (v)).heap[g]? = some (.cells #[.string p.name, v, .bool false, .int .i64 0, .int .i64 0, .int .i64 0, .int .i64 0, .int .i64 0, .string ByteArray.empty] 60) := by
    have e := heap_setCell_same (w.setCell ⟨g, 0, none⟩ (.string p.name)) g 1 _ _ (v) a0
    simpa [zPrv] using e
  have a2 : (((w.setCell ⟨g, 0, none⟩ (.string p.name)).setCell ⟨g, 1, none⟩ (v)).setCell ⟨g, 2, none⟩ (.bool p.again)).heap[g]? = some (.cells #[.string p.name, v, .bool p.again, .int .i64 0, .int .i64 0, .int .i64 0, .int .i64 0, .int .i64 0, .string ByteArray.empty] 60) := by
    have e := heap_setCell_same ((w.setCell ⟨g, 0, none⟩ (.string p.name)).setCell ⟨g, 1, none⟩ (v)) g 2 _ _ (.bool p.again) a1
    simpa [zPrv] using e
  have a3 : ((((w.setCell ⟨g, 0, none⟩ (.string p.name)).setCell ⟨g, 1, none⟩ (v)).setCell ⟨g, 2, none⟩ (.bool p.again)).setCell ⟨g, 3, none⟩ (.int .i64 p.pol.t)).heap[g]? = some (.cells #[.string p.name, v, .bool p.again, .int .i64 p.pol.t, .int .i64 0, .int .i64 0, .int .i64 0, .int .i64 0, .string ByteArray.empty] 60) := by
    have e := heap_setCell_same (((w.setCell ⟨g, 0, none⟩ (.string p.name)).setCell ⟨g, 1, none⟩ (v)).setCell ⟨g, 2, none⟩ (.bool p.again)) g 3 _ _ (.int .i64 p.pol.t) a2
    simpa [zPrv] using e
  have a4 : (((((w.setCell ⟨g, 0, none⟩ (.string p.name)).setCell ⟨g, 1, none⟩ (v)).setCell ⟨g, 2, none⟩ (.bool p.again)).setCell ⟨g, 3, none⟩ (.int .i64 p.pol.t)).setCell ⟨g, 4, none⟩ (.int .i64 p.pol.b)).heap[g]? = some (.cells #[.string p.name, v, .bool p.again, .int .i64 p.pol.t, .int .i64 p.pol.b, .int .i64 0, .int .i64 0, .int .i64 0, .string ByteArray.empty] 60) := by
    have e := heap_setCell_same ((((w.setCell ⟨g, 0, none⟩ (.string p.name)).setCell ⟨g, 1, none⟩ (v)).setCell ⟨g, 2, none⟩ (.bool p.again)).setCell ⟨g, 3, none⟩ (.int .i64 p.pol.t)) g 4 _ _ (.int .i64 p.pol.b) a3
    simpa [zPrv] using e
  have a5 : ((((((w.setCell ⟨g, 0, none⟩ (.string p.name)).setCell ⟨g, 1, none⟩ (v)).setCell ⟨g, 2, none⟩ (.bool p.again)).setCell ⟨g, 3, none⟩ (.int .i64 p.pol.t)).setCell ⟨g, 4, none⟩ (.int .i64 p.pol.b)).setCell ⟨g, 5, none⟩ (.int .i64 p.pol.f)).heap[g]? = some (.cells #[.string p.name, v, .bool p.again, .int .i64 p.pol.t, .int .i64 p.pol.b, .int .i64 p.pol.f, .int .i64 0, .int .i64 0, .string ByteArray.empty] 60) := by
    have e := heap_setCell_same (((((w.setCell ⟨g, 0, none⟩ (.string p.name)).setCell ⟨g, 1, none⟩ (v)).setCell ⟨g, 2, none⟩ (.bool p.again)).setCell ⟨g, 3, none⟩ (.int .i64 p.pol.t)).setCell ⟨g, 4, none⟩ (.int .i64 p.pol.b)) g 5 _ _ (.int .i64 p.pol.f) a4
    simpa [zPrv] using e
  have a6 : (((((((w.setCell ⟨g, 0, none⟩ (.string p.name)).setCell ⟨g, 1, none⟩ (v)).setCell ⟨g, 2, none⟩ (.bool p.again)).setCell ⟨g, 3, none⟩ (.int .i64 p.pol.t)).setCell ⟨g, 4, none⟩ (.int .i64 p.pol.b)).setCell ⟨g, 5, none⟩ (.int .i64 p.pol.f)).setCell ⟨g, 6, none⟩ (.int .i64 p.pol.c)).heap[g]? = some (.cells #[.string p.name, v, .bool p.again, .int .i64 p.pol.t, .int .i64 p.pol.b, .int .i64 p.pol.f, .int .i64 p.pol.c, .int .i64 0, .string ByteArray.empty] 60) := by
    have e := heap_setCell_same ((((((w.setCell ⟨g, 0, none⟩ (.string p.name)).setCell ⟨g, 1, none⟩ (v)).setCell ⟨g, 2, none⟩ (.bool p.again)).setCell ⟨g, 3, none⟩ (.int .i64 p.pol.t)).setCell ⟨g, 4, none⟩ (.int .i64 p.pol.b)).setCell ⟨g, 5, none⟩ (.int .i64 p.pol.f)) g 6 _ _ (.int .i64 p.pol.c) a5
    simpa [zPrv] using e
  have a7 : ((((((((w.setCell ⟨g, 0, none⟩ (.string p.name)).setCell ⟨g, 1, none⟩ (v)).setCell ⟨g, 2, none⟩ (.bool p.again)).setCell ⟨g, 3, none⟩ (.int .i64 p.pol.t)).setCell ⟨g, 4, none⟩ (.int .i64 p.pol.b)).setCell ⟨g, 5, none⟩ (.int .i64 p.pol.f)).setCell ⟨g, 6, none⟩ (.int .i64 p.pol.c)).setCell ⟨g, 7, none⟩ (.int .i64 p.ck)).heap[g]? = some (.cells #[.string p.name, v, .bool p.again, .int .i64 p.pol.t, .int .i64 p.pol.b, .int .i64 p.pol.f, .int .i64 p.pol.c, .int .i64 p.ck, .string ByteArray.empty] 60) := by
    have e := heap_setCell_same (((((((w.setCell ⟨g, 0, none⟩ (.string p.name)).setCell ⟨g, 1, none⟩ (v)).setCell ⟨g, 2, none⟩ (.bool p.again)).setCell ⟨g, 3, none⟩ (.int .i64 p.pol.t)).setCell ⟨g, 4, none⟩ (.int .i64 p.pol.b)).setCell ⟨g, 5, none⟩ (.int .i64 p.pol.f)).setCell ⟨g, 6, none⟩ (.int .i64 p.pol.c)) g 7 _ _ (.int .i64 p.ck) a6
    simpa [zPrv] using e
  have a8 : (((((((((w.setCell ⟨g, 0, none⟩ (.string p.name)).setCell ⟨g, 1, none⟩ (v)).setCell ⟨g, 2, none⟩ (.bool p.again)).setCell ⟨g, 3, none⟩ (.int .i64 p.pol.t)).setCell ⟨g, 4, none⟩ (.int .i64 p.pol.b)).setCell ⟨g, 5, none⟩ (.int .i64 p.pol.f)).setCell ⟨g, 6, none⟩ (.int .i64 p.pol.c)).setCell ⟨g, 7, none⟩ (.int .i64 p.ck)).setCell ⟨g, 8, none⟩ (.string p.ct)).heap[g]? = some (.cells #[.string p.name, v, .bool p.again, .int .i64 p.pol.t, .int .i64 p.pol.b, .int .i64 p.pol.f, .int .i64 p.pol.c, .int .i64 p.ck, .string p.ct] 60) := by
    have e := heap_setCell_same ((((((((w.setCell ⟨g, 0, none⟩ (.string p.name)).setCell ⟨g, 1, none⟩ (v)).setCell ⟨g, 2, none⟩ (.bool p.again)).setCell ⟨g, 3, none⟩ (.int .i64 p.pol.t)).setCell ⟨g, 4, none⟩ (.int .i64 p.pol.b)).setCell ⟨g, 5, none⟩ (.int .i64 p.pol.f)).setCell ⟨g, 6, none⟩ (.int .i64 p.pol.c)).setCell ⟨g, 7, none⟩ (.int .i64 p.ck)) g 8 _ _ (.string p.ct) a7
    simpa [zPrv] using e
  exact a8
theorem below9 (w : World) (g : Nat) (u0 u1 u2 u3 u4 u5 u6 u7 u8 : Value) : Below g w (((((((((w.setCell ⟨g, 0, none⟩ u0).setCell ⟨g, 1, none⟩ u1).setCell ⟨g, 2, none⟩ u2).setCell ⟨g, 3, none⟩ u3).setCell ⟨g, 4, none⟩ u4).setCell ⟨g, 5, none⟩ u5).setCell ⟨g, 6, none⟩ u6).setCell ⟨g, 7, none⟩ u7).setCell ⟨g, 8, none⟩ u8) := by
  have s : ∀ (W : World) (o : Nat) (u : Value), Below g w W → Below g w (W.setCell ⟨g, o, none⟩ u) := fun W o u h => h.setCell (p := ⟨g, o, none⟩) (Nat.le_refl _) u
  exact (s _ _ _ (s _ _ _ (s _ _ _ (s _ _ _ (s _ _ _ (s _ _ _ (s _ _ _ (s _ _ _ (s _ _ _ (Below.refl _ _))))))))))
theorem NR.fin_alloc {w w0 wB : World} {b0 : Nat} {l : List Opn} {p : Prv} {ve vA vB : Value} (N : NC w w0 wB b0 l p ve) (EA : OS wB vA l) (EB : OS wB vB p.ops) : NR w w0 (wB.alloc (.cells (prvC p vB) 60)) b0 l p ve vA wB.heap.size vB :=
  ⟨N.alloc _, EA.below ((Below.refl _ _).alloc (Nat.le_refl _) _), heap_alloc_new _ _, EB.below ((Below.refl _ _).alloc (Nat.le_refl _) _)⟩
theorem NR.fin_set {w w0 wB wc : World} {b0 g : Nat} {l : List Opn} {p : Prv} {ve vA vB : Value} (N : NC w w0 wB b0 l p ve) (EA : OS wB vA l) (EB : OS wB vB p.ops) (hw : w.heap.size ≤ w0.heap.size) (hb0 : b0 < w0.heap.size) (hg : w0.heap.size ≤ g)
    (hA : ∀ x, vA.ownBlock = some x → x ≠ g) (hB : ∀ x, vB.ownBlock = some x → x ≠ g) (B : Below g wB wc) (far : ∀ x, x ≠ g → wc.heap[x]? = wB.heap[x]?) (mb : PBx wc g p vB) : NR w w0 wc b0 l p ve vA g vB :=
  ⟨⟨N.bl.trans (B.mono (by omega)), N.b2.trans (B.mono hg), (far b0 (by omega)).trans N.bx⟩, EA.blk B.size (fun x hx _ => far x (hA x hx)), mb, EB.blk B.size (fun x hx _ => far x (hB x hx))⟩
theorem NR.next {w w0 wc wd : World} {b0 g : Nat} {l : List Opn} {p : Prv} {ve v1 v2 : Value} (h : NR w w0 wc b0 l p ve v1 g v2) (b : Below wc.heap.size wc wd) : NR w w0 wd b0 l p ve v1 g v2 :=
  ⟨h.nc.next b, h.ex.below b, h.mb.below b, h.mo.below b⟩
theorem NR.drew {w w0 wc : World} {b0 g : Nat} {l : List Opn} {p : Prv} {ve v1 v2 : Value} (h : NR w w0 wc b0 l p ve v1 g v2) : NR w w0 wc.drew b0 l p ve v1 g v2 := h.next (Below.refl _ _).drew
end Go.Proofs.YthmppnmmlblbhaaDoor
namespace Go.Proofs.YthmppnmmlblbhaaDoor
open Go.RowKit

set_option maxHeartbeats 4000000 in
theorem cloneI_any (w : World) (v : Value) (l : List Int) (h : IS w v l) (_hl : l.length ≤ 1000000) :
    Calls Tryd.prog 53 #[v] w fun e w' => ∃ p cap, e = .returned (.slice p l.length cap) ∧ OwnG KI w' w.heap.size (.slice p l.length cap) l ∧ Below w.heap.size w w' := by
  have hl := _hl
  have h0 := h
  have EQ : ∀ a l c w, Sem.run Tryd.prog (binOp .eql 37 (.slice a l c) (.slice none 0 0)) w = .ok (.bool a.isNone) w := fun a l c w => by
    simp only [binOp]
    simp [run_equal_slice_nil w 37 _ a l c Tryd.underlying37]
  have H0 : Hid (IS (w.alloc (.cells #[] 3)) v l) := h0.below ((Below.refl _ _).alloc (Nat.le_refl _) _)
  have E0 : Hid (OwnG KI (w.alloc (.cells #[] 3)) w.heap.size (.slice (some ⟨w.heap.size, 0, none⟩) 0 0) []) := OwnG.empty KI w
  have HL : Hid ((([] : List Int).length + l.length) * KI.B ≤ 140737488355328) := by show (([] : List Int).length + l.length) * 8 ≤ _; simp; omega
  obtain ⟨p, cap, rfl⟩ := h.form
  cases p with
  | none =>
    have hn : l = [] := by
      rcases h with ⟨_, e⟩ | ⟨X, o, c, e, _⟩
      · exact e
      · cases e
    subst hn
    clear h h0
    go_enter Tryd.func53, Tryd.ntmps53
    go_wp2
    go_ret
    exact ⟨none, 0, rfl, OwnG.nil _ _ _, Below.refl _ _⟩
  | some a =>
    clear h h0
    go_enter Tryd.func53, Tryd.ntmps53
    go_wp2_with (at_builtin; refine append_gs KI KI_ok rfl (.tmp 5) (.tmp 6) 37 rfl w.heap.size Tryd.underlying37 _ _ (.slice (some a) l.length cap) [] l rfl rfl E0.out H0.out HL.out (by simp) ?_; intro v8 w8 ho8 hb8 hk8)
    go_ret
    rw [List.nil_append] at ho8
    obtain ⟨p, cap2, rfl, _⟩ := ho8.form
    exact ⟨p, cap2, rfl, ho8, ((Below.refl _ _).alloc (Nat.le_refl _) _).trans hb8⟩
set_option maxHeartbeats 4000000 in
theorem cloneO_any (w : World) (v : Value) (l : List Opn) (h : OS w v l) (_hl : l.length ≤ 1000000) :
    Calls Tryd.prog 57 #[v] w fun e w' => ∃ p cap, e = .returned (.slice p l.length cap) ∧ OwnG KO w' w.heap.size (.slice p l.length cap) l ∧ Below w.heap.size w w' := by
  have hl := _hl
  have h0 := h
  have EQ : ∀ a l c w, Sem.run Tryd.prog (binOp .eql 35 (.slice a l c) (.slice none 0 0)) w = .ok (.bool a.isNone) w := fun a l c w => by
    simp only [binOp]
    simp [run_equal_slice_nil w 35 _ a l c Tryd.underlying35]
  have H0 : Hid (OS (w.alloc (.cells #[] 45)) v l) := h0.below ((Below.refl _ _).alloc (Nat.le_refl _) _)
  have E0 : Hid (OwnG KO (w.alloc (.cells #[] 45)) w.heap.size (.slice (some ⟨w.heap.size, 0, none⟩) 0 0) []) := OwnG.empty KO w
  have HL : Hid ((([] : List Opn).length + l.length) * KO.B ≤ 140737488355328) := by show (([] : List Opn).length + l.length) * 40 ≤ _; simp; omega
  obtain ⟨p, cap, rfl⟩ := h.form
  cases p with
  | none =>
    have hn : l = [] := by
      rcases h with ⟨_, e⟩ | ⟨X, o, c, e, _⟩
      · exact e
      · cases e
    subst hn
    clear h h0
    go_enter Tryd.func57, Tryd.ntmps57
    go_wp2
    go_ret
    exact ⟨none, 0, rfl, OwnG.nil _ _ _, Below.refl _ _⟩
  | some a =>
    clear h h0
    go_enter Tryd.func57, Tryd.ntmps57
    go_wp2_with (at_builtin; refine append_gs KO KO_ok rfl (.tmp 5) (.tmp 6) 35 rfl w.heap.size Tryd.underlying35 _ _ (.slice (some a) l.length cap) [] l rfl rfl E0.out H0.out HL.out (by simp) ?_; intro v8 w8 ho8 hb8 hk8)
    go_ret
    rw [List.nil_append] at ho8
    obtain ⟨p, cap2, rfl, _⟩ := ho8.form
    exact ⟨p, cap2, rfl, ho8, ((Below.refl _ _).alloc (Nat.le_refl _) _).trans hb8⟩
set_option maxHeartbeats 4000000 in
theorem sameInts_same (w : World) (v1 v2 : Value) (l : List Int) (h1 : IS w v1 l) (h2 : IS w v2 l) (hl : l.length ≤ 100000000000000000) :
    Calls Tryd.prog 19 #[v1, v2] w fun e w' => e = .returned (.bool true) ∧ Below w.heap.size w w' := by
  obtain ⟨p1, c1, rfl⟩ := h1.form
  obtain ⟨p2, c2, rfl⟩ := h2.form
  have A1 : Hid (IS w (.slice p1 l.length c1) l) := h1
  have A2 : Hid (IS w (.slice p2 l.length c2) l) := h2
  have DR : Hid (∀ n, Below w.heap.size w (w.drewN n)) := fun n => ⟨rfl, rfl, rfl, Nat.le_refl _, fun _ _ => rfl⟩
  clear h1 h2
  go_enter Tryd.func19, Tryd.ntmps19
  go_wp2
  go_loopw [5] (fun v5 wr => ∃ (k m : Nat), v5 = .int .i64 k ∧ k ≤ l.length ∧ wr = w.drewN m) (fun v5 _ => l.length - (intOf v5).toNat)
  case atStart => exact ⟨0, 0, rfl, Nat.zero_le _, rfl⟩
  case round =>
    obtain ⟨k, m, rfl, hk, rfl⟩ := hrel
    by_cases hlt : k < l.length
    · obtain ⟨X1, o1, e1, x1⟩ := A1.out.atI hlt
      obtain rfl : p1 = some ⟨X1, o1, none⟩ := e1
      obtain ⟨X2, o2, e2, y1⟩ := A2.out.atI hlt
      obtain rfl : p2 = some ⟨X2, o2, none⟩ := e2
      obtain ⟨f, hf⟩ : ∃ f, f = l[k] := ⟨_, rfl⟩
      rw [← hf] at x1 y1
      clear hf
      go_wp2
      go_quiet (fail)
      go_wp2
      all_goals
        go_roundw
        case rel => exact ⟨k + 1, _, by go_num, by omega, rfl⟩
        case measure => simp [intOf]; omega
    · go_wp2
      go_ret
      exact ⟨rfl, DR.out _⟩
/-- A box with a row of numbers, by how many were visited. -/
def UG (f : Nat → List Int) (b : Nat) (base : Nat) (k : Nat) (F : Nat → Prop) (w : World) : Prop := ∃ v, w.heap[b]? = some (.cells #[v] 37) ∧ OwnG KI w base v (f k) ∧ b < base ∧ ∀ x, F x ↔ x = b ∨ v.ownBlock = some x
theorem UG_vis (f : Nat → List Int) (b base : Nat) : Vis (UG f b base) where
  lt := fun k F w h x hx => by
    obtain ⟨v, h1, h2, h3, h4⟩ := h
    rcases (h4 x).1 hx with e | e
    · subst e; exact (Array.getElem?_eq_some_iff.1 h1).1
    · exact (h2.lt e).2
  keep := fun k F w w' h hs _ _ _ hk => by
    obtain ⟨v, h1, h2, h3, h4⟩ := h
    have hb : w'.heap[b]? = w.heap[b]? := hk b ((h4 b).2 (Or.inl rfl))
    exact ⟨v, hb.trans h1, h2.far (fun g hg => hk g ((h4 g).2 (Or.inr hg))), h3, h4⟩
theorem UG.store {f : Nat → List Int} {b base k : Nat} {F : Nat → Prop} {w w2 : World} {v v' : Value} (h1 : w.heap[b]? = some (.cells #[v] 37)) (h4 : ∀ x, F x ↔ x = b ∨ v.ownBlock = some x) (h3 : b < base) (B : But F w w2) (hb : w2.heap[b]? = w.heap[b]?) (o2 : OwnG KI w2 base v' (f (k + 1))) (hn : ∀ g, v'.ownBlock = some g → F g ∨ w.heap.size ≤ g) :
    ∃ F', UG f b base (k + 1) F' (w2.setCell ⟨b, 0, none⟩ v') ∧ (∀ x, F' x → F x ∨ w.heap.size ≤ x) ∧ But F w (w2.setCell ⟨b, 0, none⟩ v') := by
  refine ⟨fun x => x = b ∨ v'.ownBlock = some x, ⟨v', box_set (hb.trans h1), o2.far (fun g hg => set_far (by have := (o2.lt hg).1; omega)), h3, fun x => Iff.rfl⟩, fun x hx => ?_, ⟨B.os, B.tape, B.output, by rw [set_size]; exact B.size, fun x hx hf => (set_far (fun e => hf ((h4 x).2 (Or.inl e)))).trans (B.block x hx hf)⟩⟩
  rcases hx with e | e
  · exact Or.inl ((h4 x).2 (Or.inl e))
  · exact hn x e
/-- What Parts has found behind k visits. -/
def fndP (l : List Opn) (at' : Nat) (k : Nat) : List Int := if at' < k then ptO l at' else []
theorem ptO_le {l : List Opn} {k : Nat} (hk : k < l.length) : (ptO l k).length ≤ k := by
  rw [ptO_stK hk, List.length_drop]
  have := stK_le l k
  omega
set_option maxHeartbeats 8000000 in
theorem partsV_any (l : List Opn) (at' k bf ba base : Nat) (F : Nat → Prop) (vp : Value) (w : World) (hk : k < l.length) (hlm : l.length ≤ 256)
    (U : UG (fndP l at') bf base k F w) (hbase : base ≤ w.heap.size) (ca : w.cell? ⟨ba, 0, none⟩ = some (.int .i64 at')) (hP : IS w vp (ptO l k)) :
    Calls Tryd.prog 52 (#[.int .i64 k, vp] ++ #[.pointer (some ⟨ba, 0, none⟩), .pointer (some ⟨bf, 0, none⟩)]) w fun e w' => e = .returned (.tuple #[]) ∧ ∃ F', UG (fndP l at') bf base (k + 1) F' w' ∧ (∀ x, F' x → F x ∨ w.heap.size ≤ x) ∧ But F w w' := by
  have U0 : Hid (UG (fndP l at') bf base k F w) := U
  obtain ⟨vu, h1, h2, h3, h4⟩ := U
  have hpl := ptO_le hk
  have CL : Hid _ := cloneI_any w vp (ptO l k) hP (by omega)
  obtain ⟨p1, c1, rfl⟩ := hP.form
  have H1 : Hid (w.heap[bf]? = some (.cells #[vu] 37)) := h1
  have H4 : Hid (∀ x, F x ↔ x = bf ∨ vu.ownBlock = some x) := h4
  have ZB : Hid (bf < w.heap.size) := (Array.getElem?_eq_some_iff.1 h1).1
  by_cases hka : k = at'
  · have HF : Hid (fndP l at' (k + 1) = ptO l k) := by show _ = _; unfold fndP; rw [if_pos (by omega), hka]
    have hkb : ((k : Int) == (at' : Int)) = true := by rw [hka]; simp
    have FZ : Hid (∀ w2 : World, w2.heap[bf]? = w.heap[bf]? → w2.frozen? ⟨bf, 0, none⟩ = false ∧ w2.cell? ⟨bf, 0, none⟩ = some vu) := fun w2 h => ⟨box_frozen (h.trans H1.out), box_cell (h.trans H1.out)⟩
    clear h1 h2 hP hka
    go_enter Tryd.func52, Tryd.ntmps52
    go_wp2_with fail
    refine Calls.mono CL.out ?_
    rintro e w2 ⟨p3, c3, rfl, ho2, hb2⟩
    have hbu : w2.heap[bf]? = w.heap[bf]? := hb2.block bf ZB.out
    obtain ⟨fz, cz⟩ := FZ.out _ hbu
    have B2 : Hid (Below w.heap.size w w2) := hb2
    have O2 : Hid (OwnG KI w2 w.heap.size _ (ptO l k)) := ho2
    have HBU : Hid _ := hbu
    clear hbu ho2 hb2 CL
    go_wp2_with fail
    go_end0
    exact ⟨rfl, UG.store H1.out H4.out h3 (w2 := w2) (But.of_below B2.out) HBU.out (HF.out ▸ O2.out.low hbase) (fun g hg => Or.inr (O2.out.lt hg).1)⟩
  · have HF : Hid (fndP l at' (k + 1) = fndP l at' k) := by
      show _ = _
      unfold fndP
      by_cases h : at' < k
      · rw [if_pos h, if_pos (by omega)]
      · rw [if_neg h, if_neg (by omega)]
    have hkb : ((k : Int) == (at' : Int)) = false := by rw [beq_eq_false_iff_ne]; omega
    clear h1 h2 hP CL
    go_enter Tryd.func52, Tryd.ntmps52
    go_wp2_with fail
    go_end0
    obtain ⟨u, a, b, c, d⟩ := U0.out
    exact ⟨rfl, F, ⟨u, a, HF.out ▸ b, c, d⟩, fun x hx => Or.inl hx, But.refl _ _⟩
/-- What Parts answers. -/
def partsE (l : List Opn) (a : Int) : Int := if chkO l = 0 then (if 0 ≤ a ∧ a < l.length then 0 else 1) else chkO l
def partsL (l : List Opn) (a : Int) : List Int := if partsE l a = 0 then ptO l a.toNat else []
end Go.Proofs.YthmppnmmlblbhaaDoor
