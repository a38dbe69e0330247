/- Values, plain: one order of all values. -/
import Derived.Test.YtahcllncjpaijabDoorGr2
import Derived.Test.YtahcllncjpaijabDoorVo1
import Derived.Test.YtahcllncjpaijabDoorVc9
import Derived.Deep.RegionHeld3
import Derived.BigRegion
import Derived.Deep.RegionLaw
namespace Go.Proofs.YtahcllncjpaijabDoor
open Go.RowKit

/-- The reader: the atoms, how many members each open list has (the innermost last), the next number's sign. -/
structure RD (w : World) (base B : Nat) (v m : Value) (l : List Atm) (R : List Int) (sg : Int) : Prop where
  hp : w.heap[B]? = some (.cells #[v, m, .int .i64 sg] 81)
  bb : base ≤ B
  oa : OwnG KA w base v l
  oi : OwnG KI w base m R.reverse
theorem RD.lt {w : World} {base B : Nat} {v m : Value} {l : List Atm} {R : List Int} {sg : Int} (h : RD w base B v m l R sg) : B < w.heap.size := (Array.getElem?_eq_some_iff.1 h.hp).1
theorem RD.c0 {w : World} {base B : Nat} {v m : Value} {l : List Atm} {R : List Int} {sg : Int} (h : RD w base B v m l R sg) : w.cell? ⟨B, 0, none⟩ = some v := cell_of_row _ _ _ _ _ _ h.hp
theorem RD.c1 {w : World} {base B : Nat} {v m : Value} {l : List Atm} {R : List Int} {sg : Int} (h : RD w base B v m l R sg) : w.cell? ⟨B, 1, none⟩ = some m := cell_of_row _ _ _ _ _ _ h.hp
theorem RD.c2 {w : World} {base B : Nat} {v m : Value} {l : List Atm} {R : List Int} {sg : Int} (h : RD w base B v m l R sg) : w.cell? ⟨B, 2, none⟩ = some (.int .i64 sg) := cell_of_row _ _ _ _ _ _ h.hp
theorem RD.fz {w : World} {base B : Nat} {v m : Value} {l : List Atm} {R : List Int} {sg : Int} (h : RD w base B v m l R sg) (o : Nat) : w.frozen? ⟨B, o, none⟩ = false := by simp [World.frozen?, h.hp]
theorem RD.below {w w' : World} {base B : Nat} {v m : Value} {l : List Atm} {R : List Int} {sg : Int} (h : RD w base B v m l R sg) (b : Below w.heap.size w w') : RD w' base B v m l R sg :=
  ⟨(b.block B h.lt).trans h.hp, h.bb, h.oa.below b, h.oi.below b⟩
/-- The atoms laid anew. -/
theorem RD.put0 {w w1 : World} {base B : Nat} {v v1 m : Value} {l l1 : List Atm} {R : List Int} {sg : Int} (h : RD w base B v m l R sg) (k : ∀ j, j < w.heap.size → some j ≠ v.ownBlock → w1.heap[j]? = w.heap[j]?) (ho : OwnG KA w1 base v1 l1) (b : Below base w w1) :
    RD (w1.setCell ⟨B, 0, none⟩ v1) base B v1 m l1 R sg ∧ Below base w (w1.setCell ⟨B, 0, none⟩ v1) ∧ w1.cell? ⟨B, 0, none⟩ = some v ∧ w1.frozen? ⟨B, 0, none⟩ = false := by
  have hb : w1.heap[B]? = some (.cells #[v, m, .int .i64 sg] 81) := by
    rw [k B h.lt (fun e => h.oa.notat h.hp (by decide) e.symm)]; exact h.hp
  have oi1 : OwnG KI w1 base m R.reverse := h.oi.far (fun g hg => k g (h.oi.lt hg).2 (fun e => h.oa.apart h.oi (by decide) hg e.symm))
  refine ⟨⟨?_, h.bb, ho.far (fun g hg => Below.heap_setCell _ _ _ _ (fun e => ho.notat hb (by decide) (by rw [hg, e]))), oi1.far (fun g hg => Below.heap_setCell _ _ _ _ (fun e => oi1.notat hb (by decide) (by rw [hg, e])))⟩, b.setCell h.bb _, cell_of_row _ _ _ _ _ _ hb, by simp [World.frozen?, hb]⟩
  have := heap_setCell_same w1 B 0 _ _ v1 hb
  simpa using this
/-- The counts laid anew. -/
theorem RD.put1 {w w1 : World} {base B : Nat} {v m1 m : Value} {l : List Atm} {R R1 : List Int} {sg : Int} (h : RD w base B v m l R sg) (k : ∀ j, j < w.heap.size → some j ≠ m.ownBlock → w1.heap[j]? = w.heap[j]?) (ho : OwnG KI w1 base m1 R1.reverse) (b : Below base w w1) :
    RD (w1.setCell ⟨B, 1, none⟩ m1) base B v m1 l R1 sg ∧ Below base w (w1.setCell ⟨B, 1, none⟩ m1) ∧ w1.cell? ⟨B, 1, none⟩ = some m ∧ w1.frozen? ⟨B, 1, none⟩ = false := by
  have hb : w1.heap[B]? = some (.cells #[v, m, .int .i64 sg] 81) := by
    rw [k B h.lt (fun e => h.oi.notat h.hp (by decide) e.symm)]; exact h.hp
  have oa1 : OwnG KA w1 base v l := h.oa.far (fun g hg => k g (h.oa.lt hg).2 (fun e => h.oi.apart h.oa (by decide) hg e.symm))
  refine ⟨⟨?_, h.bb, oa1.far (fun g hg => Below.heap_setCell _ _ _ _ (fun e => oa1.notat hb (by decide) (by rw [hg, e]))), ho.far (fun g hg => Below.heap_setCell _ _ _ _ (fun e => ho.notat hb (by decide) (by rw [hg, e])))⟩, b.setCell h.bb _, cell_of_row _ _ _ _ _ _ hb, by simp [World.frozen?, hb]⟩
  have := heap_setCell_same w1 B 1 _ _ m1 hb
  simpa using this
theorem RD.put2 {w : World} {base B : Nat} {v m : Value} {l : List Atm} {R : List Int} {sg : Int} (h : RD w base B v m l R sg) (s1 : Int) : RD (w.setCell ⟨B, 2, none⟩ (.int .i64 s1)) base B v m l R s1 := by
  refine ⟨?_, h.bb, h.oa.far (fun g hg => Below.heap_setCell _ _ _ _ (fun e => h.oa.notat h.hp (by decide) (by rw [hg, e]))), h.oi.far (fun g hg => Below.heap_setCell _ _ _ _ (fun e => h.oi.notat h.hp (by decide) (by rw [hg, e])))⟩
  have := heap_setCell_same w B 2 _ _ (.int .i64 s1) h.hp
  simpa using this
/-- Where the counts lie. -/
theorem RD.mem {w : World} {base B : Nat} {v m : Value} {l : List Atm} {x : Int} {r : List Int} {sg : Int} (h : RD w base B v m l (x :: r) sg) : ∃ g c, m = .slice (some ⟨g, 0, none⟩) (r.length + 1) c ∧ r.length + 1 ≤ c ∧ w.cell? ⟨g, r.length, none⟩ = some (.int .i64 x) ∧ w.frozen? ⟨g, r.length, none⟩ = false := by
  obtain ⟨g, c, e, hc⟩ := h.oi.place (by
    rcases h.oi.2 with ⟨_, e⟩ | ⟨g, cap, cur, e, _⟩
    · simp at e
    · rw [e]; simp [Value.ownBlock])
  have hl : (x :: r).reverse.length = r.length + 1 := by simp
  rw [hl] at e hc
  refine ⟨g, c, e, hc, ?_, own_frozen (by have := h.oi; rw [e] at this; exact this) _⟩
  have h1 := own_int (by have := h.oi; rw [e] at this; exact this) hl.symm (j := r.length) (by simp)
  rw [h1]
  simp [List.getD]
/-- The innermost count is one more. -/
theorem RD.inc {w : World} {base B g n c : Nat} {v : Value} {l : List Atm} {x : Int} {r : List Int} {sg : Int} (h : RD w base B v (.slice (some ⟨g, 0, none⟩) n c) l (x :: r) sg) : RD (w.setCell ⟨g, r.length, none⟩ (.int .i64 (x + 1))) base B v (.slice (some ⟨g, 0, none⟩) n c) l (bump (x :: r)) sg ∧ Below base w (w.setCell ⟨g, r.length, none⟩ (.int .i64 (x + 1))) := by
  have hne : B ≠ g := fun e => h.oi.notat h.hp (by decide) (by rw [e]; rfl)
  have hs := h.oi.set1 rfl KI_ok.len (k := r.length) (x + 1) (.int .i64 (x + 1)) rfl
  have e : (x :: r).reverse.set r.length (x + 1) = (bump (x :: r)).reverse := by
    rw [bump, List.reverse_cons, List.reverse_cons, List.set_append_right _ _ (by simp)]
    simp
  rw [e] at hs
  exact ⟨⟨(Below.heap_setCell _ _ _ _ hne).trans h.hp, h.bb, h.oa.far (fun g' hg => Below.heap_setCell _ _ _ _ (fun e => h.oi.apart h.oa (by decide) hg (by rw [e]; rfl))), hs⟩, (Below.refl _ _).setCell (show base ≤ g from (h.oi.lt rfl).1) _⟩
end Go.Proofs.YtahcllncjpaijabDoor
namespace Go.Proofs.YtahcllncjpaijabDoor
open Go.RowKit

set_option maxHeartbeats 4000000 in
set_option maxRecDepth 100000 in
theorem radd_any (w : World) (base B : Nat) (v m : Value) (l : List Atm) (x : Int) (r : List Int) (sg : Int) (k n i : Int) (tx : ByteArray) (h : RD w base B v m l (x :: r) sg) (hl : l.length ≤ 1000000) (hr : r.length ≤ 1000000) (hx : 0 ≤ x ∧ x ≤ 1000000) :
    Calls Tryd.prog 34 #[.pointer (some ⟨B, 0, none⟩), .agg #[.int .i64 k, .int .i64 n, .int .i64 i, .string tx]] w fun e w' => e = .returned (.tuple #[]) ∧ ∃ v' m', RD w' base B v' m' (l ++ [⟨k, n, i, tx⟩]) (bump (x :: r)) sg ∧ Below base w w' := by
  obtain ⟨p, cv, hv, _⟩ := h.oa.form
  subst hv
  obtain ⟨g, c, hm, hc, cg, fg⟩ := h.mem
  subst hm
  have HB : Hid (base ≤ w.heap.size) := by have := h.lt; have := h.bb; show _ ≤ _; omega
  have LS : Hid ((l.length + 1) * KA.B ≤ 140737488355328) := by show (_ + 1) * 40 ≤ _; omega
  have H1 : Hid (RD w base B (.slice p l.length cv) (.slice (some ⟨g, 0, none⟩) (r.length + 1) c) l (x :: r) sg) := h
  have hw := h.lt
  have NX : Hid (∀ w0 w1 w8 g8 c8, Below w.heap.size w w0 → Below w0.heap.size w0 w1 → OwnG KA w8 base (.slice (some ⟨g8, 0, none⟩) (l.length + 1) c8) (l ++ [⟨k, n, i, tx⟩]) → Below base w1 w8 → (∀ j, j < w1.heap.size → some j ≠ (Value.slice p l.length cv).ownBlock → w8.heap[j]? = w1.heap[j]?) → RD (w8.setCell ⟨B, 0, none⟩ (.slice (some ⟨g8, 0, none⟩) (l.length + 1) c8)) base B (.slice (some ⟨g8, 0, none⟩) (l.length + 1) c8) (.slice (some ⟨g, 0, none⟩) (r.length + 1) c) (l ++ [⟨k, n, i, tx⟩]) (x :: r) sg ∧ Below base w (w8.setCell ⟨B, 0, none⟩ (.slice (some ⟨g8, 0, none⟩) (l.length + 1) c8)) ∧ w8.cell? ⟨B, 0, none⟩ = some (.slice p l.length cv) ∧ w8.frozen? ⟨B, 0, none⟩ = false) := fun w0 w1 w8 g8 c8 b0 b1 o8 b8 k8 => by
    have b01 : Below w.heap.size w w1 := b0.trans (b1.mono b0.size)
    have h1 := h.below b01
    obtain ⟨q1, q2, q3, q4⟩ := h1.put0 k8 o8 b8
    exact ⟨q1, (b01.mono HB.out).trans q2, q3, q4⟩
  have c0 := h.c0
  have HO : Hid (∀ w0, Below w.heap.size w w0 → w0.cell? ⟨B, 0, none⟩ = some (.slice p l.length cv) ∧ OwnG KA w0 base (.slice p l.length cv) l) := fun w0 b => ⟨(h.below b).c0, (h.below b).oa⟩
  have NB : Hid (∀ w1 w8 : World, w.heap.size < w1.heap.size → (∀ j, j < w1.heap.size → some j ≠ (Value.slice p l.length cv).ownBlock → w8.heap[j]? = w1.heap[j]?) → ∀ j, w8.cell? ⟨w.heap.size, j, none⟩ = w1.cell? ⟨w.heap.size, j, none⟩) := fun w1 w8 hz k8 j => World.cell?_of_block (k8 _ hz (fun e => Nat.lt_irrefl _ (h.oa.lt e.symm).2))
  clear h cg fg
  go_enter Tryd.func34, Tryd.ntmps34
  go_upto_region 1 with fail
  have BA : Hid (Below w.heap.size w (w.alloc (.cells #[.int .i64 k, .int .i64 n, .int .i64 i, .string tx] 43))) := (Below.refl _ _).alloc (Nat.le_refl _) _
  have X : ∀ j, (w.alloc (.cells #[.int .i64 k, .int .i64 n, .int .i64 i, .string tx] 43)).cell? ⟨w.heap.size, j, none⟩ = (#[.int .i64 k, .int .i64 n, .int .i64 i, .string tx] : Array Value)[j]? := fun j => cell_of_row _ _ _ _ _ _ (heap_alloc_new _ _)
  generalize hW : World.alloc _ _ = W at *
  have y0 : W.cell? ⟨w.heap.size, 0, none⟩ = some (.int .i64 k) := X 0
  have y1 : W.cell? ⟨w.heap.size, 1, none⟩ = some (.int .i64 n) := X 1
  have y2 : W.cell? ⟨w.heap.size, 2, none⟩ = some (.int .i64 i) := X 2
  have y3 : W.cell? ⟨w.heap.size, 3, none⟩ = some (.string tx) := X 3
  have c0W := (HO.out W BA.out).1
  have OW : Hid (OwnG KA W base (.slice p l.length cv) l) := (HO.out W BA.out).2
  have HZ : Hid (W.heap.size = w.heap.size + 1) := by show _ = _; rw [← hW]; simp
  have BZ : Hid (base ≤ W.heap.size) := by show _ ≤ _; have := HB.out; have := HZ.out; omega
  have hBW : B < W.heap.size := by have := HZ.out; omega
  have hnW := World.new_ne W ⟨B, 0, none⟩ c0W
  clear hW X c0 HO
  have hBb : B ≠ w.heap.size := by omega
  generalize w.heap.size = bb at *
  go_region_law ((refine step_append_g KA KA_ok (by rfl) (.tmp 8) (.tmp 10) 23 (by rfl) base Tryd.underlying23 _ _ _ _ (by first | exact heap_alloc_new _ _) (.slice p l.length cv) l ⟨k, n, i, tx⟩ _ (by rfl) (OwnG.below OW.out (by first | exact (Below.refl _ _).alloc (Nat.le_refl _) _ | exact ((Below.refl _ _).drew).alloc (Nat.le_refl _) _)) (by rfl) (by rfl) LS.out (by first | (simp; exact BZ.out) | (have := BZ.out; simp; omega)) ?_; intro g8 c8 w8 o8 b8 k8 q8; obtain ⟨n1, n2, n3, n4⟩ := NX.out _ _ w8 g8 c8 BA.out (by first | exact (Below.refl _ _).alloc (Nat.le_refl _) _ | exact ((Below.refl _ _).drew).alloc (Nat.le_refl _) _) o8 b8 k8; have N1 : Hid _ := n1; have N2 : Hid _ := n2; clear n1 n2 o8 b8 q8 k8))
  all_goals
    clear y0 y1 y2 y3 c0W hnW NX OW BZ BA
    have cc1 := N1.out.c1
    obtain ⟨g', c', e', _, cg, fg⟩ := N1.out.mem
    injection e' with e1 e2 e3
    injection e1 with e1
    injection e1 with e1 _ _
    subst e1 e3
    have hR : Hid _ := N1.out.inc
    generalize hV : World.setCell _ _ _ = V at *
    go_wp2
    go_region
    go_end0
    exact ⟨rfl, _, _, hR.out.1.below (Below.refl _ _).drew, (N2.out.trans hR.out.2).drew⟩
end Go.Proofs.YtahcllncjpaijabDoor
namespace Go.Proofs.YtahcllncjpaijabDoor
open Go.RowKit

/-- Where the reference's members stands: those from j on are copied. -/
structure MJ (w wk : World) (g gf N m : Nat) (F : List Int) (ps : List Vt) (j : Nat) (R : List Vx) : Prop where
  own : OwnG KV wk w.heap.size (.slice (some ⟨g, 0, none⟩) N N) (List.replicate j zVx ++ R)
  each : ∀ x ∈ R, OwnG KA wk w.heap.size x.v x.a
  eq : aL R = (ps.drop j).map flV
  fr : ∃ q c, OwnG KI wk w.heap.size (.slice q F.length c) F ∧ gf = gf ∧ (0 < F.length → q = some ⟨gf, 0, none⟩)
  bl : Below w.heap.size w wk
theorem rep_cons (j : Nat) (x : Vx) (R : List Vx) : (List.replicate (j + 1) zVx ++ R).set j x = List.replicate j zVx ++ x :: R := by
  rw [List.replicate_succ', List.append_assoc, List.set_append_right _ _ (by simp)]
  simp
theorem set_apart {α : Type} {K : RK α} (hne : K.ty ≠ KV.ty) {w : World} {b b' g n c k : Nat} {u v : Value} {l : List α} {R : List Vx} (h : OwnG K w b v l) (h' : OwnG KV w b' (.slice (some ⟨g, 0, none⟩) n c) R) : OwnG K (w.setCell ⟨g, k, none⟩ u) b v l :=
  h.far fun x hx => Below.heap_setCell _ _ _ _ (fun e => own_apart hne h h' hx (by have e : x = g := e; rw [e]; rfl))
theorem MJ.next {w wr w1 : World} {g gf N m j : Nat} {F : List Int} {ps : List Vt} {R : List Vx} {x : Vx} (h : MJ w wr g gf N m F ps (j + 1) R) (hj : j < ps.length) (b1 : Below wr.heap.size wr w1) (o1 : OwnG KA w1 wr.heap.size x.v x.a) (hx : x.a = flV ps[j]) :
    MJ w (w1.setCell ⟨g, j, none⟩ (.slice x.q x.a.length x.c)) g gf N m F ps j (x :: R) := by
  have own1 := h.own.below b1
  have hg := (own1.lt (g := g) rfl).1
  obtain ⟨q, c, hf, _, hq⟩ := h.fr
  refine ⟨?_, fun y hy => ?_, ?_, ⟨q, c, set_apart (by decide) (hf.below b1) own1, rfl, hq⟩, (h.bl.trans (b1.mono h.bl.size)).setCell hg _⟩
  · have := own1.set1 rfl KV_ok.len (k := j) x (.slice x.q x.a.length x.c) rfl
    rw [rep_cons] at this; exact this
  · rcases List.mem_cons.1 hy with e | e
    · subst e; exact set_apart (by decide) (o1.low h.bl.size) own1
    · exact set_apart (by decide) ((h.each y e).below b1) own1
  · have := h.eq
    rw [List.drop_eq_getElem_cons hj]
    unfold aL at this ⊢
    rw [List.map_cons, List.map_cons, hx, this]
end Go.Proofs.YtahcllncjpaijabDoor
namespace Go.Proofs.YtahcllncjpaijabDoor
open Go.RowKit

theorem ba_ext {a b : ByteArray} (h : a.data.toList = b.data.toList) : a = b := by
  cases a; cases b; congr 1; exact Array.toList_inj.1 h
theorem sgn_anti (n : Int) : sgn (-n) = - sgn n := by
  unfold sgn
  by_cases h : n < 0
  · rw [if_pos h, if_neg (by omega), if_pos (by omega)]; rfl
  · by_cases h2 : 0 < n
    · rw [if_neg h, if_pos h2, if_pos (by omega)]
    · rw [if_neg h, if_neg h2, if_neg (by omega), if_neg (by omega)]; rfl
theorem sgn_eq {n : Int} : sgn n = 0 ↔ n = 0 := by
  unfold sgn
  by_cases h : n < 0
  · rw [if_pos h]; omega
  · by_cases h2 : 0 < n
    · rw [if_neg h, if_pos h2]; omega
    · rw [if_neg h, if_neg h2]; omega
theorem sgn_le {n : Int} : (sgn n ≤ 0 ↔ n ≤ 0) ∧ (sgn n < 0 ↔ n < 0) ∧ -1 ≤ sgn n ∧ sgn n ≤ 1 := by
  unfold sgn
  by_cases h : n < 0
  · rw [if_pos h]; omega
  · by_cases h2 : 0 < n
    · rw [if_neg h, if_pos h2]; omega
    · rw [if_neg h, if_neg h2]; omega
theorem lt_asymm' {a b : List UInt8} (h : a < b) : ¬ b < a := fun h2 => List.lt_irrefl _ (List.lt_trans h h2)
theorem cmpT_anti (a b : ByteArray) : cmpT b a = - cmpT a b := by
  unfold cmpT
  by_cases h : a.data.toList < b.data.toList
  · simp [h, lt_asymm' h]
  · by_cases h2 : b.data.toList < a.data.toList
    · simp [h, h2]
    · simp [h, h2]
theorem cmpT_eq {a b : ByteArray} : cmpT a b = 0 ↔ a = b := by
  constructor
  · intro h
    unfold cmpT at h
    by_cases h1 : a.data.toList < b.data.toList
    · rw [if_pos h1] at h; cases h
    · by_cases h2 : b.data.toList < a.data.toList
      · rw [if_neg h1, if_pos h2] at h; cases h
      · rcases List.le_iff_lt_or_eq.1 (List.not_lt.1 h1) with e | e
        · exact absurd e h2
        · exact (ba_ext e).symm
  · rintro rfl; exact cmpT_same _
theorem cmpT_lt {a b : ByteArray} : cmpT a b < 0 ↔ a.data.toList < b.data.toList := by
  unfold cmpT
  by_cases h1 : a.data.toList < b.data.toList
  · rw [if_pos h1]; simp [h1]
  · by_cases h2 : b.data.toList < a.data.toList
    · rw [if_neg h1, if_pos h2]; simp [h1]
    · rw [if_neg h1, if_neg h2]; simp [h1]
theorem cmpT_bd (a b : ByteArray) : -1 ≤ cmpT a b ∧ cmpT a b ≤ 1 := by
  unfold cmpT
  split
  · omega
  · split <;> omega
theorem cmpT_trans {a b c : ByteArray} (h1 : cmpT a b < 0) (h2 : cmpT b c < 0) : cmpT a c < 0 := cmpT_lt.2 (List.lt_trans (cmpT_lt.1 h1) (cmpT_lt.1 h2))
mutual
theorem cmpV_anti : ∀ s t : Vt, cmpV t s = - cmpV s t
  | .nd k i tx ps, .nd k' i' tx' qs => by
    rw [cmpV, cmpV]
    by_cases hk : k = k'
    · subst hk
      by_cases h1 : k = 1
      · simp only [h1, ne_eq, not_true_eq_false, if_false, if_true]
        rw [← sgn_anti, Int.neg_sub]
      · by_cases h2 : k = 2
        · simp [h2, cmpT_anti tx tx']
        · simp [h1, h2, cmpVL_anti ps qs]
    · rw [if_pos (fun e => hk e.symm), if_pos hk, ← sgn_anti, Int.neg_sub]
theorem cmpVL_anti : ∀ p q : List Vt, cmpVL q p = - cmpVL p q
  | [], [] => rfl
  | [], _ :: _ => rfl
  | _ :: _, [] => rfl
  | p :: r, q :: s => by
    rw [cmpVL, cmpVL, cmpV_anti p q, cmpVL_anti r s]
    by_cases h : cmpV p q = 0
    · rw [if_pos h, if_pos (by omega)]
    · rw [if_neg h, if_neg (by omega)]
end
mutual
theorem cmpV_bd : ∀ s t : Vt, -1 ≤ cmpV s t ∧ cmpV s t ≤ 1
  | .nd k i tx ps, .nd k' i' tx' qs => by
    rw [cmpV]
    split
    · exact (sgn_le).2.2
    · split
      · exact (sgn_le).2.2
      · split
        · exact cmpT_bd _ _
        · exact cmpVL_bd ps qs
theorem cmpVL_bd : ∀ p q : List Vt, -1 ≤ cmpVL p q ∧ cmpVL p q ≤ 1
  | [], [] => by rw [cmpVL]; omega
  | [], _ :: _ => by rw [cmpVL]; omega
  | _ :: _, [] => by rw [cmpVL]; omega
  | p :: r, q :: s => by
    rw [cmpVL]
    split
    · exact cmpVL_bd r s
    · exact cmpV_bd p q
end
mutual
theorem cmpV_refl : ∀ s : Vt, cmpV s s = 0
  | .nd k i tx ps => by
    rw [cmpV, if_neg (fun e => e rfl), Int.sub_self, sgn_zero, cmpT_same, cmpVL_refl ps]
    split
    · rfl
    · split <;> rfl
theorem cmpVL_refl : ∀ p : List Vt, cmpVL p p = 0
  | [] => rfl
  | p :: r => by rw [cmpVL, if_pos (cmpV_refl p), cmpVL_refl r]
end
theorem wf_leaf {k i : Int} {tx : ByteArray} {ps : List Vt} (h : wfV (.nd k i tx ps)) (h3 : k ≠ 3) : ps = [] := by
  rw [wfV] at h
  by_cases e : ps = []
  · exact e
  · exact absurd ((atB_n h.1).2.1 (by simp; exact e)) h3
mutual
theorem cmpV_eq : ∀ s t : Vt, wfV s → wfV t → cmpV s t = 0 → s = t
  | .nd k i tx ps, .nd k' i' tx' qs, hs, ht, h => by
    rw [cmpV] at h
    by_cases hk : k = k'
    · subst hk
      rw [if_neg (fun e => e rfl)] at h
      have h1 := hs; rw [wfV] at h1
      have h2 := ht; rw [wfV] at h2
      have a1 := h1.1
      have a2 := h2.1
      by_cases e1 : k = 1
      · subst e1
        rw [if_pos rfl, sgn_eq] at h
        rw [wf_leaf hs (by decide), wf_leaf ht (by decide)]
        unfold atB at a1 a2
        simp at a1 a2
        rw [a1.2, a2.2, show i = i' by omega]
      · rw [if_neg e1] at h
        by_cases e2 : k = 2
        · subst e2
          rw [if_pos rfl, cmpT_eq] at h
          rw [wf_leaf hs (by decide), wf_leaf ht (by decide)]
          unfold atB at a1 a2
          simp at a1 a2
          rw [a1.1.2, a2.1.2, h]
        · rw [if_neg e2] at h
          have ks := (atB_n a1).2.2
          simp only at ks
          have e3 : k = 3 := by omega
          subst e3
          obtain ⟨rfl, rfl⟩ := wf_end hs
          obtain ⟨rfl, rfl⟩ := wf_end ht
          rw [cmpVL_eq ps qs h1.2 h2.2 h]
    · rw [if_pos hk, sgn_eq] at h; omega
theorem cmpVL_eq : ∀ p q : List Vt, wfVL p → wfVL q → cmpVL p q = 0 → p = q
  | [], [], _, _, _ => rfl
  | [], _ :: _, _, _, h => by rw [cmpVL] at h; omega
  | _ :: _, [], _, _, h => by rw [cmpVL] at h; omega
  | p :: r, q :: s, h1, h2, h => by
    rw [wfVL] at h1 h2
    rw [cmpVL] at h
    by_cases e : cmpV p q = 0
    · rw [if_pos e] at h
      rw [cmpV_eq p q h1.1 h2.1 e, cmpVL_eq r s h1.2 h2.2 h]
    · rw [if_neg e] at h; exact absurd h e
end
mutual
theorem cmpV_trans : ∀ s t u : Vt, wfV s → wfV t → wfV u → cmpV s t < 0 → cmpV t u < 0 → cmpV s u < 0
  | .nd k i tx ps, .nd k' i' tx' qs, .nd k'' i'' tx'' rs, hs, ht, hu, h1, h2 => by
    rw [cmpV] at h1 h2 ⊢
    by_cases e1 : k = k'
    · subst e1
      rw [if_neg (fun e => e rfl)] at h1
      by_cases e2 : k = k''
      · subst e2
        rw [if_neg (fun e => e rfl)] at h2 ⊢
        by_cases f1 : k = 1
        · rw [if_pos f1] at h1 h2 ⊢
          rw [sgn_le.2.1] at *
          omega
        · rw [if_neg f1] at h1 h2 ⊢
          by_cases f2 : k = 2
          · rw [if_pos f2] at h1 h2 ⊢
            exact cmpT_trans h1 h2
          · rw [if_neg f2] at h1 h2 ⊢
            rw [wfV] at hs ht hu
            exact cmpVL_trans ps qs rs hs.2 ht.2 hu.2 h1 h2
      · rw [if_pos e2] at h2 ⊢; exact h2
    · rw [if_pos e1, sgn_le.2.1] at h1
      by_cases e2 : k' = k''
      · subst e2
        rw [if_pos e1, sgn_le.2.1]; exact h1
      · rw [if_pos e2, sgn_le.2.1] at h2
        rw [if_pos (by omega), sgn_le.2.1]; omega
theorem cmpVL_trans : ∀ p q r : List Vt, wfVL p → wfVL q → wfVL r → cmpVL p q < 0 → cmpVL q r < 0 → cmpVL p r < 0
  | [], [], _, _, _, _, h, _ => by rw [cmpVL] at h; omega
  | [], _ :: _, [], _, _, _, _, h => by rw [cmpVL] at h; omega
  | [], _ :: _, _ :: _, _, _, _, _, _ => by rw [cmpVL]; omega
  | _ :: _, [], _, _, _, _, h, _ => by rw [cmpVL] at h; omega
  | _ :: _, _ :: _, [], _, _, _, _, h => by rw [cmpVL] at h; omega
  | p :: a, q :: b, r :: c, hp, hq, hr, h1, h2 => by
    rw [wfVL] at hp hq hr
    rw [cmpVL] at h1 h2 ⊢
    by_cases e1 : cmpV p q = 0
    · rw [if_pos e1] at h1
      have e := cmpV_eq p q hp.1 hq.1 e1
      subst e
      by_cases e2 : cmpV p r = 0
      · rw [if_pos e2] at h2 ⊢
        exact cmpVL_trans a b c hp.2 hq.2 hr.2 h1 h2
      · rw [if_neg e2] at h2 ⊢; exact h2
    · rw [if_neg e1] at h1
      by_cases e2 : cmpV q r = 0
      · have e := cmpV_eq q r hq.1 hr.1 e2
        subst e
        rw [if_neg e1]; exact h1
      · rw [if_neg e2] at h2
        have := cmpV_trans p q r hp.1 hq.1 hr.1 h1 h2
        rw [if_neg (by omega)]; exact this
end
/-- Of three it goes on. -/
theorem cmpV_three {a b c : Vt} (ha : wfV a) (hb : wfV b) (hc : wfV c) : (cmpV a b ≤ 0 → cmpV b c ≤ 0 → cmpV a c ≤ 0) ∧ (0 ≤ cmpV a b → 0 ≤ cmpV b c → 0 ≤ cmpV a c) ∧ (cmpV a b < 0 → cmpV b c ≤ 0 → cmpV a c < 0) := by
  have le : ∀ {x y z : Vt}, wfV x → wfV y → wfV z → cmpV x y ≤ 0 → cmpV y z ≤ 0 → cmpV x z ≤ 0 := fun {x y z} hx hy hz h1 h2 => by
    by_cases e1 : cmpV x y = 0
    · rw [cmpV_eq x y hx hy e1]; exact h2
    · by_cases e2 : cmpV y z = 0
      · rw [← cmpV_eq y z hy hz e2]; exact h1
      · have := cmpV_trans x y z hx hy hz (by omega) (by omega); omega
  refine ⟨le ha hb hc, fun h1 h2 => ?_, fun h1 h2 => ?_⟩
  · have e1 := cmpV_anti a b
    have e2 := cmpV_anti b c
    have e3 := cmpV_anti a c
    have := le hc hb ha (by omega) (by omega)
    omega
  · by_cases e2 : cmpV b c = 0
    · rw [← cmpV_eq b c hb hc e2]; exact h1
    · exact cmpV_trans a b c ha hb hc h1 (by omega)
end Go.Proofs.YtahcllncjpaijabDoor
