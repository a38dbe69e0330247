/- Names: CheckSet. -/
import Derived.Test.YtffabehipcomfaaDoorPt5
import Derived.Test.YtffabehipcomfaaDoorPs1
namespace Go.Proofs.YtffabehipcomfaaDoor
open Go.RowKit

/-- A provider, and where its expression lies. -/
structure Pvx where
  p : Prv
  q : Option Addr
  c : Nat
def Pvx.v (x : Pvx) : Value := .slice x.q x.p.ops.length x.c
def pvxC (x : Pvx) : List Value := [.string x.p.name, .slice x.q x.p.ops.length x.c, .bool x.p.again, .int .i64 x.p.pol.t, .int .i64 x.p.pol.b, .int .i64 x.p.pol.f, .int .i64 x.p.pol.c, .int .i64 x.p.ck, .string x.p.ct]
def KP : RK Pvx := ⟨37, 9, 104, .agg zPrv, pvxC⟩
theorem KP_ok : KP.Ok Tryd.prog :=
  ⟨fun _ => rfl, fun x u hu => by simp [KP, pvxC] at hu; rcases hu with rfl | rfl | rfl | rfl | rfl | rfl | rfl | rfl | rfl <;> rfl, rfl, by decide, by decide, info_parts' (by kernel_rfl)⟩
/-- The slice reads as these providers, and each one's expression as its own. -/
structure PR (w : World) (v : Value) (L : List Pvx) : Prop where
  gs : GS KP w v L
  ps : ∀ x ∈ L, PS w x.p x.v
theorem PR.below {w w' : World} {v : Value} {L : List Pvx} (h : PR w v L) (b : Below w.heap.size w w') : PR w' v L := ⟨h.gs.below b, fun x hx => (h.ps x hx).below b⟩
theorem GS.atP {w : World} {p : Option Addr} {n cap k : Nat} {l : List Pvx} (h : GS KP w (.slice p n cap) l) (hk : k < l.length) : ∃ X o, p = some ⟨X, o, none⟩ ∧ w.cell? ⟨X, o + k * 9, none⟩ = some (.string l[k].p.name) ∧ w.cell? ⟨X, o + k * 9 + 1, none⟩ = some (.slice l[k].q l[k].p.ops.length l[k].c) ∧ w.cell? ⟨X, o + k * 9 + 2, none⟩ = some (.bool l[k].p.again) ∧ w.cell? ⟨X, o + k * 9 + 3, none⟩ = some (.int .i64 l[k].p.pol.t) ∧ w.cell? ⟨X, o + k * 9 + 4, none⟩ = some (.int .i64 l[k].p.pol.b) ∧ w.cell? ⟨X, o + k * 9 + 5, none⟩ = some (.int .i64 l[k].p.pol.f) ∧ w.cell? ⟨X, o + k * 9 + 6, none⟩ = some (.int .i64 l[k].p.pol.c) ∧ w.cell? ⟨X, o + k * 9 + 7, none⟩ = some (.int .i64 l[k].p.ck) ∧ w.cell? ⟨X, o + k * 9 + 8, none⟩ = some (.string l[k].p.ct) := by
  obtain ⟨X, o, h1, _, h2⟩ := GS.at h hk
  exact ⟨X, o, h1, h2 0 _ rfl, h2 1 _ rfl, h2 2 _ rfl, h2 3 _ rfl, h2 4 _ rfl, h2 5 _ rfl, h2 6 _ rfl, h2 7 _ rfl, h2 8 _ rfl⟩
/-- Rows of two types lie in two blocks. -/
theorem own_apart {α β : Type} {K : RK α} {K' : RK β} (hne : K.ty ≠ K'.ty) {w : World} {b b' : Nat} {v v' : Value} {l : List α} {l' : List β} (h : OwnG K w b v l) (h' : OwnG K' w b' v' l') {g : Nat} (hg : v.ownBlock = some g) : some g ≠ v'.ownBlock := by
  rcases h.2 with ⟨e, _⟩ | ⟨g1, cap, cur, e1, _, e3, _⟩
  · rw [e] at hg; cases hg
  · rcases h'.2 with ⟨e, _⟩ | ⟨g2, cap2, cur2, f1, _, f3, _⟩
    · rw [e]; intro q; cases q
    · rw [e1] at hg
      injection hg with hg
      rw [f1]
      intro q
      injection q with q
      have e4 : g1 = g2 := hg.trans q
      subst e4
      rw [e3] at f3
      injection f3 with f3
      injection f3 with _ f3
      exact hne f3
def nameL (L : List Prv) : List ByteArray := L.map (·.name)
/-- Does the one at a place have the name of one ahead of it? -/
def dupB (L : List Prv) (k : Nat) : Bool := seenK (nameL L) k ((nameL L).getD k ByteArray.empty)
def badAt (L : List Prv) : Nat := L.findIdx fun p => prvE p != 0
def dupAt (L : List Prv) : Nat := (List.range L.length).findIdx fun k => dupB L k
/-- What is wrong with a set: where, and how. -/
def setF (L : List Prv) : Int × Int := if 256 < L.length then (0, 3) else if h : badAt L < L.length then (badAt L, prvE L[badAt L]) else if dupAt L < L.length then (dupAt L, 6) else (0, 0)
theorem setF_long {L : List Prv} (h : 256 < L.length) : setF L = (0, 3) := by unfold setF; rw [if_pos h]
theorem setF_bad {L : List Prv} (h : ¬ 256 < L.length) {k : Nat} (hk : k < L.length) (ha : ∀ j (hj : j < k), prvE (L[j]'(by omega)) = 0) (hb : prvE L[k] ≠ 0) : setF L = ((k : Int), prvE L[k]) := by
  have e : badAt L = k := (List.findIdx_eq hk).2 ⟨by simpa using hb, fun j hj => by simpa using ha j hj⟩
  unfold setF
  rw [if_neg h]
  simp only [e]
  rw [dif_pos hk]
theorem badAt_none {L : List Prv} (ha : ∀ j (hj : j < L.length), prvE L[j] = 0) : badAt L = L.length := by
  refine List.findIdx_eq_length.2 fun x hx => ?_
  obtain ⟨j, hj, rfl⟩ := List.mem_iff_getElem.1 hx
  simpa using ha j hj
theorem setF_dup {L : List Prv} (h : ¬ 256 < L.length) (ha : ∀ j (hj : j < L.length), prvE L[j] = 0) {k : Nat} (hk : k < L.length) (hd : ∀ j, j < k → dupB L j = false) (hb : dupB L k = true) : setF L = ((k : Int), 6) := by
  have e : dupAt L = k := (List.findIdx_eq (by simpa using hk)).2 ⟨by simpa using hb, fun j hj => by simpa using hd j hj⟩
  unfold setF
  rw [if_neg h, dif_neg (by rw [badAt_none ha]; omega), e, if_pos hk]
theorem setF_ok {L : List Prv} (h : ¬ 256 < L.length) (ha : ∀ j (hj : j < L.length), prvE L[j] = 0) (hd : ∀ j, j < L.length → dupB L j = false) : setF L = (0, 0) := by
  have e : dupAt L = L.length := by
    have := List.findIdx_eq_length (p := fun k => dupB L k) (xs := List.range L.length)
    rw [List.length_range] at this
    exact this.2 fun x hx => hd x (List.mem_range.1 hx)
  unfold setF
  rw [if_neg h, dif_neg (by rw [badAt_none ha]; omega), e, if_neg (by omega)]
theorem setF_fine {L : List Prv} (h : (setF L).2 = 0) : L.length ≤ 256 ∧ (∀ j (hj : j < L.length), prvE L[j] = 0) ∧ (∀ j, j < L.length → dupB L j = false) ∧ setF L = (0, 0) := by
  by_cases h1 : 256 < L.length
  · rw [setF_long h1] at h; simp at h
  · by_cases h2 : ∀ j (hj : j < L.length), prvE L[j] = 0
    · by_cases h3 : ∀ j, j < L.length → dupB L j = false
      · exact ⟨by omega, h2, h3, setF_ok h1 h2 h3⟩
      · exfalso
        have hlt : dupAt L < L.length := by
          have := List.findIdx_le_length (p := fun k => dupB L k) (xs := List.range L.length)
          rw [List.length_range] at this
          by_cases e : dupAt L = L.length
          · exfalso
            refine h3 fun j hj => ?_
            have e2 := (List.findIdx_eq_length (p := fun k => dupB L k) (xs := List.range L.length)).1 (by rw [List.length_range]; exact e)
            exact e2 j (List.mem_range.2 hj)
          · unfold dupAt at e ⊢; omega
        unfold setF at h
        rw [if_neg h1, dif_neg (by rw [badAt_none h2]; omega), if_pos hlt] at h
        simp at h
    · exfalso
      have hlt : badAt L < L.length := by
        have := List.findIdx_le_length (p := fun p => prvE p != 0) (xs := L)
        by_cases e : badAt L = L.length
        · exfalso
          refine h2 fun j hj => ?_
          have e2 := (List.findIdx_eq_length (p := fun p => prvE p != 0) (xs := L)).1 e
          simpa using e2 _ (List.getElem_mem hj)
        · unfold badAt at e ⊢; omega
      unfold setF at h
      rw [if_neg h1, dif_pos hlt] at h
      have e2 := List.findIdx_getElem (p := fun p => prvE p != 0) (xs := L) (w := hlt)
      simp only [bne_iff_ne, ne_eq] at e2
      exact e2 h
end Go.Proofs.YtffabehipcomfaaDoor
namespace Go.Proofs.YtffabehipcomfaaDoor
open Go.RowKit

def pL (L : List Pvx) : List Prv := L.map (·.p)
theorem pL_len (L : List Pvx) : (pL L).length = L.length := by unfold pL; simp
theorem pL_at {L : List Pvx} {k : Nat} (h : k < L.length) : (pL L)[k]'(by rw [pL_len]; exact h) = L[k].p := by unfold pL; simp
/-- Where CopyProviders stands: the first k are copied. -/
structure CPS (w wk : World) (vs : Value) (L M : List Pvx) (k : Nat) : Prop where
  eq : pL M = pL (L.take k)
  own : OwnG KP wk w.heap.size vs M
  each : ∀ x ∈ M, OwnG KO wk w.heap.size x.v x.p.ops
  bl : Below w.heap.size w wk
theorem CPS.len {w wk : World} {vs : Value} {L M : List Pvx} {k : Nat} (h : CPS w wk vs L M k) (hk : k ≤ L.length) : M.length = k := by
  have := congrArg List.length h.eq
  rw [pL_len, pL_len, List.length_take] at this
  omega
theorem CPS.next {w wr w1 w2 : World} {vs vs2 : Value} {L M : List Pvx} {k : Nat} {x : Pvx} (h : CPS w wr vs L M k) (hk : k < L.length) (b1 : Below wr.heap.size wr w1) (o1 : OwnG KO w1 wr.heap.size x.v x.p.ops) (hx : x.p = L[k].p)
    (ho2 : OwnG KP w2 w.heap.size vs2 (M ++ [x])) (hb2 : Below w.heap.size w1 w2) (hk2 : ∀ j, j < w1.heap.size → some j ≠ vs.ownBlock → w2.heap[j]? = w1.heap[j]?) : CPS w w2 vs2 L (M ++ [x]) (k + 1) := by
  have hsz := h.bl.size
  have ne : KO.ty ≠ KP.ty := by decide
  refine ⟨?_, ho2, fun y hy => ?_, (h.bl.trans (b1.mono h.bl.size)).trans hb2⟩
  · have e : L.take (k + 1) = L.take k ++ [L[k]] := by rw [List.take_add_one, List.getElem?_eq_getElem hk]; rfl
    have := h.eq
    unfold pL at this ⊢
    rw [e, List.map_append, List.map_append, this]
    simp [hx]
  · rw [List.mem_append, List.mem_singleton] at hy
    rcases hy with hy | rfl
    · have o := (h.each y hy).below b1
      exact o.far fun g hg => hk2 g (o.lt hg).2 (own_apart ne o (h.own.below b1) hg)
    · have o := o1.low h.bl.size
      exact o.far fun g hg => hk2 g (o.lt hg).2 (own_apart ne o (h.own.below b1) hg)
end Go.Proofs.YtffabehipcomfaaDoor
namespace Go.Proofs.YtffabehipcomfaaDoor
open Go.RowKit

theorem nameL_at {L : List Pvx} {k : Nat} (h : k < L.length) : (nameL (pL L)).getD k ByteArray.empty = L[k].p.name := by unfold nameL pL; simp [List.getD, h]
theorem nameL_len (L : List Pvx) : (nameL (pL L)).length = L.length := by unfold nameL pL; simp
/-- A box with a fault. -/
def FBx (w : World) (g : Nat) (a b : Int) : Prop := w.heap[g]? = some (.cells #[.int .i64 a, .int .i64 b] 83)
theorem FBx.below {w w' : World} {g : Nat} {a b : Int} (h : FBx w g a b) (k : Below w.heap.size w w') : FBx w' g a b := (k.block g (Array.getElem?_eq_some_iff.1 h).1).trans h
theorem FBx.far {w w' : World} {g : Nat} {a b : Int} (h : FBx w g a b) (k : w'.heap[g]? = w.heap[g]?) : FBx w' g a b := k.trans h
theorem FBx.cells {w : World} {g : Nat} {a b : Int} (h : FBx w g a b) : w.cell? ⟨g, 0, none⟩ = some (.int .i64 a) ∧ w.cell? ⟨g, 1, none⟩ = some (.int .i64 b) := by
  have q : ∀ j, w.cell? ⟨g, j, none⟩ = (#[Value.int .i64 a, .int .i64 b])[j]? := fun j => cell_of_row _ _ _ _ _ _ h
  exact ⟨q 0, q 1⟩
theorem FBx.fz {w : World} {g : Nat} {a b : Int} (h : FBx w g a b) : ∀ o, w.frozen? ⟨g, o, none⟩ = false := fun _ => box_frozen h
theorem FBx.lt {w : World} {g : Nat} {a b : Int} (h : FBx w g a b) : g < w.heap.size := (Array.getElem?_eq_some_iff.1 h).1
/-- Two cells written at a place from a base on. -/
theorem below_set2 {b : Nat} {w w' : World} {g : Nat} (h : Below b w w') (hg : b ≤ g) (u0 u1 : Value) : Below b w ((w'.setCell ⟨g, 0, none⟩ u0).setCell ⟨g, 1, none⟩ u1) := (h.setCell (p := ⟨g, 0, none⟩) hg u0).setCell (p := ⟨g, 1, none⟩) hg u1
/-- CheckSet's second loop: the box, the set. -/
structure CSI (w wk : World) (b : Nat) (L : List Pvx) (k : Nat) : Prop where
  bl : Below w.heap.size w wk
  bx : FBx wk w.heap.size 0 0
  sa : SA wk b k (seenK (nameL (pL L)) k)
  lo : w.heap.size < b
  nd : ∀ j, j < k → dupB (pL L) j = false
set_option maxHeartbeats 4000000 in
theorem checkSet_any (v : Value) (L : List Pvx) (w : World) (h : PR w v L) (hv : NV w) :
    Calls Tryd.prog 78 #[v] w fun e w' => e = .returned (.agg #[.int .i64 (setF (pL L)).1, .int .i64 (setF (pL L)).2]) ∧ Below w.heap.size w w' := by
  obtain ⟨p, cap, rfl⟩ := h.gs.form
  have HS : Hid (PR w (.slice p L.length cap) L) := h
  have A0 : Hid (∀ ob, Below w.heap.size w (w.alloc ob)) := fun ob => (Below.refl _ _).alloc (Nat.le_refl _) ob
  have F0 : Hid (FBx (w.alloc (.cells #[.int .i64 0, .int .i64 0] 83)) w.heap.size 0 0) := heap_alloc_new _ _
  by_cases hlong : 256 < L.length
  · rw [setF_long (by rw [pL_len]; exact hlong)]
    clear h hv
    go_enter Tryd.func78, Tryd.ntmps78
    go_wp2
    exact bodyPost_ret (v := .agg #[.int .i64 0, .int .i64 3]) (by simp [results, Tryd.results78, go_sem]) rfl ⟨rfl, A0.out _⟩
  · have CK : Hid (∀ w1 k (hk : k < L.length), Below w.heap.size w w1 → Calls Tryd.prog 40 #[.agg #[.string L[k].p.name, .slice L[k].q L[k].p.ops.length L[k].c, .bool L[k].p.again, .int .i64 L[k].p.pol.t, .int .i64 L[k].p.pol.b, .int .i64 L[k].p.pol.f, .int .i64 L[k].p.pol.c, .int .i64 L[k].p.ck, .string L[k].p.ct]] w1 fun e w' => e = .returned (.int .i64 (prvE L[k].p)) ∧ Below w1.heap.size w1 w') := fun w1 k hk b => checkProv_any L[k].p L[k].v w1 ((h.ps _ (List.getElem_mem hk)).below b) (hv.below b)
    have SB : Hid (∀ k (hk : k < L.length), (∀ j (hj : j < k), prvE (L[j]'(by omega)).p = 0) → prvE L[k].p ≠ 0 → setF (pL L) = ((k : Int), prvE L[k].p)) := fun k hk ha hb => by
      have := setF_bad (L := pL L) (by rw [pL_len]; exact hlong) (k := k) (by rw [pL_len]; exact hk) (fun j hj => by rw [pL_at (by omega)]; exact ha j hj) (by rw [pL_at hk]; exact hb)
      rw [this, pL_at hk]
    have SD : Hid ((∀ j (hj : j < L.length), prvE L[j].p = 0) → ∀ k (hk : k < L.length), (∀ j, j < k → dupB (pL L) j = false) → dupB (pL L) k = true → setF (pL L) = ((k : Int), 6)) := fun ha k hk hd hb => setF_dup (by rw [pL_len]; exact hlong) (fun j hj => by rw [pL_at (by rw [pL_len] at hj; exact hj)]; exact ha j _) (by rw [pL_len]; exact hk) hd hb
    have SO : Hid ((∀ j (hj : j < L.length), prvE L[j].p = 0) → (∀ j, j < L.length → dupB (pL L) j = false) → setF (pL L) = (0, 0)) := fun ha hd => setF_ok (by rw [pL_len]; exact hlong) (fun j hj => by rw [pL_at (by rw [pL_len] at hj; exact hj)]; exact ha j _) (by rw [pL_len]; exact hd)
    have HD : Hid (∀ k (hk : k < L.length), dupB (pL L) k = seenK (nameL (pL L)) k L[k].p.name ∧ (∀ s, seenK (nameL (pL L)) (k + 1) s = (seenK (nameL (pL L)) k s || decide (s = L[k].p.name)))) := fun k hk => by
      have e := nameL_at hk
      refine ⟨by unfold dupB; rw [e], fun s => ?_⟩
      rw [seenK_next _ (by rw [nameL_len]; exact hk)]
      have e2 : (nameL (pL L))[k]'(by rw [nameL_len]; exact hk) = L[k].p.name := by rw [← e]; simp [List.getD, nameL_len, hk]
      rw [e2]
    have NM : Hid (∀ k (hk : k < L.length), L[k].p.name.size ≤ maxLen) := fun k hk => (h.ps _ (List.getElem_mem hk)).nm
    clear h hv
    generalize setF (pL L) = R at *
    go_enter Tryd.func78, Tryd.ntmps78
    go_wp2
    go_loopw [15] (fun v15 wr => ∃ (k : Nat) (wk : World), v15 = .int .i64 k ∧ wk = wr ∧ k ≤ L.length ∧ Hid (Below w.heap.size w wk ∧ FBx wk w.heap.size 0 0 ∧ ∀ j (hj : j < k) (hl : j < L.length), prvE L[j].p = 0)) (fun v15 _ => L.length - (intOf v15).toNat)
    case atStart => exact ⟨0, _, rfl, rfl, Nat.zero_le _, ⟨A0.out _, F0.out, fun j hj => by omega⟩⟩
    case round =>
      obtain ⟨k, wr, rfl, rfl, hk, HI⟩ := hrel
      clear F0
      by_cases hlt : k < L.length
      · obtain ⟨X, o, e1, x0, x1, x2, x3, x4, x5, x6, x7, x8⟩ := (HS.out.gs.below HI.out.1).atP hlt
        obtain rfl : p = some ⟨X, o, none⟩ := e1
        have C1 : Hid (∀ ob, _) := fun ob => CK.out (wr.alloc ob) k hlt (HI.out.1.trans (((Below.refl _ _).alloc (Nat.le_refl _) ob).mono HI.out.1.size))
        have B1 : Hid (∀ ob, Below wr.heap.size wr (wr.alloc ob)) := fun ob => (Below.refl _ _).alloc (Nat.le_refl _) ob
        have SB1 : Hid (prvE L[k].p ≠ 0 → R = (↑k, prvE L[k].p)) := fun hb => SB.out k hlt (fun j hj => HI.out.2.2 j hj _) hb
        have HN : Hid (prvE L[k].p = 0 → ∀ j (hj : j < k + 1) (hl : j < L.length), prvE L[j].p = 0) := fun e j hj hl => by
          by_cases e2 : j = k
          · subst e2; exact e
          · exact HI.out.2.2 j (by omega) hl
        obtain ⟨c, hc⟩ : ∃ c, c = L[k] := ⟨_, rfl⟩
        rw [← hc] at x0 x1 x2 x3 x4 x5 x6 x7 x8 C1 SB1 HN
        clear hc CK SB SD SO HD
        go_wp2_with fail
        refine Calls.mono (C1.out _) ?_
        rintro e w1 ⟨rfl, hb1⟩
        have B2 : Hid (Below w.heap.size w w1) := HI.out.1.trans (((B1.out _).trans (hb1.mono (B1.out _).size)).mono HI.out.1.size)
        have F2 : Hid (FBx w1 w.heap.size 0 0) := HI.out.2.1.below ((B1.out _).trans (hb1.mono (B1.out _).size))
        clear hb1 C1 x0 x1 x2 x3 x4 x5 x6 x7 x8 B1
        generalize prvE c.p = r at *
        by_cases hr : r = 0
        · subst hr
          go_wp2_with fail
          go_roundw
          case rel => exact ⟨k + 1, _, by go_num, rfl, by omega, ⟨B2.out, F2.out, HN.out (by simp)⟩⟩
          case measure => simp [intOf]; omega
        · have h1 : (r == 0) = false := by simpa using hr
          have h2 : (r != 0) = true := by simpa using hr
          have hR := SB1.out hr
          obtain ⟨y0, y1⟩ := F2.out.cells
          have fz := F2.out.fz
          have zl := F2.out.lt
          clear SB1 HN
          go_wp2_with fail
          exact bodyPost_ret (v := .agg #[.int .i64 k, .int .i64 r]) (by simp [results, Tryd.results78, go_sem, y0, y1]) rfl ⟨by rw [hR], below_set2 B2.out (Nat.le_refl _) _ _⟩
      · have hke : k = L.length := by omega
        subst hke
        have HA : Hid (∀ j (hj : j < L.length), prvE L[j].p = 0) := fun j hj => HI.out.2.2 j hj hj
        have hmm := @run_makeMap Tryd.prog
        have AL : Below wr.heap.size wr (wr.alloc (.map #[] 0)) := (Below.refl _ _).alloc (Nat.le_refl _) _
        have D0 : Hid (CSI w (wr.alloc (.map #[] 0)) wr.heap.size L 0) := ⟨HI.out.1.trans (AL.mono HI.out.1.size), HI.out.2.1.below AL, (SA.made wr).congr (fun s => by simp [seenK]), HI.out.2.1.lt, fun j hj => by omega⟩
        have SD1 : Hid _ := SD.out HA.out
        have SO1 : Hid _ := SO.out HA.out
        clear HI SB SD SO CK AL HA
        go_wp2
        generalize wr.heap.size = b at *
        go_loopw [31] (fun v31 wr => ∃ (k : Nat) (wk : World), v31 = .int .i64 k ∧ wk = wr ∧ k ≤ L.length ∧ Hid (CSI w wk b L k)) (fun v31 _ => L.length - (intOf v31).toNat)
        case atStart => exact ⟨0, _, rfl, rfl, Nat.zero_le _, D0⟩
        case round =>
          obtain ⟨k, wr, rfl, rfl, hk, HI⟩ := hrel
          clear D0
          by_cases hlt : k < L.length
          · obtain ⟨X, o, e1, x0, x1, x2, x3, x4, x5, x6, x7, x8⟩ := (HS.out.gs.below HI.out.bl).atP hlt
            obtain rfl : p = some ⟨X, o, none⟩ := e1
            have nm := NM.out k hlt
            have B1 : Hid (∀ ob, Below wr.heap.size wr (wr.alloc ob)) := fun ob => (Below.refl _ _).alloc (Nat.le_refl _) ob
            obtain ⟨hd1, hd2⟩ := HD.out k hlt
            have HD1 : Hid _ := hd1
            have HD2 : Hid _ := hd2
            have SD2 : Hid _ := SD1.out k hlt HI.out.nd
            have PX : Hid (∀ w1, PBx w1 wr.heap.size L[k].p (.slice L[k].q L[k].p.ops.length L[k].c) → w1.cell? ⟨wr.heap.size, 0, none⟩ = some (.string L[k].p.name)) := fun w1 h => h.cells.1
            have PN : Hid (PBx (wr.alloc (.cells #[.string L[k].p.name, .slice L[k].q L[k].p.ops.length L[k].c, .bool L[k].p.again, .int .i64 L[k].p.pol.t, .int .i64 L[k].p.pol.b, .int .i64 L[k].p.pol.f, .int .i64 L[k].p.pol.c, .int .i64 L[k].p.ck, .string L[k].p.ct] 37)) wr.heap.size L[k].p (.slice L[k].q L[k].p.ops.length L[k].c)) := heap_alloc_new _ _
            clear hd1 hd2 HD SD1
            have HA : Hid (∀ w1, Below wr.heap.size wr w1 → Calls Tryd.prog 80 #[.map (some b), .string L[k].p.name] w1 fun e w' => e = .returned (.bool (dupB (pL L) k)) ∧ Below w1.heap.size w1 w') := fun w1 c => by rw [HD1.out]; exact has_any b k _ _ w1 (HI.out.sa.below c) nm
            have AD : Hid (∀ w1, Below wr.heap.size wr w1 → _) := fun w1 c => add_any b k _ L[k].p.name w1 (HI.out.sa.below c) nm (by unfold maxLen; omega)
            obtain ⟨c, hc⟩ : ∃ c, c = L[k] := ⟨_, rfl⟩
            rw [← hc] at x0 x1 x2 x3 x4 x5 x6 x7 x8 HA AD HD2 PX PN
            clear hc nm HD1
            go_wp2_with fail
            refine Calls.mono (HA.out _ (B1.out _)) ?_
            rintro e w1 ⟨rfl, hb1⟩
            have B2 : Hid (Below wr.heap.size wr w1) := (B1.out _).trans (hb1.mono (B1.out _).size)
            have P2 : Hid _ := PX.out _ (PN.out.below hb1)
            have lt2 : wr.heap.size < w1.heap.size := by have := hb1.size; simp at this; omega
            clear hb1 HA x0 x1 x2 x3 x4 x5 x6 x7 x8 B1 PX PN
            cases hdup : dupB (pL L) k with
            | true =>
              rw [hdup] at SD2
              have hR := SD2.out rfl
              have F2 : Hid (FBx w1 w.heap.size 0 0) := HI.out.bx.below B2.out
              have BB : Hid (Below w.heap.size w w1) := HI.out.bl.trans (B2.out.mono HI.out.bl.size)
              obtain ⟨y0, y1⟩ := F2.out.cells
              have fz := F2.out.fz
              have zl := F2.out.lt
              clear AD SD2 HI SO1
              go_wp2_with fail
              exact bodyPost_ret (v := .agg #[.int .i64 k, .int .i64 6]) (by simp [results, Tryd.results78, go_sem, y0, y1]) rfl ⟨by rw [hR], below_set2 BB.out (Nat.le_refl _) _ _⟩
            | false =>
              have z2 := P2.out
              go_wp2_with fail
              refine Calls.mono (AD.out _ B2.out) ?_
              rintro e w2 ⟨rfl, hs2, hb2⟩
              have H2 : Hid (CSI w w2 b L (k + 1)) := by
                have lo := HI.out.lo
                have hbx := HI.out.bx.below B2.out
                refine ⟨?_, hbx.far (hb2.block _ hbx.lt (by omega)), hs2.congr (fun s => (HD2.out s).symm), lo, fun j hj => ?_⟩
                · exact (HI.out.bl.trans (B2.out.mono HI.out.bl.size)).trans ⟨hb2.os, hb2.tape, hb2.output, hb2.size, fun x hx => hb2.block x (by have := HI.out.bl.size; omega) (by omega)⟩
                · by_cases e2 : j = k
                  · subst e2; exact hdup
                  · exact HI.out.nd j (by omega)
              clear hs2 hb2 AD HD2 SD2
              go_wp2_with fail
              go_roundw
              case rel => exact ⟨k + 1, _, by go_num, rfl, by omega, H2⟩
              case measure => simp [intOf]; omega
          · have hke : k = L.length := by omega
            subst hke
            have hR := SO1.out HI.out.nd
            have F2 : Hid (FBx wr w.heap.size 0 0) := HI.out.bx
            obtain ⟨y0, y1⟩ := F2.out.cells
            have fz := F2.out.fz
            have zl := F2.out.lt
            go_wp2_with fail
            exact bodyPost_ret (v := .agg #[.int .i64 0, .int .i64 0]) (by simp [results, Tryd.results78, go_sem, y0, y1]) rfl ⟨by rw [hR], below_set2 HI.out.bl (Nat.le_refl _) _ _⟩
end Go.Proofs.YtffabehipcomfaaDoor
