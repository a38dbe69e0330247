/- Registry, the statements: play. -/
import Derived.Test.YtffabehipcomfaaDoorRd7
namespace Go.Proofs.YtffabehipcomfaaDoor
open Go.RowKit Go.Maps

/-- An act of the statements'. -/
structure Ac where
  k : Int
  x : Pvx
def acL (a : Ac) : List Value := .int .i64 a.k :: pvxC a.x
def KA : RK Ac := ⟨59, 10, 112, .agg (#[.int .i64 0] ++ zPrv), acL⟩
theorem GS.atA {w : World} {p : Option Addr} {n cap k : Nat} {l : List Ac} (h : GS KA w (.slice p n cap) l) (hk : k < l.length) : ∃ X o, p = some ⟨X, o, none⟩ ∧ w.cell? ⟨X, o + k * 10, none⟩ = some (.int .i64 l[k].k) ∧ w.cell? ⟨X, o + k * 10 + 1, none⟩ = some (.string l[k].x.p.name) ∧ w.cell? ⟨X, o + k * 10 + 2, none⟩ = some (.slice l[k].x.q l[k].x.p.ops.length l[k].x.c) ∧ w.cell? ⟨X, o + k * 10 + 3, none⟩ = some (.bool l[k].x.p.again) ∧ w.cell? ⟨X, o + k * 10 + 4, none⟩ = some (.int .i64 l[k].x.p.pol.t) ∧ w.cell? ⟨X, o + k * 10 + 5, none⟩ = some (.int .i64 l[k].x.p.pol.b) ∧ w.cell? ⟨X, o + k * 10 + 6, none⟩ = some (.int .i64 l[k].x.p.pol.f) ∧ w.cell? ⟨X, o + k * 10 + 7, none⟩ = some (.int .i64 l[k].x.p.pol.c) ∧ w.cell? ⟨X, o + k * 10 + 8, none⟩ = some (.int .i64 l[k].x.p.ck) ∧ w.cell? ⟨X, o + k * 10 + 9, none⟩ = some (.string l[k].x.p.ct) := by
  obtain ⟨X, o, h1, _, h2⟩ := GS.at h hk
  exact ⟨X, o, h1, h2 0 _ rfl, h2 1 _ rfl, h2 2 _ rfl, h2 3 _ rfl, h2 4 _ rfl, h2 5 _ rfl, h2 6 _ rfl, h2 7 _ rfl, h2 8 _ rfl, h2 9 _ rfl⟩
/-- A row of acts, each with its provider's expression. -/
structure AR (w : World) (v : Value) (l : List Ac) : Prop where
  gs : GS KA w v l
  ps : ∀ a ∈ l, PS w a.x.p a.x.v
theorem AR.below {w w' : World} {v : Value} {l : List Ac} (h : AR w v l) (b : Below w.heap.size w w') : AR w' v l := ⟨h.gs.below b, fun x hx => (h.ps x hx).below b⟩
theorem gx_yset {w : World} {base r m : Nat} {vs : Value} {L : List Pvx} {fz : Bool} (h1 : GX w base r m vs L fz) {b : Nat} {v : Value} {f : Bool} (y : YB w b v f) (i : Nat) (u : Value) : GX (w.setCell ⟨b, i, none⟩ u) base r m vs L fz := by
  have ne : ∀ {α : Type} {K : RK α} {bs : Nat} {v' : Value} {l : List α}, K.ty ≠ 26 → OwnG K w bs v' l → OwnG K (w.setCell ⟨b, i, none⟩ u) bs v' l := fun hK o => o.far fun g hg => Below.heap_setCell _ _ _ _ (fun e => by
    have e : g = b := e
    obtain ⟨cur, hc⟩ := o.ty hg
    subst e
    unfold YB at y
    rw [hc] at y
    injection y with y
    injection y with _ y _
    exact hK y)
  unfold YB at y
  refine { h1 with hp := ?_, mv := ?_, own := ne (by decide) h1.own, each := fun x hx => ne (by decide) (h1.each x hx) }
  · refine (Below.heap_setCell _ _ _ _ (fun e => ?_)).trans h1.hp
    have e : r = b := e
    subst e
    rw [h1.hp] at y
    injection y with y
    injection y with _ y _
    exact absurd y (by decide)
  · refine h1.mv.far (Below.heap_setCell _ _ _ _ (fun e => ?_))
    have e : m = b := e
    subst e
    obtain ⟨D, ⟨es, cl, hh, _⟩, _⟩ := h1.mv
    rw [y] at hh; cases hh
theorem HX.yset {base r m : Nat} {fz : Bool} {P : List Prv} {vh : Value} {M : List Pvx} {w : World} (h : HX base r m fz P vh M w) {b : Nat} {v : Value} {f : Bool} (y : YB w b v f) (i : Nat) (u : Value) : HX base r m fz P vh M (w.setCell ⟨b, i, none⟩ u) := by
  obtain ⟨⟨vs, L, h1, h2, h3⟩, ho, he⟩ := h
  have ne : ∀ {α : Type} {K : RK α} {bs : Nat} {v' : Value} {l : List α}, K.ty ≠ 26 → OwnG K w bs v' l → OwnG K (w.setCell ⟨b, i, none⟩ u) bs v' l := fun hK o => o.far fun g hg => Below.heap_setCell _ _ _ _ (fun e => by
    have e : g = b := e
    obtain ⟨cur, hc⟩ := o.ty hg
    subst e
    unfold YB at y
    rw [hc] at y
    injection y with y
    injection y with _ y _
    exact hK y)
  exact ⟨⟨vs, L, gx_yset h1 y i u, h2, h3⟩, ne (by decide) ho, fun x hx => ne (by decide) (he x hx)⟩
theorem YB.sets {w : World} {b : Nat} {v : Value} {f : Bool} (y : YB w b v f) (v' : Value) (f' : Bool) : YB ((w.setCell ⟨b, 0, none⟩ v').setCell ⟨b, 1, none⟩ (.bool f')) b v' f' := by
  have h0 := heap_setCell_same w b 0 _ _ v' y
  have h1 := heap_setCell_same _ b 1 _ _ (.bool f') h0
  exact h1
theorem YB.set1 {w : World} {b : Nat} {v : Value} {f : Bool} (y : YB w b v f) (i : Nat) (u : Value) : ∃ arr, (w.setCell ⟨b, i, none⟩ u).heap[b]? = some (.cells arr 26) := ⟨_, heap_setCell_same w b i _ _ u y⟩
theorem HX.ysets {base r m : Nat} {fz : Bool} {P : List Prv} {vh : Value} {M : List Pvx} {w : World} (h : HX base r m fz P vh M w) {b : Nat} {v : Value} {f : Bool} (y : YB w b v f) (v' : Value) (f' : Bool) : HX base r m fz P vh M ((w.setCell ⟨b, 0, none⟩ v').setCell ⟨b, 1, none⟩ (.bool f')) := by
  have h0 := h.yset y 0 v'
  have y0 : YB (w.setCell ⟨b, 0, none⟩ v') b v' f := heap_setCell_same w b 0 _ _ v' y
  exact h0.yset y0 1 _
theorem YB.far2 {w : World} {b b' : Nat} {v : Value} {f : Bool} (y : YB w b v f) (hne : b ≠ b') (i : Nat) (u : Value) : YB (w.setCell ⟨b', i, none⟩ u) b v f := (Below.heap_setCell _ _ _ _ hne).trans y
theorem PA.pr {base r m : Nat} {fz : Bool} {P : List Prv} {vh : Value} {M : List Pvx} {v1 : Value} {ops : List Opn} {w w0 : World} (h : PA base r m fz P vh M v1 ops w) (h0 : PR w0 vh M) : PR w vh M := ⟨h.ho.gs KP_ok.len, fun x hx => ⟨(h.he x hx).gs KO_ok.len, (h0.ps x hx).tx, (h0.ps x hx).nm, (h0.ps x hx).ln⟩⟩
theorem PA.yset {base r m : Nat} {fz : Bool} {P : List Prv} {vh : Value} {M : List Pvx} {v1 : Value} {ops : List Opn} {w : World} (h : PA base r m fz P vh M v1 ops w) {b : Nat} {v : Value} {f : Bool} (y : YB w b v f) (i : Nat) (u : Value) : PA base r m fz P vh M v1 ops (w.setCell ⟨b, i, none⟩ u) := by
  obtain ⟨⟨vs, L, h1, h2, h3, h4⟩, ho, he, na, ow⟩ := h
  obtain ⟨⟨vs', L', g1, _, _⟩, q1, q2⟩ := HX.yset (P := pL L) ⟨⟨vs, L, h1, rfl, h3⟩, ho, he⟩ y i u
  have ow' : OwnG KO (w.setCell ⟨b, i, none⟩ u) base v1 ops := ow.far fun g hg => Below.heap_setCell _ _ _ _ (fun e => by
    have e : g = b := e
    obtain ⟨cur, hc⟩ := ow.ty hg
    subst e
    unfold YB at y
    rw [hc] at y
    injection y with y
    injection y with _ y _
    exact absurd y (by decide))
  have gx := gx_yset h1 y i u
  exact ⟨⟨vs, L, gx, h2, h3, h4⟩, q1, q2, na, ow'⟩
theorem PA.ysets {base r m : Nat} {fz : Bool} {P : List Prv} {vh : Value} {M : List Pvx} {v1 : Value} {ops : List Opn} {w : World} (h : PA base r m fz P vh M v1 ops w) {b : Nat} {v : Value} {f : Bool} (y : YB w b v f) (v' : Value) (f' : Bool) : PA base r m fz P vh M v1 ops ((w.setCell ⟨b, 0, none⟩ v').setCell ⟨b, 1, none⟩ (.bool f')) := by
  have h0 := h.yset y 0 v'
  have y0 : YB (w.setCell ⟨b, 0, none⟩ v') b v' f := heap_setCell_same w b 0 _ _ v' y
  exact h0.yset y0 1 _
/-- What a round has behind both calls of Add. -/
structure PK8 (w : World) (B R m r7 r10 b13 b16 : Nat) (fz : Bool) (vy v6 : Value) (M6 : List Pvx) (v1 : Value) (ops : List Opn) (p : Prv) (W : World) : Prop where
  pa : PA B R m fz (pL M6) v6 M6 v1 ops W
  px : PBx W b13 p v1
  y10 : YB W r10 vy fz
  y7 : YB W r7 (.slice none 0 0) false
  y16 : YB W b16 v6 fz
  bw : Below w.heap.size w W
theorem PK8.below {w : World} {B R m r7 r10 b13 b16 : Nat} {fz : Bool} {vy v6 : Value} {M6 : List Pvx} {v1 : Value} {ops : List Opn} {p : Prv} {W W' : World} (h : PK8 w B R m r7 r10 b13 b16 fz vy v6 M6 v1 ops p W) (b : Below W.heap.size W W') : PK8 w B R m r7 r10 b13 b16 fz vy v6 M6 v1 ops p W' := ⟨h.pa.below b, h.px.below b, h.y10.below b, h.y7.below b, h.y16.below b, h.bw.trans (b.mono h.bw.size)⟩
theorem ac_at {W : World} {Y o : Nat} {k : Nat} {a : Int} {p : Prv} {q : Option Addr} {c : Nat} (h : ∃ X o', (some ⟨Y, o, none⟩ : Option Addr) = some ⟨X, o', none⟩ ∧ W.cell? ⟨X, o' + k * 10, none⟩ = some (.int .i64 a) ∧ W.cell? ⟨X, o' + k * 10 + 1, none⟩ = some (.string p.name) ∧ W.cell? ⟨X, o' + k * 10 + 2, none⟩ = some (.slice q p.ops.length c) ∧ W.cell? ⟨X, o' + k * 10 + 3, none⟩ = some (.bool p.again) ∧ W.cell? ⟨X, o' + k * 10 + 4, none⟩ = some (.int .i64 p.pol.t) ∧ W.cell? ⟨X, o' + k * 10 + 5, none⟩ = some (.int .i64 p.pol.b) ∧ W.cell? ⟨X, o' + k * 10 + 6, none⟩ = some (.int .i64 p.pol.f) ∧ W.cell? ⟨X, o' + k * 10 + 7, none⟩ = some (.int .i64 p.pol.c) ∧ W.cell? ⟨X, o' + k * 10 + 8, none⟩ = some (.int .i64 p.ck) ∧ W.cell? ⟨X, o' + k * 10 + 9, none⟩ = some (.string p.ct)) : W.cell? ⟨Y, o + k * 10 + 1, none⟩ = some (.string p.name) ∧ W.cell? ⟨Y, o + k * 10 + 2, none⟩ = some (.slice q p.ops.length c) ∧ W.cell? ⟨Y, o + k * 10 + 3, none⟩ = some (.bool p.again) ∧ W.cell? ⟨Y, o + k * 10 + 4, none⟩ = some (.int .i64 p.pol.t) ∧ W.cell? ⟨Y, o + k * 10 + 5, none⟩ = some (.int .i64 p.pol.b) ∧ W.cell? ⟨Y, o + k * 10 + 6, none⟩ = some (.int .i64 p.pol.f) ∧ W.cell? ⟨Y, o + k * 10 + 7, none⟩ = some (.int .i64 p.pol.c) ∧ W.cell? ⟨Y, o + k * 10 + 8, none⟩ = some (.int .i64 p.ck) ∧ W.cell? ⟨Y, o + k * 10 + 9, none⟩ = some (.string p.ct) := by
  obtain ⟨X, o', e1, _, h⟩ := h
  injection e1 with e1
  injection e1 with e1 e2 _
  subst e1 e2
  exact h
set_option maxHeartbeats 16000000 in
set_option maxRecDepth 100000 in
theorem play_any (v : Value) (l : List Ac) (s : ByteArray) (num : Int) (w : World) (h : AR w v l) (hv : NV w) (hs : s.size ≤ maxLen) (hl : l.length ≤ 10000000000000) :
    Calls Tryd.prog 6 #[v, .string s, .int .i64 num] w fun e w' => ∃ R m fz vy M B, e = .returned (.tuple #[.pointer (some ⟨R, 0, none⟩), .agg #[vy, .bool fz], .bool true]) ∧ w.heap.size ≤ B ∧ HX B R m fz (pL M) vy M w' ∧ Below w.heap.size w w' := by
  obtain ⟨p0, c0, rfl⟩ := h.gs.form
  have HA := hidr h
  have HV := hidr (fun W (b : Below w.heap.size w W) => hv.below b)
  have HS := hidr hs
  obtain ⟨n, hn⟩ : ∃ n, n = l.length := ⟨_, rfl⟩
  have HN := hidr hn
  rw [← hn] at hl ⊢
  have NW := hidr (new_hx (w.alloc (.cells #[.slice none 0 0, .bool false] 26)))
  have Y7a : Hid (YB (w.alloc (.cells #[.slice none 0 0, .bool false] 26)) w.heap.size (.slice none 0 0) false) := heap_alloc_new _ _
  have B7a := hidr (balr w (.cells #[.slice none 0 0, .bool false] 26))
  clear h hv hs hn
  go_enter Tryd.func6, Tryd.ntmps6
  go_wp2_with fail
  refine NW.out.mono ?_
  rintro e w1 ⟨rfl, hx1, hb1⟩
  generalize hB : (w.alloc (.cells #[.slice none 0 0, .bool false] 26)).heap.size = B at *
  have ZB : Hid (w.heap.size ≤ B) := by rw [← hB]; exact B7a.out.size
  have K0 := hidr (hx1.below (balr w1 (.cells #[.slice none 0 0, .bool false] 26)))
  have E0 : Hid (∃ M : List Pvx, M = []) := ⟨_, rfl⟩
  have b1 := hb1
  rw [← hB] at b1
  have Y7b := hidr (YB.below (YB.below Y7a.out b1) (balr w1 (.cells #[.slice none 0 0, .bool false] 26)))
  have BWb := hidr (blr (blr B7a.out b1) (balr w1 (.cells #[.slice none 0 0, .bool false] 26)))
  have Y10b : Hid (YB (w1.alloc (.cells #[.slice none 0 0, .bool false] 26)) w1.heap.size (.slice none 0 0) false) := heap_alloc_new _ _
  have R710a : (w.heap.size < B ∧ B ≤ w1.heap.size) := ⟨by rw [← hB]; simp, by rw [← hB]; exact hb1.size⟩
  clear hx1 hb1 NW Y7a B7a b1 hB E0
  go_wp2_with fail
  generalize w1.heap.size = r10 at *
  generalize hW2 : w1.alloc _ = w2 at *
  clear hW2
  obtain ⟨r7, hr7⟩ : ∃ r7, r7 = w.heap.size := ⟨_, rfl⟩
  have R710b : Hid (w.heap.size ≤ r7) := by rw [hr7]; exact Nat.le_refl _
  rw [← hr7] at Y7b R710a ⊢
  clear hr7
  have R710 : Hid (r7 < B ∧ B ≤ r10) := R710a
  go_loopw [9, 11] (fun v9 v11 wr => ∃ (k R m : Nat) (fz : Bool) (vy : Value) (M : List Pvx) (wk : World), v9 = .pointer (some ⟨R, 0, none⟩) ∧ v11 = .int .i64 k ∧ wk = wr ∧ k ≤ n ∧ Hid (HX B R m fz (pL M) vy M wk) ∧ Hid (YB wk r10 vy fz) ∧ Hid (YB wk r7 (.slice none 0 0) false) ∧ Hid (Below w.heap.size w wk)) (fun _ v11 _ => n - (intOf v11).toNat)
  case atStart => exact ⟨0, B + 1, B, false, .slice none 0 0, [], _, rfl, rfl, rfl, Nat.zero_le _, K0, Y10b, Y7b, BWb⟩
  case round =>
    obtain ⟨k, R, m, fz, vy, M, wr, rfl, rfl, rfl, hk, HH, Y10, Y7, BW⟩ := hrel
    clear K0 Y10b Y7b BWb
    by_cases hlt : k < n
    · have hkl : k < l.length := by rw [← HN.out]; exact hlt
      have hk1 : (k : Int) < (n : Int) := by omega
      have PSk := hidr (fun W (b : Below w.heap.size w W) => (HA.out.below b).ps _ (List.getElem_mem hkl))
      have ACT := hidr (fun W (b : Below w.heap.size w W) => (HA.out.below b).gs.atA hkl)
      have CP1 := hidr (fun W (b : Below w.heap.size w W) => copyProv_any l[k].x.p l[k].x.v W (PSk.out W b))
      have PS2 := hidr PSk.out
      obtain ⟨X, o, e1, a0, x0, x1, x2, x3, x4, x5, x6, x7, x8⟩ := ACT.out wr BW.out
      obtain rfl : p0 = some ⟨X, o, none⟩ := e1
      generalize l[k] = a at *
      obtain ⟨ak, ⟨⟨nm, ops, ag, ⟨pt, pb, pf, pc⟩, ck, ct⟩, qa, ca⟩⟩ := a
      simp only [prvV, Pvx.v] at *
      have AM := hidr (fun W => among_any ak W)
      go_wp2_with fail
      refine (AM.out wr).mono ?_
      rintro e w9 ⟨rfl, hw9⟩
      rw [hw9]
      clear hw9 w9
      obtain ⟨am0, am6⟩ := amF_bd ak
      generalize amF ak = kd at *
      clear AM
      by_cases k4 : kd < 4
      · skip
        obtain ⟨py, cy, rfl, _⟩ := HH.out.ho.form
        have ACD := hidr (fun W (b : Below w.heap.size w W) => ac_at (p := ⟨nm, ops, ag, ⟨pt, pb, pf, pc⟩, ck, ct⟩) (q := qa) (c := ca) (ACT.out W b))
        clear ACT
        go_wp2_with fail
        refine (CP1.out _ BW.out).mono ?_
        rintro e w3 ⟨q1, c1, rfl, o1, b1⟩
        have PA3 := hidr (PA.start HH.out b1 o1)
        have PRM := hidr HH.out.pr
        have ML := hidr HH.out.len256
        have Y103 := hidr (Y10.out.below b1)
        have Y73 := hidr (Y7.out.below b1)
        have BW3 := hidr (BW.out.trans (b1.mono BW.out.size))
        have HN3 := hidr (heap_alloc_new w3)
        have BN3 := hidr (balr w3)
        clear a0 x0 x1 x2 x3 x4 x5 x6 x7 x8 o1 b1 CP1 HH Y10 Y7 BW
        go_upto_region 16 with fail
        generalize hW : w3.alloc _ = w4
        obtain ⟨b13, hb13⟩ : ∃ b, b = w3.heap.size := ⟨_, rfl⟩
        have B34 : Hid (Below w3.heap.size w3 w4) := by rw [← hW]; exact BN3.out _
        have PX4 : Hid (PBx w4 b13 ⟨nm, ops, ag, ⟨pt, pb, pf, pc⟩, ck, ct⟩ (.slice q1 ops.length c1)) := by rw [← hW, hb13]; exact HN3.out _
        have HB13 := hidr (Nat.le_of_eq hb13.symm)
        rw [← hb13]
        clear hW HN3 BN3 hb13
        have BW4 := hidr (BW3.out.trans (B34.out.mono BW3.out.size))
        have PSa := hidr (PS2.out w4 BW4.out)
        have AD := hidr (PA.add PA3.out B34.out ⟨nm, ops, ag, ⟨pt, pb, pf, pc⟩, ck, ct⟩ (.slice q1 ops.length c1) ⟨(PA3.out.below B34.out).ow.gs KO_ok.len, PSa.out.tx, PSa.out.nm, PSa.out.ln⟩ (HV.out _ BW4.out))
        simp only [prvV] at AD
        obtain ⟨z0, z1, z2, z3, z4, z5, z6, z7, z8⟩ := PBx.cells PX4.out
        go_wp2_with fail
        refine AD.out.mono ?_
        rintro e w5 ⟨rfl, pa5, bb5, yk, bk⟩
        have PA5 := hidr pa5
        have BW5 := hidr (BW4.out.trans (bb5.mono ZB.out))
        have PX5 : Hid (PBx w5 b13 ⟨nm, ops, ag, ⟨pt, pb, pf, pc⟩, ck, ct⟩ (.slice q1 ops.length c1)) := (bk b13 HB13.out (lt_heap PX4.out)).trans PX4.out
        have Y105 := hidr (yk _ _ _ (Y103.out.below B34.out))
        have Y75 := hidr (yk _ _ _ (Y73.out.below B34.out))
        have RA := hidr (fun W (b : Below w5.heap.size w5 W) => radd_any (.slice py M.length cy) M fz ⟨nm, ops, ag, ⟨pt, pb, pf, pc⟩, ck, ct⟩ (.slice qa ops.length ca) W ((PA5.out.below b).pr PRM.out) ML.out (PS2.out W (BW5.out.trans (b.mono BW5.out.size))))
        simp only [prvV] at RA
        clear pa5 bb5 yk bk AD PSa PA3 PX4 Y103 Y73 BW3 BW4 B34 HB13 z0 z1 z2 z3 z4 z5 z6 z7 z8
        obtain ⟨t0, t1, _⟩ := Y105.out.cells
        obtain ⟨x0, x1, x2, x3, x4, x5, x6, x7, x8⟩ := ACD.out w5 BW5.out
        have nr : ¬ r10 = w5.heap.size := by have := lt_heap Y105.out; omega
        have nX : ¬ X = w5.heap.size := by have h9 : X < w5.heap.size := block_lt_of_cell x0; omega
        have SF : Hid (∀ (W : World) (u0 u1 : Value), (W.cell? ⟨r10, 0, none⟩ = some (.slice py M.length cy) ∧ W.cell? ⟨r10, 1, none⟩ = some (.bool fz) ∧ W.cell? ⟨X, o + k * 10 + 1, none⟩ = some (.string nm) ∧ W.cell? ⟨X, o + k * 10 + 2, none⟩ = some (.slice qa ops.length ca) ∧ W.cell? ⟨X, o + k * 10 + 3, none⟩ = some (.bool ag) ∧ W.cell? ⟨X, o + k * 10 + 4, none⟩ = some (.int .i64 pt) ∧ W.cell? ⟨X, o + k * 10 + 5, none⟩ = some (.int .i64 pb) ∧ W.cell? ⟨X, o + k * 10 + 6, none⟩ = some (.int .i64 pf) ∧ W.cell? ⟨X, o + k * 10 + 7, none⟩ = some (.int .i64 pc) ∧ W.cell? ⟨X, o + k * 10 + 8, none⟩ = some (.int .i64 ck) ∧ W.cell? ⟨X, o + k * 10 + 9, none⟩ = some (.string ct)) → (((W.setCell ⟨w5.heap.size, 0, none⟩ u0).setCell ⟨w5.heap.size, 1, none⟩ u1).cell? ⟨r10, 0, none⟩ = some (.slice py M.length cy) ∧ ((W.setCell ⟨w5.heap.size, 0, none⟩ u0).setCell ⟨w5.heap.size, 1, none⟩ u1).cell? ⟨r10, 1, none⟩ = some (.bool fz) ∧ ((W.setCell ⟨w5.heap.size, 0, none⟩ u0).setCell ⟨w5.heap.size, 1, none⟩ u1).cell? ⟨X, o + k * 10 + 1, none⟩ = some (.string nm) ∧ ((W.setCell ⟨w5.heap.size, 0, none⟩ u0).setCell ⟨w5.heap.size, 1, none⟩ u1).cell? ⟨X, o + k * 10 + 2, none⟩ = some (.slice qa ops.length ca) ∧ ((W.setCell ⟨w5.heap.size, 0, none⟩ u0).setCell ⟨w5.heap.size, 1, none⟩ u1).cell? ⟨X, o + k * 10 + 3, none⟩ = some (.bool ag) ∧ ((W.setCell ⟨w5.heap.size, 0, none⟩ u0).setCell ⟨w5.heap.size, 1, none⟩ u1).cell? ⟨X, o + k * 10 + 4, none⟩ = some (.int .i64 pt) ∧ ((W.setCell ⟨w5.heap.size, 0, none⟩ u0).setCell ⟨w5.heap.size, 1, none⟩ u1).cell? ⟨X, o + k * 10 + 5, none⟩ = some (.int .i64 pb) ∧ ((W.setCell ⟨w5.heap.size, 0, none⟩ u0).setCell ⟨w5.heap.size, 1, none⟩ u1).cell? ⟨X, o + k * 10 + 6, none⟩ = some (.int .i64 pf) ∧ ((W.setCell ⟨w5.heap.size, 0, none⟩ u0).setCell ⟨w5.heap.size, 1, none⟩ u1).cell? ⟨X, o + k * 10 + 7, none⟩ = some (.int .i64 pc) ∧ ((W.setCell ⟨w5.heap.size, 0, none⟩ u0).setCell ⟨w5.heap.size, 1, none⟩ u1).cell? ⟨X, o + k * 10 + 8, none⟩ = some (.int .i64 ck) ∧ ((W.setCell ⟨w5.heap.size, 0, none⟩ u0).setCell ⟨w5.heap.size, 1, none⟩ u1).cell? ⟨X, o + k * 10 + 9, none⟩ = some (.string ct))) := fun W u0 u1 h => by
          have k : ∀ b o', b ≠ w5.heap.size → ((W.setCell ⟨w5.heap.size, 0, none⟩ u0).setCell ⟨w5.heap.size, 1, none⟩ u1).cell? ⟨b, o', none⟩ = W.cell? ⟨b, o', none⟩ := fun b o' hb => World.cell?_of_block ((Below.heap_setCell _ _ _ _ hb).trans (Below.heap_setCell _ _ _ _ hb))
          obtain ⟨h0, h1, i0, i1, i2, i3, i4, i5, i6, i7, i8⟩ := h
          exact ⟨(k _ _ nr).trans h0, (k _ _ nr).trans h1, (k _ _ nX).trans i0, (k _ _ nX).trans i1, (k _ _ nX).trans i2, (k _ _ nX).trans i3, (k _ _ nX).trans i4, (k _ _ nX).trans i5, (k _ _ nX).trans i6, (k _ _ nX).trans i7, (k _ _ nX).trans i8⟩
        go_wp2_with fail
        go_region_held3 (fun w' => w'.cell? ⟨r10, 0, none⟩ = some (.slice py M.length cy) ∧ w'.cell? ⟨r10, 1, none⟩ = some (.bool fz) ∧ w'.cell? ⟨X, o + k * 10 + 1, none⟩ = some (.string nm) ∧ w'.cell? ⟨X, o + k * 10 + 2, none⟩ = some (.slice qa ops.length ca) ∧ w'.cell? ⟨X, o + k * 10 + 3, none⟩ = some (.bool ag) ∧ w'.cell? ⟨X, o + k * 10 + 4, none⟩ = some (.int .i64 pt) ∧ w'.cell? ⟨X, o + k * 10 + 5, none⟩ = some (.int .i64 pb) ∧ w'.cell? ⟨X, o + k * 10 + 6, none⟩ = some (.int .i64 pf) ∧ w'.cell? ⟨X, o + k * 10 + 7, none⟩ = some (.int .i64 pc) ∧ w'.cell? ⟨X, o + k * 10 + 8, none⟩ = some (.int .i64 ck) ∧ w'.cell? ⟨X, o + k * 10 + 9, none⟩ = some (.string ct)) (first | exact SF.out _ _ _ ⟨t0, t1, x0, x1, x2, x3, x4, x5, x6, x7, x8⟩ | go_keep)
          ((go_at_call 19; refine (RA.out _ (by first | exact Below.refl _ _ | exact (Below.refl _ _).drew | exact (balr w5 _).drew)).mono ?_; rintro e w6 ⟨v6, rfl, ra⟩; obtain ⟨M6, eM6, pa6⟩ := PA.radd (PA5.out.below (by first | exact (Below.refl _ _).drew | exact Below.refl _ _ | exact (balr w5 _).drew)) ra; have B56 : Hid (Below w5.heap.size w5 w6) := (by first | exact ((Below.refl _ _).drew).trans ra.bl | exact blr (balr w5 _).drew ra.bl); (try (have y16 := YB.below (w := (w5.alloc (.cells #[.slice none 0 0, .bool false] 26)).drew) (b := w5.heap.size) (heap_alloc_new w5 _) ra.bl; have Y16 := hidr y16; obtain ⟨s0, s1, sf⟩ := y16.cells; clear y16)); obtain ⟨p6, cc6, rfl, _⟩ := pa6.ho.form; have PA6 := hidr pa6; clear t0 t1 x0 x1 x2 x3 x4 x5 x6 x7 x8 ra pa6 eM6; obtain ⟨t0, t1, _⟩ := (Y105.out.below B56.out).cells; obtain ⟨x0, x1, x2, x3, x4, x5, x6, x7, x8⟩ := ACD.out w6 (BW5.out.trans (B56.out.mono BW5.out.size))))
        all_goals
          have lt10 := lt_heap Y105.out
          have lt7 := lt_heap Y75.out
          have lt13 := lt_heap PX5.out
          have r7w : w.heap.size ≤ w5.heap.size := BW5.out.size
          have PK : Hid (∀ W b16, (b16 = w6.heap.size ∧ W = w6.alloc (.cells #[.slice p6 M6.length cc6, .bool fz] 26)) ∨ (b16 = w5.heap.size ∧ W = (w6.setCell ⟨b16, 0, none⟩ (.slice p6 M6.length cc6)).setCell ⟨b16, 1, none⟩ (.bool fz) ∧ YB w6 b16 (.slice none 0 0) false) → PK8 w B R m r7 r10 b13 b16 fz (.slice py M.length cy) (.slice p6 M6.length cc6) M6 (.slice q1 ops.length c1) ops ⟨nm, ops, ag, ⟨pt, pb, pf, pc⟩, ck, ct⟩ W) := by
            rintro W b16 (⟨rfl, rfl⟩ | ⟨rfl, rfl, y⟩)
            · have b67 := balr w6 (.cells #[.slice p6 M6.length cc6, .bool fz] 26)
              have b57 := blr B56.out b67
              exact ⟨PA6.out.below b67, PX5.out.below b57, Y105.out.below b57, Y75.out.below b57, heap_alloc_new _ _, BW5.out.trans (b57.mono BW5.out.size)⟩
            · have f : ∀ b, b ≠ w5.heap.size → ((w6.setCell ⟨w5.heap.size, 0, none⟩ (.slice p6 M6.length cc6)).setCell ⟨w5.heap.size, 1, none⟩ (.bool fz)).heap[b]? = w6.heap[b]? := fun b hb => (Below.heap_setCell _ _ _ _ hb).trans (Below.heap_setCell _ _ _ _ hb)
              exact ⟨PA6.out.ysets y _ _, (f _ (by omega)).trans (PX5.out.below B56.out), (f _ (by omega)).trans (Y105.out.below B56.out), (f _ (by omega)).trans (Y75.out.below B56.out), y.sets _ _, ((BW5.out.trans (B56.out.mono BW5.out.size)).setCell r7w _).setCell r7w _⟩
          clear lt10 lt7 lt13 r7w PX5 Y105 Y75 PA5 PA6 RA
          generalize addN (pL M) fz _ = an at *
          generalize addE (pL M) fz _ = ae at *
          first
            | (have PK7 := hidr (PK.out _ w5.heap.size (Or.inr ⟨rfl, rfl, Y16.out⟩)); go_upto_region 18 with fail; generalize hW : World.setCell (World.setCell w6 _ _) _ _ = w7 at PK7 ⊢; generalize hb16 : w5.heap.size = b16 at PK7 ⊢)
            | (have PK7 := hidr (PK.out _ w6.heap.size (Or.inl ⟨rfl, rfl⟩)); go_upto_region 18 with fail; generalize hW : World.alloc w6 _ = w7 at PK7 ⊢; generalize hb16 : w6.heap.size = b16 at PK7 ⊢)
          clear hW hb16 t0 t1 x0 x1 x2 x3 x4 x5 x6 x7 x8
          have SM := hidr (fun W (b : Below w7.heap.size w7 W) => sameProv_same ⟨nm, ops, ag, ⟨pt, pb, pf, pc⟩, ck, ct⟩ (.slice q1 ops.length c1) (.slice qa ops.length ca) W ((PK7.out.pa.below b).ow.gs KO_ok.len) (PS2.out W (PK7.out.bw.trans (b.mono PK7.out.bw.size))).os (by have := (PS2.out W (PK7.out.bw.trans (b.mono PK7.out.bw.size))).ln; show ops.length ≤ _; have h9 : ops.length * 40 ≤ 140737488355328 := this; omega))
          simp only [prvV] at SM
          obtain ⟨z0, z1, z2, z3, z4, z5, z6, z7, z8⟩ := PBx.cells PK7.out.px
          obtain ⟨x0, x1, x2, x3, x4, x5, x6, x7, x8⟩ := ACD.out w7 PK7.out.bw
          clear SF nr nX PK PRM ML
          go_region_held3 (fun w' => w'.cell? ⟨b13, 0, none⟩ = some (.string nm) ∧ w'.cell? ⟨b13, 1, none⟩ = some (.slice q1 ops.length c1) ∧ w'.cell? ⟨b13, 2, none⟩ = some (.bool ag) ∧ w'.cell? ⟨b13, 3, none⟩ = some (.int .i64 pt) ∧ w'.cell? ⟨b13, 4, none⟩ = some (.int .i64 pb) ∧ w'.cell? ⟨b13, 5, none⟩ = some (.int .i64 pf) ∧ w'.cell? ⟨b13, 6, none⟩ = some (.int .i64 pc) ∧ w'.cell? ⟨b13, 7, none⟩ = some (.int .i64 ck) ∧ w'.cell? ⟨b13, 8, none⟩ = some (.string ct) ∧ w'.cell? ⟨X, o + k * 10 + 1, none⟩ = some (.string nm) ∧ w'.cell? ⟨X, o + k * 10 + 2, none⟩ = some (.slice qa ops.length ca) ∧ w'.cell? ⟨X, o + k * 10 + 3, none⟩ = some (.bool ag) ∧ w'.cell? ⟨X, o + k * 10 + 4, none⟩ = some (.int .i64 pt) ∧ w'.cell? ⟨X, o + k * 10 + 5, none⟩ = some (.int .i64 pb) ∧ w'.cell? ⟨X, o + k * 10 + 6, none⟩ = some (.int .i64 pf) ∧ w'.cell? ⟨X, o + k * 10 + 7, none⟩ = some (.int .i64 pc) ∧ w'.cell? ⟨X, o + k * 10 + 8, none⟩ = some (.int .i64 ck) ∧ w'.cell? ⟨X, o + k * 10 + 9, none⟩ = some (.string ct)) (go_keep)
            ((go_at_call 10; refine (SM.out _ (by first | exact Below.refl _ _ | exact (Below.refl _ _).drew)).mono ?_; rintro e w8 ⟨rfl, b8⟩; have B8 : Hid (Below w7.heap.size w7 w8) := ((Below.refl _ _).drew).trans b8; clear b8 z0 z1 z2 z3 z4 z5 z6 z7 z8 x0 x1 x2 x3 x4 x5 x6 x7 x8; obtain ⟨z0, z1, z2, z3, z4, z5, z6, z7, z8⟩ := PBx.cells (PK7.out.below B8.out).px; obtain ⟨x0, x1, x2, x3, x4, x5, x6, x7, x8⟩ := ACD.out w8 (PK7.out.below B8.out).bw))
          all_goals
            have PK9 := hidr (PK7.out.below B8.out)
            have SPc := hidr (spoil_but _ ops w8 _ PK9.out.pa.ow)
            clear PK7 B8 SM ACD PS2
            go_wp2_with fail
            refine SPc.out.mono ?_
            rintro e w9 ⟨rfl, k9⟩
            obtain ⟨hx9, bl9⟩ := PK9.out.pa.spoil k9
            have y10 := yb_own PK9.out.pa.ow k9 PK9.out.y10
            have y7 := yb_own PK9.out.pa.ow k9 PK9.out.y7
            have y16 := yb_own PK9.out.pa.ow k9 PK9.out.y16
            obtain ⟨u0, u1, _⟩ := y16.cells
            obtain ⟨t0, t1, tf⟩ := y10.cells
            have HH := hidr (hx9.ysets y10 (.slice p6 M6.length cc6) fz)
            have Y10 := hidr (y10.sets (.slice p6 M6.length cc6) fz)
            have Y7 := hidr ((y7.far2 (by have := R710.out; omega : r7 ≠ r10) 0 (.slice p6 M6.length cc6)).far2 (by have := R710.out; omega : r7 ≠ r10) 1 (.bool fz))
            have BH := hidr (((PK9.out.bw.trans (bl9.mono ZB.out)).setCell (by have := R710.out; have := ZB.out; show w.heap.size ≤ r10; omega) _ : Below w.heap.size w (w9.setCell ⟨r10, 0, none⟩ (.slice p6 M6.length cc6))).setCell (by have := R710.out; have := ZB.out; show w.heap.size ≤ r10; omega) _ : Below w.heap.size w ((w9.setCell ⟨r10, 0, none⟩ (.slice p6 M6.length cc6)).setCell ⟨r10, 1, none⟩ (.bool fz)))
            clear hx9 bl9 y10 y7 y16 k9 SPc PK9 z0 z1 z2 z3 z4 z5 z6 z7 z8 x0 x1 x2 x3 x4 x5 x6 x7 x8
            go_upto_region 25 with fail
            generalize hW : World.setCell (World.setCell w9 _ _) _ _ = w10 at HH Y10 Y7 BH ⊢
            clear hW u0 u1 t0 t1 tf
            have TD := hidr (HH.out.told (HV.out _ BH.out) s HS.out num)
            obtain ⟨t0, t1, _⟩ := Y10.out.cells
            go_wp2_with fail
            refine TD.out.mono ?_
            rintro e wT ⟨rfl, bT⟩
            have HT := hidr (HH.out.below bT)
            have YT := hidr (Y10.out.below bT)
            have Y7T := hidr (Y7.out.below bT)
            have BT := hidr (BH.out.trans (bT.mono BH.out.size))
            clear bT TD t0 t1
            go_wp2_with fail
            go_roundw
            case rel => exact ⟨k + 1, _, _, _, _, _, _, rfl, by go_num, rfl, by omega, HT, YT, Y7T, BT⟩
            case measure => simp [intOf]; omega
      · by_cases k5 : kd = 4
        · subst k5
          have FZ := hidr HH.out.freeze
          go_wp2_with fail
          refine FZ.out.mono ?_
          rintro e w3 ⟨rfl, hx3, hb3, yk3⟩
          have HH3 := hidr hx3
          have Y103 := hidr (yk3 _ _ _ Y10.out)
          have Y73 := hidr (yk3 _ _ _ Y7.out)
          have BH3 := hidr (BW.out.trans (hb3.mono ZB.out))
          clear hx3 hb3 yk3 FZ HH Y10 Y7 BW
          obtain ⟨t0, t1, tf⟩ := Y103.out.cells
          have HH := hidr (HH3.out.yset Y103.out 1 (.bool true))
          have Y10 : Hid (YB (w3.setCell ⟨r10, 1, none⟩ (.bool true)) r10 vy true) := heap_setCell_same w3 r10 1 _ _ (.bool true) Y103.out
          have Y7 := hidr (Y73.out.far2 (by have := R710.out; omega) 1 (.bool true) : YB (w3.setCell ⟨r10, 1, none⟩ (.bool true)) r7 (.slice none 0 0) false)
          have BH : Hid (Below w.heap.size w (w3.setCell ⟨r10, 1, none⟩ (.bool true))) := BH3.out.setCell (by have := R710.out; have := ZB.out; show w.heap.size ≤ r10; omega) _
          clear HH3 Y103 Y73 BH3
          go_upto_region 25 with fail
          generalize hW : World.setCell _ _ _ = w4 at HH Y10 Y7 BH ⊢
          clear hW t0 t1 tf
          obtain ⟨py, cy, rfl, _⟩ := HH.out.ho.form
          have TD := hidr (HH.out.told (HV.out _ BH.out) s HS.out num)
          obtain ⟨t0, t1, _⟩ := Y10.out.cells
          go_wp2_with fail
          refine TD.out.mono ?_
          rintro e wT ⟨rfl, bT⟩
          have HT := hidr (HH.out.below bT)
          have YT := hidr (Y10.out.below bT)
          have Y7T := hidr (Y7.out.below bT)
          have BT := hidr (BH.out.trans (bT.mono BH.out.size))
          clear bT TD t0 t1
          go_wp2_with fail
          go_roundw
          case rel => exact ⟨k + 1, _, _, _, _, _, _, rfl, by go_num, rfl, by omega, HT, YT, Y7T, BT⟩
          case measure => simp [intOf]; omega
        · have k5b : (kd == 4) = false := by simpa using k5
          have CLN := hidr HH.out.clone
          go_wp2_with fail
          refine CLN.out.mono ?_
          rintro e w3 ⟨R2, m2, rfl, b3, fz3⟩
          have FZ := hidr fz3
          have Y103 := hidr (Y10.out.below b3)
          have Y73 := hidr (Y7.out.below b3)
          have BH3 := hidr (BW.out.trans (b3.mono BW.out.size))
          clear b3 fz3 CLN HH Y10 Y7 BW
          go_wp2_with fail
          refine FZ.out.mono ?_
          rintro e w4 ⟨rfl, hx4, hb4, yk4⟩
          have HH := hidr hx4
          have Y10 := hidr (yk4 _ _ _ Y103.out)
          have Y7 := hidr (yk4 _ _ _ Y73.out)
          have BH := hidr (BH3.out.trans (hb4.mono ZB.out))
          clear hx4 hb4 yk4 FZ Y103 Y73 BH3
          obtain ⟨py, cy, rfl, _⟩ := HH.out.ho.form
          have TD := hidr (HH.out.told (HV.out _ BH.out) s HS.out num)
          obtain ⟨t0, t1, _⟩ := Y10.out.cells
          go_wp2_with fail
          refine TD.out.mono ?_
          rintro e wT ⟨rfl, bT⟩
          have HT := hidr (HH.out.below bT)
          have YT := hidr (Y10.out.below bT)
          have Y7T := hidr (Y7.out.below bT)
          have BT := hidr (BH.out.trans (bT.mono BH.out.size))
          clear bT TD t0 t1
          go_wp2_with fail
          go_roundw
          case rel => exact ⟨k + 1, _, _, _, _, _, _, rfl, by go_num, rfl, by omega, HT, YT, Y7T, BT⟩
          case measure => simp [intOf]; omega
    · obtain rfl : k = n := by omega
      have hk1 : ¬ (k : Int) < (k : Int) := by omega
      have TD := hidr (fun W (b : Below wr.heap.size wr W) => (HH.out.below b).told (HV.out _ (BW.out.trans (b.mono BW.out.size))) s HS.out num)
      obtain ⟨py, cy, rfl, _⟩ := HH.out.ho.form
      have YY := hidr (fun W (b : Below wr.heap.size wr W) => And.intro (Y10.out.below b).cells (Y7.out.below b).cells)
      obtain ⟨⟨t0, t1, _⟩, _⟩ := YY.out wr (Below.refl _ _)
      have ne1 : r10 ≠ r7 := by have := R710.out; omega
      have ne2 : r7 ≠ r10 := by have := R710.out; omega
      have Y7h := hidr Y7.out
      have RES := hidr (fun W (b : Below wr.heap.size wr W) => And.intro ((HH.out.below b).ysets (Y7h.out.below b) (.slice py M.length cy) fz) (And.intro (((BW.out.trans (b.mono BW.out.size)).setCell R710b.out (.slice py M.length cy) : Below w.heap.size w (W.setCell ⟨r7, 0, none⟩ (.slice py M.length cy))).setCell R710b.out (.bool fz) : Below w.heap.size w ((W.setCell ⟨r7, 0, none⟩ (.slice py M.length cy)).setCell ⟨r7, 1, none⟩ (.bool fz))) ((Y7h.out.below b).sets (.slice py M.length cy) fz)))
      go_wp2_with fail
      go_region_held3 (fun w' => w'.cell? ⟨r10, 0, none⟩ = some (.slice py M.length cy) ∧ w'.cell? ⟨r10, 1, none⟩ = some (.bool fz)) (go_keep)
        ((go_at_call 23; refine (TD.out _ (by first | exact Below.refl _ _ | exact (Below.refl _ _).drew)).mono ?_; rintro e wT ⟨rfl, bT⟩; have BT : Hid (Below wr.heap.size wr wT) := ((Below.refl _ _).drew).trans bT; clear t0 t1 bT; obtain ⟨⟨t0, t1, _⟩, u0, u1, uf⟩ := YY.out wT BT.out))
      all_goals
        obtain ⟨f1, f2, f3⟩ := RES.out wT BT.out
        have F1 := hidr f1
        have F2 := hidr f2
        obtain ⟨g0, g1, _⟩ := YB.cells f3
        clear f1 f2 f3 RES TD YY
        go_wp2_with fail
        refine bodyPost_ret (v := .tuple #[.pointer (some ⟨R, 0, none⟩), .agg #[.slice py M.length cy, .bool fz], .bool true]) (by simp [results, Tryd.results6, go_sem, g0, g1]) rfl ?_
        exact ⟨R, m, fz, _, M, B, rfl, ZB.out, F1.out, F2.out⟩
end Go.Proofs.YtffabehipcomfaaDoor
