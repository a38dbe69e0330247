/- Registry: Clone, its loop. -/
import Derived.Test.YtffabehipcomfaaDoorRd3
namespace Go.Proofs.YtffabehipcomfaaDoor
open Go.RowKit Go.Maps

theorem cells9r {w : World} {g n c k : Nat} {base : Nat} {M : List Pvx} (o : OwnG KP w base (.slice (some ⟨g, 0, none⟩) n c) M) (hn : M.length = n) (hk : k < M.length) : w.cell? ⟨g, k * 9, none⟩ = some (.string M[k].p.name) ∧ w.cell? ⟨g, k * 9 + 1, none⟩ = some (.slice M[k].q M[k].p.ops.length M[k].c) ∧ w.cell? ⟨g, k * 9 + 2, none⟩ = some (.bool M[k].p.again) ∧ w.cell? ⟨g, k * 9 + 3, none⟩ = some (.int .i64 M[k].p.pol.t) ∧ w.cell? ⟨g, k * 9 + 4, none⟩ = some (.int .i64 M[k].p.pol.b) ∧ w.cell? ⟨g, k * 9 + 5, none⟩ = some (.int .i64 M[k].p.pol.f) ∧ w.cell? ⟨g, k * 9 + 6, none⟩ = some (.int .i64 M[k].p.pol.c) ∧ w.cell? ⟨g, k * 9 + 7, none⟩ = some (.int .i64 M[k].p.ck) ∧ w.cell? ⟨g, k * 9 + 8, none⟩ = some (.string M[k].p.ct) := by
  subst hn
  obtain ⟨X, o', e1, h⟩ := (o.gs KP_ok.len).atP hk
  injection e1 with e1
  injection e1 with e1 e2 _
  subst e1 e2
  simpa using h
/-- Where Clone's row stands: the first k are copied. -/
structure CB (w wk : World) (g n : Nat) (L M : List Pvx) (k : Nat) : Prop where
  ln : M.length = n
  own : OwnG KP wk w.heap.size (.slice (some ⟨g, 0, none⟩) n n) M
  at_ : ∀ j, j < k → ∃ x y, M[j]? = some x ∧ L[j]? = some y ∧ x.p = y.p ∧ OwnG KO wk w.heap.size x.v x.p.ops
  bl : Below w.heap.size w wk
theorem CB.next {w wk W : World} {g n k : Nat} {L M : List Pvx} {x y : Pvx} (h : CB w wk g n L M k) (hk : k < n) (hb : Below wk.heap.size wk W) (hy : L[k]? = some y) (hx : x.p = y.p) (o : OwnG KO W wk.heap.size x.v x.p.ops) : CB w (((((((((W.setCell ⟨g, k * 9, none⟩ (.string x.p.name)).setCell ⟨g, k * 9 + 1, none⟩ (.slice x.q x.p.ops.length x.c)).setCell ⟨g, k * 9 + 2, none⟩ (.bool x.p.again)).setCell ⟨g, k * 9 + 3, none⟩ (.int .i64 x.p.pol.t)).setCell ⟨g, k * 9 + 4, none⟩ (.int .i64 x.p.pol.b)).setCell ⟨g, k * 9 + 5, none⟩ (.int .i64 x.p.pol.f)).setCell ⟨g, k * 9 + 6, none⟩ (.int .i64 x.p.pol.c)).setCell ⟨g, k * 9 + 7, none⟩ (.int .i64 x.p.ck)).setCell ⟨g, k * 9 + 8, none⟩ (.string x.p.ct)) g n L (M.set k x) (k + 1) := by
  have gg := (h.own.lt (g := g) rfl)
  have hs := hb.size
  have b2 := h.bl.trans (hb.mono h.bl.size)
  have ow := h.own.below hb
  have far : ∀ (v : Value) (l : List Opn) (b : Nat), OwnG KO W b v l → OwnG KO (((((((((W.setCell ⟨g, k * 9, none⟩ (.string x.p.name)).setCell ⟨g, k * 9 + 1, none⟩ (.slice x.q x.p.ops.length x.c)).setCell ⟨g, k * 9 + 2, none⟩ (.bool x.p.again)).setCell ⟨g, k * 9 + 3, none⟩ (.int .i64 x.p.pol.t)).setCell ⟨g, k * 9 + 4, none⟩ (.int .i64 x.p.pol.b)).setCell ⟨g, k * 9 + 5, none⟩ (.int .i64 x.p.pol.f)).setCell ⟨g, k * 9 + 6, none⟩ (.int .i64 x.p.pol.c)).setCell ⟨g, k * 9 + 7, none⟩ (.int .i64 x.p.ck)).setCell ⟨g, k * 9 + 8, none⟩ (.string x.p.ct)) b v l := fun v l b ob => ob.far fun q hq => by
    have hne : q ≠ g := fun e => own_apart (by decide) ob ow hq (by rw [e]; rfl)
    repeat rw [set_far (show q ≠ _ from hne)]
  refine ⟨by rw [List.length_set]; exact h.ln, ow.setP (by rw [h.ln]; exact hk) x, fun j hj => ?_, ?_⟩
  · by_cases e : j = k
    · subst e
      exact ⟨x, y, List.getElem?_set_self (by rw [h.ln]; exact hk), hy, hx, far _ _ _ (o.low h.bl.size)⟩
    · obtain ⟨x', y', e1, e2, e3, e4⟩ := h.at_ j (by omega)
      exact ⟨x', y', by rw [List.getElem?_set_ne (fun q => e q.symm)]; exact e1, e2, e3, far _ _ _ (e4.below hb)⟩
  · repeat' refine Below.setCell ?_ gg.1 _
    exact b2
theorem CB.fin {w wk : World} {g n : Nat} {L M : List Pvx} (h : CB w wk g n L M n) (hn : L.length = n) : pL M = pL L ∧ ∀ x ∈ M, OwnG KO wk w.heap.size x.v x.p.ops := by
  refine ⟨List.ext_getElem? fun j => ?_, fun x hx => ?_⟩
  · unfold pL
    rw [List.getElem?_map, List.getElem?_map]
    by_cases hj : j < n
    · obtain ⟨x, y, e1, e2, e3, _⟩ := h.at_ j hj
      rw [e1, e2]; simp [e3]
    · rw [List.getElem?_eq_none (by have := h.ln; omega), List.getElem?_eq_none (by omega)]
  · obtain ⟨j, hj, rfl⟩ := List.mem_iff_getElem.1 hx
    obtain ⟨x, y, e1, e2, e3, e4⟩ := h.at_ j (by have := h.ln; omega)
    rw [List.getElem?_eq_getElem hj] at e1
    injection e1 with e1
    rw [e1]; exact e4
theorem gx_clone {w w3 : World} {base r m : Nat} {vs : Value} {L M : List Pvx} {fz : Bool} {g n mb : Nat} (h : GX w base r m vs L fz) (c : CB w w3 g n L M n) (hn : L.length = n) (hm : MV w3 mb n (numF (nameL (pL L)))) (hmb : w.heap.size ≤ mb) : GX (w3.alloc (.cells #[.slice (some ⟨g, 0, none⟩) n n, .map (some mb), .bool fz] 66)) w.heap.size w3.heap.size mb (.slice (some ⟨g, 0, none⟩) n n) M fz := by
  obtain ⟨e1, e2⟩ := c.fin hn
  have b := balr w3 (.cells #[.slice (some ⟨g, 0, none⟩) n n, .map (some mb), .bool fz] 66)
  have in_ : ∀ x ∈ M, ∃ y ∈ L, y.p = x.p := fun x hx => by
    have : x.p ∈ pL L := by rw [← e1]; exact List.mem_map.2 ⟨x, hx, rfl⟩
    obtain ⟨y, hy, e⟩ := List.mem_map.1 this
    exact ⟨y, hy, e⟩
  refine ⟨heap_alloc_new _ _, ?_, c.own.below b, fun x hx => (e2 x hx).below b, fun x hx => ?_, fun x hx => ?_, fun x hx => ?_, by rw [e1]; exact h.nd, by rw [c.ln, ← hn]; exact h.ln, c.bl.size, hmb⟩
  · rw [c.ln, e1]; exact hm.below b
  · obtain ⟨y, hy, e⟩ := in_ x hx
    rw [← e]; exact h.ok y hy
  · obtain ⟨y, hy, e⟩ := in_ x hx
    rw [← e]; exact h.tx y hy
  · obtain ⟨y, hy, e⟩ := in_ x hx
    rw [← e]; exact h.nm y hy
theorem KP_zero : KP.z.cells.toList = KP.f ⟨⟨ByteArray.empty, [], false, ⟨0, 0, 0, 0⟩, 0, ByteArray.empty⟩, none, 0⟩ := rfl
set_option maxHeartbeats 8000000 in
set_option maxRecDepth 100000 in
theorem clone_any (w : World) {base r m : Nat} {vs : Value} {L : List Pvx} {fz : Bool} (h : GX w base r m vs L fz) :
    Calls Tryd.prog 22 #[.pointer (some ⟨r, 0, none⟩)] w fun e w' => ∃ R m' vs' L', e = .returned (.pointer (some ⟨R, 0, none⟩)) ∧ GX w' w.heap.size R m' vs' L' fz ∧ pL L' = pL L ∧ Below w.heap.size w w' := by
  have hln := h.ln
  have HX := hidr h
  obtain ⟨p, c, rfl⟩ := h.form
  obtain ⟨n, hn⟩ : ∃ n, n = L.length := ⟨_, rfl⟩
  have CL : Hid (∀ w', Below w.heap.size w w' → w'.cell? ⟨r, 0, none⟩ = some (.slice p n c) ∧ w'.cell? ⟨r, 1, none⟩ = some (.map (some m)) ∧ w'.cell? ⟨r, 2, none⟩ = some (.bool fz)) := fun w' b => by rw [hn]; have := (HX.out.below b).cells; exact ⟨this.1, this.2.1, this.2.2.1⟩
  have RO : Hid (∀ w', Below w.heap.size w w' → ∀ k (hk : k < L.length), ∃ X o, p = some ⟨X, o, none⟩ ∧ _) := fun w' b k hk => ((HX.out.below b).own.gs KP_ok.len).atP hk
  have CP : Hid (∀ w', Below w.heap.size w w' → ∀ k (hk : k < L.length), Calls Tryd.prog 25 #[prvV L[k].p L[k].v] w' fun e w2 => ∃ q c, e = .returned (prvV L[k].p (.slice q L[k].p.ops.length c)) ∧ OwnG KO w2 w'.heap.size (.slice q L[k].p.ops.length c) L[k].p.ops ∧ Below w'.heap.size w' w2) := fun w' b k hk => copied_any L[k].p L[k].v w' ((HX.out.below b).ps _ (List.getElem_mem hk)) (by have := chk_len (h.ok _ (List.getElem_mem hk)); omega)
  have MC : Hid (∀ w', Below w.heap.size w w' → _) := fun w' b => mclone_any w' m L.length (numF (nameL (pL L))) (h.below b).mv
  have c0 := (CL.out w (Below.refl _ _)).1
  have HN := hidr hn
  rw [← hn] at hln
  clear h hn
  go_enter Tryd.func22, Tryd.ntmps22
  go_wp2_with (at_make; refine make_w KP KP_ok ⟨⟨ByteArray.empty, [], false, ⟨0, 0, 0, 0⟩, 0, ByteArray.empty⟩, none, 0⟩ KP_zero _ rfl _ _ 24 rfl Tryd.underlying24 n rfl rfl (by omega) (by decide) ?_; intro w1 ho1 hb1; have c1 := (CL.out w1 hb1).1; have N0 : Hid (CB w w1 w.heap.size n L (List.replicate n ⟨⟨ByteArray.empty, [], false, ⟨0, 0, 0, 0⟩, 0, ByteArray.empty⟩, none, 0⟩) 0) := ⟨by simp, ho1, fun j hj => by omega, hb1⟩; clear ho1 hb1 c0)
  go_loopw [17] (fun v17 wr => ∃ (k : Nat) (M : List Pvx) (wk : World), v17 = .int .i64 k ∧ wk = wr ∧ k ≤ n ∧ Hid (CB w wk w.heap.size n L M k)) (fun v17 _ => n - (intOf v17).toNat)
  case atStart => exact ⟨0, _, _, rfl, rfl, Nat.zero_le _, N0⟩
  case round =>
    obtain ⟨k, M, wr, rfl, rfl, hk, HI⟩ := hrel
    clear N0 c1
    by_cases hlt : k < n
    · have hkl : k < L.length := by rw [← HN.out]; exact hlt
      have hk1 : (k : Int) < (n : Int) := by omega
      obtain ⟨X, o, e1, x0, x1, x2, x3, x4, x5, x6, x7, x8⟩ := RO.out wr HI.out.bl k hkl
      obtain rfl : p = some ⟨X, o, none⟩ := e1
      have CP1 := hidr (fun ob => CP.out (wr.alloc ob) (blr HI.out.bl (balr wr ob)) k hkl)
      have LK : Hid (L[k]? = some L[k]) := List.getElem?_eq_getElem hkl
      have NX := hidr (fun W x hb hx oo => HI.out.next (W := W) (x := x) hlt hb LK.out hx oo)
      have mlk : k < M.length := by rw [HI.out.ln]; exact hlt
      have C9 := hidr (fun W (hb : Below wr.heap.size wr W) => And.intro (cells9r (HI.out.own.below hb) HI.out.ln mlk) (own_frz (HI.out.own.below hb)))
      have PX : Hid (PBx (wr.alloc (.cells (prvC L[k].p L[k].v) 37)) wr.heap.size L[k].p L[k].v) := heap_alloc_new _ _
      generalize M[k] = z at *
      generalize L[k] = y at *
      obtain ⟨⟨nm, ops, ag, ⟨pt, pb, pf, pc⟩, ck, ct⟩, q, cq⟩ := y
      obtain ⟨⟨znm, zops, zag, ⟨zpt, zpb, zpf, zpc⟩, zck, zct⟩, zq, zcq⟩ := z
      simp only [prvV, prvC, Pvx.v] at *
      obtain ⟨y0, y1, y2, y3, y4, y5, y6, y7, y8⟩ := PBx.cells PX.out
      clear RO CP CL HX mlk
      go_wp2_with fail
      refine (CP1.out _).mono ?_
      rintro e w2 ⟨q2, cq2, rfl, o2, b2⟩
      obtain ⟨⟨s0, s1, s2, s3, s4, s5, s6, s7, s8⟩, sf⟩ := C9.out w2 (blr (balr wr _) b2)
      have N2 := hidr (NX.out w2 ⟨⟨nm, ops, ag, ⟨pt, pb, pf, pc⟩, ck, ct⟩, q2, cq2⟩ (blr (balr wr _) b2) rfl (o2.low (by simp)))
      clear o2 b2 NX C9 CP1 y0 y1 y2 y3 y4 y5 y6 y7 y8 x0 x1 x2 x3 x4 x5 x6 x7 x8
      go_wp2_with fail
      go_roundw
      case rel => exact ⟨k + 1, _, _, by go_num, rfl, by omega, N2⟩
      case measure => simp [intOf]; omega
    · obtain rfl : k = n := by omega
      have hk1 : ¬ (k : Int) < (k : Int) := by omega
      obtain ⟨c0, c1, c2⟩ := CL.out wr HI.out.bl
      have MC1 := hidr (MC.out wr HI.out.bl)
      have MC2 := hidr (MC.out wr.drew HI.out.bl.drew)
      have CC : Hid (∀ W, Below wr.heap.size wr W → W.cell? ⟨r, 1, none⟩ = some (.map (some m)) ∧ W.cell? ⟨r, 2, none⟩ = some (.bool fz)) := fun W b => (CL.out W (HI.out.bl.trans (b.mono HI.out.bl.size))).2
      have FIN := hidr (fun W (b : Below wr.heap.size wr W) mb (hm : MV W mb L.length (numF (nameL (pL L)))) (hmb : w.heap.size ≤ mb) => gx_clone (w3 := W) HX.out (⟨HI.out.ln, HI.out.own.below b, fun j hj => let ⟨x, y, a1, a2, a3, a4⟩ := HI.out.at_ j hj; ⟨x, y, a1, a2, a3, a4.below b⟩, HI.out.bl.trans (b.mono HI.out.bl.size)⟩ : CB w W w.heap.size k L M k) HN.out.symm (by rw [HN.out]; exact hm) hmb)
      have PL := hidr (HI.out.fin HN.out.symm).1
      have BB := hidr HI.out.bl
      clear RO CP MC CL HI
      go_wp2_with fail
      go_region_held3 (fun w' => w'.cell? ⟨r, 1, none⟩ = some (.map (some m)) ∧ w'.cell? ⟨r, 2, none⟩ = some (.bool fz)) (first | go_keep | exact CC.out _ (blr BM.out (balr _ _)))
        ((go_at_call 34; refine (show Calls _ _ _ _ _ from (by first | exact MC2.out | exact MC1.out)).mono ?_; rintro e w5 ⟨rfl, hm, hb⟩; have BM : Hid (Below wr.heap.size wr w5) := ((Below.refl _ _).drew).trans hb; have HM := hidr hm; obtain ⟨c1, c2⟩ := CC.out w5 BM.out; clear hm hb))
      all_goals
        go_wp2_with fail
        go_ret
        refine ⟨_, _, _, _, rfl, FIN.out w5 BM.out _ HM.out BB.out.size, PL.out, (BB.out.trans (BM.out.mono BB.out.size)).trans ((balr w5 _).mono (BB.out.trans (BM.out.mono BB.out.size)).size)⟩
end Go.Proofs.YtffabehipcomfaaDoor
