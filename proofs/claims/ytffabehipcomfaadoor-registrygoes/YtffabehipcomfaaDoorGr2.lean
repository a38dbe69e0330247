/- Rows of a call's own, of different types, lie apart. -/
import Derived.Test.YtffabehipcomfaaDoorQa3
import Derived.Test.YtffabehipcomfaaDoorPs2
import Derived.Deep.RegionHeld3
import Derived.Test.YtffabehipcomfaaDoorPz1
namespace Go.Proofs.YtffabehipcomfaaDoor
open Go.RowKit

theorem zeroSS (w : World) : (zeroValue 50).run Tryd.prog w = .ok (.slice none 0 0) w := by kernel_rfl
set_option maxHeartbeats 4000000 in
theorem provides_any (b n : Nat) (f : ByteArray → Option Value) (s : ByteArray) (w : World) (h : MV w b n f) (hs : s.size ≤ maxLen) :
    Calls Tryd.prog 59 #[.map (some b), .string s] w fun e w' => e = .returned (.bool (f s).isSome) ∧ w' = w := by
  have H : Hid (MV w b n f) := h
  clear h
  go_enter Tryd.func59, Tryd.ntmps59
  go_wp2_with (at_lookup; refine mv_ok rfl _ _ 95 rfl 50 Tryd.underlying95 (zeroSS _) b n f rfl H.out s rfl hs ?_)
  go_ret
  exact ⟨rfl, rfl⟩
theorem FBx.set {w : World} {g : Nat} {a b : Int} (h : FBx w g a b) (x y : Int) : FBx ((w.setCell ⟨g, 0, none⟩ (.int .i64 x)).setCell ⟨g, 1, none⟩ (.int .i64 y)) g x y := by
  have e0 := heap_setCell_same w g 0 _ _ (.int .i64 x) h
  have e1 := heap_setCell_same _ g 1 _ _ (.int .i64 y) e0
  unfold FBx
  rw [e1]; rfl
theorem FBx.setA {w : World} {g : Nat} {a b : Int} (h : FBx w g a b) (x y : Int) : (∀ ob, (((w.setCell ⟨g, 0, none⟩ (.int .i64 x)).setCell ⟨g, 1, none⟩ (.int .i64 y)).alloc ob).cell? ⟨g, 0, none⟩ = some (.int .i64 x)) ∧ ∀ ob, (((w.setCell ⟨g, 0, none⟩ (.int .i64 x)).setCell ⟨g, 1, none⟩ (.int .i64 y)).alloc ob).cell? ⟨g, 1, none⟩ = some (.int .i64 y) := by
  have q := fun ob => ((h.set x y).below ((Below.refl _ _).alloc (Nat.le_refl _) ob)).cells
  exact ⟨fun ob => (q ob).1, fun ob => (q ob).2⟩
/-- A row lies in no map's block. -/
theorem own_mp {α : Type} {K : RK α} {w : World} {b b' n : Nat} {v : Value} {l : List α} {f : ByteArray → Option Value} (h : OwnG K w b v l) (h' : MV w b' n f) {g : Nat} (hg : v.ownBlock = some g) : g ≠ b' := by
  rcases h.2 with ⟨e, _⟩ | ⟨g1, cap, cur, e1, _, e3, _⟩
  · rw [e] at hg; cases hg
  · obtain ⟨D, ⟨es, cl, h1, _⟩, _⟩ := h'
    rw [e1] at hg
    injection hg with hg
    have e4 : g1 = g := hg
    subst e4
    intro q
    subst q
    rw [e3] at h1
    cases h1
theorem own_fb {w : World} {g b' n : Nat} {a b : Int} {f : ByteArray → Option Value} (h : FBx w g a b) (h' : MV w b' n f) : g ≠ b' := by
  obtain ⟨D, ⟨es, cl, h1, _⟩, _⟩ := h'
  intro q
  subst q
  unfold FBx at h
  rw [h] at h1
  cases h1
/-- What the first k providers ask for is in the map. -/
structure AKI (w wk : World) (b : Nat) (L : List Pvx) (k : Nat) (f : ByteArray → Option Value) : Prop where
  bl : Below w.heap.size w wk
  lo : w.heap.size ≤ b
  mv : MV wk b k f
  hs : ∀ s, (f s).isSome = seenK (nameL (pL L)) k s
  each : ∀ j (_ : j < k) (hl : j < L.length), ∃ p c, f L[j].p.name = some (.slice p (textsL L[j].p.ops 3).length c) ∧ OwnG KS wk w.heap.size (.slice p (textsL L[j].p.ops 3).length c) (textsL L[j].p.ops 3)
theorem AKI.next {w wk w1 w2 : World} {b : Nat} {L : List Pvx} {k : Nat} {f : ByteArray → Option Value} (h : AKI w wk b L k f) (hk : k < L.length) (hd : dupB (pL L) k = false) (b1 : Below wk.heap.size wk w1) {p : Option Addr} {c : Nat}
    (o1 : OwnG KS w1 wk.heap.size (.slice p (textsL L[k].p.ops 3).length c) (textsL L[k].p.ops 3)) (m2 : MV w2 b (k + 1) (putF f L[k].p.name (.slice p (textsL L[k].p.ops 3).length c))) (b2 : But (fun x => x = b) w1 w2) : AKI w w2 b L (k + 1) (putF f L[k].p.name (.slice p (textsL L[k].p.ops 3).length c)) := by
  have s1 := h.bl.size
  have s2 := b1.size
  have hlo := h.lo
  have hm1 : MV w1 b k f := h.mv.below b1
  refine ⟨(h.bl.trans (b1.mono s1)).trans ⟨b2.os, b2.tape, b2.output, b2.size, fun x hx => b2.block x (by omega) (by omega)⟩, hlo, m2, fun s => ?_, fun j hj hl => ?_⟩
  · have e2 : (nameL (pL L))[k]'(by rw [nameL_len]; exact hk) = L[k].p.name := by
      rw [← nameL_at hk]; simp [List.getD, nameL_len, hk]
    rw [seenK_next _ (by rw [nameL_len]; exact hk), e2]
    unfold putF
    by_cases e : s = L[k].p.name
    · rw [if_pos e]; simp [e]
    · rw [if_neg e, h.hs]; simp [e]
  · by_cases e : j = k
    · subst e
      refine ⟨p, c, by unfold putF; rw [if_pos rfl], (o1.low s1).far fun g hg => b2.block g (o1.lt hg).2 (own_mp o1 hm1 hg)⟩
    · obtain ⟨p', c', e1, o'⟩ := h.each j (by omega) hl
      have hne : L[j].p.name ≠ L[k].p.name := by
        intro q
        have : dupB (pL L) k = true := by
          unfold dupB
          rw [nameL_at hk, ← q]
          unfold seenK
          rw [List.any_eq_true]
          refine ⟨L[j].p.name, ?_, by simp⟩
          rw [List.mem_take_iff_getElem]
          exact ⟨j, by rw [nameL_len]; omega, by unfold nameL pL; simp⟩
        rw [this] at hd; cases hd
      refine ⟨p', c', by unfold putF; rw [if_neg hne]; exact e1, ?_⟩
      have o2 := o'.below b1
      exact o2.far fun g hg => b2.block g (o2.lt hg).2 (own_mp o2 hm1 hg)
theorem own_fx {α : Type} {K : RK α} {w : World} {b g : Nat} {a c : Int} {v : Value} {l : List α} (hK : K.ty ≠ 83) (h : OwnG K w b v l) (h' : FBx w g a c) {x : Nat} (hx : v.ownBlock = some x) : x ≠ g := by
  rcases h.2 with ⟨e, _⟩ | ⟨g1, cap, cur, e1, _, e3, _⟩
  · rw [e] at hx; cases hx
  · rw [e1] at hx
    injection hx with hx
    have e4 : g1 = x := hx
    subst e4
    intro q
    subst q
    unfold FBx at h'
    rw [e3] at h'
    injection h' with h'
    injection h' with _ h'
    exact hK h'
theorem AKI.set {w wk : World} {b : Nat} {L : List Pvx} {k : Nat} {f : ByteArray → Option Value} (h : AKI w wk b L k f) (hf : FBx wk w.heap.size 0 0) (u0 u1 : Value) : AKI w ((wk.setCell ⟨w.heap.size, 0, none⟩ u0).setCell ⟨w.heap.size, 1, none⟩ u1) b L k f := by
  have k2 : ∀ x, x ≠ w.heap.size → ((wk.setCell ⟨w.heap.size, 0, none⟩ u0).setCell ⟨w.heap.size, 1, none⟩ u1).heap[x]? = wk.heap[x]? := fun x hx => by rw [set_far hx, set_far hx]
  have hb := own_fb hf h.mv
  refine ⟨below_set2 h.bl (Nat.le_refl _) _ _, h.lo, h.mv.far (k2 b (Ne.symm hb)), h.hs, fun j hj hl => ?_⟩
  obtain ⟨p, c, e, o⟩ := h.each j hj hl
  exact ⟨p, c, e, o.far fun g hg => k2 g (own_fx (by decide) o hf hg)⟩
theorem prvE_ops {p : Prv} (h : prvE p = 0) : chkO p.ops = 0 ∧ nameB p.name = true := by
  unfold prvE at h
  split at h
  · rename_i hn
    split at h
    · rename_i hc; exact ⟨hc, hn⟩
    · rename_i hc; exact absurd h hc
  · cases h
set_option maxHeartbeats 4000000 in
theorem askingOf_no (v : Value) (L : List Pvx) (w : World) (h : PR w v L) (hv : NV w) (hn : (setF (pL L)).2 ≠ 0) :
    Calls Tryd.prog 57 #[v] w fun e w' => e = .returned (.tuple #[.map none, .agg #[.int .i64 (setF (pL L)).1, .int .i64 (setF (pL L)).2]]) ∧ Below w.heap.size w w' := by
  have CS : Hid (∀ w1, Below w.heap.size w w1 → _) := fun w1 b => checkSet_any v L w1 (h.below b) (hv.below b)
  have A0 : Hid (∀ ob, Below w.heap.size w (w.alloc ob)) := fun ob => (Below.refl _ _).alloc (Nat.le_refl _) ob
  have F0 : Hid (FBx (w.alloc (.cells #[.int .i64 0, .int .i64 0] 83)) w.heap.size 0 0) := heap_alloc_new _ _
  obtain ⟨p, cap, rfl⟩ := h.gs.form
  generalize setF (pL L) = R at *
  obtain ⟨ra, rc⟩ := R
  have h1 : (rc == 0) = false := by simpa using hn
  have h2 : (rc != 0) = true := by simpa using hn
  clear h hv
  go_enter Tryd.func57, Tryd.ntmps57
  go_wp2_with fail
  refine Calls.mono (CS.out _ (A0.out _)) ?_
  rintro e w1 ⟨rfl, hb1⟩
  have B1 : Hid (Below w.heap.size w w1) := (A0.out _).trans (hb1.mono (A0.out _).size)
  have F1 : Hid (FBx w1 w.heap.size 0 0) := F0.out.below hb1
  clear hb1 CS
  obtain ⟨y0, y1⟩ := F1.out.cells
  have fz := F1.out.fz
  have zl := F1.out.lt
  obtain ⟨z0, z1⟩ := F1.out.setA ra rc
  go_wp2_with fail
  go_region
  all_goals
    go_wp2_with fail
    refine bodyPost_ret (v := .tuple #[.map none, .agg #[.int .i64 ra, .int .i64 rc]]) (by simp [results, Tryd.results57, go_sem, z0, z1]) rfl ⟨rfl, ?_⟩
    exact (below_alloc' (below_set2 B1.out (Nat.le_refl _) _ _) _).drew
set_option maxHeartbeats 8000000 in
theorem askingOf_ok (v : Value) (L : List Pvx) (w : World) (h : PR w v L) (hv : NV w) (hn : (setF (pL L)).2 = 0) :
    Calls Tryd.prog 57 #[v] w fun e w' => ∃ b f, e = .returned (.tuple #[.map (some b), .agg #[.int .i64 0, .int .i64 0]]) ∧ AKI w w' b L L.length f := by
  obtain ⟨hl, hg, hd, hz⟩ := setF_fine hn
  rw [pL_len] at hl
  have HG : Hid (∀ k (hk : k < L.length), chkO L[k].p.ops = 0 ∧ nameB L[k].p.name = true) := fun k hk => by
    have := hg k (by rw [pL_len]; exact hk)
    rw [pL_at hk] at this
    exact prvE_ops this
  have HD : Hid (∀ k, k < L.length → dupB (pL L) k = false) := fun k hk => hd k (by rw [pL_len]; exact hk)
  have CS : Hid (∀ w1, Below w.heap.size w w1 → Calls Tryd.prog 78 #[v] w1 fun e w' => e = .returned (.agg #[.int .i64 0, .int .i64 0]) ∧ Below w1.heap.size w1 w') := fun w1 b => by
    have := checkSet_any v L w1 (h.below b) (hv.below b)
    rw [hz] at this
    exact this
  have A0 : Hid (∀ ob, Below w.heap.size w (w.alloc ob)) := fun ob => (Below.refl _ _).alloc (Nat.le_refl _) ob
  have F0 : Hid (FBx (w.alloc (.cells #[.int .i64 0, .int .i64 0] 83)) w.heap.size 0 0) := heap_alloc_new _ _
  obtain ⟨p, cap, rfl⟩ := h.gs.form
  have HS : Hid (PR w (.slice p L.length cap) L) := h
  have hmm := @run_makeMap Tryd.prog
  have TX : Hid (∀ w1 k (hk : k < L.length), Below w.heap.size w w1 → Calls Tryd.prog 76 #[.slice L[k].q L[k].p.ops.length L[k].c, .int .i64 3] w1 fun e w' => ∃ p c, e = .returned (.slice p (textsL L[k].p.ops 3).length c) ∧ OwnG KS w' w1.heap.size (.slice p (textsL L[k].p.ops 3).length c) (textsL L[k].p.ops 3) ∧ Below w1.heap.size w1 w') := fun w1 k hk b => textsOf_any _ _ 3 w1 ((h.ps _ (List.getElem_mem hk)).below b).os (chkO_ok (HG.out k hk).1).1 (h.ps _ (List.getElem_mem hk)).tx
  have NM : Hid (∀ k (hk : k < L.length), L[k].p.name.size ≤ maxLen) := fun k hk => (h.ps _ (List.getElem_mem hk)).nm
  clear h hv hn hg hd hz
  go_enter Tryd.func57, Tryd.ntmps57
  go_wp2_with fail
  refine Calls.mono (CS.out _ (A0.out _)) ?_
  rintro e w1 ⟨rfl, hb1⟩
  have B1 : Hid (Below w.heap.size w w1) := (A0.out _).trans (hb1.mono (A0.out _).size)
  have F1 : Hid (FBx w1 w.heap.size 0 0) := F0.out.below hb1
  clear hb1 CS F0
  have D0 : Hid (∀ ob, FBx ((w1.alloc ob).alloc (.map #[] 0)) w.heap.size 0 0 ∧ AKI w ((w1.alloc ob).alloc (.map #[] 0)) (w1.heap.size + 1) L 0 (fun _ => none)) := fun ob => by
    have b2 : Below w1.heap.size w1 ((w1.alloc ob).alloc (.map #[] 0)) := ((Below.refl _ _).alloc (Nat.le_refl _) _).alloc (by simp) _
    refine ⟨F1.out.below b2, B1.out.trans (b2.mono B1.out.size), by have := B1.out.size; omega, ?_, fun s => by simp [seenK], fun j hj => by omega⟩
    have := MV.made (w1.alloc ob)
    rw [show (w1.alloc ob).heap.size = w1.heap.size + 1 by simp] at this
    exact this
  go_wp2_with fail
  generalize w1.heap.size + 1 = b at *
  go_loopw [17] (fun v17 wr => ∃ (k : Nat) (wk : World) (f : ByteArray → Option Value), v17 = .int .i64 k ∧ wk = wr ∧ k ≤ L.length ∧ Hid (FBx wk w.heap.size 0 0 ∧ AKI w wk b L k f)) (fun v17 _ => L.length - (intOf v17).toNat)
  case atStart => exact ⟨0, _, _, rfl, rfl, Nat.zero_le _, D0.out _⟩
  case round =>
    obtain ⟨k, wr, f, rfl, rfl, hk, HI⟩ := hrel
    clear D0
    by_cases hlt : k < L.length
    · obtain ⟨X, o, e1, x0, x1, x2, x3, x4, x5, x6, x7, x8⟩ := (HS.out.gs.below HI.out.2.bl).atP hlt
      obtain rfl : p = some ⟨X, o, none⟩ := e1
      have nm := NM.out k hlt
      have PN : Hid (PBx (wr.alloc (.cells #[.string L[k].p.name, .slice L[k].q L[k].p.ops.length L[k].c, .bool L[k].p.again, .int .i64 L[k].p.pol.t, .int .i64 L[k].p.pol.b, .int .i64 L[k].p.pol.f, .int .i64 L[k].p.pol.c, .int .i64 L[k].p.ck, .string L[k].p.ct] 37)) wr.heap.size L[k].p (.slice L[k].q L[k].p.ops.length L[k].c)) := heap_alloc_new _ _
      have T1 : Hid (∀ w2, Below wr.heap.size wr w2 → _) := fun w2 c => TX.out w2 k hlt (HI.out.2.bl.trans (c.mono HI.out.2.bl.size))
      have NX : Hid (∀ w1 w2 p c, Below wr.heap.size wr w1 → OwnG KS w1 wr.heap.size (.slice p (textsL L[k].p.ops 3).length c) (textsL L[k].p.ops 3) → MV w2 b (k + 1) (putF f L[k].p.name (.slice p (textsL L[k].p.ops 3).length c)) → But (fun x => x = b) w1 w2 → FBx w2 w.heap.size 0 0 ∧ AKI w w2 b L (k + 1) (putF f L[k].p.name (.slice p (textsL L[k].p.ops 3).length c))) := fun w1 w2 p c b1 o1 m2 b2 => ⟨(HI.out.1.below b1).far (b2.block _ (Nat.lt_of_lt_of_le HI.out.1.lt b1.size) (by have := HI.out.2.lo; have := HI.out.1.lt; have := own_fb HI.out.1 HI.out.2.mv; omega)), HI.out.2.next hlt (HD.out k hlt) b1 o1 m2 b2⟩
      have MW : Hid (∀ w2, Below wr.heap.size wr w2 → MV w2 b k f) := fun w2 c => HI.out.2.mv.below c
      have AL : Hid (∀ ob, Below wr.heap.size wr (wr.alloc ob)) := fun ob => (Below.refl _ _).alloc (Nat.le_refl _) ob
      obtain ⟨c, hc⟩ : ∃ c, c = L[k] := ⟨_, rfl⟩
      rw [← hc] at x0 x1 x2 x3 x4 x5 x6 x7 x8 PN T1 NX nm
      clear hc TX NM HD HG HS
      go_wp2_with fail
      generalize hW : wr.alloc _ = wq at *
      obtain ⟨y0, y1, _⟩ := PN.out.cells
      have BQ : Hid (Below wr.heap.size wr wq) := by rw [← hW]; exact AL.out _
      have NW : Hid (∀ w1 w2 p cq, Below wq.heap.size wq w1 → OwnG KS w1 wq.heap.size (.slice p (textsL c.p.ops 3).length cq) (textsL c.p.ops 3) → MV w2 b (k + 1) (putF f c.p.name (.slice p (textsL c.p.ops 3).length cq)) → But (fun x => x = b) w1 w2 → ∃ f', FBx w2 w.heap.size 0 0 ∧ AKI w w2 b L (k + 1) f') := fun w1 w2 p cq b1 o1 m2 b2 => ⟨_, NX.out w1 w2 p cq (BQ.out.trans (b1.mono BQ.out.size)) (o1.low BQ.out.size) m2 b2⟩
      have UP : Hid (∀ w1 val, Below wq.heap.size wq w1 → ∃ w', (Instr.mapUpdate 95 (.map (some b)) (.string c.p.name) val).run Tryd.prog w1 = .ok () w' ∧ MV w' b (k + 1) (putF f c.p.name val) ∧ But (fun x => x = b) w1 w') := fun w1 val b1 => (MW.out w1 (BQ.out.trans (b1.mono BQ.out.size))).put Tryd.underlying95 (by unfold maxLen; omega) nm val
      have T2 : Hid (∀ w2, Below wq.heap.size wq w2 → _) := fun w2 b1 => T1.out w2 (BQ.out.trans (b1.mono BQ.out.size))
      have Y0 : Hid (∀ wx, Below wq.heap.size wq wx → wx.cell? ⟨wr.heap.size, 0, none⟩ = some (.string c.p.name)) := fun wx b => (b.cell (p := ⟨wr.heap.size, 0, none⟩) (block_lt_of_cell y0)).trans y0
      have Y1 : Hid (∀ wx, Below wq.heap.size wq wx → wx.cell? ⟨wr.heap.size, 1, none⟩ = some (.slice c.q c.p.ops.length c.c)) := fun wx b => (b.cell (p := ⟨wr.heap.size, 1, none⟩) (block_lt_of_cell y1)).trans y1
      have BR : Hid (Below wq.heap.size wq wq) := Below.refl _ _
      have hgb : wr.heap.size ≠ b := by
        obtain ⟨D, ⟨es, cl, h1, _⟩, _⟩ := MW.out wq BQ.out
        have h2 := PN.out
        unfold PBx at h2
        intro q
        rw [q] at h2
        rw [h2] at h1
        cases h1
      have HW : Hid (∀ w1 w2 o u, w1.cell? ⟨wr.heap.size, o, none⟩ = some u → But (fun x => x = b) w1 w2 → w2.cell? ⟨wr.heap.size, o, none⟩ = some u) := fun w1 w2 o u hc hb => (World.cell?_of_block (w := w1) (a := ⟨wr.heap.size, o, none⟩) (hb.block _ (block_lt_of_cell hc) hgb)).trans hc
      have BD : Hid (Below wq.heap.size wq wq.drew) := (Below.refl _ _).drew
      generalize wr.heap.size = gg at *
      generalize textsL c.p.ops 3 = TT at *
      clear x0 x1 x2 x3 x4 x5 x6 x7 x8 PN T1 NX MW AL hW HI nm BQ
      go_region_held3 (fun w' => w'.cell? ⟨gg, 0, none⟩ = some (.string c.p.name) ∧ w'.cell? ⟨gg, 1, none⟩ = some (.slice c.q c.p.ops.length c.c)) (go_keep) (first | (go_at_call 76; refine Calls.mono (T2.out _ ?_) ?_; (first | exact BR.out | exact BD.out); rintro e w3 ⟨p3, c3, rfl, o3, b3⟩; have B3 : Hid (Below wq.heap.size wq w3) := (by first | exact b3 | exact BD.out.trans (b3.mono BD.out.size)); have yc0 := Y0.out _ B3.out; have yc1 := Y1.out _ B3.out; have O3 : Hid (OwnG KS w3 wq.heap.size (.slice p3 TT.length c3) TT) := o3; obtain ⟨w9, hrun, hmv, hbt⟩ := UP.out w3 (.slice p3 TT.length c3) B3.out; have HM9 : Hid (∃ f', FBx w9 w.heap.size 0 0 ∧ AKI w w9 b L (k + 1) f') := NW.out _ _ _ _ B3.out O3.out hmv hbt; have z90 := HW.out _ _ _ _ yc0 hbt; have z91 := HW.out _ _ _ _ yc1 hbt; clear hmv hbt o3 b3))
      all_goals
        go_wp2_with fail
        obtain ⟨f', hf'⟩ := HM9.out
        have N9 : Hid (FBx w9 w.heap.size 0 0 ∧ AKI w w9 b L (k + 1) f') := hf'
        clear hf' HM9
        go_roundw
        case rel => exact ⟨k + 1, _, f', by go_num, rfl, by omega, N9⟩
        case measure => simp [intOf]; omega
    · have hke : k = L.length := by omega
      subst hke
      obtain ⟨y0, y1⟩ := HI.out.1.cells
      have fz := HI.out.1.fz
      have zl := HI.out.1.lt
      have AS : Hid (∀ u0 u1, AKI w ((wr.setCell ⟨w.heap.size, 0, none⟩ u0).setCell ⟨w.heap.size, 1, none⟩ u1) b L L.length f) := fun u0 u1 => HI.out.2.set HI.out.1 u0 u1
      go_wp2_with fail
      exact bodyPost_ret (v := .tuple #[.map (some b), .agg #[.int .i64 0, .int .i64 0]]) (by simp [results, Tryd.results57, go_sem, y0, y1]) rfl ⟨b, f, rfl, AS.out _ _⟩
end Go.Proofs.YtffabehipcomfaaDoor
namespace Go.Proofs.YtffabehipcomfaaDoor
open Go.RowKit

theorem OwnG.ty {α : Type} {K : RK α} {w : World} {base : Nat} {v : Value} {l : List α} (h : OwnG K w base v l) {g : Nat} (hg : v.ownBlock = some g) : ∃ cur, w.heap[g]? = some (.cells cur K.ty) := by
  rcases h.2 with ⟨e, _⟩ | ⟨g', cap, cur, e, _, e3, _⟩
  · rw [e] at hg; cases hg
  · rw [e] at hg
    injection hg with hg
    have e9 : g' = g := hg
    subst e9
    exact ⟨cur, e3⟩
theorem OwnG.apart {α β : Type} {K : RK α} {J : RK β} {w : World} {base bas' : Nat} {v u : Value} {l : List α} {m : List β} (h : OwnG K w base v l) (k : OwnG J w bas' u m) (ht : K.ty ≠ J.ty) {g : Nat} (hg : u.ownBlock = some g) : v.ownBlock ≠ some g := fun e => by
  obtain ⟨c1, h1⟩ := h.ty e
  obtain ⟨c2, h2⟩ := k.ty hg
  rw [h1] at h2
  injection h2 with h2
  injection h2 with _ h2 _
  exact ht h2
theorem OwnG.notat {α : Type} {K : RK α} {w : World} {base B : Nat} {v : Value} {l : List α} {arr : Array Value} {t : TypeId} (h : OwnG K w base v l) (hB : w.heap[B]? = some (.cells arr t)) (ht : K.ty ≠ t) : v.ownBlock ≠ some B := fun e => by
  obtain ⟨c1, h1⟩ := h.ty e
  rw [h1] at hB
  injection hB with h2
  injection h2 with _ h2 _
  exact ht h2
end Go.Proofs.YtffabehipcomfaaDoor
