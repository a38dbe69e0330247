/- Registry, the statements: each. -/
import Derived.Test.YtffabehipcomfaaDoorRe1
import Derived.Test.YtffabehipcomfaaDoorRe3
import Derived.Test.YtffabehipcomfaaDoorRd7
namespace Go.Proofs.YtffabehipcomfaaDoor
open Go.RowKit Go.Shelf Go.Maps
attribute [local go_sem] Oper.semAt_some

theorem eqIt (n : Nat) (b : Array Value) (w : World) : Sem.run Tryd.prog (binOp .eql 40 (.func (.func n) #[] b) .nilFunc) w = .ok (.bool false) w := by kernel_rfl
/-- Where each's range stands behind k rounds: all that was there stays, but the counter. -/
structure ES (w V : World) (nb k : Nat) (W : World) : Prop where
  bl : Below w.heap.size w W
  sz : V.heap.size ≤ W.heap.size
  kp : ∀ g, g < V.heap.size → g ≠ nb → W.heap[g]? = V.heap[g]?
  ct : W.heap[nb]? = some (.cells #[.int .i64 (k : Nat)] 3)
theorem ES.below {w V A B : World} {nb k : Nat} (h : ES w V nb k A) (hn : nb < V.heap.size) (hw : w.heap.size ≤ V.heap.size) (b : Below A.heap.size A B) : ES w V nb k B :=
  ⟨h.bl.trans (b.mono (Nat.le_trans hw h.sz)), Nat.le_trans h.sz b.size, fun g hg hne => (b.block g (by have := h.sz; omega)).trans (h.kp g hg hne), (b.block nb (by have := h.sz; omega)).trans h.ct⟩
theorem ES.put {w V A : World} {nb k l : Nat} {o : Obj} (h : ES w V nb k A) (hn : nb < V.heap.size) (hw : w.heap.size ≤ V.heap.size) (hl : V.heap.size ≤ l) : ES w V nb k (A.putObj l o) :=
  ⟨⟨h.bl.os, h.bl.tape, h.bl.output, by simpa using h.bl.size, fun g hg => (World.putObj_heap_other (by omega)).trans (h.bl.block g hg)⟩, by simpa using h.sz, fun g hg hne => (World.putObj_heap_other (by omega)).trans (h.kp g hg hne), (World.putObj_heap_other (by omega)).trans h.ct⟩
theorem kpr_put {F : Nat → Prop} {W : World} {l : Nat} {o : Obj} (h : ∀ g, F g → g < l) : KpR F W (W.putObj l o) := ⟨fun g hg _ => World.putObj_heap_other (by have := h g hg; omega), by simp⟩
/-- What the assignment leaves: the number, and a box with the provider. -/
structure EAx (V : World) (L : List Pvx) (k : Nat) (x : Array Value) (pb : Nat) (q : Option Addr) (c : Nat) (W : World) : Prop where
  hk : k < L.length
  ex : x = #[.int .i64 (k : Nat), prvV L[k].p (.slice q L[k].p.ops.length c)]
  bx : PBx W pb L[k].p (.slice q L[k].p.ops.length c)
  lt : V.heap.size ≤ pb
  ow : OwnG KO W V.heap.size (.slice q L[k].p.ops.length c) L[k].p.ops
theorem EAx.put {V A : World} {L : List Pvx} {k pb c l : Nat} {x : Array Value} {q : Option Addr} {r : Loop} {o : Obj} (h : EAx V L k x pb q c A) (hl : A.heap[l]? = some (.loop r)) : EAx V L k x pb q c (A.putObj l o) := by
  refine ⟨h.hk, h.ex, ?_, h.lt, h.ow.far fun g hg => World.putObj_heap_other (fun e => ?_)⟩
  · have h1 := h.bx
    unfold PBx at h1 ⊢
    refine (World.putObj_heap_other (fun e => ?_)).trans h1
    subst e
    rw [hl] at h1
    cases h1
  · obtain ⟨cur, hc⟩ := h.ow.ty hg
    subst e
    rw [hl] at hc
    cases hc
set_option maxRecDepth 100000 in
set_option maxHeartbeats 4000000 in
theorem told_each (w : World) {base r m : Nat} {vs vh : Value} {L M : List Pvx} {fz fy : Bool} (h : GX w base r m vs L fz) (hm : PR w vh M) (e : pL L = pL M) : Calls Tryd.prog 7 #[.pointer (some ⟨r, 0, none⟩), .agg #[vh, .bool fy]] w fun e w' => e = .returned (.bool true) ∧ Below w.heap.size w w' := by
  obtain ⟨q, cq, rfl⟩ := hm.gs.form
  have HX := hidr h
  have HM := hidr hm
  have EA := hidr (fun w1 (b : Below w.heap.size w w1) => each_it w1 (h.below b))
  have AL : Hid (∀ ob, Below w.heap.size w (w.alloc ob)) := fun ob => balr _ ob
  clear h hm
  refine callsIn_wide (n := 9) |>.1 ?_
  refine callsIn_of_wp_marks Tryd.func7 rfl trivial ?_ rfl
  refine (wpIn_wide (n := 9)).2 ?_
  simp only [Tryd.ntmps7, List.size_toArray, List.length_cons, List.length_nil, Nat.reduceAdd, Nat.reduceSub, Array.replicate_succ, Array.replicate_zero, List.push_toArray, List.append_toArray, List.nil_append, List.cons_append]
  go_wp2_with fail
  refine (EA.out _ (blr (AL.out _) (balr _ _))).mono ?_
  rintro e w1 ⟨rfl, rfl⟩
  clear EA
  have EF := eqIt 24
  go_wp2_with fail
  generalize hV : World.alloc _ (Obj.cells #[.int .i64 0] _) = V
  have k0 : V.heap[w.heap.size]? = some (.cells #[.slice q M.length cq, .bool fy] 26) := by rw [← hV]; exact hold (hold (hold (heap_alloc_new w _)))
  have k1 : V.heap[w.heap.size + 1]? = some (.cells #[.bool false] 4) := by rw [← hV]; exact hold (hold (hnew (by simp)))
  have k2 : V.heap[w.heap.size + 1 + 1]? = some (.cells #[vs] 24) := by rw [← hV]; exact hold (hnew (by simp))
  have k3 : V.heap[w.heap.size + 1 + 1 + 1]? = some (.cells #[.int .i64 (0 : Nat)] 3) := by rw [← hV]; exact hnew (by simp)
  have bV : Below w.heap.size w V := by rw [← hV]; exact blr (blr (blr (AL.out _) (balr _ _)) (balr _ _)) (balr _ _)
  have zV : V.heap.size = w.heap.size + 1 + 1 + 1 + 1 := by rw [← hV]; simp
  clear hV AL
  have ei : EI V (w.heap.size + 1 + 1) vs L (fun g => g < V.heap.size ∧ g ≠ w.heap.size + 1 + 1 + 1) := by
    have h := HX.out
    refine ⟨k2, h.pr.below bV, h.ln, fun x hx => by have := chk_len (h.ok _ hx); omega, by omega, fun g hg => ?_, fun x hx g hg => ?_, fun g hg => hg.1⟩
    · have := (h.own.lt hg).2; omega
    · have := ((h.each x hx).lt hg).2; omega
  refine (wpIn_wide (n := 9)).1 ?_
  refine wpIn_range_rel rfl (by omega) (gf := 24) (lb := #[.pointer (some ⟨w.heap.size + 1 + 1, 0, none⟩)]) rfl trivial (enters_of Tryd.func24 (by kernel_rfl) rfl)
    (each_rel 8 (by omega) ei) (fun h k => h.trans k) (fun h => KpR.below h) (fun W l o hl => kpr_put (fun g hg => by have := hg.1; omega)) (KpR.refl _ _)
    (fun k x W hx => by obtain ⟨_, _, _, _, rfl, _⟩ := hx; rfl)
    (ES w V (w.heap.size + 1 + 1 + 1)) (fun _ _ _ => False)
    (fun k A B hA b => hA.below (by omega) bV.size b)
    (fun k A l r r' hA hl _ => hA.put (by omega) bV.size hl)
    (fun _ _ _ _ _ _ h _ _ => h)
    ⟨bV, Nat.le_refl _, fun _ _ _ => rfl, k3⟩
    (fun k x a' W => ∃ pb q' c', EAx V L k x pb q' c' W ∧ a' = { tmps := #[.pointer (some ⟨r, 0, none⟩), .agg #[.slice q M.length cq, .bool fy], undef, .pointer (some ⟨w.heap.size, 0, none⟩), .pointer (some ⟨w.heap.size + 1, 0, none⟩), .func (.func 24) #[] #[.pointer (some ⟨w.heap.size + 1 + 1, 0, none⟩)], .pointer (some ⟨w.heap.size + 1 + 1 + 1, 0, none⟩), .int .i64 (k : Nat), .pointer (some ⟨pb, 0, none⟩), .pointer (some ⟨r, 0, none⟩), .func (.func 24) #[] #[.pointer (some ⟨w.heap.size + 1 + 1, 0, none⟩)], .func (.func 24) #[] #[.pointer (some ⟨w.heap.size + 1 + 1, 0, none⟩)], .bool false, .func (.func 24) #[] #[.pointer (some ⟨w.heap.size + 1 + 1, 0, none⟩)], x.getD 0 undef, x.getD 1 undef, undef, undef, undef, undef, undef, undef, undef, undef, undef, undef, undef, undef, undef, undef, undef, undef, undef, undef, undef, undef, undef, undef, undef, undef, undef, undef, undef, undef, undef, undef], defers := [] })
    (fun k x a' A l r r' h hl ho => by obtain ⟨pb, q', c', h1, h2⟩ := h; exact ⟨pb, q', c', h1.put ho, h2⟩)
    ?assign ?body ?done ?stop
  case stop =>
    rintro D c k W1 _ h _
    exact h.elim
  case assign =>
    rintro l k x W1 K hI ⟨hk, q', c', b, rfl, ow, hb⟩ hK
    have OW := hidr ((ow.low hb).below (balr W1 (.cells (prvC L[k].p (.slice q' L[k].p.ops.length c')) 37)))
    have KK := hidr (fun a' (ha : a' = _) => hK a' (W1.alloc (.cells (prvC L[k].p (.slice q' L[k].p.ops.length c')) 37)) (balr _ _) ⟨W1.heap.size, q', c', ⟨hk, rfl, heap_alloc_new _ _, hI.sz, OW.out⟩, ha⟩)
    clear hK ow OW
    generalize L[k].p = p at *
    obtain ⟨nm, ops, ag, ⟨pt, pb, pf, pc⟩, ck, ct⟩ := p
    simp only [prvV, prvC] at *
    gi_wp2_with fail
    exact KK.out _ rfl
  case done =>
    intro D W1 hD hI hk
    have ln : L.length = M.length := by rw [← pL_len L, e, pL_len]
    have c0 : W1.cell? ⟨w.heap.size, 0, none⟩ = some (.slice q M.length cq) := cell_of_row _ _ _ _ _ _ ((hI.kp w.heap.size (by omega) (by omega)).trans k0)
    have c1 : W1.cell? ⟨w.heap.size + 1, 0, none⟩ = some (.bool false) := cell_of_row _ _ _ _ _ _ ((hI.kp (w.heap.size + 1) (by omega) (by omega)).trans k1)
    have f1 : W1.frozen? ⟨w.heap.size + 1, 0, none⟩ = false := by simp [World.frozen?, (hI.kp (w.heap.size + 1) (by omega) (by omega)).trans k1]
    have c3 : W1.cell? ⟨w.heap.size + 1 + 1 + 1, 0, none⟩ = some (.int .i64 (L.length : Nat)) := cell_of_row _ _ _ _ _ _ hI.ct
    rw [ln] at c3
    have BL := hidr hI.bl
    clear hI k0 k1 k2 k3 ei bV HX HM
    go_wp2_with fail
    have hD9 : (W1.setCell ⟨w.heap.size + 1, 0, none⟩ (.bool true)).heap[D]? = some (.deferred (some [])) := (Below.heap_setCell _ _ _ _ (by show D ≠ w.heap.size + 1; omega)).trans hk
    have r1 : (W1.setCell ⟨w.heap.size + 1, 0, none⟩ (.bool true)).cell? ⟨w.heap.size + 1, 0, none⟩ = some (.bool true) := by simp [go_sem, c1]
    refine ⟨by simp, .inl ⟨_, _, rfl, run_takeDeferred hD9, ?_⟩⟩
    have r2 : ((W1.setCell ⟨w.heap.size + 1, 0, none⟩ (.bool true)).putObj D (.deferred none)).cell? ⟨w.heap.size + 1, 0, none⟩ = some (.bool true) := (World.cell?_of_block (World.putObj_heap_other (by show w.heap.size + 1 ≠ D; omega))).trans r1
    refine ⟨.bool true, by simp [results, Tryd.results7, go_sem, r2], rfl, ?_⟩
    have b2 : Below w.heap.size w (W1.setCell ⟨w.heap.size + 1, 0, none⟩ (.bool true)) := BL.out.setCell (p := ⟨w.heap.size + 1, 0, none⟩) (Nat.le_succ _) _
    exact ⟨b2.os, b2.tape, b2.output, Nat.le_trans b2.size (by simp), fun x hx => (World.putObj_heap_other (by omega)).trans (b2.block x hx)⟩
  case body =>
    rintro l k x a' W hl hr hI ⟨pb, q', c', hA, rfl⟩ hk
    obtain ⟨hk2, rfl, bx, hpb, ow⟩ := hA
    have ln : L.length = M.length := by rw [← pL_len L, e, pL_len]
    have hkM : k < M.length := by omega
    have hk1 : (k : Int) < (M.length : Nat) := by omega
    have ep : M[k].p = L[k].p := by
      have h1 : (pL L)[k]? = some L[k].p := by unfold pL; simp [hk2]
      have h2 : (pL M)[k]? = some M[k].p := by unfold pL; simp [hkM]
      rw [e, h2] at h1
      exact Option.some.inj h1
    have PM := HM.out.below hI.bl
    obtain ⟨X, o, e1, _⟩ := PM.gs.atP hkM
    obtain rfl : q = some ⟨X, o, none⟩ := e1
    have HI := hidr hI
    have BX := hidr bx
    have OW := hidr ow
    have kb : k < 256 := by have := HX.out.ln; omega
    have AT : Hid (∀ w', Below W.heap.size W w' → w'.heap[w.heap.size + 1 + 1 + 1]? = some (.cells #[.int .i64 (k : Nat)] 3) ∧ w'.heap[w.heap.size]? = some (.cells #[.slice (some ⟨X, o, none⟩) M.length cq, .bool fy] 26) ∧ PR w' (.slice (some ⟨X, o, none⟩) M.length cq) M) := fun w' b => by
      have h := HI.out.below (by omega) bV.size b
      exact ⟨h.ct, (h.kp w.heap.size (by omega) (by omega)).trans k0, HM.out.below h.bl⟩
    have ops1 : L[k].p.ops.length ≤ 256 := chk_len (HX.out.ok _ (List.getElem_mem hk2))
    have VB := hidr (⟨by omega, bV.size⟩ : w.heap.size + 1 + 1 + 1 < V.heap.size ∧ w.heap.size ≤ V.heap.size)
    clear bx ow hI k0 k1 k2 k3 ei HX HM PM
    gi_wp2_with fail
    refine eg8 (X := X) (o := o) (cq := cq) (nm := L[k].p.name) (ct := L[k].p.ct) (ag := L[k].p.again) (pt := L[k].p.pol.t) (pq := L[k].p.pol.b) (pf := L[k].p.pol.f) (pc := L[k].p.pol.c) (ck := L[k].p.ck) (v1 := .slice q' L[k].p.ops.length c') (v2 := .slice M[k].q L[k].p.ops.length M[k].c) hk1 (fun w' b => ?_) (fun w' b => ?_) ?_
    · obtain ⟨a1, a2, a3⟩ := AT.out w' b
      obtain ⟨X2, o2, e2, x0, x1, x2, x3, x4, x5, x6, x7, x8⟩ := a3.gs.atP hkM
      injection e2 with e2
      injection e2 with e2 e3 _
      subst e2 e3
      rw [ep] at x0 x1 x2 x3 x4 x5 x6 x7 x8
      obtain ⟨y0, y1, y2, y3, y4, y5, y6, y7, y8⟩ := PBx.cells (BX.out.below b)
      exact ⟨cell_of_row _ _ _ _ _ _ a1, cell_of_row _ _ _ _ _ _ a2, y0, y1, y2, y3, y4, y5, y6, y7, y8, x0, x1, x2, x3, x4, x5, x6, x7, x8⟩
    · have h2 := (((AT.out w' b).2.2.ps _ (List.getElem_mem hkM))).os
      simp only [Pvx.v] at h2
      rw [ep] at h2
      exact sameProv_same L[k].p _ _ w' ((OW.out.below b).gs KO_ok.len) h2 (by omega)
    · intro W1 _ _ _ _ _ _ _ _ _ _ _ _ _ _ _ _ _ _ _ bW
      have f1 := (PBx.cells (BX.out.below bW)).2.1
      have SPL := hidr (spoil_but _ _ W1 V.heap.size (OW.out.below bW))
      have OW1 := hidr (OW.out.below bW)
      have HI1 := hidr (HI.out.below VB.out.1 VB.out.2 bW)
      have BW := hidr bW
      have HI0 := hidr HI.out
      have OW0 := hidr OW.out
      clear AT BX OW HI bW
      obtain ⟨vb, vw⟩ := VB.out
      gi_wp2_with fail
      refine ⟨trivial, (CallsIn.inRound l (callsIn_wide.2 SPL.out)).mono ?_⟩
      rintro e w2 ⟨rfl, b2⟩
      have own : ∀ g, (Value.slice q' L[k].p.ops.length c').ownBlock = some g → V.heap.size ≤ g := fun g hg => (OW1.out.lt hg).1
      have ct2 : w2.heap[w.heap.size + 1 + 1 + 1]? = some (.cells #[.int .i64 (k : Nat)] 3) := (b2.block _ (by have := HI1.out.sz; omega) (fun q => by have := own _ q; omega)).trans HI1.out.ct
      have c3 : w2.cell? ⟨w.heap.size + 1 + 1 + 1, 0, none⟩ = some (.int .i64 (k : Nat)) := cell_of_row _ _ _ _ _ _ ct2
      have f3 : w2.frozen? ⟨w.heap.size + 1 + 1 + 1, 0, none⟩ = false := by simp [World.frozen?, ct2]
      have CT2 := hidr ct2
      have S2 := hidr b2
      clear b2 ct2 f1
      gi_wp2_with fail
      have FAR : ∀ u, ∀ g, g ≠ w.heap.size + 1 + 1 + 1 → g < W.heap.size → (Value.slice q' L[k].p.ops.length c').ownBlock ≠ some g → (w2.setCell ⟨w.heap.size + 1 + 1 + 1, 0, none⟩ u).heap[g]? = W.heap[g]? := fun u g h1 h2 h3 => (Below.heap_setCell _ _ _ _ h1).trans ((S2.out.block g (Nat.lt_of_lt_of_le h2 BW.out.size) h3).trans (BW.out.block g h2))
      have sz2 : ∀ u, W.heap.size ≤ (w2.setCell ⟨w.heap.size + 1 + 1 + 1, 0, none⟩ u).heap.size := fun u => by simp [World.setCell]; exact Nat.le_trans BW.out.size S2.out.size
      have hz := HI0.out.sz
      refine ⟨⟨sz2 _, fun g ob _ hg ho => ?_⟩, ⟨fun g hg hl => FAR _ g hg.2 hl (fun e => by have := own g e; have := hg.1; omega), sz2 _⟩, ⟨?_, ?_, fun g hg hne => ?_, ?_⟩⟩
      · refine (FAR _ g (fun e => ?_) (lt_heap hg) (fun e => ?_)).trans hg
        · rw [e, HI0.out.ct] at hg
          injection hg with hg
          subst hg
          cases ho
        · obtain ⟨cur, hc⟩ := OW0.out.ty e
          rw [hc] at hg
          injection hg with hg
          subst hg
          cases ho
      · have b2 : Below w.heap.size w w2 := ⟨S2.out.os.trans HI1.out.bl.os, S2.out.tape.trans HI1.out.bl.tape, S2.out.output.trans HI1.out.bl.output, Nat.le_trans HI1.out.bl.size S2.out.size, fun x hx => (S2.out.block x (Nat.lt_of_lt_of_le hx HI1.out.bl.size) (fun e => by have := own x e; omega)).trans (HI1.out.bl.block x hx)⟩
        exact b2.setCell (p := ⟨w.heap.size + 1 + 1 + 1, 0, none⟩) (by show w.heap.size ≤ w.heap.size + 1 + 1 + 1; omega) _
      · exact Nat.le_trans hz (sz2 _)
      · exact (FAR _ g hne (by omega) (fun e => by have := own g e; omega)).trans (HI0.out.kp g hg hne)
      · exact heap_setCell_same w2 (w.heap.size + 1 + 1 + 1) 0 _ _ _ CT2.out
end Go.Proofs.YtffabehipcomfaaDoor
