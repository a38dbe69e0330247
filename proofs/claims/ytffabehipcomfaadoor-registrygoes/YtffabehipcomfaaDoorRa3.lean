/- Registry: Add. -/
import Derived.Test.YtffabehipcomfaaDoorRa2
namespace Go.Proofs.YtffabehipcomfaaDoor
open Go.RowKit Go.Maps

theorem step_append_g {α : Type} {P : Program} (K : RK α) (hk : K.Ok P) {ops : Array Oper} {o : Oper} {a : Act} {C : Act → World → Prop} {Q : Exit → Act → World → Prop} {E : Prop} (hgd : o.guard = none) (s x : Operand) (t : TypeId)
    (ho : o.op = .call { callee := .builtin .append, args := #[s, x], argTypes := #[t, t] })
    (base : Nat) (ht : P.underlying t = some (.slice K.ty))
    (w1 : World) (b : Nat) (cells : Array Value) (tc : TypeId) (hblk : w1.heap[b]? = some (.cells cells tc)) (v : Value) (l : List α) (f : α) (c : Nat) (hs : a.eval s = v) (hown : OwnG K w1 base v l)
    (hx : a.eval x = .slice (some ⟨b, 0, none⟩) 1 c) (hc : cells.toList = K.f f)
    (hlen : (l.length + 1) * K.B ≤ 140737488355328) (hbase : base ≤ w1.heap.size)
    (h : ∀ g cap w', OwnG K w' base (.slice (some ⟨g, 0, none⟩) (l.length + 1) cap) (l ++ [f]) → Below base w1 w' → (∀ k, k < w1.heap.size → some k ≠ v.ownBlock → w'.heap[k]? = w1.heap[k]?) → (v.ownBlock = some g ∨ w1.heap.size ≤ g) → C (a.put o.dst (.slice (some ⟨g, 0, none⟩) (l.length + 1) cap)) w') :
    if Region.wanted o (yielded ops a.tmps) = true then Oper.wp P o a w1 C Q else E := by
  obtain ⟨i0, hi0, hz0, hz1, hz2⟩ := hk.info
  have hpb := hk.posB
  have hn : l.length + 1 ≤ 140737488355328 := Nat.le_trans (Nat.le_mul_of_pos_right _ hpb) hlen
  refine step_append_lies _ hgd s x t ho base K.ty i0 K.z K.W K.B ht hi0 hz0 hz1 hz2 hk.zs hk.pos v l.length (l.flatMap K.f) hs hown ⟨b, 0, none⟩ 1 c (K.f f) hx (by rw [hk.len]; omega) (by rw [← hc]; exact World.news_of_block hblk) (hk.one f)
    (by decide) (by unfold maxLen; omega) hlen hbase _ rfl ?_
  intro g cap w' ho' hg hgg _
  refine h g cap w' ?_ ((Below.refl base w1).grown hg hbase (fun q hq => (hown.lt hq).1)) (fun k hk hne => hg.block k hk hne) ?_
  · unfold OwnG
    rw [List.length_append, List.flatMap_append]
    simpa using ho'
  · rcases hgg with hgg | hgg
    · exact Or.inl hgg
    · right; rw [hgg]; exact Nat.le_refl _
theorem But.undrew {F : Nat → Prop} {a b : World} (h : But F a.drew b) : But F a b := ⟨h.os, h.tape, h.output, h.size, h.block⟩
/-- What Add leaves. -/
structure AddR (w w' : World) (base r m : Nat) (vs : Value) (L : List Pvx) (fz : Bool) (p : Prv) : Prop where
  ex : ∃ vs' L', GX w' base r m vs' L' fz ∧ pL L' = addL (pL L) fz p ∧ (∀ g, vs'.ownBlock = some g → vs.ownBlock = some g ∨ w.heap.size ≤ g) ∧ ∀ y ∈ L', y ∈ L ∨ ∀ g, y.v.ownBlock = some g → w.heap.size ≤ g
  bt : But (FX r m vs) w w'
theorem AddR.no {w w' : World} {base r m : Nat} {vs : Value} {L : List Pvx} {fz : Bool} {p : Prv} (h : GX w base r m vs L fz) (b : Below w.heap.size w w') (he : addE (pL L) fz p ≠ 0) : AddR w w' base r m vs L fz p :=
  ⟨⟨vs, L, h.below b, by unfold addL; rw [if_neg he], fun _ hg => Or.inl hg, fun _ hy => Or.inl hy⟩, But.of_below b⟩
theorem AddR.yes {w w2 w3 w4 w5 : World} {base r m : Nat} {vs : Value} {L : List Pvx} {x : Pvx} (h : GX w base r m vs L false) (he : addE (pL L) false x.p = 0) (htx : ∀ c ∈ x.p.ops, c.text.size ≤ maxLen) (hnm : x.p.name.size ≤ maxLen)
    (b2 : Below w.heap.size w w2) (o2 : OwnG KO w2 w.heap.size x.v x.p.ops) {g cap : Nat}
    (o3 : OwnG KP w3 base (.slice (some ⟨g, 0, none⟩) (L.length + 1) cap) (L ++ [x])) (b3 : Below base w2 w3) (k3 : ∀ k, k < w2.heap.size → some k ≠ vs.ownBlock → w3.heap[k]? = w2.heap[k]?) (hg : vs.ownBlock = some g ∨ w2.heap.size ≤ g)
    (e4 : w4 = w3.setCell ⟨r, 0, none⟩ (.slice (some ⟨g, 0, none⟩) (L.length + 1) cap)) (m5 : MV w5 m (L.length + 1) (putF (numF (nameL (pL L))) x.p.name (.int .i64 (L.length : Nat)))) (b5 : But (fun y => y = m) w4 w5) : AddR w w5 base r m vs L false x.p := by
  obtain ⟨h1, h2, h3⟩ := h.add he htx hnm b2 o2 o3 b3 k3 hg e4 m5 b5
  refine ⟨⟨_, _, h1, by unfold addL; rw [if_pos he]; unfold pL; rw [List.map_append]; rfl, fun y hy => ?_, fun y hy => ?_⟩, h2⟩
  · have e : g = y := by simpa [Value.ownBlock] using hy
    subst e; exact h3
  · rcases List.mem_append.1 hy with hy | hy
    · exact Or.inl hy
    · obtain rfl := List.mem_singleton.1 hy
      exact Or.inr fun q hq => (o2.lt hq).1
set_option maxHeartbeats 16000000 in
set_option maxRecDepth 100000 in
theorem add_any_r (p : Prv) (ve : Value) (w : World) {base r m : Nat} {vs : Value} {L : List Pvx} {fz : Bool} (h : GX w base r m vs L fz) (hp : PS w p ve) (hv : NV w) :
    Calls Tryd.prog 9 #[.pointer (some ⟨r, 0, none⟩), prvV p ve] w fun e w' => e = .returned (.tuple #[.int .i64 (addN (pL L) fz p : Nat), .int .i64 (addE (pL L) fz p)]) ∧ AddR w w' base r m vs L fz p := by
  have AL : Hid (∀ ob, Below w.heap.size w (w.alloc ob)) := fun ob => balr _ ob
  have CN : Hid (∀ w1, Below w.heap.size w w1 → _) := fun w1 b => checkNew_any p ve w1 (h.below b) (hp.below b) (hv.below b)
  have PX : Hid (PBx (w.alloc (.cells (prvC p ve) 37)) w.heap.size p ve) := heap_alloc_new _ _
  have PY : Hid (∀ w1, PBx w1 w.heap.size p ve → _) := fun w1 h => PBx.cells h
  have NO : Hid (∀ w', Below w.heap.size w w' → addE (pL L) fz p ≠ 0 → AddR w w' base r m vs L fz p) := fun w' b he => .no h b he
  have HX := hidr h
  have HP := hidr hp
  have AN : Hid (addN (pL L) fz p = if addE (pL L) fz p = 0 then L.length else 0) := by show _ = _; unfold addN; rw [pL_len]
  by_cases he : addE (pL L) fz p = 0
  · obtain ⟨rfl, hpe, _, hlt⟩ := addE_ok he
    rw [pL_len] at hlt
    have hops := chk_len hpe
    rw [he] at CN AN
    rw [if_pos rfl] at AN
    rw [he, AN.out]
    have HE := hidr he
    obtain ⟨pe, ce, hve⟩ := hp.os.form
    subst hve
    have CP : Hid (∀ W, Below w.heap.size w W → Calls Tryd.prog 25 #[prvV p (.slice pe p.ops.length ce)] W fun e w' => ∃ q c, e = .returned (prvV p (.slice q p.ops.length c)) ∧ (OwnG KO w' w.heap.size (.slice q p.ops.length c) p.ops ∧ Below w.heap.size w w') ∧ w'.cell? ⟨r, 0, none⟩ = some vs ∧ ∀ ob, (w'.alloc ob).cell? ⟨r, 0, none⟩ = some vs) := fun W b => by
      refine (copied_any p _ W (HP.out.below b) (by omega)).mono ?_
      rintro e w' ⟨q, c, rfl, ho, hb⟩
      have hb2 := blr b hb
      exact ⟨q, c, rfl, ⟨ho.low b.size, hb2⟩, (HX.out.below hb2).cells.1, fun ob => (HX.out.below (blr hb2 (balr w' ob))).cells.1⟩
    have NX : Hid (∀ W2 q c g cap w3, (OwnG KO W2 w.heap.size (.slice q p.ops.length c) p.ops ∧ Below w.heap.size w W2) → PBx W2 w.heap.size p (.slice pe p.ops.length ce) → ∀ ob, OwnG KP w3 base (.slice (some ⟨g, 0, none⟩) (L.length + 1) cap) (L ++ [⟨p, q, c⟩]) → Below base (W2.alloc ob) w3 → (∀ k, k < (W2.alloc ob).heap.size → some k ≠ vs.ownBlock → w3.heap[k]? = (W2.alloc ob).heap[k]?) → (vs.ownBlock = some g ∨ (W2.alloc ob).heap.size ≤ g) →
        w3.cell? ⟨r, 0, none⟩ = some vs ∧ w3.frozen? ⟨r, 0, none⟩ = false ∧ (let V := w3.setCell ⟨r, 0, none⟩ (.slice (some ⟨g, 0, none⟩) (L.length + 1) cap); V.cell? ⟨r, 1, none⟩ = some (.map (some m)) ∧ V.cell? ⟨w.heap.size, 0, none⟩ = some (.string p.name) ∧ ∃ w5, (Instr.mapUpdate 64 (.map (some m)) (.string p.name) (.int .i64 (L.length : Nat))).run Tryd.prog V.drew = .ok () w5 ∧ AddR w w5 base r m vs L false p)) := fun W2 q c g cap w3 ho hP ob o3 b3 k3 hg => by
      have hx2 := HX.out.below ho.2
      have hxa := hx2.below (balr W2 ob)
      have nr : some r ≠ vs.ownBlock := fun e => (hx2.ne hx2.own (by decide) e.symm).1 rfl
      have nm : some m ≠ vs.ownBlock := fun e => (hx2.ne hx2.own (by decide) e.symm).2 rfl
      have z2 := ho.2.size
      have za := (balr W2 ob).size
      have hB : PBx (W2.alloc ob) w.heap.size p (.slice pe p.ops.length ce) := hP.below (balr W2 ob)
      have lB : w.heap.size < W2.heap.size := lt_heap hP
      have nB : some w.heap.size ≠ vs.ownBlock := fun e => by have := (HX.out.own.lt e.symm).2; omega
      have er := (k3 r (lt_heap hxa.hp) nr).trans hxa.hp
      have eB := (k3 w.heap.size (by omega) nB).trans hB
      have rne : r ≠ w.heap.size := fun e => by have := lt_heap HX.out.hp; omega
      refine ⟨cell_of_row _ _ _ _ _ _ er, by simp [World.frozen?, er], ?_⟩
      have er4 := heap_setCell_same w3 r 0 _ _ (.slice (some ⟨g, 0, none⟩) (L.length + 1) cap) er
      have eB4 : (w3.setCell ⟨r, 0, none⟩ (.slice (some ⟨g, 0, none⟩) (L.length + 1) cap)).heap[w.heap.size]? = some (.cells (prvC p (.slice pe p.ops.length ce)) 37) := (Below.heap_setCell _ _ _ _ (Ne.symm rne)).trans eB
      have m3 := hxa.mv.far (k3 m hxa.mv.lt nm)
      have m4 : MV (w3.setCell ⟨r, 0, none⟩ (.slice (some ⟨g, 0, none⟩) (L.length + 1) cap)).drew m L.length (numF (nameL (pL L))) := m3.far (Below.heap_setCell _ _ _ _ (Ne.symm HX.out.rm))
      obtain ⟨w5, hr, hm, hbt⟩ := m4.put Tryd.underlying64 (by unfold maxLen; omega) HP.out.nm (.int .i64 (L.length : Nat))
      refine ⟨cell_of_row _ _ _ _ _ _ er4, cell_of_row _ _ _ _ _ _ eB4, w5, hr, ?_⟩
      have ho2 := (ho.1).below (balr W2 ob)
      exact .yes (x := ⟨p, q, c⟩) HX.out HE.out HP.out.tx HP.out.nm (blr ho.2 (balr W2 ob)) ho2 o3 b3 k3 hg rfl hm hbt.undrew
    have LEN : Hid ((L.length + 1) * KP.B ≤ 140737488355328) := by show (L.length + 1) * 104 ≤ _; omega
    have OWN : Hid (∀ W, Below w.heap.size w W → ∀ ob, OwnG KP (W.alloc ob) base vs L ∧ base ≤ (W.alloc ob).heap.size) := fun W b ob => by
      have hh := HX.out.below (blr b (balr W ob))
      exact ⟨hh.own, by have := lt_heap hh.hp; have := hh.gr; omega⟩
    have PB : Hid (∀ W, Below w.heap.size w W → ∀ w2, Below w.heap.size w w2 → PBx w2 w.heap.size p (.slice pe p.ops.length ce) → Below w2.heap.size w2 W → PBx W w.heap.size p (.slice pe p.ops.length ce)) := fun W _ w2 _ hp b => hp.below b
    have CELLS : Hid (∀ W, Below w.heap.size w W → W.cell? ⟨r, 0, none⟩ = some vs ∧ W.cell? ⟨r, 1, none⟩ = some (.map (some m))) := fun W b => ⟨(HX.out.below b).cells.1, (HX.out.below b).cells.2.1⟩
    have CP2 : Hid (∀ w2, Below w.heap.size w w2 → PBx w2 w.heap.size p (.slice pe p.ops.length ce) → ∀ W, Below w2.heap.size w2 W → Calls Tryd.prog 25 #[prvV p (.slice pe p.ops.length ce)] W fun e w' => ∃ q c, e = .returned (prvV p (.slice q p.ops.length c)) ∧ (OwnG KO w' w.heap.size (.slice q p.ops.length c) p.ops ∧ Below w.heap.size w w') ∧ PBx w' w.heap.size p (.slice pe p.ops.length ce) ∧ w'.cell? ⟨r, 0, none⟩ = some vs ∧ ∀ ob, (w'.alloc ob).cell? ⟨r, 0, none⟩ = some vs) := fun w2 b2 hp2 W bW => by
      have b := blr b2 bW
      refine (copied_any p _ W (HP.out.below b) (by omega)).mono ?_
      rintro e w' ⟨q, c, rfl, ho, hb⟩
      have hb2 := blr b hb
      exact ⟨q, c, rfl, ⟨ho.low b.size, hb2⟩, (hp2.below bW).below hb, (HX.out.below hb2).cells.1, fun ob => (HX.out.below (blr hb2 (balr w' ob))).cells.1⟩
    obtain ⟨pv, cv, hvs⟩ := h.form
    subst hvs
    obtain ⟨nm, ops, ag, ⟨pt, pb, pf, pc⟩, ck, ct⟩ := p
    simp only [prvV, prvC] at *
    obtain ⟨y0, y1, y2, y3, y4, y5, y6, y7, y8⟩ := PY.out _ PX.out
    clear h hp hv NO AN CP PB he
    go_enter Tryd.func9, Tryd.ntmps9
    go_wp2_with fail
    refine (CN.out _ (AL.out _)).mono ?_
    rintro e w2 ⟨rfl, hb2⟩
    have B2 := hidr (blr (AL.out _) hb2)
    have P2 := hidr (PBx.below PX.out hb2)
    clear hb2 y0 y1 y2 y3 y4 y5 y6 y7 y8 AL CN PX
    obtain ⟨y0, y1, y2, y3, y4, y5, y6, y7, y8⟩ := PY.out _ P2.out
    obtain ⟨c0, c1⟩ := CELLS.out _ B2.out
    have CQ := hidr (CP2.out _ B2.out P2.out)
    clear CP2
    go_wp2_with fail
    go_region_law (first
      | (refine step_append_g KP KP_ok (by rfl) (.tmp 23) (.tmp 26) 24 (by rfl) base Tryd.underlying24 _ _ _ _ (by first | exact heap_alloc_new _ _) (.slice pv L.length cv) L ⟨⟨nm, ops, ag, ⟨pt, pb, pf, pc⟩, ck, ct⟩, q, c⟩ _ (by rfl) (OWN.out _ CC.out.2 _).1 (by rfl) (by rfl) LEN.out (OWN.out _ CC.out.2 _).2 ?_; intro g8 c8 w8 o8 b8 k8 q8; obtain ⟨n1, n2, n3, n4, w9, n5, n6⟩ := NX.out _ q c g8 c8 w8 CC.out PP.out _ o8 b8 k8 q8; have N6 := hidr n6; clear n6 o8 b8 k8 q8)
      | (go_simp; go_at_call 25; refine (CQ.out _ (by first | exact Below.refl _ _ | exact (Below.refl _ _).drew)).mono ?_; rintro e w5 ⟨q, c, rfl, cc, pp, d5, d6⟩; have CC := hidr cc; have PP := hidr pp; clear cc pp))
    all_goals
      clear d5 d6 n1 n2 CQ NX OWN CELLS CC PP c0 c1 y0 y1 y2 y3 y4 y5 y6 y7 y8
      generalize hV : World.setCell w8 _ _ = V at n3 n4 n5 ⊢
      clear hV
      have n3' : V.drew.cell? ⟨r, 1, none⟩ = some (.map (some m)) := n3
      have n4' : V.drew.cell? ⟨w.heap.size, 0, none⟩ = some (.string nm) := n4
      go_wp2_with fail
      go_region
      all_goals
        go_wp2_with fail
        go_ret2
        exact ⟨rfl, N6.out⟩
  · have hc2 : (addE (pL L) fz p != 0) = true := by simpa using he
    rw [if_neg he] at AN
    rw [AN.out]
    have N1 := hidr (fun w' b => NO.out w' b he)
    obtain ⟨pe, ce, hve⟩ := hp.os.form
    obtain ⟨pv, cv, hvs⟩ := h.form
    subst hve
    generalize AddR w = AR at *
    generalize addE (pL L) fz p = r0 at *
    obtain ⟨nm, ops, ag, ⟨pt, pb, pf, pc⟩, ck, ct⟩ := p
    simp only [prvV, prvC] at *
    obtain ⟨y0, y1, y2, y3, y4, y5, y6, y7, y8⟩ := PY.out _ PX.out
    clear h hp hv HX HP PX PY NO AN
    go_enter Tryd.func9, Tryd.ntmps9
    go_wp2_with (go_at_call 26; refine (CN.out _ (AL.out _)).mono ?_; rintro e w1 ⟨rfl, hb⟩)
    go_ret2
    exact ⟨rfl, N1.out _ (blr (AL.out _) hb)⟩
end Go.Proofs.YtffabehipcomfaaDoor
