/- Registry: the law RegistryGoes. -/
import Derived.Test.YtffabehipcomfaaDoorRe2
import Derived.Test.YtffabehipcomfaaDoorRz3
import Derived.Test.YtffabehipcomfaaDoorRd9
namespace Go.Proofs.YtffabehipcomfaaDoor
open Go.RowKit Go.Shelf Go.Maps
attribute [local go_sem] Oper.semAt_some

set_option maxRecDepth 100000 in
set_option maxHeartbeats 8000000 in
theorem goes_any (v : Value) (l : List Ac) (pm : Prv) (ve : Value) (w : World) (h : AR w v l) (hv : NV w) (hp : PS w pm ve) (hl : l.length ≤ 10000000000000) : Calls Tryd.prog 4 #[v, prvV pm ve] w fun e w' => e = .returned (.bool true) ∧ Below w.heap.size w w' := by
  have B2 := hidr (balr (w.alloc (.cells (prvC pm ve) 37)) (.cells #[.bool false] 4))
  have B1 := hidr (balr w (.cells (prvC pm ve) 37))
  have BW : Hid (Below w.heap.size w ((w.alloc (.cells (prvC pm ve) 37)).alloc (.cells #[.bool false] 4))) := blr B1.out B2.out
  have k0 : ((w.alloc (.cells (prvC pm ve) 37)).alloc (.cells #[.bool false] 4)).heap[w.heap.size]? = some (.cells (prvC pm ve) 37) := hold (heap_alloc_new w _)
  have k1 : ((w.alloc (.cells (prvC pm ve) 37)).alloc (.cells #[.bool false] 4)).heap[w.heap.size + 1]? = some (.cells #[.bool false] 4) := hnew (by simp)
  generalize hW : (w.alloc (.cells (prvC pm ve) 37)).alloc (.cells #[.bool false] 4) = W at *
  have K0 := hidr k0
  have K1 := hidr k1
  have zW : W.heap.size = w.heap.size + 2 := by rw [← hW]; simp
  have PL := hidr (play_any v l (ByteArray.mk #[97]) 0 W (h.below BW.out) (hv.below BW.out) (by decide) hl)
  have NVh := hidr (fun W' (b : Below w.heap.size w W') => hv.below b)
  have PSh := hidr (fun W' (b : Below w.heap.size w W') => hp.below b)
  obtain ⟨p, c, rfl⟩ := h.gs.form
  clear h hv hp B1 B2 k0 k1
  obtain ⟨nm, ops, ag, ⟨pt, pq, pf, pc⟩, ck, ct⟩ := pm
  simp only [prvV, prvC] at *
  refine callsIn_wide (n := 9) |>.1 ?_
  refine callsIn_of_wp_marks Tryd.func4 rfl trivial ?_ rfl
  refine (wpIn_wide (n := 9)).2 ?_
  simp only [Tryd.ntmps4, List.size_toArray, List.length_cons, List.length_nil, Nat.reduceAdd, Nat.reduceSub, Array.replicate_succ, Array.replicate_zero, List.push_toArray, List.append_toArray, List.nil_append, List.cons_append]
  go_wp2_with fail
  refine PL.out.mono ?_
  rintro e w1 ⟨R, m, fz, vy, M, B, rfl, hb, hx, b1⟩
  obtain ⟨py, cy, rfl, _⟩ := hx.ho.form
  have PM := hidr hx.pr
  obtain ⟨⟨vs, L, g1, g2, g3⟩, ho, he⟩ := hx
  have GX1 := hidr g1
  have EQ := hidr g2
  have APP := hidr g3
  have HO := hidr ho
  have HE := hidr he
  have BB := hidr hb
  have BW1 := hidr (blr BW.out b1)
  have W1W := hidr b1
  clear PL g1 g2 g3 ho he hb b1
  generalize hV1 : w1.alloc (.cells #[.slice py M.length cy, .bool fz] 26) = V1
  have bV1 : Below w1.heap.size w1 V1 := by rw [← hV1]; exact balr _ _
  have kY : V1.heap[w1.heap.size]? = some (.cells #[.slice py M.length cy, .bool fz] 26) := by rw [← hV1]; exact heap_alloc_new _ _
  have BV1 := hidr bV1
  have KY := hidr kY
  have TE := hidr (fun W' (b : Below V1.heap.size V1 W') => told_each W' (fy := fz) (GX1.out.below (blr bV1 b)) (PM.out.below (blr bV1 b)) EQ.out)
  have CY := hidr (fun W' (b : Below V1.heap.size V1 W') => (⟨cell_of_row _ _ _ _ _ _ ((Below.block b _ (lt_heap kY)).trans kY), cell_of_row _ _ _ _ _ _ ((Below.block b _ (lt_heap kY)).trans kY)⟩ : W'.cell? ⟨w1.heap.size, 0, none⟩ = some (.slice py M.length cy) ∧ W'.cell? ⟨w1.heap.size, 1, none⟩ = some (.bool fz)))
  obtain ⟨c0, c1⟩ := CY.out V1 (Below.refl _ _)
  have EF := eqIt 24
  clear bV1 kY
  go_upto_region 4 with (first
    | (go_at_call 7; refine (TE.out _ B2.out).mono ?_; rintro e w3 ⟨rfl, b3⟩; have B3 := hidr (blr B2.out b3); clear b3)
    | (go_at_call 7; refine (TE.out _ (Below.refl _ _)).mono ?_; rintro e w2 ⟨rfl, b2⟩; have B2 := hidr b2; obtain ⟨d0, d1⟩ := CY.out _ b2; clear b2))
  clear c0 c1 d0 d1 TE B2
  have GX3 := hidr (GX1.out.below (blr BV1.out B3.out))
  have EA := hidr (each_it w3 GX3.out)
  go_upto_region 7 with (go_at_call 8; refine EA.out.mono ?_; rintro e w4 ⟨rfl, rfl⟩)
  clear EA EF
  generalize hV4 : w3.alloc (.cells #[vs] 24) = V4
  have b4 : Below w3.heap.size w3 V4 := by rw [← hV4]; exact balr _ _
  have kE : V4.heap[w3.heap.size]? = some (.cells #[vs] 24) := by rw [← hV4]; exact heap_alloc_new _ _
  have BW4 : Hid (Below W.heap.size W V4) := blr W1W.out (blr BV1.out (blr B3.out b4))
  have kM : V4.heap[w.heap.size]? = some (.cells #[.string nm, ve, .bool ag, .int .i64 pt, .int .i64 pq, .int .i64 pf, .int .i64 pc, .int .i64 ck, .string ct] 37) := (BW4.out.block _ (lt_heap K0.out)).trans K0.out
  have q := fun j => cell_of_row V4 w.heap.size j _ _ _ kM
  have m0 : V4.cell? ⟨w.heap.size, 0, none⟩ = some (.string nm) := q 0
  have m1 : V4.cell? ⟨w.heap.size, 1, none⟩ = some ve := q 1
  have m2 : V4.cell? ⟨w.heap.size, 2, none⟩ = some (.bool ag) := q 2
  have m3 : V4.cell? ⟨w.heap.size, 3, none⟩ = some (.int .i64 pt) := q 3
  have m4 : V4.cell? ⟨w.heap.size, 4, none⟩ = some (.int .i64 pq) := q 4
  have m5 : V4.cell? ⟨w.heap.size, 5, none⟩ = some (.int .i64 pf) := q 5
  have m6 : V4.cell? ⟨w.heap.size, 6, none⟩ = some (.int .i64 pc) := q 6
  have m7 : V4.cell? ⟨w.heap.size, 7, none⟩ = some (.int .i64 ck) := q 7
  have m8 : V4.cell? ⟨w.heap.size, 8, none⟩ = some (.string ct) := q 8
  have AD := hidr (add_any_k ⟨nm, ops, ag, ⟨pt, pq, pf, pc⟩, ck, ct⟩ ve V4 (GX3.out.below b4) (PSh.out V4 (blr BW.out BW4.out)) (NVh.out V4 (blr BW.out BW4.out)))
  have KE4 := hidr kE
  have B4 := hidr b4
  clear q kM kE b4 hV4 hV1 NVh PSh K0
  go_upto_region 8 with (go_at_call 9; refine AD.out.mono ?_; rintro e w7 ⟨rfl, ad, gk⟩; have AD7 := hidr ad; have GK7 := hidr gk; clear ad gk)
  clear m0 m1 m2 m3 m4 m5 m6 m7 m8 AD
  go_wp2_with fail
  generalize hV : w7.alloc (.cells #[.int .i64 0] 3) = V
  have bV : Below w7.heap.size w7 V := by rw [← hV]; exact balr _ _
  have k3 : V.heap[w7.heap.size]? = some (.cells #[.int .i64 (0 : Nat)] 3) := by rw [← hV]; exact heap_alloc_new _ _
  have zV : V.heap.size = w7.heap.size + 1 := by rw [← hV]; simp
  have g4 := GX3.out.below B4.out
  have lR : R < w1.heap.size := lt_heap GX1.out.hp
  have lm : m < w1.heap.size := GX1.out.mv.lt
  have s1 := BV1.out.size
  have s3 := B3.out.size
  have s4 := B4.out.size
  have s7 := AD7.out.bt.size
  have z1 := lt_heap KY.out
  have z4 := lt_heap KE4.out
  have keep : ∀ g, g < V4.heap.size → g ≠ R → g ≠ m → vs.ownBlock ≠ some g → V.heap[g]? = V4.heap[g]? := fun g h1 h2 h3 h4 => (bV.block g (by omega)).trans (AD7.out.bt.block g h1 (fun q => by
    rcases q with q | q | q
    · exact h2 q
    · exact h3 q
    · exact h4 q))
  have up : ∀ g, w1.heap.size ≤ g → g < V4.heap.size → V.heap[g]? = V4.heap[g]? := fun g h1 h2 => keep g h2 (by omega) (by omega) (fun e => by have := (GX1.out.own.lt e).2; omega)
  have kE : V.heap[w3.heap.size]? = some (.cells #[vs] 24) := (up _ (by omega) z4).trans KE4.out
  have kY : V.heap[w1.heap.size]? = some (.cells #[.slice py M.length cy, .bool fz] 26) := (up _ (Nat.le_refl _) (by omega)).trans (((blr B3.out B4.out).block _ z1).trans KY.out)
  have kR : V.heap[w.heap.size + 1]? = some (.cells #[.bool false] 4) := by
    have e1 := (BW4.out.block _ (lt_heap K1.out)).trans K1.out
    have h1 := GX1.out.gr
    have h2 := GX1.out.gm
    have h3 := BB.out
    exact (keep _ (by omega) (by omega) (by omega) (fun e => by have := (GX1.out.own.lt e).1; omega)).trans e1
  obtain ⟨vs', L', gx', hp', hn', _⟩ := AD7.out.ex
  have hx7 : HX B R m fz _ (.slice py M.length cy) M w7 := HX.turn g4 APP.out (HO.out.below (blr BV1.out (blr B3.out B4.out))) (fun x hx => (HE.out x hx).below (blr BV1.out (blr B3.out B4.out))) gx' hp' hn' AD7.out.bt
  have PM7 : Hid (PR V (.slice py M.length cy) M) := ⟨(hx7.ho.gs KP_ok.len).below bV, fun x hx => ⟨((hx7.he x hx).gs KO_ok.len).below bV, (PM.out.ps x hx).tx, (PM.out.ps x hx).nm, (PM.out.ps x hx).ln⟩⟩
  have LE : ∀ x ∈ L, OwnG KO V B x.v x.p.ops := fun x hx => (g4.each x hx).far fun g hg => keep g ((g4.each x hx).lt hg).2 (g4.ne (g4.each x hx) (by decide) hg).1 (g4.ne (g4.each x hx) (by decide) hg).2 (fun e => own_apart (by decide) (g4.each x hx) g4.own hg e.symm)
  have gB := GX1.out.gr
  have sB := BB.out
  have bw7 : Below w.heap.size w V := (blr BW.out BW4.out).trans (((But.low g4 AD7.out.bt).trans (bV.mono (by omega))).mono (by omega))
  have BVw := hidr bw7
  have ei : EI V w3.heap.size vs L (fun g => g < V.heap.size ∧ g ≠ w7.heap.size) := by
    refine ⟨kE, ⟨GK7.out.below bV, fun x hx => ⟨(LE x hx).gs KO_ok.len, (GX1.out.ps x hx).tx, (GX1.out.ps x hx).nm, (GX1.out.ps x hx).ln⟩⟩, GX1.out.ln, fun x hx => chk_len (GX1.out.ok x hx), by omega, fun g hg => ?_, fun x hx g hg => ?_, fun g hg => hg.1⟩
    · have := (GX1.out.own.lt hg).2; omega
    · have := ((GX1.out.each x hx).lt hg).2; omega
  have PL7 : Hid (∀ g, (Value.slice py M.length cy).ownBlock = some g → g < w7.heap.size) := fun g hg => (hx7.ho.lt hg).2
  have EL7 : Hid (∀ x ∈ M, ∀ g, x.v.ownBlock = some g → g < w7.heap.size) := fun x hx g hg => ((hx7.he x hx).lt hg).2
  have LN := hidr GX1.out.ln
  have OK1 := hidr (fun x (hx : x ∈ L) => chk_len (GX1.out.ok x hx))
  have EQ2 := hidr EQ.out
  obtain ⟨nb, hnb⟩ : ∃ nb, nb = w7.heap.size := ⟨_, rfl⟩
  obtain ⟨yb, hyb⟩ : ∃ yb, yb = w1.heap.size := ⟨_, rfl⟩
  obtain ⟨eb, heb⟩ : ∃ eb, eb = w3.heap.size := ⟨_, rfl⟩
  have nums : yb < nb ∧ eb < nb ∧ w.heap.size + 1 < nb ∧ nb < V.heap.size ∧ w.heap.size ≤ V.heap.size := by omega
  rw [← hnb] at k3 ei PL7 EL7
  rw [← hyb] at kY
  rw [← heb] at ei
  rw [← hnb, ← hyb, ← heb]
  clear hnb hyb heb hV LE keep up kE hx7 gx' hp' hn' g4 AD7 GK7 GX1 GX3 HO HE PM APP KY KE4 BV1 B3 B4 BW1 W1W BB K1 BW4 lR lm s1 s3 s4 s7 z1 z4 CY EQ bV zV zW hW bw7
  refine (wpIn_wide (n := 9)).1 ?_
  refine wpIn_range_rel rfl (by omega) (gf := 24) (lb := #[.pointer (some ⟨eb, 0, none⟩)]) rfl trivial (enters_of Tryd.func24 (by kernel_rfl) rfl)
    (each_rel 8 (by omega) ei) (fun h k => h.trans k) (fun h => KpR.below h) (fun W l o hl => kpr_put (fun g hg => by have := hg.1; omega)) (KpR.refl _ _)
    (fun k x W hx => by obtain ⟨_, _, _, _, rfl, _⟩ := hx; rfl)
    (ES w V nb) (fun _ _ _ => False)
    (fun k A B hA b => hA.below nums.2.2.2.1 nums.2.2.2.2 b)
    (fun k A l r r' hA hl _ => hA.put nums.2.2.2.1 nums.2.2.2.2 hl)
    (fun _ _ _ _ _ _ h _ _ => h)
    ⟨BVw.out, Nat.le_refl _, fun _ _ _ => rfl, k3⟩
    (fun k x a' W => ∃ pb q' c', EAx V L k x pb q' c' W ∧ a' = { tmps := #[.slice p l.length c, .agg #[.string nm, ve, .bool ag, .int .i64 pt, .int .i64 pq, .int .i64 pf, .int .i64 pc, .int .i64 ck, .string ct], undef, .pointer (some ⟨w.heap.size, 0, none⟩), .pointer (some ⟨w.heap.size + 1, 0, none⟩), .pointer (some ⟨R, 0, none⟩), .pointer (some ⟨yb, 0, none⟩), .bool true, .func (.func 24) #[] #[.pointer (some ⟨eb, 0, none⟩)], .pointer (some ⟨nb, 0, none⟩), .int .i64 (k : Nat), .pointer (some ⟨pb, 0, none⟩), .tuple #[.pointer (some ⟨R, 0, none⟩), .agg #[.slice py M.length cy, .bool fz], .bool true], .slice p l.length c, .tuple #[.pointer (some ⟨R, 0, none⟩), .agg #[.slice py M.length cy, .bool fz], .bool true], .pointer (some ⟨R, 0, none⟩), .agg #[.slice py M.length cy, .bool fz], .bool true, .bool true, .bool false, .bool false, .pointer (some ⟨R, 0, none⟩), .agg #[.slice py M.length cy, .bool fz], .bool true, .bool false, .bool false, .bool false, .pointer (some ⟨R, 0, none⟩), .agg #[.slice py M.length cy, .bool fz], .bool true, .bool false, .bool false, .pointer (some ⟨R, 0, none⟩), .func (.func 24) #[] #[.pointer (some ⟨eb, 0, none⟩)], .func (.func 24) #[] #[.pointer (some ⟨eb, 0, none⟩)], .bool false, .pointer (some ⟨R, 0, none⟩), .agg #[.string nm, ve, .bool ag, .int .i64 pt, .int .i64 pq, .int .i64 pf, .int .i64 pc, .int .i64 ck, .string ct], .tuple #[.int .i64 (addN (pL L) fz ⟨nm, ops, ag, ⟨pt, pq, pf, pc⟩, ck, ct⟩ : Nat), .int .i64 (addE (pL L) fz ⟨nm, ops, ag, ⟨pt, pq, pf, pc⟩, ck, ct⟩)], .func (.func 24) #[] #[.pointer (some ⟨eb, 0, none⟩)], x.getD 0 undef, x.getD 1 undef, undef, undef, undef, undef, undef, undef, undef, undef, undef, undef, undef, undef, undef, undef, undef, undef, undef, undef, undef, undef, undef, undef, undef, undef, undef, undef, undef], defers := [] })
    (fun k x a' A l r r' h hl ho => by obtain ⟨pb, q', c', h1, h2⟩ := h; exact ⟨pb, q', c', h1.put ho, h2⟩)
    ?assign ?body ?done ?stop
  case stop =>
    rintro D c k W1 _ h _
    exact h.elim
  case assign =>
    rintro l k x W1 K hI ⟨hk, q', c', b, rfl, ow, hb⟩ hK
    have OW := hidr ((ow.low hb).below (balr W1 (.cells (prvC L[k].p (.slice q' L[k].p.ops.length c')) 37)))
    have KK := hidr (fun a' (ha : a' = _) => hK a' (W1.alloc (.cells (prvC L[k].p (.slice q' L[k].p.ops.length c')) 37)) (balr _ _) ⟨W1.heap.size, q', c', ⟨hk, rfl, heap_alloc_new _ _, hI.sz, OW.out⟩, ha⟩)
    clear hK ow OW
    generalize L[k].p = pk at *
    obtain ⟨nm2, ops2, ag2, ⟨pt2, pb2, pf2, pc2⟩, ck2, ct2⟩ := pk
    simp only [prvV, prvC] at *
    gi_wp2_with fail
    exact KK.out _ rfl
  case done =>
    intro D W1 hD hI hk
    obtain ⟨u1, u2, u3, u4, u5⟩ := nums
    have ln : L.length = M.length := by rw [← pL_len L, EQ2.out, pL_len]
    have c0 : W1.cell? ⟨yb, 0, none⟩ = some (.slice py M.length cy) := cell_of_row _ _ _ _ _ _ ((hI.kp yb (by omega) (by omega)).trans kY)
    have e1 := (hI.kp (w.heap.size + 1) (by omega) (by omega)).trans kR
    have c1 : W1.cell? ⟨w.heap.size + 1, 0, none⟩ = some (.bool false) := cell_of_row _ _ _ _ _ _ e1
    have f1 : W1.frozen? ⟨w.heap.size + 1, 0, none⟩ = false := by simp [World.frozen?, e1]
    have c3 : W1.cell? ⟨nb, 0, none⟩ = some (.int .i64 (L.length : Nat)) := cell_of_row _ _ _ _ _ _ hI.ct
    rw [ln] at c3
    have BL := hidr hI.bl
    have hD2 : w.heap.size + 1 < D := by omega
    clear hI kR kY k3 ei PM7 e1 BVw
    go_wp2_with fail
    have hD9 : (W1.setCell ⟨w.heap.size + 1, 0, none⟩ (.bool true)).heap[D]? = some (.deferred (some [])) := (Below.heap_setCell _ _ _ _ (by show D ≠ w.heap.size + 1; omega)).trans hk
    have r1 : (W1.setCell ⟨w.heap.size + 1, 0, none⟩ (.bool true)).cell? ⟨w.heap.size + 1, 0, none⟩ = some (.bool true) := by simp [go_sem, c1]
    refine ⟨by simp, .inl ⟨_, _, rfl, run_takeDeferred hD9, ?_⟩⟩
    have r2 : ((W1.setCell ⟨w.heap.size + 1, 0, none⟩ (.bool true)).putObj D (.deferred none)).cell? ⟨w.heap.size + 1, 0, none⟩ = some (.bool true) := (World.cell?_of_block (World.putObj_heap_other (by show w.heap.size + 1 ≠ D; omega))).trans r1
    refine ⟨.bool true, by simp [results, Tryd.results4, go_sem, r2], rfl, ?_⟩
    have b2 : Below w.heap.size w (W1.setCell ⟨w.heap.size + 1, 0, none⟩ (.bool true)) := BL.out.setCell (p := ⟨w.heap.size + 1, 0, none⟩) (Nat.le_succ _) _
    exact ⟨b2.os, b2.tape, b2.output, Nat.le_trans b2.size (by simp), fun x hx => (World.putObj_heap_other (by omega)).trans (b2.block x hx)⟩
  case body =>
    rintro l2 k x a' W2 hl2 hr hI ⟨pb, q', c', hA, rfl⟩ hk
    obtain ⟨hk2, rfl, bx, hpb, ow⟩ := hA
    obtain ⟨u1, u2, u3, u4, u5⟩ := nums
    have ln : L.length = M.length := by rw [← pL_len L, EQ2.out, pL_len]
    have hkM : k < M.length := by omega
    have hk1 : (k : Int) < (M.length : Nat) := by omega
    have ep : M[k].p = L[k].p := by
      have h1 : (pL L)[k]? = some L[k].p := by unfold pL; simp [hk2]
      have h2 : (pL M)[k]? = some M[k].p := by unfold pL; simp [hkM]
      rw [EQ2.out, h2] at h1
      exact Option.some.inj h1
    obtain ⟨X, o, e1, _⟩ := PM7.out.gs.atP hkM
    obtain rfl : py = some ⟨X, o, none⟩ := e1
    have HI := hidr hI
    have BX := hidr bx
    have OW := hidr ow
    have kb : k < 256 := by have := LN.out; omega
    have AT : Hid (∀ w', Below W2.heap.size W2 w' → w'.heap[nb]? = some (.cells #[.int .i64 (k : Nat)] 3) ∧ w'.heap[yb]? = some (.cells #[.slice (some ⟨X, o, none⟩) M.length cy, .bool fz] 26) ∧ PR w' (.slice (some ⟨X, o, none⟩) M.length cy) M) := fun w' b => by
      have h := HI.out.below u4 u5 b
      refine ⟨h.ct, (h.kp yb (by omega) (by omega)).trans kY, PM7.out.gs.blk h.sz (fun g hg hl => h.kp g hl (fun e => ?_)), fun x hx => ⟨(PM7.out.ps x hx).os.blk h.sz (fun g hg hl => h.kp g hl (fun e => ?_)), (PM7.out.ps x hx).tx, (PM7.out.ps x hx).nm, (PM7.out.ps x hx).ln⟩⟩
      · have := PL7.out _ hg; omega
      · have := EL7.out x hx _ hg; omega
    have ops1 : L[k].p.ops.length ≤ 256 := OK1.out _ (List.getElem_mem hk2)
    clear bx ow hI kY kR k3 ei PM7 PL7 EL7
    gi_wp2_with fail
    refine eg12 (X := X) (o := o) (cq := cy) (nm := L[k].p.name) (ct := L[k].p.ct) (ag := L[k].p.again) (pt := L[k].p.pol.t) (pq := L[k].p.pol.b) (pf := L[k].p.pol.f) (pc := L[k].p.pol.c) (ck := L[k].p.ck) (v1 := .slice q' L[k].p.ops.length c') (v2 := .slice M[k].q L[k].p.ops.length M[k].c) hk1 (fun w' b => ?_) (fun w' b => ?_) ?_
    · obtain ⟨a1, a2, a3⟩ := AT.out w' b
      obtain ⟨X2, o2, e2, x0, x1, x2, x3, x4, x5, x6, x7, x8⟩ := a3.gs.atP hkM
      injection e2 with e2
      injection e2 with e2 e3 _
      subst e2 e3
      rw [ep] at x0 x1 x2 x3 x4 x5 x6 x7 x8
      obtain ⟨y0, y1, y2, y3, y4, y5, y6, y7, y8⟩ := PBx.cells (BX.out.below b)
      exact ⟨cell_of_row _ _ _ _ _ _ a1, cell_of_row _ _ _ _ _ _ a2, y0, y1, y2, y3, y4, y5, y6, y7, y8, x0, x1, x2, x3, x4, x5, x6, x7, x8⟩
    · have h2 := (((AT.out w' b).2.2.ps _ (List.getElem_mem hkM))).os
      simp only [Pvx.v] at h2
      rw [ep] at h2
      exact sameProv_same L[k].p _ _ w' ((OW.out.below b).gs KO_ok.len) h2 (by omega)
    · intro W1 _ _ _ _ _ _ _ _ _ _ _ _ _ _ _ _ _ _ _ bW
      have HI1 := hidr (HI.out.below u4 u5 bW)
      have ct2 := HI1.out.ct
      have c3 : W1.cell? ⟨nb, 0, none⟩ = some (.int .i64 (k : Nat)) := cell_of_row _ _ _ _ _ _ ct2
      have f3 : W1.frozen? ⟨nb, 0, none⟩ = false := by simp [World.frozen?, ct2]
      have CT2 := hidr ct2
      have BW2 := hidr bW
      have HI0 := hidr HI.out
      clear AT BX OW HI bW ct2
      gi_wp2_with fail
      have FAR : ∀ u, ∀ g, g ≠ nb → g < W2.heap.size → (W1.setCell ⟨nb, 0, none⟩ u).heap[g]? = W2.heap[g]? := fun u g h1 h2 => (Below.heap_setCell _ _ _ _ h1).trans (BW2.out.block g h2)
      have sz2 : ∀ u, W2.heap.size ≤ (W1.setCell ⟨nb, 0, none⟩ u).heap.size := fun u => by simp [World.setCell]; exact BW2.out.size
      have hz := HI0.out.sz
      refine ⟨⟨sz2 _, fun g ob _ hg ho => ?_⟩, ⟨fun g hg hl => FAR _ g hg.2 hl, sz2 _⟩, ⟨?_, ?_, fun g hg hne => ?_, ?_⟩⟩
      · refine (FAR _ g (fun e => ?_) (lt_heap hg)).trans hg
        rw [e, HI0.out.ct] at hg
        injection hg with hg
        subst hg
        cases ho
      · exact HI1.out.bl.setCell (p := ⟨nb, 0, none⟩) (by show w.heap.size ≤ nb; omega) _
      · exact Nat.le_trans hz (sz2 _)
      · exact (FAR _ g hne (by omega)).trans (HI0.out.kp g hg hne)
      · exact heap_setCell_same W1 nb 0 _ _ _ CT2.out
end Go.Proofs.YtffabehipcomfaaDoor
