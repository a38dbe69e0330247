/- Registry: the law RegistryKeeps. -/
import Derived.Test.YtlhfpnaigbgbeaaDoorRa9
namespace Go.Proofs.YtlhfpnaigbgbeaaDoor
open Go.RowKit Go.Maps

/-- Behind some of the law's calls. -/
structure KQ (w : World) (r : Nat) (v : Value) (M : List Pvx) (wk : World) : Prop where
  hx : HX w.heap.size r w.heap.size false (pL M) v M wk
  bl : Below w.heap.size w wk
theorem KQ.below {w wk w' : World} {r : Nat} {v : Value} {M : List Pvx} (h : KQ w r v M wk) (b : Below wk.heap.size wk w') : KQ w r v M w' := ⟨h.hx.below b, h.bl.trans (b.mono h.bl.size)⟩
theorem KQ.inv {w wk : World} {r : Nat} {v : Value} {M : List Pvx} (h : KQ w r v M wk) : M.length ≤ 256 ∧ (nameL (pL M)).Nodup ∧ (∀ x ∈ M, x.p.name.size ≤ maxLen ∧ x.p.ops.length ≤ 256) := by
  obtain ⟨vs, L, h1, h2, h3⟩ := h.hx.ex
  have hl : L.length = M.length := by rw [← pL_len L, h2, pL_len]
  refine ⟨by rw [← hl]; exact h1.ln, by rw [← h2]; exact h1.nd, fun x hx => ?_⟩
  have : x.p ∈ pL L := by rw [h2]; exact List.mem_map.2 ⟨x, hx, rfl⟩
  obtain ⟨y, hy, e⟩ := List.mem_map.1 this
  rw [← e]
  exact ⟨h1.nm y hy, chk_len (h1.ok y hy)⟩
theorem KQ.names {w wk : World} {r q : Nat} {v : Value} {M : List Pvx} (h : KQ w r v M wk) (hq : M.length = q) : Calls Tryd.prog 14 #[.pointer (some ⟨r, 0, none⟩)] wk fun e w' => ∃ p c, e = .returned (.slice p q c) ∧ GS KS w' (.slice p q c) (nameL (pL M)) ∧ Below wk.heap.size wk w' := by
  subst hq
  refine h.hx.names.mono ?_
  rintro e w' ⟨p, c, rfl, g, b⟩
  rw [nameL_len] at g
  exact ⟨p, c, by rw [nameL_len], g, b⟩
theorem KQ.len {w wk : World} {r q : Nat} {v : Value} {M : List Pvx} (h : KQ w r v M wk) (hq : M.length = q) : Calls Tryd.prog 15 #[.pointer (some ⟨r, 0, none⟩)] wk fun e w' => e = .returned (.int .i64 q) ∧ w' = wk := by
  have := h.hx.len
  rw [pL_len, hq] at this
  exact this
theorem KQ.find {w wk : World} {r : Nat} {v : Value} {M : List Pvx} (h : KQ w r v M wk) {k : Nat} (hk : k < M.length) : Calls Tryd.prog 16 #[.pointer (some ⟨r, 0, none⟩), .string M[k].p.name] wk fun e w' => e = .returned (.tuple #[.int .i64 k, .int .i64 0]) ∧ Below wk.heap.size wk w' := by
  obtain ⟨_, hn, ho⟩ := h.inv
  refine (h.hx.find M[k].p.name (ho _ (List.getElem_mem hk)).1).mono ?_
  rintro e w' ⟨rfl, b⟩
  have hl : k < (nameL (pL M)).length := by rw [nameL_len]; exact hk
  have e1 : (nameL (pL M))[k] = M[k].p.name := by unfold nameL pL; simp
  have e2 := idxN_at hn hl
  rw [e1] at e2
  refine ⟨?_, b⟩
  unfold fndN fndE
  rw [e2, if_pos hl, if_pos hl]
theorem KQ.get {w wk : World} {r : Nat} {v : Value} {M : List Pvx} (h : KQ w r v M wk) {k : Nat} (hk : k < M.length) : Calls Tryd.prog 17 #[.pointer (some ⟨r, 0, none⟩), .int .i64 k] wk fun e w' => ∃ q c, e = .returned (.tuple #[prvV M[k].p (.slice q M[k].p.ops.length c), .int .i64 0]) ∧ GS KO w' (.slice q M[k].p.ops.length c) M[k].p.ops ∧ Below wk.heap.size wk w' := by
  have := h.hx.get k (by rw [pL_len]; exact hk)
  rw [pL_at hk] at this
  refine this.mono ?_
  rintro e w' ⟨q, c, rfl, o, b⟩
  exact ⟨q, c, rfl, o.gs KO_ok.len, b⟩
theorem KQ.same {w wk : World} {r : Nat} {v : Value} {M : List Pvx} (h : KQ w r v M wk) {k : Nat} (hk : k < M.length) (u : Value) (hu : GS KO wk u M[k].p.ops) : Calls Tryd.prog 10 #[prvV M[k].p u, prvV M[k].p M[k].v] wk fun e w' => e = .returned (.bool true) ∧ Below wk.heap.size wk w' := by
  obtain ⟨_, _, ho⟩ := h.inv
  exact sameProv_same M[k].p u M[k].v wk hu ((h.hx.he _ (List.getElem_mem hk)).gs KO_ok.len) (by have := (ho _ (List.getElem_mem hk)).2; omega)
theorem HX.start {base r m : Nat} {fz : Bool} {P : List Prv} {w : World} (h : HX base r m fz P (.slice none 0 0) [] w) (hb : base ≤ w.heap.size) : HX base r m fz P (.slice (some ⟨w.heap.size, 0, none⟩) 0 0) [] (w.alloc (.cells #[] 37)) := by
  obtain ⟨⟨vs, L, h1, h2, h3⟩, ho, he⟩ := h
  refine ⟨⟨vs, L, h1.below (balr w _), h2, fun g hg => ?_⟩, (OwnG.empty KP w).low hb, fun x hx => by cases hx⟩
  have e : w.heap.size = g := by simpa [Value.ownBlock] using hg
  subst e
  intro q
  have := (h1.own.lt q).2; omega
theorem cells9 {w : World} {g n c k : Nat} {base : Nat} {M : List Pvx} (o : OwnG KP w base (.slice (some ⟨g, 0, none⟩) n c) M) (hn : M.length = n) (hk : k < M.length) : w.cell? ⟨g, k * 9, none⟩ = some (.string M[k].p.name) ∧ w.cell? ⟨g, k * 9 + 1, none⟩ = some (.slice M[k].q M[k].p.ops.length M[k].c) ∧ w.cell? ⟨g, k * 9 + 2, none⟩ = some (.bool M[k].p.again) ∧ w.cell? ⟨g, k * 9 + 3, none⟩ = some (.int .i64 M[k].p.pol.t) ∧ w.cell? ⟨g, k * 9 + 4, none⟩ = some (.int .i64 M[k].p.pol.b) ∧ w.cell? ⟨g, k * 9 + 5, none⟩ = some (.int .i64 M[k].p.pol.f) ∧ w.cell? ⟨g, k * 9 + 6, none⟩ = some (.int .i64 M[k].p.pol.c) ∧ w.cell? ⟨g, k * 9 + 7, none⟩ = some (.int .i64 M[k].p.ck) ∧ w.cell? ⟨g, k * 9 + 8, none⟩ = some (.string M[k].p.ct) := by
  subst hn
  obtain ⟨X, o', e1, h⟩ := (o.gs KP_ok.len).atP hk
  injection e1 with e1
  injection e1 with e1 e2 _
  subst e1 e2
  simpa using h
theorem kq_push {w0 w3 w4 : World} {r g c q g4 c4 : Nat} {M : List Pvx} {x : Pvx} (h : HX w0.heap.size r w0.heap.size false (pL M ++ [x.p]) (.slice (some ⟨g, 0, none⟩) q c) M w3) (b : Below w0.heap.size w0 w3) (hx : OwnG KO w3 w0.heap.size x.v x.p.ops)
    (o4 : OwnG KP w4 w0.heap.size (.slice (some ⟨g4, 0, none⟩) (M.length + 1) c4) (M ++ [x])) (b4 : Below w0.heap.size w3 w4) (k4 : ∀ k, k < w3.heap.size → some k ≠ (Value.slice (some ⟨g, 0, none⟩) q c).ownBlock → w4.heap[k]? = w3.heap[k]?) (hg : (Value.slice (some ⟨g, 0, none⟩) q c).ownBlock = some g4 ∨ w3.heap.size ≤ g4) : KQ w0 r (.slice (some ⟨g4, 0, none⟩) (M.length + 1) c4) (M ++ [x]) w4 := by
  refine ⟨?_, b.trans b4⟩
  have e : pL (M ++ [x]) = pL M ++ [x.p] := by unfold pL; rw [List.map_append]; rfl
  rw [e]
  exact h.push hx o4 k4 hg
set_option maxHeartbeats 16000000 in
set_option maxRecDepth 100000 in
theorem keeps_any (v : Value) (L0 : List Pvx) (w : World) (h : PR w v L0) (hv : NV w) (hl0 : L0.length ≤ 10000000000000) : Calls Tryd.prog 5 #[v] w fun e w' => e = .returned (.bool true) ∧ Below w.heap.size w w' := by
  obtain ⟨p0, c0, rfl⟩ := h.gs.form
  have WK := hidr (works_any w hv)
  have HP := hidr h
  have HV := hidr hv
  obtain ⟨n, hn⟩ : ∃ n, n = L0.length := ⟨_, rfl⟩
  have HN := hidr hn
  rw [← hn] at hl0 ⊢
  clear h hv
  go_enter Tryd.func5, Tryd.ntmps5
  go_wp2_with fail
  refine WK.out.mono ?_
  rintro e w0 ⟨rfl, hb0⟩
  have B0 := hidr hb0
  have NW := hidr (new_hx w0)
  obtain ⟨r, hr⟩ : ∃ r, r = w0.heap.size + 1 := ⟨_, rfl⟩
  rw [← hr] at NW
  clear hb0 hr WK
  go_wp2_with fail
  refine NW.out.mono ?_
  rintro e w1 ⟨rfl, hx1, hb1⟩
  have K0 : Hid (KQ w0 r (.slice (some ⟨w1.heap.size, 0, none⟩) 0 0) [] (w1.alloc (.cells #[] 37))) := ⟨hx1.start hb1.size, blr hb1 (balr _ _)⟩
  clear hx1 hb1 NW
  go_wp2_with fail
  go_loopw [4, 5] (fun v4 v5 wr => ∃ (k g q c : Nat) (M : List Pvx) (wk : World), v5 = .int .i64 k ∧ v4 = .slice (some ⟨g, 0, none⟩) q c ∧ wk = wr ∧ k ≤ n ∧ Hid (M.length = q) ∧ Hid (KQ w0 r (.slice (some ⟨g, 0, none⟩) q c) M wk)) (fun _ v5 _ => n - (intOf v5).toNat)
  case atStart => exact ⟨0, _, 0, 0, [], _, rfl, rfl, rfl, Nat.zero_le _, rfl, K0⟩
  case round =>
    obtain ⟨k, g, q, c, M, wr, rfl, rfl, rfl, hk, HQ, HK⟩ := hrel
    clear K0
    by_cases hlt : k < n
    · have hkl : k < L0.length := by rw [← HN.out]; exact hlt
      have hk1 : (k : Int) < (n : Int) := by omega
      have BW := hidr (fun W (b : Below w0.heap.size w0 W) => B0.out.trans (b.mono B0.out.size))
      have CELL0 := hidr (fun W (b : Below w.heap.size w W) => (HP.out.below b).gs.atP hkl)
      have PSk := hidr (fun W (b : Below w.heap.size w W) => (HP.out.below b).ps _ (List.getElem_mem hkl))
      have AD := hidr (HK.out.hx.add L0[k].p L0[k].v (PSk.out wr (BW.out _ HK.out.bl)) (HV.out.below (BW.out _ HK.out.bl)))
      obtain ⟨X, o, e1, z0, z1, z2, z3, z4, z5, z6, z7, z8⟩ := CELL0.out wr (BW.out _ HK.out.bl)
      obtain rfl : p0 = some ⟨X, o, none⟩ := e1
      by_cases he : addE (pL M) false L0[k].p = 0
      · have CP := hidr (fun W (b : Below w.heap.size w W) => copyProv_any L0[k].p L0[k].v W (PSk.out W b))
        have e9 : addN (pL M) false L0[k].p = q := by unfold addN; rw [if_pos he, pL_len]; exact HQ.out
        have e8 : addL (pL M) false L0[k].p = pL M ++ [L0[k].p] := by unfold addL; rw [if_pos he]
        have q255 : q < 256 := by have := (addE_ok he).2.2.2; rw [pL_len] at this; have := HQ.out; omega
        rw [e9, e8, he] at AD
        have CELL1 := hidr (fun W (b : Below w.heap.size w W) => CELL0.out W b)
        generalize L0[k] = y at *
        obtain ⟨⟨nm, ops, ag, ⟨pt, pb, pf, pc⟩, ck, ct⟩, q0, cq⟩ := y
        simp only [prvV, Pvx.v] at *
        clear e9 e8 he PSk CELL0
        go_wp2_with fail
        refine AD.out.mono ?_
        rintro e w2 ⟨rfl, hx2, bb2⟩
        have X2 := hidr hx2
        have B2 := hidr (HK.out.bl.trans bb2)
        clear z0 z1 z2 z3 z4 z5 z6 z7 z8 hx2 bb2 AD
        obtain ⟨X', o', e1, z0, z1, z2, z3, z4, z5, z6, z7, z8⟩ := CELL1.out w2 (BW.out _ B2.out)
        injection e1 with e1
        injection e1 with e1 e2 _
        subst e1 e2
        have CP2 := hidr (CP.out w2 (BW.out _ B2.out))
        clear CP CELL1
        go_wp2_with fail
        refine CP2.out.mono ?_
        rintro e w3 ⟨q3, c3, rfl, o3, b3⟩
        have X3 := hidr (X2.out.below b3)
        have O3 : Hid (OwnG KO w3 w0.heap.size (.slice q3 ops.length c3) ops) := o3.low B2.out.size
        have B3 := hidr (B2.out.trans (b3.mono B2.out.size))
        have LS : Hid ((M.length + 1) * KP.B ≤ 140737488355328) := by show (M.length + 1) * 104 ≤ _; have := HQ.out; omega
        have OM : Hid (OwnG KP w3 w0.heap.size (.slice (some ⟨g, 0, none⟩) q c) M) := X3.out.ho
        clear o3 b3 X2 CP2 z0 z1 z2 z3 z4 z5 z6 z7 z8
        go_wp2_with (at_builtin; (refine append_g KP KP_ok rfl (.tmp 39) (.tmp 45) 24 rfl w0.heap.size Tryd.underlying24 w3 _ _ (.slice (some ⟨g, 0, none⟩) q c) M ⟨⟨nm, ops, ag, ⟨pt, pb, pf, pc⟩, ck, ct⟩, q3, c3⟩ _ rfl OM.out _ rfl rfl rfl LS.out B3.out.size ?_; intro g4 c4 w4 o4 b4 k4 q4; have K4 := hidr (kq_push (x := ⟨⟨nm, ops, ag, ⟨pt, pb, pf, pc⟩, ck, ct⟩, q3, c3⟩) X3.out B3.out O3.out o4 b4 k4 q4); have Q4 : Hid ((M ++ [(⟨⟨nm, ops, ag, ⟨pt, pb, pf, pc⟩, ck, ct⟩, q3, c3⟩ : Pvx)]).length = q + 1) := (by show _ = _; rw [List.length_append, HQ.out]; rfl); clear o4 b4 k4 q4))
        have EM := HQ.out
        rw [EM] at K4
        rw [EM]
        clear EM X3 O3 OM LS HK HQ B3 B2
        generalize M ++ [_] = M2 at *
        generalize q + 1 = q2 at *
        have NA := hidr (K4.out.names Q4.out)
        go_wp2_with fail
        refine NA.out.mono ?_
        rintro e wN ⟨pn, cn, rfl, gN, bN⟩
        have KN := hidr (K4.out.below bN)
        have GN := hidr gN
        have LE := hidr (KN.out.len Q4.out)
        have q256 : q2 ≤ 256 := by have := K4.out.inv.1; have := Q4.out; omega
        clear gN bN NA K4
        go_wp2_with (go_at_call 15; refine LE.out.mono ?_; rintro e wL ⟨rfl, hwL⟩; subst wL)
        clear LE
        go_loopw [9] (fun v9 wr => ∃ (j : Nat) (wk : World), v9 = .int .i64 j ∧ wk = wr ∧ j ≤ q2 ∧ Hid (KQ w0 r (.slice (some ⟨g4, 0, none⟩) q2 c4) M2 wk) ∧ Hid (GS KS wk (.slice pn q2 cn) (nameL (pL M2)))) (fun v9 _ => q2 - (intOf v9).toNat)
        case atStart => exact ⟨0, _, rfl, rfl, Nat.zero_le _, KN, GN⟩
        case round =>
          obtain ⟨j, wj, rfl, rfl, hj, K4, HG⟩ := hrel
          clear KN GN
          by_cases hjq : j < q2
          · have hjm : j < M2.length := by have := Q4.out; omega
            have hj1 : (j : Int) < (q2 : Int) := by omega
            have CL : Hid (∀ W, Below wj.heap.size wj W → _) := fun W b => cells9 ((K4.out.below b).hx.ho) Q4.out hjm
            have NL : j < (nameL (pL M2)).length := by rw [nameL_len]; exact hjm
            obtain ⟨Xn, on, e1, n0⟩ := HG.out.atS NL
            obtain rfl : pn = some ⟨Xn, on, none⟩ := e1
            have e2 : (nameL (pL M2))[j] = M2[j].p.name := by unfold nameL pL; simp
            rw [e2] at n0
            have CN : Hid (∀ W, Below wj.heap.size wj W → W.cell? ⟨Xn, on + j, none⟩ = some (.string M2[j].p.name)) := fun W b => (b.cell (p := ⟨Xn, on + j, none⟩) (block_lt_of_cell n0)).trans n0
            have FD := hidr (K4.out.find hjm)
            have GT := hidr (fun W (b : Below wj.heap.size wj W) => (K4.out.below b).get hjm)
            have SM := hidr (fun W (b : Below wj.heap.size wj W) u hu => (K4.out.below b).same hjm u hu)
            have PY : Hid (∀ w1 b u, PBx w1 b M2[j].p u → _) := fun w1 b u h => PBx.cells h
            obtain ⟨x0, x1, x2, x3, x4, x5, x6, x7, x8⟩ := CL.out wj (Below.refl _ _)
            generalize M2[j] = y at *
            obtain ⟨⟨nm, ops, ag, ⟨pt, pb, pf, pc⟩, ck, ct⟩, q0, cq⟩ := y
            simp only [prvV, prvC, Pvx.v, PBx] at *
            clear e2 NL
            go_wp2_with fail
            refine FD.out.mono ?_
            rintro e w5 ⟨rfl, b5⟩
            have GT5 := hidr (GT.out _ b5)
            have B5 := hidr b5
            clear b5 FD GT x0 x1 x2 x3 x4 x5 x6 x7 x8 n0
            go_wp2_with fail
            refine GT5.out.mono ?_
            rintro e w6 ⟨q6, c6, rfl, g6, b6⟩
            have B6 := hidr (blr B5.out b6)
            have G6 := hidr (fun ob => g6.below (balr w6 ob))
            have X6 := hidr (heap_alloc_new w6)
            clear g6 b6 GT5 B5
            go_upto_region 21 with fail
            generalize hW : w6.alloc _ = W7
            have B7 : Hid (Below wj.heap.size wj W7) := by rw [← hW]; exact blr B6.out (balr _ _)
            have G7 : Hid (GS KO W7 (.slice q6 ops.length c6) ops) := by rw [← hW]; exact G6.out _
            have X7 : Hid (W7.heap[w6.heap.size]? = some (.cells #[.string nm, .slice q6 ops.length c6, .bool ag, .int .i64 pt, .int .i64 pb, .int .i64 pf, .int .i64 pc, .int .i64 ck, .string ct] 37)) := by rw [← hW]; exact X6.out _
            clear hW G6 X6 B6
            obtain ⟨B, hB⟩ : ∃ B, B = w6.heap.size := ⟨_, rfl⟩
            rw [← hB] at X7 ⊢
            clear hB
            obtain ⟨y0, y1, y2, y3, y4, y5, y6, y7, y8⟩ := PY.out W7 B _ X7.out
            obtain ⟨x0, x1, x2, x3, x4, x5, x6, x7, x8⟩ := CL.out W7 B7.out
            have n0 := CN.out W7 B7.out
            go_region_held3 (fun w' => w'.cell? ⟨B, 0, none⟩ = some (.string nm) ∧ w'.cell? ⟨B, 1, none⟩ = some (.slice q6 ops.length c6) ∧ w'.cell? ⟨B, 2, none⟩ = some (.bool ag) ∧ w'.cell? ⟨B, 3, none⟩ = some (.int .i64 pt) ∧ w'.cell? ⟨B, 4, none⟩ = some (.int .i64 pb) ∧ w'.cell? ⟨B, 5, none⟩ = some (.int .i64 pf) ∧ w'.cell? ⟨B, 6, none⟩ = some (.int .i64 pc) ∧ w'.cell? ⟨B, 7, none⟩ = some (.int .i64 ck) ∧ w'.cell? ⟨B, 8, none⟩ = some (.string ct) ∧ w'.cell? ⟨g4, j * 9, none⟩ = some (.string nm) ∧ w'.cell? ⟨g4, j * 9 + 1, none⟩ = some (.slice q0 ops.length cq) ∧ w'.cell? ⟨g4, j * 9 + 2, none⟩ = some (.bool ag) ∧ w'.cell? ⟨g4, j * 9 + 3, none⟩ = some (.int .i64 pt) ∧ w'.cell? ⟨g4, j * 9 + 4, none⟩ = some (.int .i64 pb) ∧ w'.cell? ⟨g4, j * 9 + 5, none⟩ = some (.int .i64 pf) ∧ w'.cell? ⟨g4, j * 9 + 6, none⟩ = some (.int .i64 pc) ∧ w'.cell? ⟨g4, j * 9 + 7, none⟩ = some (.int .i64 ck) ∧ w'.cell? ⟨g4, j * 9 + 8, none⟩ = some (.string ct) ∧ w'.cell? ⟨Xn, on + j, none⟩ = some (.string nm)) (go_keep)
              ((go_at_call 10; refine (SM.out _ (by first | exact B7.out | exact B7.out.drew) _ (by first | exact G7.out | exact G7.out.below (Below.refl _ _).drew)).mono ?_; rintro e w8 ⟨rfl, b8⟩; have B8 : Hid (Below W7.heap.size W7 w8) := ((Below.refl _ _).drew).trans b8; clear b8 x0 x1 x2 x3 x4 x5 x6 x7 x8 y0 y1 y2 y3 y4 y5 y6 y7 y8 n0; obtain ⟨y0, y1, y2, y3, y4, y5, y6, y7, y8⟩ := PY.out w8 B _ ((B8.out.block _ (lt_heap X7.out)).trans X7.out); obtain ⟨x0, x1, x2, x3, x4, x5, x6, x7, x8⟩ := CL.out w8 (blr B7.out B8.out); have n0 := CN.out w8 (blr B7.out B8.out)))
            all_goals
              go_wp2_with fail
              go_roundw
              case rel => exact ⟨j + 1, _, by go_num, rfl, by omega, K4.out.below (blr B7.out B8.out), HG.out.below (blr B7.out B8.out)⟩
              case measure => simp [intOf]; omega
          · have hj1 : ¬ (j : Int) < (q2 : Int) := by omega
            go_wp2_with fail
            go_roundw
            case rel => exact ⟨k + 1, g4, q2, c4, M2, _, by go_num, rfl, rfl, by omega, Q4, K4⟩
            case measure => simp [intOf]; omega
      · have e8 : addL (pL M) false L0[k].p = pL M := by unfold addL; rw [if_neg he]
        rw [e8] at AD
        have hre : (addE (pL M) false L0[k].p == 0) = false := by simpa using he
        generalize addE (pL M) false L0[k].p = re at *
        generalize addN (pL M) false L0[k].p = rn at *
        generalize L0[k] = y at *
        obtain ⟨⟨nm, ops, ag, ⟨pt, pb, pf, pc⟩, ck, ct⟩, q0, cq⟩ := y
        simp only [prvV, Pvx.v] at *
        clear e8 he PSk CELL0
        go_wp2_with fail
        refine AD.out.mono ?_
        rintro e w2 ⟨rfl, hx2, bb2⟩
        have K4 : Hid (KQ w0 r (.slice (some ⟨g, 0, none⟩) q c) M w2) := ⟨hx2, HK.out.bl.trans bb2⟩
        clear z0 z1 z2 z3 z4 z5 z6 z7 z8 hx2 bb2 AD HK
        have NA := hidr (K4.out.names HQ.out)
        go_wp2_with fail
        refine NA.out.mono ?_
        rintro e wN ⟨pn, cn, rfl, gN, bN⟩
        have KN := hidr (K4.out.below bN)
        have GN := hidr gN
        have LE := hidr (KN.out.len HQ.out)
        have q256 : q ≤ 256 := by have := K4.out.inv.1; have := HQ.out; omega
        clear gN bN NA K4
        go_wp2_with (go_at_call 15; refine LE.out.mono ?_; rintro e wL ⟨rfl, hwL⟩; subst wL)
        clear LE
        go_loopw [9] (fun v9 wr => ∃ (j : Nat) (wk : World), v9 = .int .i64 j ∧ wk = wr ∧ j ≤ q ∧ Hid (KQ w0 r (.slice (some ⟨g, 0, none⟩) q c) M wk) ∧ Hid (GS KS wk (.slice pn q cn) (nameL (pL M)))) (fun v9 _ => q - (intOf v9).toNat)
        case atStart => exact ⟨0, _, rfl, rfl, Nat.zero_le _, KN, GN⟩
        case round =>
          obtain ⟨j, wj, rfl, rfl, hj, K4, HG⟩ := hrel
          clear KN GN
          by_cases hjq : j < q
          · have hjm : j < M.length := by have := HQ.out; omega
            have hj1 : (j : Int) < (q : Int) := by omega
            have CL : Hid (∀ W, Below wj.heap.size wj W → _) := fun W b => cells9 ((K4.out.below b).hx.ho) HQ.out hjm
            have NL : j < (nameL (pL M)).length := by rw [nameL_len]; exact hjm
            obtain ⟨Xn, on, e1, n0⟩ := HG.out.atS NL
            obtain rfl : pn = some ⟨Xn, on, none⟩ := e1
            have e2 : (nameL (pL M))[j] = M[j].p.name := by unfold nameL pL; simp
            rw [e2] at n0
            have CN : Hid (∀ W, Below wj.heap.size wj W → W.cell? ⟨Xn, on + j, none⟩ = some (.string M[j].p.name)) := fun W b => (b.cell (p := ⟨Xn, on + j, none⟩) (block_lt_of_cell n0)).trans n0
            have FD := hidr (K4.out.find hjm)
            have GT := hidr (fun W (b : Below wj.heap.size wj W) => (K4.out.below b).get hjm)
            have SM := hidr (fun W (b : Below wj.heap.size wj W) u hu => (K4.out.below b).same hjm u hu)
            have PY : Hid (∀ w1 b u, PBx w1 b M[j].p u → _) := fun w1 b u h => PBx.cells h
            obtain ⟨x0, x1, x2, x3, x4, x5, x6, x7, x8⟩ := CL.out wj (Below.refl _ _)
            generalize M[j] = y at *
            obtain ⟨⟨nm, ops, ag, ⟨pt, pb, pf, pc⟩, ck, ct⟩, q0, cq⟩ := y
            simp only [prvV, prvC, Pvx.v, PBx] at *
            clear e2 NL
            go_wp2_with fail
            refine FD.out.mono ?_
            rintro e w5 ⟨rfl, b5⟩
            have GT5 := hidr (GT.out _ b5)
            have B5 := hidr b5
            clear b5 FD GT x0 x1 x2 x3 x4 x5 x6 x7 x8 n0
            go_wp2_with fail
            refine GT5.out.mono ?_
            rintro e w6 ⟨q6, c6, rfl, g6, b6⟩
            have B6 := hidr (blr B5.out b6)
            have G6 := hidr (fun ob => g6.below (balr w6 ob))
            have X6 := hidr (heap_alloc_new w6)
            clear g6 b6 GT5 B5
            go_upto_region 21 with fail
            generalize hW : w6.alloc _ = W7
            have B7 : Hid (Below wj.heap.size wj W7) := by rw [← hW]; exact blr B6.out (balr _ _)
            have G7 : Hid (GS KO W7 (.slice q6 ops.length c6) ops) := by rw [← hW]; exact G6.out _
            have X7 : Hid (W7.heap[w6.heap.size]? = some (.cells #[.string nm, .slice q6 ops.length c6, .bool ag, .int .i64 pt, .int .i64 pb, .int .i64 pf, .int .i64 pc, .int .i64 ck, .string ct] 37)) := by rw [← hW]; exact X6.out _
            clear hW G6 X6 B6
            obtain ⟨B, hB⟩ : ∃ B, B = w6.heap.size := ⟨_, rfl⟩
            rw [← hB] at X7 ⊢
            clear hB
            obtain ⟨y0, y1, y2, y3, y4, y5, y6, y7, y8⟩ := PY.out W7 B _ X7.out
            obtain ⟨x0, x1, x2, x3, x4, x5, x6, x7, x8⟩ := CL.out W7 B7.out
            have n0 := CN.out W7 B7.out
            go_region_held3 (fun w' => w'.cell? ⟨B, 0, none⟩ = some (.string nm) ∧ w'.cell? ⟨B, 1, none⟩ = some (.slice q6 ops.length c6) ∧ w'.cell? ⟨B, 2, none⟩ = some (.bool ag) ∧ w'.cell? ⟨B, 3, none⟩ = some (.int .i64 pt) ∧ w'.cell? ⟨B, 4, none⟩ = some (.int .i64 pb) ∧ w'.cell? ⟨B, 5, none⟩ = some (.int .i64 pf) ∧ w'.cell? ⟨B, 6, none⟩ = some (.int .i64 pc) ∧ w'.cell? ⟨B, 7, none⟩ = some (.int .i64 ck) ∧ w'.cell? ⟨B, 8, none⟩ = some (.string ct) ∧ w'.cell? ⟨g, j * 9, none⟩ = some (.string nm) ∧ w'.cell? ⟨g, j * 9 + 1, none⟩ = some (.slice q0 ops.length cq) ∧ w'.cell? ⟨g, j * 9 + 2, none⟩ = some (.bool ag) ∧ w'.cell? ⟨g, j * 9 + 3, none⟩ = some (.int .i64 pt) ∧ w'.cell? ⟨g, j * 9 + 4, none⟩ = some (.int .i64 pb) ∧ w'.cell? ⟨g, j * 9 + 5, none⟩ = some (.int .i64 pf) ∧ w'.cell? ⟨g, j * 9 + 6, none⟩ = some (.int .i64 pc) ∧ w'.cell? ⟨g, j * 9 + 7, none⟩ = some (.int .i64 ck) ∧ w'.cell? ⟨g, j * 9 + 8, none⟩ = some (.string ct) ∧ w'.cell? ⟨Xn, on + j, none⟩ = some (.string nm)) (go_keep)
              ((go_at_call 10; refine (SM.out _ (by first | exact B7.out | exact B7.out.drew) _ (by first | exact G7.out | exact G7.out.below (Below.refl _ _).drew)).mono ?_; rintro e w8 ⟨rfl, b8⟩; have B8 : Hid (Below W7.heap.size W7 w8) := ((Below.refl _ _).drew).trans b8; clear b8 x0 x1 x2 x3 x4 x5 x6 x7 x8 y0 y1 y2 y3 y4 y5 y6 y7 y8 n0; obtain ⟨y0, y1, y2, y3, y4, y5, y6, y7, y8⟩ := PY.out w8 B _ ((B8.out.block _ (lt_heap X7.out)).trans X7.out); obtain ⟨x0, x1, x2, x3, x4, x5, x6, x7, x8⟩ := CL.out w8 (blr B7.out B8.out); have n0 := CN.out w8 (blr B7.out B8.out)))
            all_goals
              go_wp2_with fail
              go_roundw
              case rel => exact ⟨j + 1, _, by go_num, rfl, by omega, K4.out.below (blr B7.out B8.out), HG.out.below (blr B7.out B8.out)⟩
              case measure => simp [intOf]; omega
          · have hj1 : ¬ (j : Int) < (q : Int) := by omega
            go_wp2_with fail
            go_roundw
            case rel => exact ⟨k + 1, g, q, c, M, _, by go_num, rfl, rfl, by omega, HQ, K4⟩
            case measure => simp [intOf]; omega
    · obtain rfl : k = n := by omega
      have hk1 : ¬ (k : Int) < (k : Int) := by omega
      go_wp2_with fail
      go_ret
      exact ⟨rfl, B0.out.trans (HK.out.bl.mono B0.out.size)⟩
end Go.Proofs.YtlhfpnaigbgbeaaDoor
