/- Names: removeFunc, handed a bound method. -/
import Derived.Test.YthmppnmmlblbhaaDoorQa2
import Derived.Test.YthmppnmmlblbhaaDoorPz4
namespace Go.Proofs.YthmppnmmlblbhaaDoor
open Go.RowKit

theorem nameL_at {L : List Pvx} {k : Nat} (h : k < L.length) : (nameL (pL L)).getD k ByteArray.empty = L[k].p.name := by unfold nameL pL; simp [List.getD, h]
theorem nameL_len (L : List Pvx) : (nameL (pL L)).length = L.length := by unfold nameL pL; simp
/-- A box with a fault. -/
def FBx (w : World) (g : Nat) (a b : Int) : Prop := w.heap[g]? = some (.cells #[.int .i64 a, .int .i64 b] 26)
theorem FBx.below {w w' : World} {g : Nat} {a b : Int} (h : FBx w g a b) (k : Below w.heap.size w w') : FBx w' g a b := (k.block g (Array.getElem?_eq_some_iff.1 h).1).trans h
theorem FBx.far {w w' : World} {g : Nat} {a b : Int} (h : FBx w g a b) (k : w'.heap[g]? = w.heap[g]?) : FBx w' g a b := k.trans h
theorem FBx.cells {w : World} {g : Nat} {a b : Int} (h : FBx w g a b) : w.cell? ⟨g, 0, none⟩ = some (.int .i64 a) ∧ w.cell? ⟨g, 1, none⟩ = some (.int .i64 b) := by
  have q : ∀ j, w.cell? ⟨g, j, none⟩ = (#[Value.int .i64 a, .int .i64 b])[j]? := fun j => cell_of_row _ _ _ _ _ _ h
  exact ⟨q 0, q 1⟩
theorem FBx.fz {w : World} {g : Nat} {a b : Int} (h : FBx w g a b) : ∀ o, w.frozen? ⟨g, o, none⟩ = false := fun _ => box_frozen h
theorem FBx.lt {w : World} {g : Nat} {a b : Int} (h : FBx w g a b) : g < w.heap.size := (Array.getElem?_eq_some_iff.1 h).1
/-- Two cells written at a place from a base on. -/
theorem below_set2 {b : Nat} {w w' : World} {g : Nat} (h : Below b w w') (hg : b ≤ g) (u0 u1 : Value) : Below b w ((w'.setCell ⟨g, 0, none⟩ u0).setCell ⟨g, 1, none⟩ u1) := (h.setCell (p := ⟨g, 0, none⟩) hg u0).setCell (p := ⟨g, 1, none⟩) hg u1
/-- CheckSet's second loop: the box, the set. -/
structure CSI (w wk : World) (b : Nat) (L : List Pvx) (k : Nat) : Prop where
  bl : Below w.heap.size w wk
  bx : FBx wk w.heap.size 0 0
  sa : SA wk b k (seenK (nameL (pL L)) k)
  lo : w.heap.size < b
  nd : ∀ j, j < k → dupB (pL L) j = false
set_option maxHeartbeats 4000000 in
theorem checkSet_any (v : Value) (L : List Pvx) (w : World) (h : PR w v L) (hv : NV w) :
    Calls Tryd.prog 10 #[v] w fun e w' => e = .returned (.agg #[.int .i64 (setF (pL L)).1, .int .i64 (setF (pL L)).2]) ∧ Below w.heap.size w w' := by
  obtain ⟨p, cap, rfl⟩ := h.gs.form
  have HS : Hid (PR w (.slice p L.length cap) L) := h
  have A0 : Hid (∀ ob, Below w.heap.size w (w.alloc ob)) := fun ob => (Below.refl _ _).alloc (Nat.le_refl _) ob
  have F0 : Hid (FBx (w.alloc (.cells #[.int .i64 0, .int .i64 0] 26)) w.heap.size 0 0) := heap_alloc_new _ _
  by_cases hlong : 256 < L.length
  · rw [setF_long (by rw [pL_len]; exact hlong)]
    clear h hv
    go_enter Tryd.func10, Tryd.ntmps10
    go_wp2
    exact bodyPost_ret (v := .agg #[.int .i64 0, .int .i64 3]) (by simp [results, Tryd.results10, go_sem]) rfl ⟨rfl, A0.out _⟩
  · have CK : Hid (∀ w1 k (hk : k < L.length), Below w.heap.size w w1 → Calls Tryd.prog 39 #[.agg #[.string L[k].p.name, .slice L[k].q L[k].p.ops.length L[k].c, .bool L[k].p.again, .int .i64 L[k].p.pol.t, .int .i64 L[k].p.pol.b, .int .i64 L[k].p.pol.f, .int .i64 L[k].p.pol.c, .int .i64 L[k].p.ck, .string L[k].p.ct]] w1 fun e w' => e = .returned (.int .i64 (prvE L[k].p)) ∧ Below w1.heap.size w1 w') := fun w1 k hk b => checkProv_any L[k].p L[k].v w1 ((h.ps _ (List.getElem_mem hk)).below b) (hv.below b)
    have SB : Hid (∀ k (hk : k < L.length), (∀ j (hj : j < k), prvE (L[j]'(by omega)).p = 0) → prvE L[k].p ≠ 0 → setF (pL L) = ((k : Int), prvE L[k].p)) := fun k hk ha hb => by
      have := setF_bad (L := pL L) (by rw [pL_len]; exact hlong) (k := k) (by rw [pL_len]; exact hk) (fun j hj => by rw [pL_at (by omega)]; exact ha j hj) (by rw [pL_at hk]; exact hb)
      rw [this, pL_at hk]
    have SD : Hid ((∀ j (hj : j < L.length), prvE L[j].p = 0) → ∀ k (hk : k < L.length), (∀ j, j < k → dupB (pL L) j = false) → dupB (pL L) k = true → setF (pL L) = ((k : Int), 6)) := fun ha k hk hd hb => setF_dup (by rw [pL_len]; exact hlong) (fun j hj => by rw [pL_at (by rw [pL_len] at hj; exact hj)]; exact ha j _) (by rw [pL_len]; exact hk) hd hb
    have SO : Hid ((∀ j (hj : j < L.length), prvE L[j].p = 0) → (∀ j, j < L.length → dupB (pL L) j = false) → setF (pL L) = (0, 0)) := fun ha hd => setF_ok (by rw [pL_len]; exact hlong) (fun j hj => by rw [pL_at (by rw [pL_len] at hj; exact hj)]; exact ha j _) (by rw [pL_len]; exact hd)
    have HD : Hid (∀ k (hk : k < L.length), dupB (pL L) k = seenK (nameL (pL L)) k L[k].p.name ∧ (∀ s, seenK (nameL (pL L)) (k + 1) s = (seenK (nameL (pL L)) k s || decide (s = L[k].p.name)))) := fun k hk => by
      have e := nameL_at hk
      refine ⟨by unfold dupB; rw [e], fun s => ?_⟩
      rw [seenK_next _ (by rw [nameL_len]; exact hk)]
      have e2 : (nameL (pL L))[k]'(by rw [nameL_len]; exact hk) = L[k].p.name := by rw [← e]; simp [List.getD, nameL_len, hk]
      rw [e2]
    have NM : Hid (∀ k (hk : k < L.length), L[k].p.name.size ≤ maxLen) := fun k hk => (h.ps _ (List.getElem_mem hk)).nm
    clear h hv
    generalize setF (pL L) = R at *
    go_enter Tryd.func10, Tryd.ntmps10
    go_wp2
    go_loopw [15] (fun v15 wr => ∃ (k : Nat) (wk : World), v15 = .int .i64 k ∧ wk = wr ∧ k ≤ L.length ∧ Hid (Below w.heap.size w wk ∧ FBx wk w.heap.size 0 0 ∧ ∀ j (hj : j < k) (hl : j < L.length), prvE L[j].p = 0)) (fun v15 _ => L.length - (intOf v15).toNat)
    case atStart => exact ⟨0, _, rfl, rfl, Nat.zero_le _, ⟨A0.out _, F0.out, fun j hj => by omega⟩⟩
    case round =>
      obtain ⟨k, wr, rfl, rfl, hk, HI⟩ := hrel
      clear F0
      by_cases hlt : k < L.length
      · obtain ⟨X, o, e1, x0, x1, x2, x3, x4, x5, x6, x7, x8⟩ := (HS.out.gs.below HI.out.1).atP hlt
        obtain rfl : p = some ⟨X, o, none⟩ := e1
        have C1 : Hid (∀ ob, _) := fun ob => CK.out (wr.alloc ob) k hlt (HI.out.1.trans (((Below.refl _ _).alloc (Nat.le_refl _) ob).mono HI.out.1.size))
        have B1 : Hid (∀ ob, Below wr.heap.size wr (wr.alloc ob)) := fun ob => (Below.refl _ _).alloc (Nat.le_refl _) ob
        have SB1 : Hid (prvE L[k].p ≠ 0 → R = (↑k, prvE L[k].p)) := fun hb => SB.out k hlt (fun j hj => HI.out.2.2 j hj _) hb
        have HN : Hid (prvE L[k].p = 0 → ∀ j (hj : j < k + 1) (hl : j < L.length), prvE L[j].p = 0) := fun e j hj hl => by
          by_cases e2 : j = k
          · subst e2; exact e
          · exact HI.out.2.2 j (by omega) hl
        obtain ⟨c, hc⟩ : ∃ c, c = L[k] := ⟨_, rfl⟩
        rw [← hc] at x0 x1 x2 x3 x4 x5 x6 x7 x8 C1 SB1 HN
        clear hc CK SB SD SO HD
        go_wp2_with fail
        refine Calls.mono (C1.out _) ?_
        rintro e w1 ⟨rfl, hb1⟩
        have B2 : Hid (Below w.heap.size w w1) := HI.out.1.trans (((B1.out _).trans (hb1.mono (B1.out _).size)).mono HI.out.1.size)
        have F2 : Hid (FBx w1 w.heap.size 0 0) := HI.out.2.1.below ((B1.out _).trans (hb1.mono (B1.out _).size))
        clear hb1 C1 x0 x1 x2 x3 x4 x5 x6 x7 x8 B1
        generalize prvE c.p = r at *
        by_cases hr : r = 0
        · subst hr
          go_wp2_with fail
          go_roundw
          case rel => exact ⟨k + 1, _, by go_num, rfl, by omega, ⟨B2.out, F2.out, HN.out (by simp)⟩⟩
          case measure => simp [intOf]; omega
        · have h1 : (r == 0) = false := by simpa using hr
          have h2 : (r != 0) = true := by simpa using hr
          have hR := SB1.out hr
          obtain ⟨y0, y1⟩ := F2.out.cells
          have fz := F2.out.fz
          have zl := F2.out.lt
          clear SB1 HN
          go_wp2_with fail
          exact bodyPost_ret (v := .agg #[.int .i64 k, .int .i64 r]) (by simp [results, Tryd.results10, go_sem, y0, y1]) rfl ⟨by rw [hR], below_set2 B2.out (Nat.le_refl _) _ _⟩
      · have hke : k = L.length := by omega
        subst hke
        have HA : Hid (∀ j (hj : j < L.length), prvE L[j].p = 0) := fun j hj => HI.out.2.2 j hj hj
        have hmm := @run_makeMap Tryd.prog
        have AL : Below wr.heap.size wr (wr.alloc (.map #[] 0)) := (Below.refl _ _).alloc (Nat.le_refl _) _
        have D0 : Hid (CSI w (wr.alloc (.map #[] 0)) wr.heap.size L 0) := ⟨HI.out.1.trans (AL.mono HI.out.1.size), HI.out.2.1.below AL, (SA.made wr).congr (fun s => by simp [seenK]), HI.out.2.1.lt, fun j hj => by omega⟩
        have SD1 : Hid _ := SD.out HA.out
        have SO1 : Hid _ := SO.out HA.out
        clear HI SB SD SO CK AL HA
        go_wp2
        generalize wr.heap.size = b at *
        go_loopw [31] (fun v31 wr => ∃ (k : Nat) (wk : World), v31 = .int .i64 k ∧ wk = wr ∧ k ≤ L.length ∧ Hid (CSI w wk b L k)) (fun v31 _ => L.length - (intOf v31).toNat)
        case atStart => exact ⟨0, _, rfl, rfl, Nat.zero_le _, D0⟩
        case round =>
          obtain ⟨k, wr, rfl, rfl, hk, HI⟩ := hrel
          clear D0
          by_cases hlt : k < L.length
          · obtain ⟨X, o, e1, x0, x1, x2, x3, x4, x5, x6, x7, x8⟩ := (HS.out.gs.below HI.out.bl).atP hlt
            obtain rfl : p = some ⟨X, o, none⟩ := e1
            have nm := NM.out k hlt
            have B1 : Hid (∀ ob, Below wr.heap.size wr (wr.alloc ob)) := fun ob => (Below.refl _ _).alloc (Nat.le_refl _) ob
            obtain ⟨hd1, hd2⟩ := HD.out k hlt
            have HD1 : Hid _ := hd1
            have HD2 : Hid _ := hd2
            have SD2 : Hid _ := SD1.out k hlt HI.out.nd
            have PX : Hid (∀ w1, PBx w1 wr.heap.size L[k].p (.slice L[k].q L[k].p.ops.length L[k].c) → w1.cell? ⟨wr.heap.size, 0, none⟩ = some (.string L[k].p.name)) := fun w1 h => h.cells.1
            have PN : Hid (PBx (wr.alloc (.cells #[.string L[k].p.name, .slice L[k].q L[k].p.ops.length L[k].c, .bool L[k].p.again, .int .i64 L[k].p.pol.t, .int .i64 L[k].p.pol.b, .int .i64 L[k].p.pol.f, .int .i64 L[k].p.pol.c, .int .i64 L[k].p.ck, .string L[k].p.ct] 60)) wr.heap.size L[k].p (.slice L[k].q L[k].p.ops.length L[k].c)) := heap_alloc_new _ _
            clear hd1 hd2 HD SD1
            have HA : Hid (∀ w1, Below wr.heap.size wr w1 → Calls Tryd.prog 40 #[.map (some b), .string L[k].p.name] w1 fun e w' => e = .returned (.bool (dupB (pL L) k)) ∧ Below w1.heap.size w1 w') := fun w1 c => by rw [HD1.out]; exact has_any b k _ _ w1 (HI.out.sa.below c) nm
            have AD : Hid (∀ w1, Below wr.heap.size wr w1 → _) := fun w1 c => add_any b k _ L[k].p.name w1 (HI.out.sa.below c) nm (by unfold maxLen; omega)
            obtain ⟨c, hc⟩ : ∃ c, c = L[k] := ⟨_, rfl⟩
            rw [← hc] at x0 x1 x2 x3 x4 x5 x6 x7 x8 HA AD HD2 PX PN
            clear hc nm HD1
            go_wp2_with fail
            refine Calls.mono (HA.out _ (B1.out _)) ?_
            rintro e w1 ⟨rfl, hb1⟩
            have B2 : Hid (Below wr.heap.size wr w1) := (B1.out _).trans (hb1.mono (B1.out _).size)
            have P2 : Hid _ := PX.out _ (PN.out.below hb1)
            have lt2 : wr.heap.size < w1.heap.size := by have := hb1.size; simp at this; omega
            clear hb1 HA x0 x1 x2 x3 x4 x5 x6 x7 x8 B1 PX PN
            cases hdup : dupB (pL L) k with
            | true =>
              rw [hdup] at SD2
              have hR := SD2.out rfl
              have F2 : Hid (FBx w1 w.heap.size 0 0) := HI.out.bx.below B2.out
              have BB : Hid (Below w.heap.size w w1) := HI.out.bl.trans (B2.out.mono HI.out.bl.size)
              obtain ⟨y0, y1⟩ := F2.out.cells
              have fz := F2.out.fz
              have zl := F2.out.lt
              clear AD SD2 HI SO1
              go_wp2_with fail
              exact bodyPost_ret (v := .agg #[.int .i64 k, .int .i64 6]) (by simp [results, Tryd.results10, go_sem, y0, y1]) rfl ⟨by rw [hR], below_set2 BB.out (Nat.le_refl _) _ _⟩
            | false =>
              have z2 := P2.out
              go_wp2_with fail
              refine Calls.mono (AD.out _ B2.out) ?_
              rintro e w2 ⟨rfl, hs2, hb2⟩
              have H2 : Hid (CSI w w2 b L (k + 1)) := by
                have lo := HI.out.lo
                have hbx := HI.out.bx.below B2.out
                refine ⟨?_, hbx.far (hb2.block _ hbx.lt (by omega)), hs2.congr (fun s => (HD2.out s).symm), lo, fun j hj => ?_⟩
                · exact (HI.out.bl.trans (B2.out.mono HI.out.bl.size)).trans ⟨hb2.os, hb2.tape, hb2.output, hb2.size, fun x hx => hb2.block x (by have := HI.out.bl.size; omega) (by omega)⟩
                · by_cases e2 : j = k
                  · subst e2; exact hdup
                  · exact HI.out.nd j (by omega)
              clear hs2 hb2 AD HD2 SD2
              go_wp2_with fail
              go_roundw
              case rel => exact ⟨k + 1, _, by go_num, rfl, by omega, H2⟩
              case measure => simp [intOf]; omega
          · have hke : k = L.length := by omega
            subst hke
            have hR := SO1.out HI.out.nd
            have F2 : Hid (FBx wr w.heap.size 0 0) := HI.out.bx
            obtain ⟨y0, y1⟩ := F2.out.cells
            have fz := F2.out.fz
            have zl := F2.out.lt
            go_wp2_with fail
            exact bodyPost_ret (v := .agg #[.int .i64 0, .int .i64 0]) (by simp [results, Tryd.results10, go_sem, y0, y1]) rfl ⟨by rw [hR], below_set2 HI.out.bl (Nat.le_refl _) _ _⟩
end Go.Proofs.YthmppnmmlblbhaaDoor
namespace Go.Proofs.YthmppnmmlblbhaaDoor
open Go.RowKit

set_option maxHeartbeats 8000000 in
set_option maxRecDepth 100000 in
theorem removeM_any (v : Value) (l : List ByteArray) (fn : Nat) (m : Value) (pr : Nat → Bool) (w : World) (I : Nat → (Nat → Prop) → World → Prop) (F0 : Nat → Prop) (V : Vis I) (h : GS KS w v l) (hX : ∀ x, v.ownBlock = some x → ¬ F0 x) (hlm : l.length ≤ 1000000) (I0 : I 0 F0 w) (hen : ∀ args w, Sem.run Tryd.prog (callFunc fn args) w = .ok (.enter fn args) w)
    (VS : ∀ k F wk, k < l.length → I k F wk → (∀ x, F x → F0 x ∨ w.heap.size ≤ x) → But F0 w wk → Calls Tryd.prog fn #[m, .string (l.getD k ByteArray.empty)] wk fun e w' => e = .returned (.bool (pr k)) ∧ ∃ F', I (k + 1) F' w' ∧ (∀ x, F' x → F x ∨ wk.heap.size ≤ x) ∧ But F wk w') :
    Calls Tryd.prog 45 #[v, .func (.func fn) #[m] #[]] w fun e w' => ∃ p c F', e = .returned (.slice p (keepK l ByteArray.empty pr l.length).length c) ∧ RW KS w w' I F0 F' (.slice p (keepK l ByteArray.empty pr l.length).length c) (keepK l ByteArray.empty pr l.length) l.length := by
  obtain ⟨p, cap, rfl⟩ := h.form
  have HS : Hid (GS KS w (.slice p l.length cap) l) := h
  have HX : Hid (∀ x, (Value.slice p l.length cap).ownBlock = some x → ¬ F0 x) := hX
  have HV : Hid _ := VS
  have E0 : Hid (RW KS w w I F0 F0 (.slice none 0 0) (keepK l ByteArray.empty pr 0) 0) := ⟨I0, OwnG.nil _ _ _, fun x hx => by simp [Value.ownBlock] at hx, But.refl _ _, fun x hx => Or.inl hx⟩
  have HK : Hid (∀ k, keepK l ByteArray.empty pr (k + 1) = if pr k = true then keepK l ByteArray.empty pr k else keepK l ByteArray.empty pr k ++ [l.getD k ByteArray.empty]) := fun k => rfl
  have HL : Hid (∀ k, (keepK l ByteArray.empty pr k).length ≤ k) := keepK_len l ByteArray.empty pr
  generalize keepK l ByteArray.empty pr = kp at *
  clear h hX VS I0
  go_enter Tryd.func45, Tryd.ntmps45
  go_wp2
  go_loopw [5, 10] (fun v5 v10 wr => ∃ (k : Nat) (vs : Value) (F : Nat → Prop) (wk : World), v10 = .int .i64 k ∧ vs = v5 ∧ wk = wr ∧ k ≤ l.length ∧ Hid (RW KS w wk I F0 F vs (kp k) k)) (fun _ v10 _ => l.length - (intOf v10).toNat)
  case atStart => exact ⟨0, _, F0, _, rfl, rfl, rfl, Nat.zero_le _, E0⟩
  case round =>
    obtain ⟨k, vs, F, wr, rfl, rfl, rfl, hk, HB⟩ := hrel
    clear E0
    by_cases hlt : k < l.length
    · obtain ⟨X, o, e1, x1⟩ := (HS.out.blk HB.out.bt.size (fun x hx hxl => HB.out.bt.block x hxl (HX.out x hx))).atS hlt
      obtain rfl : p = some ⟨X, o, none⟩ := e1
      have hc : l[k] = l.getD k ByteArray.empty := by simp [List.getD, List.getElem?_eq_getElem hlt]
      rw [hc] at x1
      have CL : Hid _ := HV.out k F wr hlt HB.out.i HB.out.fn HB.out.bt
      have HKk : Hid _ := HK.out k
      have LS : Hid (((kp k).length + 1) * (KS).B ≤ 140737488355328) := by have := HL.out k; show ((kp k).length + 1) * 16 ≤ _; omega
      obtain ⟨c, hcc⟩ : ∃ c, c = l.getD k ByteArray.empty := ⟨_, rfl⟩
      rw [← hcc] at x1 CL HKk
      clear hc hcc
      cases hp : pr k with
      | true =>
        rw [hp] at CL HKk
        rw [if_pos rfl] at HKk
        go_wp2_with fail
        refine Calls.mono CL.out ?_
        rintro e w1 ⟨rfl, F1, i1, f1, b1⟩
        have R1 : Hid (RW KS w w1 I F0 F1 vs (kp (k + 1)) (k + 1)) := by show RW _ _ _ _ _ _ _ _ _; rw [HKk.out]; exact HB.out.look i1 f1 b1
        clear i1 f1 b1 CL HKk
        go_wp2
        go_roundw
        case rel => exact ⟨k + 1, _, F1, _, by go_num, rfl, rfl, by omega, R1⟩
        case measure => simp [intOf]; omega
      | false =>
        rw [hp] at CL HKk
        rw [if_neg (by decide)] at HKk
        go_wp2_with fail
        refine Calls.mono CL.out ?_
        rintro e w1 ⟨rfl, F1, i1, f1, b1⟩
        have R1 : Hid (RW KS w w1 I F0 F1 vs (kp k) (k + 1)) := HB.out.look i1 f1 b1
        have Z1 : Hid (w.heap.size ≤ w1.heap.size) := R1.out.bt.size
        clear i1 f1 b1 CL
        go_wp2_with (at_builtin; refine append_g KS KS_ok rfl (.tmp 18) (.tmp 20) 28 rfl w.heap.size Tryd.underlying28 _ _ _ vs (kp k) c _ rfl R1.out.s _ rfl rfl rfl LS.out Z1.out ?_; intro g2 c2 w2 ho2 hb2 hk2 hg2)
        go_roundw
        case rel =>
          refine ⟨k + 1, _, F1, _, by go_num, rfl, rfl, by omega, ?_⟩
          rw [HKk.out]
          exact R1.out.push V ho2 hb2.os hb2.tape hb2.output hb2.size hk2 hg2
        case measure => simp [intOf]; omega
    · have hkl : k = l.length := by omega
      subst hkl
      obtain ⟨p2, c2, hvs, _⟩ := HB.out.s.form
      subst hvs
      go_wp2
      go_ret
      exact ⟨p2, c2, F, rfl, HB.out⟩
end Go.Proofs.YthmppnmmlblbhaaDoor
