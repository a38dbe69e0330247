/- The law NamesClosures. -/
import Derived.Test.YthmppnmmlblbhaaDoorQc8
import Derived.Deep.RegionHeld3
import Derived.Test.YthmppnmmlblbhaaDoorPn2
import Derived.Test.YthmppnmmlblbhaaDoorQc2
namespace Go.Proofs.YthmppnmmlblbhaaDoor
open Go.RowKit

theorem rclos_at (v : Value) (L : List Pvx) (s : ByteArray) (w : World) (h : PR w v L) (hn : (setF (pL L)).2 = 0) (hs : inB (nameL (pL L)) s = true) :
    ∃ k, k < L.length ∧ numI (nameL (pL L)) s = k ∧ Calls Tryd.prog 66 #[v, .int .i64 k] w fun e w' => ∃ q c, e = .returned (.slice q (srtL (rchB (askF (pL L)) s)).length c) ∧ OwnG KS w' w.heap.size (.slice q (srtL (rchB (askF (pL L)) s)).length c) (srtL (rchB (askF (pL L)) s)) ∧ Below w.heap.size w w' := by
  obtain ⟨k, hk, e1, e2⟩ := numI_name hs
  rw [pL_len] at hk
  rw [pL_at hk] at e2
  have := rclosure_any v L k hk w h hn
  rw [e2] at this
  exact ⟨k, hk, e1, this⟩
set_option maxHeartbeats 8000000 in
theorem rclosureE_any (v : Value) (L : List Pvx) (nm : ByteArray) (w : World) (h : PR w v L) :
    Calls Tryd.prog 30 #[v, .string nm] w fun e w' => AnsF w w' e (closL (pL L) nm) (fromF (pL L) nm) := by
  have A0 : Hid (∀ ob, Below w.heap.size w (w.alloc ob)) := fun ob => (Below.refl _ _).alloc (Nat.le_refl _) ob
  have F0 : Hid (FBx (w.alloc (.cells #[.int .i64 0, .int .i64 0] 26)) w.heap.size 0 0) := heap_alloc_new _ _
  have CS : Hid (∀ w1, Below w.heap.size w w1 → _) := fun w1 b => rcheckSet_any v L w1 (h.below b)
  by_cases hs : (setF (pL L)).2 = 0
  · have hz := (fine_of hs).2
    have hlen := (fine_of hs).1.len
    rw [hz] at CS
    have NU : Hid (∀ w1, Below w.heap.size w w1 → Calls Tryd.prog 43 #[v, .string nm] w1 fun e w' => e = .returned (.int .i64 (numI (nameL (pL L)) nm)) ∧ w' = w1) := fun w1 b => number_any v L nm w1 (h.gs.below b) (by omega)
    cases hi : inB (nameL (pL L)) nm with
    | false =>
      have e0 : fromF (pL L) nm = (0, 4) := by unfold fromF; rw [if_pos hs, if_neg (by rw [hi]; decide)]
      have e1 : closL (pL L) nm = [] := by unfold closL; rw [e0]; rfl
      rw [e0, e1]
      have hnn : numI (nameL (pL L)) nm < 0 := (numI_neg _ _).1.2 hi
      obtain ⟨p, cap, rfl⟩ := h.gs.form
      generalize numI (nameL (pL L)) nm = nn at *
      clear h hs hz hi e0 e1
      go_enter Tryd.func30, Tryd.ntmps30
      go_wp2_with fail
      refine Calls.mono (CS.out _ (A0.out _)) ?_
      rintro e w1 ⟨rfl, hb1⟩
      have B1 : Hid (Below w.heap.size w w1) := (A0.out _).trans (hb1.mono (A0.out _).size)
      have F1 : Hid (FBx w1 w.heap.size 0 0) := F0.out.below hb1
      clear hb1 CS F0
      have BA : Hid (∀ ob, Below w1.heap.size w1 (w1.alloc ob)) := fun ob => (Below.refl _ _).alloc (Nat.le_refl _) ob
      go_wp2_with fail
      refine Calls.mono (NU.out _ (B1.out.trans ((BA.out _).mono B1.out.size))) ?_
      rintro e w2 ⟨rfl, hw2⟩
      rw [hw2]
      clear hw2 NU
      generalize hW : w1.alloc _ = w3 at *
      have F3 : Hid (FBx w3 w.heap.size 0 0) := by rw [← hW]; exact F1.out.below (BA.out _)
      have B3 : Hid (Below w.heap.size w w3) := by rw [← hW]; exact B1.out.trans ((BA.out _).mono B1.out.size)
      clear hW
      obtain ⟨y0, y1⟩ := F3.out.cells
      have fz := F3.out.fz
      have zl := F3.out.lt
      go_wp2_with fail
      exact bodyPost_ret (v := .tuple #[.slice none 0 0, .agg #[.int .i64 0, .int .i64 4]]) (by simp [results, Tryd.results30, go_sem, y0, y1]) rfl ⟨none, 0, rfl, OwnG.nil _ _ _, below_set2 B3.out (Nat.le_refl _) _ _⟩
    | true =>
      have e0 : fromF (pL L) nm = (0, 0) := by unfold fromF; rw [if_pos hs, if_pos hi]
      have e1 : closL (pL L) nm = srtL (rchB (askF (pL L)) nm) := by unfold closL; rw [e0]; rfl
      rw [e0, e1]
      obtain ⟨k, hk, hnk, _⟩ := rclos_at v L nm w h hs hi
      have CL : Hid (∀ w1, Below w.heap.size w w1 → Calls Tryd.prog 66 #[v, .int .i64 k] w1 fun e w' => ∃ q c, e = .returned (.slice q (srtL (rchB (askF (pL L)) nm)).length c) ∧ OwnG KS w' w1.heap.size (.slice q (srtL (rchB (askF (pL L)) nm)).length c) (srtL (rchB (askF (pL L)) nm)) ∧ Below w1.heap.size w1 w') := fun w1 b => by
        obtain ⟨k', hk', hnk', hc⟩ := rclos_at v L nm w1 (h.below b) hs hi
        have : k' = k := by omega
        rw [this] at hc; exact hc
      rw [hnk] at NU
      obtain ⟨p, cap, rfl⟩ := h.gs.form
      generalize srtL (rchB (askF (pL L)) nm) = T at *
      clear h hs hz hi e0 e1 hnk
      have hkI : ¬ ((k : Int) < 0) := by omega
      go_enter Tryd.func30, Tryd.ntmps30
      go_wp2_with fail
      refine Calls.mono (CS.out _ (A0.out _)) ?_
      rintro e w1 ⟨rfl, hb1⟩
      have B1 : Hid (Below w.heap.size w w1) := (A0.out _).trans (hb1.mono (A0.out _).size)
      have F1 : Hid (FBx w1 w.heap.size 0 0) := F0.out.below hb1
      clear hb1 CS F0
      have BA : Hid (∀ ob, Below w1.heap.size w1 (w1.alloc ob)) := fun ob => (Below.refl _ _).alloc (Nat.le_refl _) ob
      go_wp2_with fail
      refine Calls.mono (NU.out _ (B1.out.trans ((BA.out _).mono B1.out.size))) ?_
      rintro e w2 ⟨rfl, hw2⟩
      rw [hw2]
      clear hw2 NU
      generalize hW : w1.alloc _ = w3 at *
      have F3 : Hid (FBx w3 w.heap.size 0 0) := by rw [← hW]; exact F1.out.below (BA.out _)
      have B3 : Hid (Below w.heap.size w w3) := by rw [← hW]; exact B1.out.trans ((BA.out _).mono B1.out.size)
      clear hW
      go_wp2_with fail
      refine Calls.mono (CL.out _ B3.out) ?_
      rintro e w4 ⟨q4, c4, rfl, o4, b4⟩
      have F4 : Hid (FBx w4 w.heap.size 0 0) := F3.out.below b4
      have B4 : Hid (Below w.heap.size w w4) := B3.out.trans (b4.mono B3.out.size)
      have O4 : Hid (∀ u0 u1, OwnG KS ((w4.setCell ⟨w.heap.size, 0, none⟩ u0).setCell ⟨w.heap.size, 1, none⟩ u1) w.heap.size (.slice q4 T.length c4) T) := fun u0 u1 => by
        have h1 := F3.out.lt
        refine (o4.low (by omega)).far fun g hg => ?_
        have h3 := (o4.lt hg).1
        rw [set_far (show g ≠ w.heap.size by omega), set_far (show g ≠ w.heap.size by omega)]
      obtain ⟨y0, y1⟩ := F4.out.cells
      have fz := F4.out.fz
      have zl := F4.out.lt
      clear o4 b4 CL
      go_wp2_with fail
      exact bodyPost_ret (v := .tuple #[.slice q4 T.length c4, .agg #[.int .i64 0, .int .i64 0]]) (by simp [results, Tryd.results30, go_sem, y0, y1]) rfl ⟨q4, c4, rfl, O4.out _ _, below_set2 B4.out (Nat.le_refl _) _ _⟩
  · have e0 : fromF (pL L) nm = setF (pL L) := by unfold fromF; rw [if_neg hs]
    have e1 : closL (pL L) nm = [] := by unfold closL; rw [e0, if_neg hs]
    rw [e0, e1]
    obtain ⟨p, cap, rfl⟩ := h.gs.form
    generalize setF (pL L) = R at *
    obtain ⟨ra, rc⟩ := R
    have h1 : (rc == 0) = false := by simpa using hs
    have h2 : (rc != 0) = true := by simpa using hs
    clear h e0 e1
    go_enter Tryd.func30, Tryd.ntmps30
    go_wp2_with fail
    refine Calls.mono (CS.out _ (A0.out _)) ?_
    rintro e w1 ⟨rfl, hb1⟩
    have B1 : Hid (Below w.heap.size w w1) := (A0.out _).trans (hb1.mono (A0.out _).size)
    have F1 : Hid (FBx w1 w.heap.size 0 0) := F0.out.below hb1
    clear hb1 CS
    obtain ⟨y0, y1⟩ := F1.out.cells
    have fz := F1.out.fz
    have zl := F1.out.lt
    obtain ⟨z0, z1⟩ := F1.out.setA ra rc
    go_wp2_with fail
    go_region
    all_goals
      go_wp2_with fail
      exact bodyPost_ret (v := .tuple #[.slice none 0 0, .agg #[.int .i64 ra, .int .i64 rc]]) (by simp [results, Tryd.results30, go_sem, z0, z1]) rfl ⟨none, 0, rfl, OwnG.nil _ _ _, (below_alloc' (below_set2 B1.out (Nat.le_refl _) _ _) _).drew⟩
/-- Those of the first k that lead back to themselves. -/
noncomputable def cyO (L : List Prv) (k : Nat) : List ByteArray := ((nameL L).take k).filter fun s => rchB (askF L) s s
theorem cyO_next {L : List Pvx} {k : Nat} (hk : k < L.length) : cyO (pL L) (k + 1) = cyO (pL L) k ++ (if rchB (askF (pL L)) L[k].p.name L[k].p.name = true then [L[k].p.name] else []) := by
  unfold cyO
  have e : (nameL (pL L))[k]'(by rw [nameL_len]; exact hk) = L[k].p.name := nameL_get hk
  rw [List.take_add_one, List.getElem?_eq_getElem (by rw [nameL_len]; exact hk), Option.toList_some, List.filter_append, e]
  congr 1
  cases hr : rchB (askF (pL L)) L[k].p.name L[k].p.name with
  | true => simp [hr]
  | false => simp [hr]
theorem cyO_len (L : List Prv) (k : Nat) : (cyO L k).length ≤ k := by
  unfold cyO
  have := List.length_filter_le (fun s => rchB (askF L) s s) ((nameL L).take k)
  rw [List.length_take] at this
  omega
theorem cyO_all (L : List Pvx) : inB (cyO (pL L) L.length) = fun s => rchB (askF (pL L)) s s := by
  funext s
  rw [Bool.eq_iff_iff, inB_iff]
  unfold cyO
  rw [List.take_of_length_le (by rw [nameL_len]; omega), List.mem_filter]
  constructor
  · exact fun h => h.2
  · exact fun h => ⟨(inB_iff _ _).1 (rch_prov (rchB_iff.1 h)), h⟩
end Go.Proofs.YthmppnmmlblbhaaDoor
namespace Go.Proofs.YthmppnmmlblbhaaDoor
open Go.RowKit

set_option maxHeartbeats 16000000 in
set_option maxRecDepth 100000 in
theorem rcyclic_any (v : Value) (L : List Pvx) (w : World) (h : PR w v L) :
    Calls Tryd.prog 32 #[v] w fun e w' => AnsF w w' e (cycL (pL L)) (setF (pL L)) := by
  have A0 : Hid (∀ ob, Below w.heap.size w (w.alloc ob)) := fun ob => (Below.refl _ _).alloc (Nat.le_refl _) ob
  have F0 : Hid (FBx (w.alloc (.cells #[.int .i64 0, .int .i64 0] 26)) w.heap.size 0 0) := heap_alloc_new _ _
  have CS : Hid (∀ w1, Below w.heap.size w w1 → _) := fun w1 b => rcheckSet_any v L w1 (h.below b)
  by_cases hs : (setF (pL L)).2 = 0
  · have hz := (fine_of hs).2
    have hlen := (fine_of hs).1.len
    have hU := askU_len hs
    have e1 : cycL (pL L) = srtL (fun s => rchB (askF (pL L)) s s) := by unfold cycL; rw [if_pos hs]
    rw [hz] at CS ⊢
    rw [e1]
    have CL : Hid (∀ w1 k (hk : k < L.length), Below w.heap.size w w1 → _) := fun w1 k hk b => rclosure_any v L k hk w1 (h.below b) hs
    have IN : Hid (∀ wx u s, GS KS wx u (srtL (rchB (askF (pL L)) s)) → Calls Tryd.prog 36 #[u, .string s] wx fun e w' => e = .returned (.bool (rchB (askF (pL L)) s s)) ∧ w' = wx) := fun wx u s hg => by
      have hU2 : ∀ x, rchB (askF (pL L)) s x = true → x ∈ askU (pL L) := fun x hx => rch_last (fun _ _ hy => askF_mem hy) (rchB_iff.1 hx)
      have := inG_any u _ s wx hg (by have := srtL_len hU2; omega)
      rw [srtL_mem hU2] at this
      exact this
    have SB : Hid (∀ wx u, GS KS wx u (cyO (pL L) L.length) → Calls Tryd.prog 67 #[u] wx fun e w' => ∃ q c, e = .returned (.slice q (srtL (fun s => rchB (askF (pL L)) s s)).length c) ∧ OwnG KS w' wx.heap.size (.slice q (srtL (fun s => rchB (askF (pL L)) s s)).length c) (srtL (fun s => rchB (askF (pL L)) s s)) ∧ Below wx.heap.size wx w') := fun wx u hg => by
      have := sortedB_any u _ wx hg (by have := cyO_len (pL L) L.length; omega)
      rw [cyO_all] at this; exact this
    have CN : Hid (∀ k (hk : k < L.length), cyO (pL L) (k + 1) = cyO (pL L) k ++ (if rchB (askF (pL L)) L[k].p.name L[k].p.name = true then [L[k].p.name] else [])) := fun k hk => cyO_next hk
    have CLn : Hid (∀ k, (cyO (pL L) k).length ≤ k) := cyO_len (pL L)
    have C0 : Hid (cyO (pL L) 0 = []) := by show _ = _; simp [cyO]
    obtain ⟨p, cap, rfl⟩ := h.gs.form
    have HS : Hid (PR w (.slice p L.length cap) L) := h
    generalize srtL (fun s => rchB (askF (pL L)) s s) = TY at *
    clear h hs hz e1
    go_enter Tryd.func32, Tryd.ntmps32
    go_wp2_with fail
    refine Calls.mono (CS.out _ (A0.out _)) ?_
    rintro e w1 ⟨rfl, hb1⟩
    have B1 : Hid (Below w.heap.size w w1) := (A0.out _).trans (hb1.mono (A0.out _).size)
    have F1 : Hid (FBx w1 w.heap.size 0 0) := F0.out.below hb1
    clear hb1 CS F0
    have BA : Hid (∀ ob, Below w1.heap.size w1 (w1.alloc ob)) := fun ob => (Below.refl _ _).alloc (Nat.le_refl _) ob
    have BG : Hid (∀ ob, (w1.alloc ob).heap.size = w1.heap.size + 1) := fun ob => by simp
    go_wp2_with fail
    generalize hW : w1.alloc _ = w2 at *
    have B2 : Hid (Below w.heap.size w w2) := by rw [← hW]; exact B1.out.trans ((BA.out _).mono B1.out.size)
    have F2 : Hid (FBx w2 w.heap.size 0 0) := by rw [← hW]; exact F1.out.below (BA.out _)
    have G2 : Hid (w2.heap.size = w1.heap.size + 1) := by rw [← hW]; exact BG.out _
    have D0 : Hid (OwnG KS (w2.alloc (.cells #[] 9)) w2.heap.size (.slice (some ⟨w2.heap.size, 0, none⟩) 0 0) [] ∧ Below w2.heap.size w2 (w2.alloc (.cells #[] 9))) := ⟨OwnG.empty KS w2, (Below.refl _ _).alloc (Nat.le_refl _) _⟩
    rw [G2.out] at D0
    clear hW BA BG
    go_loopw [5, 6] (fun v5 v6 wr => ∃ (k g c : Nat) (O : List ByteArray) (wk : World), v6 = .int .i64 k ∧ v5 = .slice (some ⟨g, 0, none⟩) O.length c ∧ wk = wr ∧ k ≤ L.length ∧ Hid (O = cyO (pL L) k) ∧ Hid (OwnG KS wk (w1.heap.size + 1) (.slice (some ⟨g, 0, none⟩) O.length c) O ∧ Below (w1.heap.size + 1) w2 wk)) (fun _ v6 _ => L.length - (intOf v6).toNat)
    case atStart => exact ⟨0, _, 0, [], _, rfl, rfl, rfl, Nat.zero_le _, C0.out.symm, D0⟩
    case round =>
      obtain ⟨k, g, cp, O, wr, rfl, rfl, rfl, hk, HO, HI⟩ := hrel
      clear D0
      have BW : Hid (Below w2.heap.size w2 wr) := by rw [G2.out]; exact HI.out.2
      have BX : Hid (Below w.heap.size w wr) := B2.out.trans (BW.out.mono B2.out.size)
      by_cases hlt : k < L.length
      · obtain ⟨X, o, e1, x0, _⟩ := (HS.out.gs.below BX.out).atP hlt
        obtain rfl : p = some ⟨X, o, none⟩ := e1
        have hOl : O.length ≤ 256 := by have := CLn.out k; rw [← HO.out] at this; omega
        have LS : Hid ((O.length + 1) * KS.B ≤ 140737488355328) := by show (O.length + 1) * 16 ≤ _; omega
        have ALL : ∃ s : ByteArray, wr.cell? ⟨X, o + k * 9, none⟩ = some (.string s) ∧ Hid (∀ wx, Below wr.heap.size wr wx → wx.cell? ⟨X, o + k * 9, none⟩ = some (.string s)) ∧ Hid (∀ wx, Below wr.heap.size wr wx → Calls Tryd.prog 66 #[.slice (some ⟨X, o, none⟩) L.length cap, .int .i64 k] wx fun e w' => ∃ q c, e = .returned (.slice q (srtL (rchB (askF (pL L)) s)).length c) ∧ GS KS w' (.slice q (srtL (rchB (askF (pL L)) s)).length c) (srtL (rchB (askF (pL L)) s)) ∧ Below wr.heap.size wr w') ∧ Hid (cyO (pL L) (k + 1) = cyO (pL L) k ++ (if rchB (askF (pL L)) s s = true then [s] else [])) :=
          ⟨L[k].p.name, x0, fun wx b => (b.cell (p := ⟨X, o + k * 9, none⟩) (block_lt_of_cell x0)).trans x0, fun wx b => by
            refine Calls.mono (CL.out wx k hlt (BX.out.trans (b.mono BX.out.size))) ?_
            rintro e w' ⟨q, c, rfl, oo, bb⟩
            exact ⟨q, c, rfl, oo.gs KS_ok.len, b.trans (bb.mono b.size)⟩, CN.out k hlt⟩
        clear x0
        obtain ⟨s, x0, XC, C1, CNk⟩ := ALL
        have I1 : Hid (∀ wx u, GS KS wx u (srtL (rchB (askF (pL L)) s)) → Calls Tryd.prog 36 #[u, .string s] wx fun e w' => e = .returned (.bool (rchB (askF (pL L)) s s)) ∧ w' = wx) := fun wx u hg => IN.out wx u s hg
        rw [← HO.out] at CNk
        have BR : Hid (Below wr.heap.size wr wr) := Below.refl _ _
        have BD : Hid (Below wr.heap.size wr wr.drew) := (Below.refl _ _).drew
        have HKL : Hid (k + 1 ≤ L.length) := hlt
        have OB : Hid (∀ wx, Below wr.heap.size wr wx → OwnG KS wx (w1.heap.size + 1) (.slice (some ⟨g, 0, none⟩) O.length cp) O ∧ Below (w1.heap.size + 1) w2 wx) := fun wx b => ⟨HI.out.1.below b, HI.out.2.trans (b.mono (by have h1 := BW.out.size; have h2 := G2.out; omega))⟩
        generalize srtL (rchB (askF (pL L)) s) = TC at *
        obtain ⟨rr, hrr⟩ : ∃ rr, rr = rchB (askF (pL L)) s s := ⟨_, rfl⟩
        rw [← hrr] at I1 CNk
        clear hrr IN CL CN HI
        go_upto_region 8 with fail
        go_region_held3 (fun w' => w'.cell? ⟨X, o + k * 9, none⟩ = some (.string s)) (go_keep) (first | (go_at_call 66; refine Calls.mono (C1.out _ ?_) ?_; (first | exact BR.out | exact BD.out); rintro e w3 ⟨q3, c3, rfl, g3, b3⟩; have B3 : Hid (Below wr.heap.size wr w3) := b3; have xc3 := XC.out _ b3; have G3 : Hid (GS KS w3 (.slice q3 TC.length c3) TC) := g3; clear g3 b3) | (go_at_call 36; refine Calls.mono (I1.out _ _ ?_) ?_; (first | exact G3.out | exact G3.out.blk (Nat.le_refl _) (fun _ _ _ => rfl)); rintro e w4 ⟨rfl, hw4⟩; have B4 : Hid (Below wr.heap.size wr w4) := (by rw [hw4]; first | exact B3.out | exact B3.out.drew); have xc4 := XC.out _ B4.out; clear hw4))
        all_goals
          cases rr with
          | true =>
            rw [if_pos rfl] at CNk
            go_wp2_with (at_builtin; refine append_g KS KS_ok rfl (.tmp 29) (.tmp 35) 28 rfl (w1.heap.size + 1) Tryd.underlying28 w4 _ _ (.slice (some ⟨g, 0, none⟩) O.length cp) O s _ rfl (OB.out _ B4.out).1 _ rfl rfl rfl LS.out (by have h1 := (OB.out _ B4.out).2.size; have h2 := G2.out; omega) ?_; intro g2 c2 w6 ho6 hb6 hk6 hg6)
            have H6 : Hid (OwnG KS w6 (w1.heap.size + 1) (.slice (some ⟨g2, 0, none⟩) (O ++ [s]).length c2) (O ++ [s]) ∧ Below (w1.heap.size + 1) w2 w6) := ⟨by rw [List.length_append]; exact ho6, (OB.out _ B4.out).2.trans hb6⟩
            have hne : (O ++ [s]).length = O.length + 1 := by simp
            clear ho6 hb6 hk6 hg6
            go_roundw
            case rel => exact ⟨k + 1, g2, c2, O ++ [s], _, by go_num, by rw [hne], rfl, HKL.out, CNk.out.symm, H6⟩
            case measure => have := HKL.out; simp [intOf]; omega
          | false =>
            rw [if_neg (by decide), List.append_nil] at CNk
            have H6 : Hid (OwnG KS w4 (w1.heap.size + 1) (.slice (some ⟨g, 0, none⟩) O.length cp) O ∧ Below (w1.heap.size + 1) w2 w4) := OB.out _ B4.out
            go_wp2_with fail
            go_roundw
            case rel => exact ⟨k + 1, g, cp, O, _, by go_num, rfl, rfl, HKL.out, CNk.out.symm, H6⟩
            case measure => have := HKL.out; simp [intOf]; omega
      · have hke : k = L.length := by omega
        have S1 : Hid _ := SB.out wr (.slice (some ⟨g, 0, none⟩) O.length cp) (by rw [← hke, ← HO.out]; exact HI.out.1.gs KS_ok.len)
        have FX : Hid (FBx wr w.heap.size 0 0) := F2.out.below BW.out
        clear hke HI HO SB IN CL CN
        go_wp2_with fail
        refine Calls.mono S1.out ?_
        rintro e w4 ⟨q4, c4, rfl, o4, b4⟩
        have F4 : Hid (FBx w4 w.heap.size 0 0) := FX.out.below b4
        have B4 : Hid (Below w.heap.size w w4) := BX.out.trans (b4.mono BX.out.size)
        have O4 : Hid (∀ u0 u1, OwnG KS ((w4.setCell ⟨w.heap.size, 0, none⟩ u0).setCell ⟨w.heap.size, 1, none⟩ u1) w.heap.size (.slice q4 TY.length c4) TY) := fun u0 u1 => by
          have h1 := FX.out.lt
          refine (o4.low (by omega)).far fun g hg => ?_
          have h3 := (o4.lt hg).1
          rw [set_far (show g ≠ w.heap.size by omega), set_far (show g ≠ w.heap.size by omega)]
        obtain ⟨y0, y1⟩ := F4.out.cells
        have fz := F4.out.fz
        have zl := F4.out.lt
        clear o4 b4 S1
        go_wp2_with fail
        exact bodyPost_ret (v := .tuple #[.slice q4 TY.length c4, .agg #[.int .i64 0, .int .i64 0]]) (by simp [results, Tryd.results32, go_sem, y0, y1]) rfl ⟨q4, c4, rfl, O4.out _ _, below_set2 B4.out (Nat.le_refl _) _ _⟩
  · have e1 : cycL (pL L) = [] := by unfold cycL; rw [if_neg hs]
    rw [e1]
    obtain ⟨p, cap, rfl⟩ := h.gs.form
    generalize setF (pL L) = R at *
    obtain ⟨ra, rc⟩ := R
    have h1 : (rc == 0) = false := by simpa using hs
    have h2 : (rc != 0) = true := by simpa using hs
    clear h e1
    go_enter Tryd.func32, Tryd.ntmps32
    go_wp2_with fail
    refine Calls.mono (CS.out _ (A0.out _)) ?_
    rintro e w1 ⟨rfl, hb1⟩
    have B1 : Hid (Below w.heap.size w w1) := (A0.out _).trans (hb1.mono (A0.out _).size)
    have F1 : Hid (FBx w1 w.heap.size 0 0) := F0.out.below hb1
    clear hb1 CS
    obtain ⟨y0, y1⟩ := F1.out.cells
    have fz := F1.out.fz
    have zl := F1.out.lt
    obtain ⟨z0, z1⟩ := F1.out.setA ra rc
    go_wp2_with fail
    go_region
    all_goals
      go_wp2_with fail
      exact bodyPost_ret (v := .tuple #[.slice none 0 0, .agg #[.int .i64 ra, .int .i64 rc]]) (by simp [results, Tryd.results32, go_sem, z0, z1]) rfl ⟨none, 0, rfl, OwnG.nil _ _ _, (below_alloc' (below_set2 B1.out (Nat.le_refl _) _ _) _).drew⟩
end Go.Proofs.YthmppnmmlblbhaaDoor
namespace Go.Proofs.YthmppnmmlblbhaaDoor
open Go.RowKit

noncomputable def nxI (L : List Prv) (g : ByteArray → Int) (l : List ByteArray) : Int := l.foldl (fun b y => if inB (nameL L) y = true then max b (1 + g y) else b) 1
theorem nxI_next (L : List Prv) (g : ByteArray → Int) (l : List ByteArray) {k : Nat} (hk : k < l.length) : nxI L g (l.take (k + 1)) = if inB (nameL L) l[k] = true then max (nxI L g (l.take k)) (1 + g l[k]) else nxI L g (l.take k) := by
  unfold nxI
  rw [List.take_add_one, List.getElem?_eq_getElem hk, Option.toList_some, List.foldl_append]; rfl
theorem nxI_bd (L : List Prv) (g : ByteArray → Int) (t : Int) (ht : 0 ≤ t) (hg : ∀ y, 0 ≤ g y ∧ g y ≤ t) : ∀ (l : List ByteArray), 1 ≤ nxI L g l ∧ nxI L g l ≤ t + 1 := by
  have key : ∀ (l : List ByteArray) (b : Int), 1 ≤ b → b ≤ t + 1 → 1 ≤ l.foldl (fun b y => if inB (nameL L) y = true then max b (1 + g y) else b) b ∧ l.foldl (fun b y => if inB (nameL L) y = true then max b (1 + g y) else b) b ≤ t + 1 := by
    intro l
    induction l with
    | nil => exact fun b h1 h2 => ⟨h1, h2⟩
    | cons y r ih =>
      intro b h1 h2
      rw [List.foldl_cons]
      have := hg y
      split
      · exact ih _ (by omega) (by omega)
      · exact ih _ h1 h2
  exact fun l => key l 1 (by omega) (by omega)
theorem nxI_eq (L : List Prv) (g : ByteArray → Int) (N : ByteArray → Nat) (l : List ByteArray) (h : ∀ y ∈ l, (inB (nameL L) y = true → g y = N y) ∧ (inB (nameL L) y = false → N y = 0)) : nxI L g l = (mxN (l.map N) + 1 : Nat) := by
  have key : ∀ (l : List ByteArray) (b : Int), 1 ≤ b → (∀ y ∈ l, (inB (nameL L) y = true → g y = N y) ∧ (inB (nameL L) y = false → N y = 0)) → l.foldl (fun b y => if inB (nameL L) y = true then max b (1 + g y) else b) b = max b ((mxN (l.map N) : Nat) + 1) := by
    intro l
    induction l with
    | nil => intro b h1 _; simp [mxN]; omega
    | cons y r ih =>
      intro b h1 h2
      have h3 := h2 y (.head _)
      rw [List.foldl_cons, List.map_cons, mxN]
      cases hy : inB (nameL L) y with
      | true =>
        rw [if_pos rfl, ih _ (by omega) (fun z hz => h2 z (.tail _ hz)), h3.1 hy]
        omega
      | false =>
        rw [if_neg (by decide), ih _ h1 (fun z hz => h2 z (.tail _ hz)), h3.2 hy]
        omega
  unfold nxI
  rw [key l 1 (by omega) h]
  omega
/-- What the row says of a name after so many turns. -/
noncomputable def rwF (L : List Prv) (C : ByteArray → Bool) : Nat → ByteArray → Int
  | 0, _ => 0
  | t + 1, s => if C s = true then nxI L (rwF L C t) (askF L s) else 1
theorem rwF_bd (L : List Prv) (C : ByteArray → Bool) : ∀ t s, 0 ≤ rwF L C t s ∧ rwF L C t s ≤ t
  | 0, _ => by simp [rwF]
  | t + 1, s => by
    have h := nxI_bd L (rwF L C t) t (by omega) (rwF_bd L C t) (askF L s)
    unfold rwF
    split
    · omega
    · omega
theorem rwF_eq (L : List Prv) (C : ByteArray → Bool) (hC : ∀ s y, C s = true → y ∈ askF L s → C y = true) : ∀ (t n : Nat) (s : ByteArray), Lg (askF L) (inB (nameL L)) s n → C s = true → inB (nameL L) s = true → n ≤ t → rwF L C t s = n
  | 0, n, s, h, _, hp, hn => by
    cases h with
    | out h => rw [hp] at h; cases h
    | step N _ _ => omega
  | t + 1, n, s, h, hc, hp, hn => by
    cases h with
    | out h => rw [hp] at h; cases h
    | step N _ hN =>
      unfold rwF
      rw [if_pos hc]
      refine nxI_eq L _ N _ fun y hy => ⟨fun hyp => ?_, fun hyp => ?_⟩
      · have h1 : N y ≤ mxN ((askF L s).map N) := mxN_mem (List.mem_map.2 ⟨y, hy, rfl⟩)
        exact rwF_eq L C hC t (N y) y (hN y hy) (hC s y hc hy) hyp (by omega)
      · exact Lg.det (hN y hy) 0 (.out hyp)
/-- Of what a name leads to: the name itself, and its closure. -/
noncomputable def inC (L : List Prv) (nm : ByteArray) (s : ByteArray) : Bool := decide (s = nm) || rchB (askF L) nm s
theorem inC_up {L : List Prv} {nm s y : ByteArray} (h : inC L nm s = true) (hy : y ∈ askF L s) : inC L nm y = true := by
  unfold inC at *
  rw [Bool.or_eq_true, decide_eq_true_eq, rchB_iff] at *
  right
  rcases h with rfl | h
  · exact .one hy
  · exact h.trans (.one hy)
/-- Where nothing goes round, turns enough bring the longest chain. -/
theorem rwF_fin {L : List Prv} {nm : ByteArray} {T : List ByteArray} (hp : inB (nameL L) nm = true) (hT : ∀ x, inB T x = rchB (askF L) nm x) (h1 : rchB (askF L) nm nm = false) (h2 : ∀ x ∈ T, rchB (askF L) x x = false) : rwF L (inC L nm) (T.length + 1) nm = lngI L nm := by
  rcases lngI_spec L nm with ⟨_, c, h3, h4⟩ | ⟨n, e, hl⟩
  · exfalso
    rcases h3 with rfl | h3
    · rw [rchB_iff.2 h4] at h1; cases h1
    · have := h2 c ((inB_iff _ _).1 (by rw [hT]; exact rchB_iff.2 h3))
      rw [rchB_iff.2 h4] at this; cases this
  · rw [e]
    refine rwF_eq L _ (fun s y => inC_up) _ n nm hl (by unfold inC; simp) hp ?_
    obtain ⟨C, c1, c2, c3⟩ := hl.chain askF_none
    have := nodup_le C (nm :: T) c2 (fun c hc => by
      rcases (c3 c hc).2 with rfl | h5
      · exact .head _
      · exact .tail _ ((inB_iff _ _).1 (by rw [hT]; exact rchB_iff.2 h5)))
    rw [List.length_cons] at this
    omega
theorem rd_neg {L : List Prv} {nm x : ByteArray} (h : x = nm ∨ rchB (askF L) nm x = true) (hx : rchB (askF L) x x = true) : lngI L nm = -1 := by
  have hr : RD (askF L) nm := ⟨x, h.imp (fun e => e) (fun e => rchB_iff.1 e), rchB_iff.1 hx⟩
  exact (lngI_eq (Or.inl ⟨rfl, hr⟩)).symm
/-- The row of the turn: the names done, and what is not yet. -/
def RWN (L : List Prv) (g : ByteArray → Int) (i : Nat) (N : List Int) : Prop := N.length = L.length ∧ ∀ j (hj : j < L.length), j < i → N[j]? = some (g L[j].name)
theorem RWN.zero (L : List Prv) (g : ByteArray → Int) : RWN L g 0 (List.replicate L.length 0) := ⟨by simp, fun j _ h => absurd h (by omega)⟩
theorem RWN.void (L : List Prv) (C : ByteArray → Bool) : RWN L (rwF L C 0) L.length (List.replicate L.length 0) := ⟨by simp, fun j h _ => by rw [List.getElem?_replicate, if_pos h]; rfl⟩
theorem RWN.next {L : List Prv} {g : ByteArray → Int} {i : Nat} {N : List Int} (h : RWN L g i N) (hi : i < L.length) (x : Int) (hx : x = g L[i].name) : RWN L g (i + 1) (N.set i x) := by
  refine ⟨by rw [List.length_set]; exact h.1, fun j hj hji => ?_⟩
  by_cases e : j = i
  · subst e
    rw [List.getElem?_set_self (by rw [h.1]; exact hi), hx]
  · rw [List.getElem?_set_ne (by omega)]
    exact h.2 j hj (by omega)
theorem RWN.num {L : List Prv} {g : ByteArray → Int} {N : List Int} (h : RWN L g L.length N) {y : ByteArray} (hy : inB (nameL L) y = true) : ∃ k, ∃ hk : k < N.length, numI (nameL L) y = k ∧ N[k] = g y := by
  obtain ⟨k, hk, e1, e2⟩ := numI_name hy
  have hkN : k < N.length := by rw [h.1]; exact hk
  refine ⟨k, hkN, e1, ?_⟩
  have := h.2 k hk hk
  rw [List.getElem?_eq_getElem hkN, e2] at this
  injection this
end Go.Proofs.YthmppnmmlblbhaaDoor
namespace Go.Proofs.YthmppnmmlblbhaaDoor
open Go.RowKit

/-- Two rows of numbers, and nothing else is written. -/
structure LW (w0 w : World) (B gl gn n : Nat) (lo ne : List Int) : Prop where
  ol : OwnG KI w B (.slice (some ⟨gl, 0, none⟩) n n) lo
  on : OwnG KI w B (.slice (some ⟨gn, 0, none⟩) n n) ne
  df : gl ≠ gn
  b : Below B w0 w
theorem LW.below {w0 w w' : World} {B gl gn n : Nat} {lo ne : List Int} (h : LW w0 w B gl gn n lo ne) (k : Below w.heap.size w w') (hB : B ≤ w.heap.size) : LW w0 w' B gl gn n lo ne := ⟨h.ol.below k, h.on.below k, h.df, h.b.trans (k.mono hB)⟩
theorem LW.but {w0 w w' : World} {B gl gn n : Nat} {lo ne ne' : List Int} (h : LW w0 w B gl gn n lo ne) (k : But (fun x => x = gn) w w') (on : OwnG KI w' B (.slice (some ⟨gn, 0, none⟩) n n) ne') (hB : B ≤ w.heap.size) : LW w0 w' B gl gn n lo ne' := by
  refine ⟨h.ol.far fun g hg => ?_, on, h.df, h.b.trans ⟨k.os, k.tape, k.output, k.size, fun x hx => k.block x (by omega) (by have := (on.lt (g := gn) rfl).1; omega)⟩⟩
  have e : g = gl := by injection hg with hg; exact hg.symm
  subst e
  exact k.block g (h.ol.lt (g := g) rfl).2 h.df
theorem But.setc {P : Nat → Prop} {w w' : World} {g k : Nat} {u : Value} (h : But P w w') (hg : P g) : But P w (w'.setCell ⟨g, k, none⟩ u) := ⟨h.os, h.tape, h.output, by rw [set_size]; exact h.size, fun y hy hn => (set_far (fun e => hn (by rw [e]; exact hg))).trans (h.block y hy hn)⟩
theorem LW.set {w0 w : World} {B gl gn n : Nat} {lo ne : List Int} (h : LW w0 w B gl gn n lo ne) (hB : B ≤ w.heap.size) (k : Nat) (x : Int) : LW w0 (w.setCell ⟨gn, k, none⟩ (.int .i64 x)) B gl gn n lo (ne.set k x) :=
  h.but ((But.refl _ w).setc rfl) (h.on.set1 rfl KI_ok.len (k := k) x (.int .i64 x) rfl) hB
theorem LW.at {w0 w : World} {B gl gn n : Nat} {lo ne : List Int} (h : LW w0 w B gl gn n lo ne) (hn : n = ne.length) {k : Nat} (hk : k < n) : w.cell? ⟨gn, k, none⟩ = some (.int .i64 (ne.getD k 0)) ∧ w.frozen? ⟨gn, k, none⟩ = false := by
  refine ⟨own_int h.on hn (by rw [← hn]; exact hk), ?_⟩
  have := h.on
  unfold OwnG at this
  rw [hn] at this
  exact World.ownsRow.frozenAt this k
theorem own_intE {w : World} {base g n cap : Nat} {S : List Int} (h : OwnG KI w base (.slice (some ⟨g, 0, none⟩) n cap) S) (hn : n = S.length) {j : Nat} (hj : j < S.length) : w.cell? ⟨g, j, none⟩ = some (.int .i64 S[j]) := by
  have := own_int h hn hj
  rw [this]; simp [List.getD, List.getElem?_eq_getElem hj]
theorem rlg_bad (v : Value) (L : List Pvx) (nm : ByteArray) (w : World) (h : PR w v L) (hs : ¬ (setF (pL L)).2 = 0) :
    Calls Tryd.prog 34 #[v, .string nm] w fun e w' => AnsN w w' e (longF (pL L) nm) (fromF (pL L) nm) := by
  have A0 : Hid (∀ ob, Below w.heap.size w (w.alloc ob)) := fun ob => (Below.refl _ _).alloc (Nat.le_refl _) ob
  have F0 : Hid (FBx (w.alloc (.cells #[.int .i64 0, .int .i64 0] 26)) w.heap.size 0 0) := heap_alloc_new _ _
  have CY : Hid (∀ w1, Below w.heap.size w w1 → _) := fun w1 b => rcyclic_any v L w1 (h.below b)
  have e0 : fromF (pL L) nm = setF (pL L) := by unfold fromF; rw [if_neg hs]
  have e1 : longF (pL L) nm = 0 := by unfold longF; rw [e0, if_neg hs]
  rw [e0, e1]
  obtain ⟨p, cap, rfl⟩ := h.gs.form
  generalize cycL (pL L) = TY at *
  generalize setF (pL L) = R at *
  obtain ⟨ra, rc⟩ := R
  have h1 : (rc == 0) = false := by simpa using hs
  have h2 : (rc != 0) = true := by simpa using hs
  clear h e0 e1
  go_enter Tryd.func34, Tryd.ntmps34
  go_wp2_with fail
  refine Calls.mono (CY.out _ (A0.out _)) ?_
  rintro e w1 ⟨q1, c1, rfl, o1, hb1⟩
  have B1 : Hid (Below w.heap.size w w1) := (A0.out _).trans (hb1.mono (A0.out _).size)
  have F1 : Hid (FBx w1 w.heap.size 0 0) := F0.out.below hb1
  clear hb1 CY o1
  obtain ⟨y0, y1⟩ := F1.out.cells
  have fz := F1.out.fz
  have zl := F1.out.lt
  obtain ⟨z0, z1⟩ := F1.out.setA ra rc
  go_wp2_with fail
  go_region
  all_goals
    go_wp2_with fail
    exact bodyPost_ret (v := .tuple #[.int .i64 0, .agg #[.int .i64 ra, .int .i64 rc]]) (by simp [results, Tryd.results34, go_sem, z0, z1]) rfl ⟨rfl, (below_alloc' (below_set2 B1.out (Nat.le_refl _) _ _) _).drew⟩
theorem rlg_none (v : Value) (L : List Pvx) (nm : ByteArray) (w : World) (h : PR w v L) (hs : (setF (pL L)).2 = 0) (hi : inB (nameL (pL L)) nm = false) :
    Calls Tryd.prog 34 #[v, .string nm] w fun e w' => AnsN w w' e (longF (pL L) nm) (fromF (pL L) nm) := by
  have A0 : Hid (∀ ob, Below w.heap.size w (w.alloc ob)) := fun ob => (Below.refl _ _).alloc (Nat.le_refl _) ob
  have F0 : Hid (FBx (w.alloc (.cells #[.int .i64 0, .int .i64 0] 26)) w.heap.size 0 0) := heap_alloc_new _ _
  have CY : Hid (∀ w1, Below w.heap.size w w1 → _) := fun w1 b => rcyclic_any v L w1 (h.below b)
  have hz := (fine_of hs).2
  have hlen := (fine_of hs).1.len
  rw [hz] at CY
  have NU : Hid (∀ w1, Below w.heap.size w w1 → Calls Tryd.prog 43 #[v, .string nm] w1 fun e w' => e = .returned (.int .i64 (numI (nameL (pL L)) nm)) ∧ w' = w1) := fun w1 b => number_any v L nm w1 (h.gs.below b) (by omega)
  have e0 : fromF (pL L) nm = (0, 4) := by unfold fromF; rw [if_pos hs, if_neg (by rw [hi]; decide)]
  have e1 : longF (pL L) nm = 0 := by unfold longF; rw [e0]; rfl
  rw [e0, e1]
  have hnn : numI (nameL (pL L)) nm < 0 := (numI_neg _ _).1.2 hi
  obtain ⟨p, cap, rfl⟩ := h.gs.form
  generalize numI (nameL (pL L)) nm = nn at *
  generalize cycL (pL L) = TY at *
  clear h hs hz hi e0 e1
  go_enter Tryd.func34, Tryd.ntmps34
  go_wp2_with fail
  refine Calls.mono (CY.out _ (A0.out _)) ?_
  rintro e w1 ⟨q1, c1, rfl, o1, hb1⟩
  have B1 : Hid (Below w.heap.size w w1) := (A0.out _).trans (hb1.mono (A0.out _).size)
  have F1 : Hid (FBx w1 w.heap.size 0 0) := F0.out.below hb1
  clear hb1 CY F0 o1
  have BA : Hid (∀ ob, Below w1.heap.size w1 (w1.alloc ob)) := fun ob => (Below.refl _ _).alloc (Nat.le_refl _) ob
  go_wp2_with fail
  refine Calls.mono (NU.out _ (B1.out.trans ((BA.out _).mono B1.out.size))) ?_
  rintro e w2 ⟨rfl, hw2⟩
  rw [hw2]
  clear hw2 NU
  generalize hW : w1.alloc _ = w3 at *
  have F3 : Hid (FBx w3 w.heap.size 0 0) := by rw [← hW]; exact F1.out.below (BA.out _)
  have B3 : Hid (Below w.heap.size w w3) := by rw [← hW]; exact B1.out.trans ((BA.out _).mono B1.out.size)
  clear hW
  obtain ⟨y0, y1⟩ := F3.out.cells
  have fz := F3.out.fz
  have zl := F3.out.lt
  go_wp2_with fail
  exact bodyPost_ret (v := .tuple #[.int .i64 0, .agg #[.int .i64 0, .int .i64 4]]) (by simp [results, Tryd.results34, go_sem, y0, y1]) rfl ⟨rfl, below_set2 B3.out (Nat.le_refl _) _ _⟩
end Go.Proofs.YthmppnmmlblbhaaDoor
namespace Go.Proofs.YthmppnmmlblbhaaDoor
open Go.RowKit

set_option maxHeartbeats 16000000 in
set_option maxRecDepth 100000 in
theorem rlg_ok (v : Value) (L : List Pvx) (nm : ByteArray) (w : World) (h : PR w v L) (hs : (setF (pL L)).2 = 0) (hi : inB (nameL (pL L)) nm = true) :
    Calls Tryd.prog 34 #[v, .string nm] w fun e w' => AnsN w w' e (longF (pL L) nm) (fromF (pL L) nm) := by
  have A0 : Hid (∀ ob, Below w.heap.size w (w.alloc ob)) := fun ob => (Below.refl _ _).alloc (Nat.le_refl _) ob
  have F0 : Hid (FBx (w.alloc (.cells #[.int .i64 0, .int .i64 0] 26)) w.heap.size 0 0) := heap_alloc_new _ _
  have CY : Hid (∀ w1, Below w.heap.size w w1 → _) := fun w1 b => rcyclic_any v L w1 (h.below b)
  have hz := (fine_of hs).2
  have hf := (fine_of hs).1
  have hlen := hf.len
  have hU := askU_len hs
  have hd : (nameL (pL L)).Nodup := (dup_nodup (pL L)).1 (by rw [pL_len]; exact hf.dup)
  rw [hz] at CY
  have e0 : fromF (pL L) nm = (0, 0) := by unfold fromF; rw [if_pos hs, if_pos hi]
  have e1 : longF (pL L) nm = lngI (pL L) nm := by unfold longF; rw [e0]; rfl
  rw [e0, e1]
  obtain ⟨k, hk, hnk, _⟩ := rclos_at v L nm w h hs hi
  obtain ⟨k', hk', hnk', hkn⟩ := numI_name hi
  obtain rfl : k' = k := by omega
  have CL : Hid (∀ w1, Below w.heap.size w w1 → Calls Tryd.prog 66 #[v, .int .i64 k'] w1 fun e w' => ∃ q c, e = .returned (.slice q (srtL (rchB (askF (pL L)) nm)).length c) ∧ OwnG KS w' w1.heap.size (.slice q (srtL (rchB (askF (pL L)) nm)).length c) (srtL (rchB (askF (pL L)) nm)) ∧ Below w1.heap.size w1 w') := fun w1 b => by
    obtain ⟨k2, hk2, hnk2, hc⟩ := rclos_at v L nm w1 (h.below b) hs hi
    have : k2 = k' := by omega
    rw [this] at hc; exact hc
  obtain ⟨p, cap, rfl⟩ := h.gs.form
  have HS : Hid (PR w (.slice p L.length cap) L) := h
  have NU : Hid (∀ w1 s, Below w.heap.size w w1 → Calls Tryd.prog 43 #[.slice p L.length cap, .string s] w1 fun e w' => e = .returned (.int .i64 (numI (nameL (pL L)) s)) ∧ w' = w1) := fun w1 s b => number_any _ L s w1 (h.gs.below b) (by omega)
  have N0 : Hid (∀ w1, Below w.heap.size w w1 → Calls Tryd.prog 43 #[.slice p L.length cap, .string nm] w1 fun e w' => e = .returned (.int .i64 k') ∧ w' = w1) := fun w1 b => by
    have := NU.out w1 nm b
    rw [hnk] at this; exact this
  have TX : Hid (∀ w1 k (hk : k < L.length), Below w.heap.size w w1 → Calls Tryd.prog 48 #[.slice L[k].q L[k].p.ops.length L[k].c, .int .i64 3] w1 fun e w' => ∃ p c, e = .returned (.slice p (askF (pL L) L[k].p.name).length c) ∧ OwnG KS w' w1.heap.size (.slice p (askF (pL L) L[k].p.name).length c) (askF (pL L) L[k].p.name) ∧ Below w1.heap.size w1 w') := fun w1 k hk b => by
    have e : askF (pL L) L[k].p.name = textsL L[k].p.ops 3 := askF_in hd (p := L[k].p) (List.mem_map.2 ⟨L[k], List.getElem_mem hk, rfl⟩)
    rw [e]
    exact rtexts_any _ _ 3 w1 ((h.ps _ (List.getElem_mem hk)).below b).os (hf.ops k hk)
  have AL : Hid (∀ s, (askF (pL L) s).length ≤ 65536) := fun s => Nat.le_trans (askF_len _ _) hU
  have hcU : ∀ x, rchB (askF (pL L)) x x = true → x ∈ askU (pL L) := fun x hx => rch_last (fun _ _ hy => askF_mem hy) (rchB_iff.1 hx)
  have hnU : ∀ x, rchB (askF (pL L)) nm x = true → x ∈ askU (pL L) := fun x hx => rch_last (fun _ _ hy => askF_mem hy) (rchB_iff.1 hx)
  have hTY : (cycL (pL L)).length ≤ 65536 := by
    unfold cycL; rw [if_pos hs]
    exact Nat.le_trans (srtL_len (p := fun s => rchB (askF (pL L)) s s) hcU) hU
  have hTC : (srtL (rchB (askF (pL L)) nm)).length ≤ 65536 := Nat.le_trans (srtL_len hnU) hU
  have IN1 : Hid (∀ wx u s, GS KS wx u (cycL (pL L)) → Calls Tryd.prog 36 #[u, .string s] wx fun e w' => e = .returned (.bool (rchB (askF (pL L)) s s)) ∧ w' = wx) := fun wx u s hg => by
    have := inG_any u _ s wx hg (by omega)
    rw [cyc_in hs] at this; exact this
  have IN2 : Hid (∀ wx u s, GS KS wx u (srtL (rchB (askF (pL L)) nm)) → Calls Tryd.prog 36 #[u, .string s] wx fun e w' => e = .returned (.bool (rchB (askF (pL L)) nm s)) ∧ w' = wx) := fun wx u s hg => by
    have := inG_any u _ s wx hg (by omega)
    rw [srtL_mem hnU] at this; exact this
  have TM : Hid (∀ x, inB (srtL (rchB (askF (pL L)) nm)) x = rchB (askF (pL L)) nm x) := fun x => srtL_mem hnU x
  have HNM : Hid (L[k'].p.name = nm) := by rw [pL_at hk] at hkn; exact hkn
  have HIN : Hid (inB (nameL (pL L)) nm = true) := hi
  have HD : Hid ((nameL (pL L)).Nodup) := hd
  generalize cycL (pL L) = TY at *
  generalize srtL (rchB (askF (pL L)) nm) = TC at *
  clear h hs hz hi e0 e1 hnk hnk' hf hd hU hcU hnU hkn
  have hkI : ¬ ((k' : Int) < 0) := by omega
  go_enter Tryd.func34, Tryd.ntmps34
  go_wp2_with fail
  refine Calls.mono (CY.out _ (A0.out _)) ?_
  rintro e w1 ⟨q1, c1, rfl, o1, hb1⟩
  have B1 : Hid (Below w.heap.size w w1) := (A0.out _).trans (hb1.mono (A0.out _).size)
  have F1 : Hid (FBx w1 w.heap.size 0 0) := F0.out.below hb1
  have O1 : Hid (GS KS w1 (.slice q1 TY.length c1) TY) := o1.gs KS_ok.len
  clear hb1 CY F0 o1
  have BA : Hid (∀ ob, Below w1.heap.size w1 (w1.alloc ob)) := fun ob => (Below.refl _ _).alloc (Nat.le_refl _) ob
  go_wp2_with fail
  refine Calls.mono (N0.out _ (B1.out.trans ((BA.out _).mono B1.out.size))) ?_
  rintro e w2 ⟨rfl, hw2⟩
  rw [hw2]
  clear hw2 N0
  generalize hW : w1.alloc _ = w3 at *
  have F3 : Hid (FBx w3 w.heap.size 0 0) := by rw [← hW]; exact F1.out.below (BA.out _)
  have B3 : Hid (Below w.heap.size w w3) := by rw [← hW]; exact B1.out.trans ((BA.out _).mono B1.out.size)
  have O3 : Hid (GS KS w3 (.slice q1 TY.length c1) TY) := by rw [← hW]; exact O1.out.below (BA.out _)
  clear hW O1 F1 B1 BA
  go_wp2_with fail
  refine Calls.mono (CL.out _ B3.out) ?_
  rintro e w4 ⟨q4, c4, rfl, o4, b4⟩
  have F4 : Hid (FBx w4 w.heap.size 0 0) := F3.out.below b4
  have B4 : Hid (Below w.heap.size w w4) := B3.out.trans (b4.mono B3.out.size)
  have O4 : Hid (GS KS w4 (.slice q1 TY.length c1) TY) := O3.out.below b4
  have T4 : Hid (GS KS w4 (.slice q4 TC.length c4) TC) := o4.gs KS_ok.len
  clear o4 b4 CL F3 B3 O3
  have I1 : Hid (∀ s, Calls Tryd.prog 36 #[.slice q1 TY.length c1, .string s] w4 fun e w' => e = .returned (.bool (rchB (askF (pL L)) s s)) ∧ w' = w4) := fun s => IN1.out w4 _ s O4.out
  have I2 : Hid (∀ s wx, Below w4.heap.size w4 wx → Calls Tryd.prog 36 #[.slice q4 TC.length c4, .string s] wx fun e w' => e = .returned (.bool (rchB (askF (pL L)) nm s)) ∧ w' = wx) := fun s wx b => IN2.out wx _ s (T4.out.below b)
  clear IN1 IN2 O4
  cases hr : rchB (askF (pL L)) nm nm with
  | true =>
    have E2 : Hid (lngI (pL L) nm = -1) := rd_neg (Or.inl rfl) hr
    have J1 : Hid _ := I1.out nm
    rw [hr] at J1
    obtain ⟨y0, y1⟩ := F4.out.cells
    have fz := F4.out.fz
    have zl := F4.out.lt
    clear I1 I2 hr
    go_wp2_with fail
    refine Calls.mono J1.out ?_
    rintro e w5 ⟨rfl, hw5⟩
    rw [hw5]
    clear hw5 J1
    go_wp2_with fail
    exact bodyPost_ret (v := .tuple #[.int .i64 (-1), .agg #[.int .i64 0, .int .i64 0]]) (by simp [results, Tryd.results34, go_sem, y0, y1]) rfl ⟨by rw [E2.out], below_set2 B4.out (Nat.le_refl _) _ _⟩
  | false =>
    have J1 : Hid _ := I1.out nm
    rw [hr] at J1
    have HR : Hid (rchB (askF (pL L)) nm nm = false) := hr
    clear hr
    go_wp2_with fail
    refine Calls.mono J1.out ?_
    rintro e w5 ⟨rfl, hw5⟩
    rw [hw5]
    clear hw5 J1
    go_wp2_with fail
    go_loopw [10] (fun v10 wr => ∃ (j : Nat) (wk : World), v10 = .int .i64 j ∧ wk = wr ∧ wk = w4 ∧ j ≤ TC.length ∧ Hid (∀ x ∈ TC.take j, rchB (askF (pL L)) x x = false)) (fun v10 _ => TC.length - (intOf v10).toNat)
    case atStart => exact ⟨0, _, rfl, rfl, rfl, Nat.zero_le _, fun x hx => by simp at hx⟩
    case round =>
      obtain ⟨j, wr, rfl, rfl, rfl, hj, HJ⟩ := hrel
      by_cases hjl : j < TC.length
      · obtain ⟨X, o, e1, x0⟩ := T4.out.atS hjl
        obtain rfl : q4 = some ⟨X, o, none⟩ := e1
        have ALL : ∃ s : ByteArray, wr.cell? ⟨X, o + j, none⟩ = some (.string s) ∧ Hid (s = TC[j]) := ⟨_, x0, rfl⟩
        clear x0
        obtain ⟨s, x0, HSJ⟩ := ALL
        have J1 : Hid _ := I1.out s
        have HJL : Hid (j + 1 ≤ TC.length) := hjl
        cases hr2 : rchB (askF (pL L)) s s with
        | true =>
          rw [hr2] at J1
          have E2 : Hid (lngI (pL L) nm = -1) := rd_neg (Or.inr (by rw [← TM.out, inB_iff, HSJ.out]; exact List.getElem_mem hjl)) hr2
          obtain ⟨y0, y1⟩ := F4.out.cells
          have fz := F4.out.fz
          have zl := F4.out.lt
          clear I1 I2 HJ HSJ TM
          go_wp2_with fail
          refine Calls.mono J1.out ?_
          rintro e w5 ⟨rfl, hw5⟩
          rw [hw5]
          clear hw5 J1
          go_wp2_with fail
          exact bodyPost_ret (v := .tuple #[.int .i64 (-1), .agg #[.int .i64 0, .int .i64 0]]) (by simp [results, Tryd.results34, go_sem, y0, y1]) rfl ⟨by rw [E2.out], below_set2 B4.out (Nat.le_refl _) _ _⟩
        | false =>
          rw [hr2] at J1
          have HJ2 : Hid (∀ x ∈ TC.take (j + 1), rchB (askF (pL L)) x x = false) := fun x hx => by
            rw [List.take_add_one, List.getElem?_eq_getElem hjl, Option.toList_some, List.mem_append, List.mem_singleton] at hx
            rcases hx with hx | hx
            · exact HJ.out x hx
            · rw [hx, ← HSJ.out]; exact hr2
          clear HJ HSJ
          go_wp2_with fail
          refine Calls.mono J1.out ?_
          rintro e w5 ⟨rfl, hw5⟩
          rw [hw5]
          clear hw5 J1
          go_wp2_with fail
          go_roundw
          case rel => exact ⟨j + 1, _, by go_num, rfl, rfl, HJL.out, HJ2⟩
          case measure => have := HJL.out; simp [intOf]; omega
      · have hje : j = TC.length := by omega
        have FIN : Hid (rwF (pL L) (inC (pL L) nm) (TC.length + 1) nm = lngI (pL L) nm) := rwF_fin HIN.out TM.out HR.out (fun x hx => HJ.out x (by rw [hje, List.take_length]; exact hx))
        have R0 : Hid (RWN (pL L) (rwF (pL L) (inC (pL L) nm) 0) (pL L).length (List.replicate L.length 0)) := by
          have := RWN.void (pL L) (inC (pL L) nm)
          rw [pL_len] at this ⊢; exact this
        clear hje HJ I1 TM HR
        go_wp2_with (at_make; refine make_g KI KI_ok 0 rfl rfl _ rfl _ _ 37 rfl Tryd.underlying37 L.length rfl rfl (by omega) (by decide) ?_; intro w5 ho5 hb5; have O5 : Hid _ := ho5; have B5 : Hid _ := hb5; clear ho5 hb5)
        obtain ⟨ANS, hANS⟩ : ∃ A, A = lngI (pL L) nm := ⟨_, rfl⟩
        rw [← hANS] at FIN
        have HANS : Hid (ANS = lngI (pL L) nm) := hANS
        clear hANS
        go_loopw [11, 12] (fun v11 v12 wx => ∃ (t gl : Nat) (lo : List Int) (wk : World), v12 = .int .i64 t ∧ v11 = .slice (some ⟨gl, 0, none⟩) L.length L.length ∧ wk = wx ∧ t ≤ TC.length + 1 ∧ Hid (RWN (pL L) (rwF (pL L) (inC (pL L) nm) t) (pL L).length lo) ∧ Hid (OwnG KI wk wr.heap.size (.slice (some ⟨gl, 0, none⟩) L.length L.length) lo ∧ Below wr.heap.size wr wk)) (fun _ v12 _ => TC.length + 1 - (intOf v12).toNat)
        case atStart => exact ⟨0, _, _, _, rfl, rfl, rfl, by omega, R0, O5.out, B5.out⟩
        case round =>
          obtain ⟨t, gl, lo, wt, rfl, rfl, rfl, ht, HRW, HO⟩ := hrel
          clear R0 O5 B5
          by_cases htl : t ≤ TC.length
          · have htI : (t : Int) ≤ (TC.length : Int) := by omega
            have R1 : Hid (RWN (pL L) (rwF (pL L) (inC (pL L) nm) (t + 1)) 0 (List.replicate L.length 0)) := by
              have := RWN.zero (pL L) (rwF (pL L) (inC (pL L) nm) (t + 1))
              rw [pL_len] at this; exact this
            have MK : Hid (∀ w6, OwnG KI w6 wt.heap.size (.slice (some ⟨wt.heap.size, 0, none⟩) L.length L.length) (List.replicate L.length 0) → Below wt.heap.size wt w6 → LW wr w6 wr.heap.size gl wt.heap.size L.length lo (List.replicate L.length 0)) := fun w6 ho hb => ⟨HO.out.1.below hb, ho.low HO.out.2.size, by have := (HO.out.1.lt (g := gl) rfl).2; omega, HO.out.2.trans (hb.mono HO.out.2.size)⟩
            have HTL : Hid (t + 1 ≤ TC.length + 1) := by show _ ≤ _; omega
            clear HO
            go_wp2_with (at_make; refine make_g KI KI_ok 0 rfl rfl _ rfl _ _ 37 rfl Tryd.underlying37 L.length rfl rfl (by omega) (by decide) ?_; intro w6 ho6 hb6; have L6 : Hid _ := MK.out w6 ho6 hb6; clear ho6 hb6)
            generalize wt.heap.size = gn at *
            have B6 : Hid (∀ wx N, LW wr wx wr.heap.size gl gn L.length lo N → Below w.heap.size w wx) := fun wx N hl => B4.out.trans (hl.b.mono B4.out.size)
            have ZG : Hid (wr.heap.size ≤ gn ∧ w.heap.size ≤ wr.heap.size) := ⟨(L6.out.on.lt (g := gn) rfl).1, B4.out.size⟩
            clear MK htI
            go_loopw [14] (fun v14 wx => ∃ (i : Nat) (N : List Int) (wk : World), v14 = .int .i64 i ∧ wk = wx ∧ i ≤ L.length ∧ Hid (RWN (pL L) (rwF (pL L) (inC (pL L) nm) (t + 1)) i N) ∧ Hid (LW wr wk wr.heap.size gl gn L.length lo N)) (fun v14 _ => L.length - (intOf v14).toNat)
            case atStart => exact ⟨0, _, _, rfl, rfl, Nat.zero_le _, R1, L6⟩
            case round =>
              obtain ⟨i, N, wi, rfl, rfl, hil, HN, HL⟩ := hrel
              clear R1 L6
              by_cases hlt : i < L.length
              · have hNl : L.length = N.length := by rw [HN.out.1, pL_len]
                obtain ⟨ck, fz⟩ := HL.out.at hNl hlt
                have L7 : Hid (LW wr (wi.setCell ⟨gn, i, none⟩ (.int .i64 1)) wr.heap.size gl gn L.length lo (N.set i 1)) := HL.out.set HL.out.b.size i 1
                obtain ⟨X, o, e1, x0, x1, _⟩ := (HS.out.gs.below (B6.out _ _ L7.out)).atP hlt
                obtain rfl : p = some ⟨X, o, none⟩ := e1
                have T7 : Hid (∀ wx, Below w.heap.size w wx → _) := fun wx b => TX.out wx i hlt b
                have NX : Hid (∀ x, x = rwF (pL L) (inC (pL L) nm) (t + 1) L[i].p.name → RWN (pL L) (rwF (pL L) (inC (pL L) nm) (t + 1)) (i + 1) (N.set i x)) := fun x hx => HN.out.next (by rw [pL_len]; exact hlt) x (by rw [pL_at hlt]; exact hx)
                have NMI : Hid (i = k' → L[i].p.name = nm) := fun e => by subst e; exact HNM.out
                have NMK : Hid (i ≠ k' → L[i].p.name ≠ nm) := fun e e2 => e (by
                  have h1 := HNM.out
                  rw [← e2] at h1
                  have := (List.getElem_inj (h₀ := by rw [nameL_len]; exact hlt) (h₁ := by rw [nameL_len]; exact hk) HD.out).1 (by rw [nameL_get hlt, nameL_get hk]; exact h1.symm)
                  exact this)
                obtain ⟨s, hsn⟩ : ∃ s, s = L[i].p.name := ⟨_, rfl⟩
                rw [← hsn] at x0 T7 NX NMI NMK
                obtain ⟨q7, h7q⟩ : ∃ q7, q7 = L[i].q := ⟨_, rfl⟩
                obtain ⟨n7, h7n⟩ : ∃ n7, n7 = L[i].p.ops.length := ⟨_, rfl⟩
                obtain ⟨c7, h7c⟩ : ∃ c7, c7 = L[i].c := ⟨_, rfl⟩
                rw [← h7q, ← h7n, ← h7c] at x1 T7
                clear hsn h7q h7n h7c HN
                have HIL : Hid (i + 1 ≤ L.length) := hlt
                have HNL : Hid (L.length = N.length) := hNl
                clear HL hNl
                generalize N.getD i 0 = y0 at *
                by_cases hC : inC (pL L) nm s = true
                · have E1 : Hid (rwF (pL L) (inC (pL L) nm) (t + 1) s = nxI (pL L) (rwF (pL L) (inC (pL L) nm) t) (askF (pL L) s)) := by show _ = _; rw [rwF, if_pos hC]
                  by_cases hik : i = k'
                  case' pos =>
                    subst hik
                    go_wp2_with fail
                  case' neg =>
                    have hne : ¬ (i : Int) = (k' : Int) := by omega
                    have hr7 : rchB (askF (pL L)) nm s = true := by
                      unfold inC at hC
                      rw [Bool.or_eq_true, decide_eq_true_eq] at hC
                      exact hC.resolve_left (NMK.out hik)
                    have J7 : Hid _ := I2.out s _ L7.out.b
                    rw [hr7] at J7
                    clear hr7 hC
                    go_wp2_with fail
                    refine Calls.mono J7.out ?_
                    rintro e w8 ⟨rfl, hw8⟩
                    rw [hw8]
                    clear hw8 J7
                    go_wp2_with fail
                  all_goals
                    refine Calls.mono (T7.out _ (B6.out _ _ L7.out)) ?_
                    rintro e w8 ⟨pT, cT, rfl, o8, b8⟩
                    have I0 : Hid ((1 : Int) = nxI (pL L) (rwF (pL L) (inC (pL L) nm) t) ((askF (pL L) s).take 0) ∧ LW wr w8 wr.heap.size gl gn L.length lo (N.set i 1) ∧ But (fun z => z = gn) w8 w8) := ⟨by simp [nxI], L7.out.below b8 L7.out.b.size, But.refl _ _⟩
                    have G8 : Hid (GS KS w8 (.slice pT (askF (pL L) s).length cT) (askF (pL L) s)) := o8.gs KS_ok.len
                    have X8 : Hid (∀ x, (Value.slice pT (askF (pL L) s).length cT).ownBlock = some x → x ≠ gn) := fun x hx => by have h1 := (o8.lt hx).1; have h2 := (L7.out.on.lt (g := gn) rfl).2; omega
                    have hAl := AL.out s
                    clear o8 b8 T7 x0 x1 ck fz L7
                    go_wp2_with fail
                    go_loopw [16] (fun v16 wx => ∃ (j : Nat) (x : Int) (wk : World), v16 = .int .i64 j ∧ wk = wx ∧ j ≤ (askF (pL L) s).length ∧ Hid (x = nxI (pL L) (rwF (pL L) (inC (pL L) nm) t) ((askF (pL L) s).take j) ∧ LW wr wk wr.heap.size gl gn L.length lo (N.set i x) ∧ But (fun z => z = gn) w8 wk)) (fun v16 _ => (askF (pL L) s).length - (intOf v16).toNat)
                    case atStart => exact ⟨0, 1, _, rfl, rfl, Nat.zero_le _, I0⟩
                    case round =>
                      obtain ⟨j, x, wj, rfl, rfl, hj, HJ⟩ := hrel
                      clear I0
                      by_cases hjl : j < (askF (pL L) s).length
                      · obtain ⟨X2, o2, e2, yc0⟩ := G8.out.atS hjl
                        obtain rfl : pT = some ⟨X2, o2, none⟩ := e2
                        have yc : wj.cell? ⟨X2, o2 + j, none⟩ = some (.string (askF (pL L) s)[j]) := (World.cell?_of_block (w := w8) (w' := wj) (a := ⟨X2, o2 + j, none⟩) (HJ.out.2.2.block X2 (block_lt_of_cell yc0) (X8.out X2 rfl))).trans yc0
                        have nxt := nxI_next (pL L) (rwF (pL L) (inC (pL L) nm) t) (askF (pL L) s) hjl
                        obtain ⟨y, hy⟩ : ∃ y, y = (askF (pL L) s)[j] := ⟨_, rfl⟩
                        rw [← hy] at yc nxt
                        rw [← HJ.out.1] at nxt
                        have NXT : Hid _ := nxt
                        have N7 : Hid _ := NU.out wj y (B6.out _ _ HJ.out.2.1)
                        have HJL : Hid (j + 1 ≤ (askF (pL L) s).length) := hjl
                        have hxl : L.length = (N.set i x).length := by rw [List.length_set]; exact HNL.out
                        obtain ⟨ck, fz⟩ := HJ.out.2.1.at hxl hlt
                        have hxg : (N.set i x).getD i 0 = x := by simp [List.getD, List.getElem?_set_self (show i < N.length by rw [← HNL.out]; exact hlt)]
                        rw [hxg] at ck
                        clear yc0 hy hxg hxl nxt
                        cases hpy : inB (nameL (pL L)) y with
                        | false =>
                          have hnn : numI (nameL (pL L)) y < 0 := (numI_neg _ _).1.2 hpy
                          have HJ2 : Hid (x = nxI (pL L) (rwF (pL L) (inC (pL L) nm) t) ((askF (pL L) s).take (j + 1)) ∧ LW wr wj wr.heap.size gl gn L.length lo (N.set i x) ∧ But (fun z => z = gn) w8 wj) := ⟨by rw [NXT.out, if_neg (by rw [hpy]; decide)], HJ.out.2⟩
                          generalize numI (nameL (pL L)) y = nn at *
                          clear NXT HJ ck fz
                          go_wp2_with fail
                          refine Calls.mono N7.out ?_
                          rintro e w9 ⟨rfl, hw9⟩
                          rw [hw9]
                          clear hw9 N7
                          go_wp2_with fail
                          go_roundw
                          case rel => exact ⟨j + 1, x, _, by go_num, rfl, HJL.out, HJ2⟩
                          case measure => have := HJL.out; simp [intOf]; omega
                        | true =>
                          obtain ⟨q, hq, eq1, eq2⟩ := HRW.out.num hpy
                          rw [eq1] at N7
                          have hll : L.length = lo.length := by rw [HRW.out.1, pL_len]
                          have cq := own_intE HJ.out.2.1.ol hll hq
                          rw [eq2] at cq
                          have bd := rwF_bd (pL L) (inC (pL L) nm) t y
                          have bx := nxI_bd (pL L) _ t (by omega) (rwF_bd (pL L) (inC (pL L) nm) t) ((askF (pL L) s).take j)
                          rw [← HJ.out.1] at bx
                          have SET : Hid (∀ z, z = max x (1 + rwF (pL L) (inC (pL L) nm) t y) → z = nxI (pL L) (rwF (pL L) (inC (pL L) nm) t) ((askF (pL L) s).take (j + 1)) ∧ LW wr (wj.setCell ⟨gn, i, none⟩ (.int .i64 z)).drew wr.heap.size gl gn L.length lo (N.set i z) ∧ But (fun z => z = gn) w8 (wj.setCell ⟨gn, i, none⟩ (.int .i64 z)).drew) := fun z hz => by
                            have a := HJ.out.2.1.set HJ.out.2.1.b.size i z
                            rw [List.set_set] at a
                            have b : But (fun z => z = gn) w8 (wj.setCell ⟨gn, i, none⟩ (.int .i64 z)) := HJ.out.2.2.setc rfl
                            exact ⟨by rw [NXT.out, if_pos hpy]; exact hz, ⟨a.ol, a.on, a.df, a.b.drew⟩, ⟨b.os, b.tape, b.output, b.size, b.block⟩⟩
                          rw [← hll] at hq
                          obtain ⟨yv, hyv⟩ : ∃ yv, yv = rwF (pL L) (inC (pL L) nm) t y := ⟨_, rfl⟩
                          rw [← hyv] at SET cq bd
                          obtain ⟨bd1, bd2⟩ := bd
                          obtain ⟨bx1, bx2⟩ := bx
                          clear NXT HJ hyv eq1 eq2 hll
                          go_wp2_with fail
                          refine Calls.mono N7.out ?_
                          rintro e w9 ⟨rfl, hw9⟩
                          rw [hw9]
                          clear hw9 N7
                          go_wp2_with fail
                          go_region
                          go_wp2_with fail
                          go_roundw
                          case rel => exact ⟨j + 1, _, _, by go_num, rfl, HJL.out, SET.out _ (by first | rfl | omega | (split <;> omega) | (simp only [Int.max_def]; split <;> omega))⟩
                          case measure => have := HJL.out; simp [intOf]; omega
                      · have hje : j = (askF (pL L) s).length := by omega
                        have R8 : Hid (RWN (pL L) (rwF (pL L) (inC (pL L) nm) (t + 1)) (i + 1) (N.set i x)) := NX.out x (by rw [E1.out, HJ.out.1, hje, List.take_length])
                        have L8 : Hid (LW wr wj wr.heap.size gl gn L.length lo (N.set i x)) := HJ.out.2.1
                        clear hje HJ NX
                        go_wp2_with fail
                        go_roundw
                        case rel => exact ⟨i + 1, _, _, by go_num, rfl, HIL.out, R8, L8⟩
                        case measure => have := HIL.out; simp [intOf]; omega
                · have hC2 : inC (pL L) nm s = false := by cases e : inC (pL L) nm s with | true => exact absurd e hC | false => rfl
                  have hik : i ≠ k' := fun e => hC (by unfold inC; rw [NMI.out e]; simp)
                  have hne : ¬ (i : Int) = (k' : Int) := by omega
                  have hr7 : rchB (askF (pL L)) nm s = false := by
                    unfold inC at hC2
                    rw [Bool.or_eq_false_iff] at hC2
                    exact hC2.2
                  have J7 : Hid _ := I2.out s _ L7.out.b
                  rw [hr7] at J7
                  have R7 : Hid (RWN (pL L) (rwF (pL L) (inC (pL L) nm) (t + 1)) (i + 1) (N.set i 1)) := NX.out 1 (by rw [rwF, if_neg hC])
                  clear hr7 hC2 hC NX T7 NMI NMK
                  go_wp2_with fail
                  refine Calls.mono J7.out ?_
                  rintro e w8 ⟨rfl, hw8⟩
                  rw [hw8]
                  clear hw8 J7
                  go_wp2_with fail
                  go_roundw
                  case rel => exact ⟨i + 1, _, _, by go_num, rfl, HIL.out, R7, L7⟩
                  case measure => have := HIL.out; simp [intOf]; omega
              · have hie : i = L.length := by omega
                have R7 : Hid (RWN (pL L) (rwF (pL L) (inC (pL L) nm) (t + 1)) (pL L).length N) := by rw [pL_len, ← hie]; exact HN.out
                have O7 : Hid (OwnG KI wi wr.heap.size (.slice (some ⟨gn, 0, none⟩) L.length L.length) N ∧ Below wr.heap.size wr wi) := ⟨HL.out.on, HL.out.b⟩
                clear hie HN HL
                go_wp2_with fail
                go_roundw
                case rel => exact ⟨t + 1, gn, N, _, by go_num, rfl, rfl, HTL.out, R7, O7⟩
                case measure => have := HTL.out; simp [intOf]; omega
          · have hte : t = TC.length + 1 := by omega
            have htI : ¬ (t : Int) ≤ (TC.length : Int) := by omega
            have hkL : k' < lo.length := by rw [HRW.out.1, pL_len]; exact hk
            have hll : L.length = lo.length := by rw [HRW.out.1, pL_len]
            have ck := own_intE HO.out.1 hll hkL
            have e3 : lo[k'] = ANS := by
              have h1 := HRW.out.2 k' hk' hk'
              rw [List.getElem?_eq_getElem hkL, pL_at hk, HNM.out, hte, FIN.out] at h1
              injection h1
            rw [e3] at ck
            have B6 : Hid (Below w.heap.size w wt) := B4.out.trans (HO.out.2.mono B4.out.size)
            have F6 : Hid (FBx wt w.heap.size 0 0) := F4.out.below HO.out.2
            obtain ⟨y0, y1⟩ := F6.out.cells
            have fz := F6.out.fz
            have zl := F6.out.lt
            clear hte HRW HO e3 hll hkL
            go_wp2_with fail
            exact bodyPost_ret (v := .tuple #[.int .i64 ANS, .agg #[.int .i64 0, .int .i64 0]]) (by simp [results, Tryd.results34, go_sem, y0, y1]) rfl ⟨by rw [HANS.out], below_set2 B6.out (Nat.le_refl _) _ _⟩
end Go.Proofs.YthmppnmmlblbhaaDoor
namespace Go.Proofs.YthmppnmmlblbhaaDoor
open Go.RowKit

theorem rlongest_any (v : Value) (L : List Pvx) (nm : ByteArray) (w : World) (h : PR w v L) :
    Calls Tryd.prog 34 #[v, .string nm] w fun e w' => AnsN w w' e (longF (pL L) nm) (fromF (pL L) nm) := by
  by_cases hs : (setF (pL L)).2 = 0
  · cases hi : inB (nameL (pL L)) nm with
    | false => exact rlg_none v L nm w h hs hi
    | true => exact rlg_ok v L nm w h hs hi
  · exact rlg_bad v L nm w h hs
set_option maxHeartbeats 16000000 in
theorem namesClosures_any (v : Value) (L : List Pvx) (nm : ByteArray) (w : World) (h : PR w v L) (hv : NV w) (hl : L.length * 104 ≤ 140737488355328) (hnm : nm.size ≤ maxLen) :
    Calls Tryd.prog 6 #[v, .string nm] w fun e w' => e = .returned (.bool true) ∧ Below w.heap.size w w' := by
  have CE : Hid _ := copyProvs_any v L w h hl
  have PC : Hid (∀ w' vs M, CPS w w' vs L M L.length → PR w' vs M ∧ pL M = pL L) := fun w' vs M c => PR_of_CPS h c
  have C1 : Hid (∀ w1 u M, Below w.heap.size w w1 → PR w1 u M → pL M = pL L → Calls Tryd.prog 29 #[u, .string nm] w1 fun e w' => AnsF w1 w' e (closL (pL L) nm) (fromF (pL L) nm)) := fun w1 u M b hu e => by rw [← e]; exact closureE_any u M nm w1 hu (hv.below b) hnm
  have C2 : Hid (∀ w1, Below w.heap.size w w1 → _) := fun w1 b => rclosureE_any v L nm w1 (h.below b)
  have Y1 : Hid (∀ w1 u M, Below w.heap.size w w1 → PR w1 u M → pL M = pL L → Calls Tryd.prog 31 #[u] w1 fun e w' => AnsF w1 w' e (cycL (pL L)) (setF (pL L))) := fun w1 u M b hu e => by rw [← e]; exact cyclic_any u M w1 hu (hv.below b)
  have Y2 : Hid (∀ w1, Below w.heap.size w w1 → _) := fun w1 b => rcyclic_any v L w1 (h.below b)
  have G1 : Hid (∀ w1 u M, Below w.heap.size w w1 → PR w1 u M → pL M = pL L → Calls Tryd.prog 33 #[u, .string nm] w1 fun e w' => AnsN w1 w' e (longF (pL L) nm) (fromF (pL L) nm)) := fun w1 u M b hu e => by rw [← e]; exact longestE_any u M nm w1 hu (hv.below b) hnm
  have G2 : Hid (∀ w1, Below w.heap.size w w1 → _) := fun w1 b => rlongest_any v L nm w1 (h.below b)
  have ST : Hid (∀ w1 u1 u2 (m : List ByteArray), GS KS w1 u1 m → GS KS w1 u2 m → m.length ≤ 1000000000000 → Calls Tryd.prog 14 #[u1, u2] w1 fun e w' => e = .returned (.bool true) ∧ Below w1.heap.size w1 w') := fun w1 u1 u2 m h1 h2 h3 => by
    refine (sameTextsG w1 u1 u2 m h1 h2 (by omega)).mono ?_
    rintro e w' ⟨rfl, n, rfl⟩
    exact ⟨rfl, ⟨rfl, rfl, rfl, Nat.le_refl _, fun _ _ => rfl⟩⟩
  have SP : Hid (∀ w1 u M, Below w.heap.size w w1 → PR w1 u M → pL M = pL L → Calls Tryd.prog 15 #[u, v] w1 fun e w' => e = .returned (.bool true) ∧ Below w1.heap.size w1 w') := fun w1 u M b hu e => provs_same u v M L w1 hu (h.below b) e (by omega)
  have LC : Hid ((closL (pL L) nm).length ≤ 1000000000000) := closL_len (pL L) nm
  have LY : Hid ((cycL (pL L)).length ≤ 1000000000000) := cycL_len (pL L)
  obtain ⟨p, cap, rfl⟩ := h.gs.form
  clear h hv
  generalize fromF (pL L) nm = R at *
  obtain ⟨ra, rc⟩ := R
  generalize setF (pL L) = R2 at *
  obtain ⟨sa, sc⟩ := R2
  generalize closL (pL L) nm = TC at *
  generalize cycL (pL L) = TY at *
  generalize longF (pL L) nm = lg at *
  have z1 : (ra == ra) = true := by simp
  have z2 : (rc == rc) = true := by simp
  have z3 : (lg == lg) = true := by simp
  have z4 : (sa == sa) = true := by simp
  have z5 : (sc == sc) = true := by simp
  go_enter Tryd.func6, Tryd.ntmps6
  go_wp2_with fail
  refine Calls.mono CE.out ?_
  rintro e wr ⟨p1, c1, M, rfl, cps⟩
  obtain ⟨pr1, eq1⟩ := PC.out _ _ _ cps
  have EQ : Hid (pL M = pL L) := eq1
  have HTU : Hid (PR wr (.slice p1 L.length c1) M) := pr1
  have BW : Hid (Below w.heap.size w wr) := cps.bl
  have WB : Hid (∀ w1, Below wr.heap.size wr w1 → Below w.heap.size w w1) := fun w1 b => BW.out.trans (b.mono BW.out.size)
  clear cps pr1 eq1 CE PC
  go_wp2_with fail
  refine Calls.mono (C1.out _ _ _ BW.out HTU.out EQ.out) ?_
  rintro e w3 ⟨pa, ca, rfl, o3, b3⟩
  have A3 : Hid (GS KS w3 (.slice pa TC.length ca) TC) := o3.gs KS_ok.len
  have B3 : Hid (Below wr.heap.size wr w3) := b3
  have AB : Hid (∀ ob, Below w3.heap.size w3 (w3.alloc ob)) := fun ob => (Below.refl _ _).alloc (Nat.le_refl _) ob
  have F3 : Hid (FBx (w3.alloc (.cells #[.int .i64 ra, .int .i64 rc] 26)) w3.heap.size ra rc) := heap_alloc_new _ _
  clear o3 b3 C1
  have BZ : Hid (∀ ob, Below wr.heap.size wr (w3.alloc ob)) := fun ob => B3.out.trans ((AB.out ob).mono B3.out.size)
  go_wp2_with fail
  refine Calls.mono (C2.out _ (WB.out _ (BZ.out _))) ?_
  rintro e w4 ⟨pb, cb, rfl, o4, b4⟩
  have C4 : Hid (Below w3.heap.size w3 w4) := (AB.out _).trans (b4.mono (AB.out _).size)
  have A4 : Hid (GS KS w4 (.slice pa TC.length ca) TC) := A3.out.below C4.out
  have E4 : Hid (GS KS w4 (.slice pb TC.length cb) TC) := o4.gs KS_ok.len
  have F4 : Hid (FBx w4 w3.heap.size ra rc) := F3.out.below b4
  have B4 : Hid (Below wr.heap.size wr w4) := B3.out.trans (C4.out.mono B3.out.size)
  have L34 : Hid (w3.heap.size < w4.heap.size) := F4.out.lt
  clear o4 b4 C2 AB F3 BZ A3
  have TB5 : Hid (TB wr (w4.alloc (.cells #[.int .i64 ra, .int .i64 rc] 26)) w3.heap.size w4.heap.size (ra, rc) (ra, rc)) := ⟨B4.out.trans (((Below.refl _ _).alloc (Nat.le_refl _) _).mono B4.out.size), F4.out.below ((Below.refl _ _).alloc (Nat.le_refl _) _), heap_alloc_new _ _, B3.out.size, B4.out.size, by have := L34.out; omega⟩
  have AC : Hid (∀ ob, Below w4.heap.size w4 (w4.alloc ob)) := fun ob => (Below.refl _ _).alloc (Nat.le_refl _) ob
  have q0 : ∀ ob, (w4.alloc ob).cell? ⟨w3.heap.size, 0, none⟩ = some (.int .i64 ra) := fun ob => (F4.out.below (AC.out ob)).cells.1
  have q1 : ∀ ob, (w4.alloc ob).cell? ⟨w3.heap.size, 1, none⟩ = some (.int .i64 rc) := fun ob => (F4.out.below (AC.out ob)).cells.2
  have TCl : Hid (TC.length ≤ 1000000000000) := LC.out
  go_wp2_with fail
  refine Calls.mono (ST.out _ _ _ _ (A4.out.below (AC.out _)) (E4.out.below (AC.out _)) TCl.out) ?_
  rintro e w5 ⟨rfl, hb5⟩
  have T5 : Hid (TB wr w5 w3.heap.size w4.heap.size (ra, rc) (ra, rc)) := TB5.out.below hb5
  clear hb5 TB5 AC q0 q1 A4 E4 F4
  generalize w3.heap.size = ga at *
  generalize w4.heap.size = gb at *
  go_wp2_with fail
  refine Calls.mono (Y1.out _ _ _ (WB.out _ T5.out.bl) (HTU.out.below T5.out.bl) EQ.out) ?_
  rintro e w6 ⟨pa, ca, rfl, o6, b6⟩
  have T6 : Hid (TB wr w6 ga gb (ra, rc) (ra, rc)) := T5.out.below b6
  have A6 : Hid (∀ u0 u1, GS KS ((w6.setCell ⟨ga, 0, none⟩ u0).setCell ⟨ga, 1, none⟩ u1) (.slice pa TY.length ca) TY) := fun u0 u1 => gs_set o6 T5.out.b1.lt u0 u1
  have N6 : Hid (∀ x, (Value.slice pa TY.length ca).ownBlock = some x → x ≠ gb) := fun x hx => by have h1 := (o6.lt hx).1; have h2 := T5.out.b2.lt; omega
  obtain ⟨y0, y1⟩ := T6.out.b1.cells
  have fz := T6.out.b1.fz
  have zl := T6.out.b1.lt
  clear o6 b6 Y1 T5
  go_wp2_with fail
  refine Calls.mono (Y2.out _ (WB.out _ (T6.out.set1 (sa, sc)).bl)) ?_
  rintro e w7 ⟨pb, cb, rfl, o7, b7⟩
  have T7 : Hid (TB wr w7 ga gb (sa, sc) (ra, rc)) := (T6.out.set1 (sa, sc)).below b7
  have A7 : Hid (GS KS w7 (.slice pa TY.length ca) TY) := (A6.out _ _).below b7
  have E7 : Hid (∀ u0 u1, GS KS ((w7.setCell ⟨gb, 0, none⟩ u0).setCell ⟨gb, 1, none⟩ u1) (.slice pb TY.length cb) TY) := fun u0 u1 => gs_set o7 (T6.out.set1 (sa, sc)).b2.lt u0 u1
  have A8 : Hid (∀ u0 u1, GS KS ((w7.setCell ⟨gb, 0, none⟩ u0).setCell ⟨gb, 1, none⟩ u1) (.slice pa TY.length ca) TY) := fun u0 u1 => gs_set2 A7.out u0 u1 N6.out
  clear o7 b7 Y2 A6 A7 N6 y0 y1 fz zl T6
  obtain ⟨y0, y1⟩ := T7.out.b2.cells
  have fz := T7.out.b2.fz
  have zl := T7.out.b2.lt
  have T8 : Hid (TB wr ((w7.setCell ⟨gb, 0, none⟩ (.int .i64 sa)).setCell ⟨gb, 1, none⟩ (.int .i64 sc)) ga gb (sa, sc) (sa, sc)) := T7.out.set2 (sa, sc)
  obtain ⟨r0, r1⟩ := T8.out.b1.cells
  obtain ⟨r2, r3⟩ := T8.out.b2.cells
  have TYl : Hid (TY.length ≤ 1000000000000) := LY.out
  go_wp2_with fail
  refine Calls.mono (ST.out _ _ _ _ (A8.out _ _) (E7.out _ _) TYl.out) ?_
  rintro e w8 ⟨rfl, hb8⟩
  have T9 : Hid (TB wr w8 ga gb (sa, sc) (sa, sc)) := T8.out.below hb8
  clear hb8 T8 T7 A8 E7 y0 y1 fz zl r0 r1 r2 r3
  go_wp2_with fail
  refine Calls.mono (G1.out _ _ _ (WB.out _ T9.out.bl) (HTU.out.below T9.out.bl) EQ.out) ?_
  rintro e w9 ⟨rfl, b9⟩
  have Ta : Hid (TB wr w9 ga gb (sa, sc) (sa, sc)) := T9.out.below b9
  clear b9 G1 T9
  obtain ⟨y0, y1⟩ := Ta.out.b1.cells
  have fz := Ta.out.b1.fz
  have zl := Ta.out.b1.lt
  go_wp2_with fail
  refine Calls.mono (G2.out _ (WB.out _ (Ta.out.set1 (ra, rc)).bl)) ?_
  rintro e wb ⟨rfl, bb⟩
  have Tb : Hid (TB wr wb ga gb (ra, rc) (sa, sc)) := (Ta.out.set1 (ra, rc)).below bb
  clear bb G2 Ta y0 y1 fz zl
  obtain ⟨y0, y1⟩ := Tb.out.b2.cells
  have fz := Tb.out.b2.fz
  have zl := Tb.out.b2.lt
  have Tc : Hid (TB wr ((wb.setCell ⟨gb, 0, none⟩ (.int .i64 ra)).setCell ⟨gb, 1, none⟩ (.int .i64 rc)) ga gb (ra, rc) (ra, rc)) := Tb.out.set2 (ra, rc)
  obtain ⟨r0, r1⟩ := Tc.out.b1.cells
  obtain ⟨r2, r3⟩ := Tc.out.b2.cells
  go_wp2_with fail
  refine Calls.mono (SP.out _ _ _ (WB.out _ Tc.out.bl) (HTU.out.below Tc.out.bl) EQ.out) ?_
  rintro e wc ⟨rfl, bc⟩
  have Td : Hid (Below w.heap.size w wc) := (WB.out _ Tc.out.bl).trans (bc.mono (WB.out _ Tc.out.bl).size)
  clear bc Tc Tb
  go_wp2_with fail
  go_ret
  exact ⟨rfl, Td.out⟩
end Go.Proofs.YthmppnmmlblbhaaDoor
