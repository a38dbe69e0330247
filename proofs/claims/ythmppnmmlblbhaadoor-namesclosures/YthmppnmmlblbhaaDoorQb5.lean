/- Names: Closure; a loop over a map of anything; Cyclic. -/
import Derived.Test.YthmppnmmlblbhaaDoorQb3
import Derived.Test.YthmppnmmlblbhaaDoorPs4
namespace Go.Proofs.YthmppnmmlblbhaaDoor
open Go.RowKit

noncomputable def rchB (A : ByteArray → List ByteArray) (x s : ByteArray) : Bool := @decide (Rch A x s) (Classical.propDecidable _)
theorem rchB_iff {A : ByteArray → List ByteArray} {x s : ByteArray} : rchB A x s = true ↔ Rch A x s := by unfold rchB; exact @decide_eq_true_iff _ (Classical.propDecidable _)
open Classical in
/-- The one list of these by rising bytes. -/
noncomputable def srtL (p : ByteArray → Bool) : List ByteArray := if h : ∃ T, Srt T p then h.choose else []
theorem Srt.eq {T : List ByteArray} {p : ByteArray → Bool} (h : Srt T p) : T = srtL p := by
  have hx : ∃ T, Srt T p := ⟨T, h⟩
  unfold srtL
  rw [dif_pos hx]
  exact h.uniq hx.choose_spec
/-- What is wrong with a set and a name. -/
def fromF (L : List Prv) (s : ByteArray) : Int × Int := if (setF L).2 = 0 then (if inB (nameL L) s = true then (0, 0) else (0, 4)) else setF L
noncomputable def closL (L : List Prv) (s : ByteArray) : List ByteArray := if (fromF L s).2 = 0 then srtL (rchB (askF L) s) else []
noncomputable def cycL (L : List Prv) : List ByteArray := if (setF L).2 = 0 then srtL (fun s => rchB (askF L) s s) else []
theorem fromF_ok {L : List Prv} {s : ByteArray} (h : (fromF L s).2 = 0) : (setF L).2 = 0 ∧ inB (nameL L) s = true ∧ fromF L s = (0, 0) := by
  unfold fromF at h ⊢
  split at h
  · rename_i h1
    rw [if_pos h1]
    split at h
    · rename_i h2; rw [if_pos h2]; exact ⟨h1, h2, rfl⟩
    · cases h
  · rename_i h1; exact absurd h h1
/-- What a right set gives. -/
structure Fine (L : List Pvx) : Prop where
  len : L.length ≤ 256
  dup : ∀ j, j < L.length → dupB (pL L) j = false
  ops : ∀ j (hj : j < L.length), L[j].p.ops.length ≤ 256
  chk : ∀ j (hj : j < L.length), chkO L[j].p.ops = 0
theorem fine_of {L : List Pvx} (hn : (setF (pL L)).2 = 0) : Fine L ∧ setF (pL L) = (0, 0) := by
  obtain ⟨hl, hg, hd, hz⟩ := setF_fine hn
  rw [pL_len] at hl hd
  have hc : ∀ k (hk : k < L.length), chkO L[k].p.ops = 0 := fun k hk => by
    have := hg k (by rw [pL_len]; exact hk)
    rw [pL_at hk] at this
    exact (prvE_ops this).1
  exact ⟨⟨hl, hd, fun k hk => (chkO_ok (hc k hk)).1, hc⟩, hz⟩
/-- askingOf, told by the map alone. -/
theorem asking_akm (v : Value) (L : List Pvx) (w : World) (h : PR w v L) (hv : NV w) (hn : (setF (pL L)).2 = 0) :
    Calls Tryd.prog 44 #[v] w fun e w' => ∃ b f, e = .returned (.tuple #[.map (some b), .agg #[.int .i64 0, .int .i64 0]]) ∧ AKM w' b (pL L) f ∧ w.heap.size ≤ b ∧ Below w.heap.size w w' := by
  obtain ⟨hf, _⟩ := fine_of hn
  refine (askingOf_ok v L w h hv hn).mono ?_
  rintro e w' ⟨b, f, rfl, hk⟩
  exact ⟨b, f, rfl, hk.akm hf.dup hf.ops hf.len (fun x hx => (h.ps x hx).tx), hk.lo, hk.bl⟩
theorem FBx.set1 {w : World} {g : Nat} {a b : Int} (h : FBx w g a b) (y : Int) : FBx (w.setCell ⟨g, 1, none⟩ (.int .i64 y)) g a y := by
  have e1 := heap_setCell_same w g 1 _ _ (.int .i64 y) h
  unfold FBx
  rw [e1]; rfl
set_option maxHeartbeats 8000000 in
theorem askingFrom_ok (v : Value) (L : List Pvx) (nm : ByteArray) (w : World) (h : PR w v L) (hv : NV w) (hnm : nm.size ≤ maxLen) (hn : (fromF (pL L) nm).2 = 0) :
    Calls Tryd.prog 63 #[v, .string nm] w fun e w' => ∃ b f, e = .returned (.tuple #[.map (some b), .agg #[.int .i64 0, .int .i64 0]]) ∧ AKM w' b (pL L) f ∧ Below w.heap.size w w' := by
  obtain ⟨h1, h2, _⟩ := fromF_ok hn
  have A0 : Hid (∀ ob, Below w.heap.size w (w.alloc ob)) := fun ob => (Below.refl _ _).alloc (Nat.le_refl _) ob
  have F0 : Hid (FBx (w.alloc (.cells #[.int .i64 0, .int .i64 0] 26)) w.heap.size 0 0) := heap_alloc_new _ _
  have AK : Hid (∀ w1, Below w.heap.size w w1 → _) := fun w1 b => asking_akm v L w1 (h.below b) (hv.below b) h1
  have PV : Hid (∀ w1 b f, AKM w1 b (pL L) f → Calls Tryd.prog 46 #[.map (some b), .string nm] w1 fun e w' => e = .returned (.bool true) ∧ w' = w1) := fun w1 b f hk => by
    have := provides_any b (pL L).length f nm w1 hk.mv hnm
    rw [hk.hs, h2] at this
    exact this
  obtain ⟨p, cap, rfl⟩ := h.gs.form
  clear h hv hn h1 h2
  go_enter Tryd.func63, Tryd.ntmps63
  go_wp2_with fail
  refine Calls.mono (AK.out _ (A0.out _)) ?_
  rintro e w1 ⟨b, f, rfl, hk, hlo, hb1⟩
  have K1 : Hid (AKM w1 b (pL L) f) := hk
  have B1 : Hid (Below w.heap.size w w1) := (A0.out _).trans (hb1.mono (A0.out _).size)
  have F1 : Hid (FBx w1 w.heap.size 0 0) := F0.out.below hb1
  have NB : Hid (w.heap.size ≠ b) := by show _ ≠ _; simp at hlo; omega
  clear hk hb1 AK F0 hlo
  have BA : Hid (∀ ob, Below w1.heap.size w1 (w1.alloc ob)) := fun ob => (Below.refl _ _).alloc (Nat.le_refl _) ob
  obtain ⟨y0, y1⟩ := F1.out.cells
  have fz := F1.out.fz
  have zl := F1.out.lt
  obtain ⟨z0, z1⟩ := F1.out.setA 0 0
  have KS' : Hid (∀ u0 u1 ob, AKM (((w1.setCell ⟨w.heap.size, 0, none⟩ u0).setCell ⟨w.heap.size, 1, none⟩ u1).alloc ob) b (pL L) f) := fun u0 u1 ob => by
    have k2 : But (fun x => x = w.heap.size) w1 ((w1.setCell ⟨w.heap.size, 0, none⟩ u0).setCell ⟨w.heap.size, 1, none⟩ u1) := ⟨rfl, rfl, rfl, by simp, fun x _ hx => by rw [set_far hx, set_far hx]⟩
    refine (K1.out.far k2 (fun x e cs hc => ?_) (fun e => NB.out e.symm)).below ((Below.refl _ _).alloc (Nat.le_refl _) ob)
    have h2 := F1.out
    unfold FBx at h2
    rw [e, h2] at hc
    injection hc with hc
    injection hc with _ hc
    exact absurd hc (by decide)
  go_wp2_with fail
  refine Calls.mono (PV.out _ _ _ (K1.out.below (BA.out _))) ?_
  rintro e w2 ⟨rfl, hw2⟩
  rw [hw2]
  clear hw2 PV
  go_wp2_with fail
  go_region
  all_goals
    go_wp2_with fail
    refine bodyPost_ret (v := .tuple #[.map (some b), .agg #[.int .i64 0, .int .i64 0]]) (by simp [results, Tryd.results63, go_sem, z0, z1]) rfl ⟨b, f, rfl, (KS'.out _ _ _).below (Below.refl _ _).drew, (below_alloc' (below_set2 B1.out (Nat.le_refl _) _ _) _).drew⟩
set_option maxHeartbeats 8000000 in
theorem askingFrom_no (v : Value) (L : List Pvx) (nm : ByteArray) (w : World) (h : PR w v L) (hv : NV w) (hnm : nm.size ≤ maxLen) (hn : (fromF (pL L) nm).2 ≠ 0) :
    Calls Tryd.prog 63 #[v, .string nm] w fun e w' => ∃ m, e = .returned (.tuple #[.map m, .agg #[.int .i64 (fromF (pL L) nm).1, .int .i64 (fromF (pL L) nm).2]]) ∧ Below w.heap.size w w' := by
  have A0 : Hid (∀ ob, Below w.heap.size w (w.alloc ob)) := fun ob => (Below.refl _ _).alloc (Nat.le_refl _) ob
  have F0 : Hid (FBx (w.alloc (.cells #[.int .i64 0, .int .i64 0] 26)) w.heap.size 0 0) := heap_alloc_new _ _
  by_cases hs : (setF (pL L)).2 = 0
  · have hi : inB (nameL (pL L)) nm = false := by
      cases e : inB (nameL (pL L)) nm with
      | false => rfl
      | true => exfalso; apply hn; unfold fromF; rw [if_pos hs, if_pos e]
    have e0 : fromF (pL L) nm = (0, 4) := by unfold fromF; rw [if_pos hs, if_neg (by rw [hi]; decide)]
    rw [e0]
    have AK : Hid (∀ w1, Below w.heap.size w w1 → _) := fun w1 b => asking_akm v L w1 (h.below b) (hv.below b) hs
    have PV : Hid (∀ w1 b f, AKM w1 b (pL L) f → Calls Tryd.prog 46 #[.map (some b), .string nm] w1 fun e w' => e = .returned (.bool false) ∧ w' = w1) := fun w1 b f hk => by
      have := provides_any b (pL L).length f nm w1 hk.mv hnm
      rw [hk.hs, hi] at this
      exact this
    obtain ⟨p, cap, rfl⟩ := h.gs.form
    clear h hv hn hs hi e0
    go_enter Tryd.func63, Tryd.ntmps63
    go_wp2_with fail
    refine Calls.mono (AK.out _ (A0.out _)) ?_
    rintro e w1 ⟨b, f, rfl, hk, hlo, hb1⟩
    have K1 : Hid (AKM w1 b (pL L) f) := hk
    have B1 : Hid (Below w.heap.size w w1) := (A0.out _).trans (hb1.mono (A0.out _).size)
    have F1 : Hid (FBx w1 w.heap.size 0 0) := F0.out.below hb1
    clear hk hb1 AK F0 hlo
    have BA : Hid (∀ ob, Below w1.heap.size w1 (w1.alloc ob)) := fun ob => (Below.refl _ _).alloc (Nat.le_refl _) ob
    obtain ⟨y0, y1⟩ := F1.out.cells
    have fz := F1.out.fz
    have zl := F1.out.lt
    obtain ⟨z0, z1⟩ := F1.out.setA 0 4
    go_wp2_with fail
    refine Calls.mono (PV.out _ _ _ (K1.out.below (BA.out _))) ?_
    rintro e w2 ⟨rfl, hw2⟩
    rw [hw2]
    clear hw2 PV
    go_wp2_with fail
    go_region
    all_goals
      go_wp2_with fail
      refine bodyPost_ret (v := .tuple #[.map (some b), .agg #[.int .i64 0, .int .i64 4]]) (by simp [results, Tryd.results63, go_sem, z0, z1]) rfl ⟨some b, rfl, (below_alloc' (below_set2 B1.out (Nat.le_refl _) _ _) _).drew⟩
  · have e0 : fromF (pL L) nm = setF (pL L) := by unfold fromF; rw [if_neg hs]
    rw [e0]
    have AK : Hid (∀ w1, Below w.heap.size w w1 → _) := fun w1 b => askingOf_no v L w1 (h.below b) (hv.below b) hs
    obtain ⟨p, cap, rfl⟩ := h.gs.form
    generalize setF (pL L) = R at *
    obtain ⟨ra, rc⟩ := R
    have h1 : (rc == 0) = false := by simpa using hs
    have h2 : (rc != 0) = true := by simpa using hs
    clear h hv hn e0
    go_enter Tryd.func63, Tryd.ntmps63
    go_wp2_with fail
    refine Calls.mono (AK.out _ (A0.out _)) ?_
    rintro e w1 ⟨rfl, hb1⟩
    have B1 : Hid (Below w.heap.size w w1) := (A0.out _).trans (hb1.mono (A0.out _).size)
    have F1 : Hid (FBx w1 w.heap.size 0 0) := F0.out.below hb1
    clear hb1 AK F0
    obtain ⟨y0, y1⟩ := F1.out.cells
    have fz := F1.out.fz
    have zl := F1.out.lt
    obtain ⟨z0, z1⟩ := F1.out.setA ra rc
    go_wp2_with fail
    go_region
    all_goals
      go_wp2_with fail
      refine bodyPost_ret (v := .tuple #[.map none, .agg #[.int .i64 ra, .int .i64 rc]]) (by simp [results, Tryd.results63, go_sem, z0, z1]) rfl ⟨none, rfl, (below_alloc' (below_set2 B1.out (Nat.le_refl _) _ _) _).drew⟩
end Go.Proofs.YthmppnmmlblbhaaDoor
namespace Go.Proofs.YthmppnmmlblbhaaDoor
open Go.RowKit Go.Maps

set_option maxHeartbeats 8000000 in
theorem closureE_any (v : Value) (L : List Pvx) (nm : ByteArray) (w : World) (h : PR w v L) (hv : NV w) (hnm : nm.size ≤ maxLen) :
    Calls Tryd.prog 29 #[v, .string nm] w fun e w' => AnsF w w' e (closL (pL L) nm) (fromF (pL L) nm) := by
  have A0 : Hid (∀ ob, Below w.heap.size w (w.alloc ob)) := fun ob => (Below.refl _ _).alloc (Nat.le_refl _) ob
  have F0 : Hid (FBx (w.alloc (.cells #[.int .i64 0, .int .i64 0] 26)) w.heap.size 0 0) := heap_alloc_new _ _
  by_cases hn : (fromF (pL L) nm).2 = 0
  · obtain ⟨_, _, hz⟩ := fromF_ok hn
    have e1 : closL (pL L) nm = srtL (rchB (askF (pL L)) nm) := by unfold closL; rw [if_pos hn]
    rw [e1, hz]
    have AK : Hid (∀ w1, Below w.heap.size w w1 → _) := fun w1 b => askingFrom_ok v L nm w1 (h.below b) (hv.below b) hnm hn
    have CL : Hid (∀ w1 b f, AKM w1 b (pL L) f → Calls Tryd.prog 64 #[.map (some b), .string nm] w1 fun e w' => ∃ bS n q, e = .returned (.map (some bS)) ∧ SA w' bS n q ∧ n ≤ 1000000 ∧ q = rchB (askF (pL L)) nm ∧ Below w1.heap.size w1 w') := fun w1 b f hk => by
      refine (closure_any (pL L) b f nm w1 hk hnm).mono ?_
      rintro e w' ⟨bS, n, q, rfl, hs, hn, hq, _, hb⟩
      refine ⟨bS, n, q, rfl, hs, by omega, funext fun s => ?_, hb⟩
      rw [Bool.eq_iff_iff, hq, rchB_iff]
    have SO : Hid (∀ w1 bS n, SA w1 bS n (rchB (askF (pL L)) nm) → n ≤ 1000000 → Calls Tryd.prog 65 #[.map (some bS)] w1 fun e w' => ∃ q c, e = .returned (.slice q (srtL (rchB (askF (pL L)) nm)).length c) ∧ OwnG KS w' w1.heap.size (.slice q (srtL (rchB (askF (pL L)) nm)).length c) (srtL (rchB (askF (pL L)) nm)) ∧ Below w1.heap.size w1 w') := fun w1 bS n hs hn => by
      refine (sorted_any bS n _ w1 hs hn).mono ?_
      rintro e w' ⟨q, c, T, rfl, ho, hsr, hb⟩
      have e := hsr.eq
      rw [← e]
      exact ⟨q, c, rfl, ho, hb⟩
    obtain ⟨p, cap, rfl⟩ := h.gs.form
    generalize srtL (rchB (askF (pL L)) nm) = T at *
    clear h hv hn hz e1
    go_enter Tryd.func29, Tryd.ntmps29
    go_wp2_with fail
    refine Calls.mono (AK.out _ (A0.out _)) ?_
    rintro e w1 ⟨b, f, rfl, hk, hb1⟩
    have K1 : Hid (AKM w1 b (pL L) f) := hk
    have B1 : Hid (Below w.heap.size w w1) := (A0.out _).trans (hb1.mono (A0.out _).size)
    have F1 : Hid (FBx w1 w.heap.size 0 0) := F0.out.below hb1
    clear hk hb1 AK F0
    have BA : Hid (∀ ob, Below w1.heap.size w1 (w1.alloc ob)) := fun ob => (Below.refl _ _).alloc (Nat.le_refl _) ob
    go_wp2_with fail
    refine Calls.mono (CL.out _ _ _ (K1.out.below (BA.out _))) ?_
    rintro e w2 ⟨bS, n, q, rfl, hs, hn, hq, hb2⟩
    have C2 : Hid (Below w1.heap.size w1 w2) := (BA.out _).trans (hb2.mono (BA.out _).size)
    have S2 : Hid _ := SO.out w2 bS n (by rw [← hq]; exact hs) hn
    clear hs hn hq hb2 CL SO K1
    go_wp2_with fail
    refine Calls.mono S2.out ?_
    rintro e w3 ⟨q3, c3, rfl, o3, b3⟩
    have C3 : Hid (Below w1.heap.size w1 w3) := C2.out.trans (b3.mono C2.out.size)
    have B3 : Hid (Below w.heap.size w w3) := B1.out.trans (C3.out.mono B1.out.size)
    have F3 : Hid (FBx w3 w.heap.size 0 0) := F1.out.below C3.out
    have O3 : Hid (∀ u0 u1, OwnG KS ((w3.setCell ⟨w.heap.size, 0, none⟩ u0).setCell ⟨w.heap.size, 1, none⟩ u1) w.heap.size (.slice q3 T.length c3) T) := fun u0 u1 => by
      have h1 := F1.out.lt
      have h2 := C2.out.size
      refine (o3.low (by omega)).far fun g hg => ?_
      have h3 := (o3.lt hg).1
      rw [set_far (show g ≠ w.heap.size by omega), set_far (show g ≠ w.heap.size by omega)]
    obtain ⟨y0, y1⟩ := F3.out.cells
    have fz := F3.out.fz
    have zl := F3.out.lt
    clear o3 b3 S2
    go_wp2_with fail
    exact bodyPost_ret (v := .tuple #[.slice q3 T.length c3, .agg #[.int .i64 0, .int .i64 0]]) (by simp [results, Tryd.results29, go_sem, y0, y1]) rfl ⟨q3, c3, rfl, O3.out _ _, below_set2 B3.out (Nat.le_refl _) _ _⟩
  · have e1 : closL (pL L) nm = [] := by unfold closL; rw [if_neg hn]
    rw [e1]
    have AK : Hid (∀ w1, Below w.heap.size w w1 → _) := fun w1 b => askingFrom_no v L nm w1 (h.below b) (hv.below b) hnm hn
    obtain ⟨p, cap, rfl⟩ := h.gs.form
    generalize fromF (pL L) nm = R at *
    obtain ⟨ra, rc⟩ := R
    have h1 : (rc == 0) = false := by simpa using hn
    have h2 : (rc != 0) = true := by simpa using hn
    clear h hv e1
    go_enter Tryd.func29, Tryd.ntmps29
    go_wp2_with fail
    refine Calls.mono (AK.out _ (A0.out _)) ?_
    rintro e w1 ⟨m, rfl, hb1⟩
    have B1 : Hid (Below w.heap.size w w1) := (A0.out _).trans (hb1.mono (A0.out _).size)
    have F1 : Hid (FBx w1 w.heap.size 0 0) := F0.out.below hb1
    clear hb1 AK
    obtain ⟨y0, y1⟩ := F1.out.cells
    have fz := F1.out.fz
    have zl := F1.out.lt
    obtain ⟨z0, z1⟩ := F1.out.setA ra rc
    go_wp2_with fail
    go_region
    all_goals
      go_wp2_with fail
      exact bodyPost_ret (v := .tuple #[.slice none 0 0, .agg #[.int .i64 ra, .int .i64 rc]]) (by simp [results, Tryd.results29, go_sem, z0, z1]) rfl ⟨none, 0, rfl, OwnG.nil _ _ _, (below_alloc' (below_set2 B1.out (Nat.le_refl _) _ _) _).drew⟩
/-- A loop over a map is under way: which are still to come, and how many. -/
def RM (w : World) (b r n : Nat) (p left : ByteArray → Bool) (cnt : Nat) : Prop := ∃ (D : DataW Value) (lf : Lit → Bool), w.ranges Tryd.prog 9 hE b r n D lf cnt ∧ (∀ s, Maps.has D (kS s) = p s) ∧ ∀ s, lf (kS s) = left s
theorem RM.far {w w' : World} {b r n : Nat} {p left : ByteArray → Bool} {cnt : Nat} (h : RM w b r n p left cnt) (kb : w'.heap[b]? = w.heap[b]?) (kr : w'.heap[r]? = w.heap[r]?) : RM w' b r n p left cnt := by
  obtain ⟨D, lf, ⟨es, clock, since, seen, c0, hb, F, hs, hD, hr, rest⟩, h2⟩ := h
  exact ⟨D, lf, ⟨es, clock, since, seen, c0, kb.trans hb, F, hs, hD, kr.trans hr, rest⟩, h2⟩
theorem RM.left_eq {w : World} {b r n : Nat} {p left : ByteArray → Bool} {cnt : Nat} (h : RM w b r n p left cnt) : w.rangeLeft b r = cnt := by
  obtain ⟨D, lf, h1, _⟩ := h
  exact h1.left_eq
theorem RM.lt {w : World} {b r n : Nat} {p left : ByteArray → Bool} {cnt : Nat} (h : RM w b r n p left cnt) : b < w.heap.size ∧ r < w.heap.size := by
  obtain ⟨D, lf, h1, _⟩ := h
  exact ⟨h1.owns.lt, h1.lt⟩
theorem RM.below {w w' : World} {b r n : Nat} {p left : ByteArray → Bool} {cnt : Nat} (h : RM w b r n p left cnt) (k : Below w.heap.size w w') : RM w' b r n p left cnt := h.far (k.block _ h.lt.1) (k.block _ h.lt.2)
section
variable {w : World} {ops : Array Oper} {rest : List Oper} {o : Oper} {a : Act} {Q : Exit → Act → World → Prop}
theorem range_mv (hg : o.guard = none) (m : Operand) (t : TypeId) (hop : o.op = Op.range t m) (e : TypeId) (ht : Tryd.prog.underlying t = some (.map 9 e)) (b n : Nat) (f : ByteArray → Option Value)
    (hm : a.eval m = .map (some b)) (h : MV w b n f) (r : Nat) (hr0 : w.heap.size = r)
    (hK : ∀ w' cnt, RM w' b r n (fun s => (f s).isSome) (fun s => (f s).isSome) cnt → cnt ≤ n → Below w.heap.size w w' → w'.heap.size = r + 1 → wpList Tryd.prog ops Q rest (a.put o.dst (.pointer (some ⟨r, 0, none⟩))) w') :
    wpList Tryd.prog ops Q (o :: rest) a w := by
  subst hr0
  obtain ⟨D, h1, h2, _⟩ := h
  refine wpList_range_own w hg m t hop 9 e lawS ht hE b n D hm h1 ?_
  intro w' hr hgr hs
  exact hK w' _ ⟨D, _, hr, h2, h2⟩ h1.size_le ((Below.refl _ _).grown hgr (Nat.le_refl _) (fun k hk => by cases hk)) hs
theorem next_mv (hg : o.guard = none) (it : Operand) (hop : o.op = Op.next it false) (b r n : Nat) (p left : ByteArray → Bool) (cnt : Nat)
    (hit : a.eval it = .pointer (some ⟨r, 0, none⟩)) (h : RM w b r n p left cnt)
    (hDone : (∀ s, left s = false) → wpList Tryd.prog ops Q rest (a.put o.dst (.tuple #[.bool false])) w)
    (hMore : ∀ (x : ByteArray) (v : Value) (w' : World) (cnt' : Nat), x.size ≤ maxLen → left x = true → RM w' b r n p (fun s => left s && !decide (s = x)) cnt' → cnt' < cnt → But (fun y => y = r) w w' → w'.heap.size = w.heap.size →
      (Instr.entry (.pointer (some ⟨r, 0, none⟩))).run Tryd.prog w' = .ok (.tuple #[.string x, v]) w' → wpList Tryd.prog ops Q rest (a.put o.dst (.tuple #[.bool true, .string x, v])) w') :
    wpList Tryd.prog ops Q (o :: rest) a w := by
  obtain ⟨D, lf, h1, h2, h3⟩ := h
  refine wpList_next_ranges w hg it hop 9 lawS hE Value.string (fun (v : Value) => v) (fun key kl hk => by obtain ⟨s, rfl⟩ := Maps.keyOf_string_inv Tryd.underlying9 hk; exact ⟨s, rfl⟩) (fun v y hv => ⟨v, rfl⟩) b r n D lf cnt hit h1 ?_ ?_
  · intro _ hl
    exact hDone (fun s => by rw [← h3]; exact hl _)
  · intro x c kl y w' cnt' hk hlk _ _ hr hlt hgr hs hen
    obtain ⟨hx, rfl⟩ := key_inv hk
    exact hMore x c w' cnt' hx ((h3 x).symm.trans hlk) ⟨D, _, hr, h2, fun s => by rw [h3, same_kS]⟩ hlt (But.of_grown hgr) hs hen
end
end Go.Proofs.YthmppnmmlblbhaaDoor
