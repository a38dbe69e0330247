/- Names, the reference: Parts. -/
import Derived.Test.YthmppnmmlblbhaaDoorPr1
import Derived.Test.YthmppnmmlblbhaaDoorPu4
namespace Go.Proofs.YthmppnmmlblbhaaDoor
open Go.RowKit

/-- A slice of numbers, with an error's number. -/
def AnsI (w w' : World) (e : Ending) (l : List Int) (c : Int) : Prop := ∃ p cap, e = .returned (.tuple #[.slice p l.length cap, .int .i64 c]) ∧ IS w' (.slice p l.length cap) l ∧ Below w.heap.size w w'
theorem partsEach_any (v : Value) (l : List Opn) (at' ba bf : Nat) (w : World) (h : OS w v l) (hw : walkN 0 (nsO l) = some 1) (hlm : l.length ≤ 256) (hX : ∀ x, v.ownBlock = some x → x ≠ bf) (hab : ba ≠ bf) (hat : at' < l.length)
    (ca : w.cell? ⟨ba, 0, none⟩ = some (.int .i64 at')) (cf : w.heap[bf]? = some (.cells #[.slice none 0 0] 37)) :
    Calls Tryd.prog 51 #[v, .func (.func 52) #[] #[.pointer (some ⟨ba, 0, none⟩), .pointer (some ⟨bf, 0, none⟩)]] w fun e w' => e = .returned (.tuple #[]) ∧ ∃ p c, w'.cell? ⟨bf, 0, none⟩ = some (.slice p (ptO l at').length c) ∧ IS w' (.slice p (ptO l at').length c) (ptO l at') ∧ But (fun x => x = bf) w w' := by
  have hbf : bf < w.heap.size := (Array.getElem?_eq_some_iff.1 cf).1
  have hba : ba < w.heap.size := block_lt_of_cell ca
  have hF : ∀ x, (x = bf ∨ (Value.slice none 0 0).ownBlock = some x) → x = bf := fun x hx => by
    rcases hx with e | e
    · exact e
    · simp [Value.ownBlock] at e
  refine (eachWhole_any v l 52 _ w (UG (fndP l at') bf w.heap.size) (fun x => x = bf ∨ (Value.slice none 0 0).ownBlock = some x) (UG_vis _ _ _) h (fun x hx e => hX x hx (hF x e)) hw hlm ⟨.slice none 0 0, cf, by unfold fndP; simp; exact OwnG.nil _ _ _, hbf, fun x => Iff.rfl⟩ Tryd.call52 (fun k F wk vp hk hI hP hap hfn hbt => ?_)).mono ?_
  · exact partsV_any l at' k bf ba w.heap.size F vp wk hk hlm hI hbt.size ((World.cell?_of_block (w := w) (w' := wk) (a := ⟨ba, 0, none⟩) (hbt.block ba hba (fun e => hab (hF _ e)))).trans ca) hP
  · rintro e w' ⟨rfl, F', ⟨vu, u1, u2, _⟩, _, hbt⟩
    have e : fndP l at' l.length = ptO l at' := by unfold fndP; rw [if_pos hat]
    rw [e] at u2
    obtain ⟨p, c, rfl, _⟩ := u2.form
    exact ⟨rfl, p, c, box_cell u1, u2.gs KI_ok.len, ⟨hbt.os, hbt.tape, hbt.output, hbt.size, fun x hx hn => hbt.block x hx (fun e => hn (hF x e))⟩⟩
set_option maxHeartbeats 4000000 in
theorem parts_any (v : Value) (l : List Opn) (a : Int) (w : World) (h : OS w v l) (ht : ∀ c ∈ l, c.text.size ≤ maxLen) (hv : NV w) (hlm : l.length ≤ 1000000000000000) :
    Calls Tryd.prog 17 #[v, .int .i64 a] w fun e w' => AnsI w w' e (partsL l a) (partsE l a) := by
  have A0 : Hid (∀ ob, Below w.heap.size w (w.alloc ob)) := fun ob => (Below.refl _ _).alloc (Nat.le_refl _) ob
  have CK : Hid _ := check_any v l (w.alloc (.cells #[.int .i64 a] 3)) (h.below (A0.out _)) ht (hv.below (A0.out _)) hlm
  have C0 : Hid (∀ w1, Below (w.alloc (.cells #[.int .i64 a] 3)).heap.size (w.alloc (.cells #[.int .i64 a] 3)) w1 → w1.cell? ⟨w.heap.size, 0, none⟩ = some (.int .i64 a)) := fun w1 b => (b.cell (p := ⟨w.heap.size, 0, none⟩) (by simp)).trans (by simp)
  have HE : Hid (partsE l a = if chkO l = 0 then (if 0 ≤ a ∧ a < l.length then 0 else 1) else chkO l) := rfl
  by_cases hc : chkO l = 0
  · rw [if_pos hc] at HE
    rw [hc] at CK
    obtain ⟨hl, hwh, _⟩ := chkO_ok hc
    obtain ⟨_, hw⟩ := wholeB_ok hwh
    have hne := walk_ne hw
    by_cases ha : 0 ≤ a ∧ a < l.length
    · obtain ⟨m, rfl⟩ : ∃ m : Nat, a = m := ⟨a.toNat, by omega⟩
      have hm : m < l.length := by omega
      rw [if_pos ha] at HE
      have HL : Hid (partsL l m = ptO l m) := by show _ = _; unfold partsL; rw [HE.out, if_pos rfl, Int.toNat_natCast]
      rw [HE.out, HL.out]
      have PE : Hid (∀ w1, Below w.heap.size w w1 → w1.cell? ⟨w.heap.size, 0, none⟩ = some (.int .i64 m) → Calls Tryd.prog 51 #[v, .func (.func 52) #[] #[.pointer (some ⟨w.heap.size, 0, none⟩), .pointer (some ⟨w1.heap.size, 0, none⟩)]] (w1.alloc (.cells #[.slice none 0 0] 37)) fun e w' => e = .returned (.tuple #[]) ∧ ∃ p c, w'.cell? ⟨w1.heap.size, 0, none⟩ = some (.slice p (ptO l m).length c) ∧ IS w' (.slice p (ptO l m).length c) (ptO l m) ∧ Below w.heap.size w w') := fun w1 b cc => by
        have hlt : w.heap.size < w1.heap.size := block_lt_of_cell cc
        have AL := (Below.refl _ w1).alloc (Nat.le_refl _) (.cells #[.slice none 0 0] 37)
        refine (partsEach_any v l m w.heap.size w1.heap.size _ ((h.below b).below AL) hw hl (fun x hx e => by have := h.lt hne hx; omega) (by omega) hm ((AL.cell (p := ⟨w.heap.size, 0, none⟩) hlt).trans cc) (heap_alloc_new _ _)).mono ?_
        rintro e w' ⟨rfl, p, c, c1, c2, hbt⟩
        exact ⟨rfl, p, c, c1, c2, (b.trans (AL.mono b.size)).trans ⟨hbt.os, hbt.tape, hbt.output, hbt.size, fun x hx => hbt.block x (Nat.lt_of_lt_of_le hx (Nat.le_trans b.size AL.size)) (by omega)⟩⟩
      obtain ⟨p, cap, rfl⟩ := h.form
      have hmf : ∀ (fn : Fn) (first cap : Array Value) (w : World), (Instr.makeFunc fn first cap).run Tryd.prog w = .ok (.func fn first cap) w := fun _ _ _ _ => rfl
      generalize ptO l m = P at *
      have h1 : ¬ (m : Int) < 0 := by omega
      have h2 : ¬ (m : Int) ≥ l.length := by omega
      clear h ht hv HE HL ha
      go_enter Tryd.func17, Tryd.ntmps17
      go_wp2_with fail
      refine Calls.mono CK.out ?_
      rintro e w1 ⟨rfl, hb1⟩
      have c1 := C0.out _ hb1
      have B1 : Hid (Below w.heap.size w w1) := (A0.out _).trans (hb1.mono (A0.out _).size)
      have PE1 : Hid _ := PE.out _ B1.out c1
      have c2 : ∀ ob, (w1.alloc ob).cell? ⟨w.heap.size, 0, none⟩ = some (.int .i64 m) := fun ob => (((Below.refl _ w1).alloc (Nat.le_refl _) ob).cell (p := ⟨w.heap.size, 0, none⟩) (block_lt_of_cell c1)).trans c1
      clear hb1 CK C0 PE
      go_wp2_with fail
      refine Calls.mono PE1.out ?_
      rintro e w2 ⟨rfl, p2, cc2, q1, q2, hb2⟩
      have B2 : Hid (Below w.heap.size w w2) := hb2
      have I2 : Hid _ := q2
      clear hb2 q2 PE1
      go_wp2_with fail
      go_ret2
      exact ⟨p2, cc2, rfl, I2.out, B2.out⟩
    · rw [if_neg ha] at HE
      have HL : Hid (partsL l a = []) := by show _ = _; unfold partsL; rw [HE.out, if_neg (by decide)]
      rw [HE.out, HL.out]
      obtain ⟨p, cap, rfl⟩ := h.form
      clear h ht hv HE HL
      by_cases h1 : a < 0
      · go_enter Tryd.func17, Tryd.ntmps17
        go_wp2_with fail
        refine Calls.mono CK.out ?_
        rintro e w1 ⟨rfl, hb1⟩
        have c1 := C0.out _ hb1
        have B1 : Hid (Below w.heap.size w w1) := (A0.out _).trans (hb1.mono (A0.out _).size)
        clear hb1 CK C0
        go_wp2_with fail
        go_ret2
        exact ⟨none, 0, rfl, Or.inl ⟨Or.inl rfl, rfl⟩, B1.out⟩
      · have h2 : a ≥ l.length := by omega
        go_enter Tryd.func17, Tryd.ntmps17
        go_wp2_with fail
        refine Calls.mono CK.out ?_
        rintro e w1 ⟨rfl, hb1⟩
        have c1 := C0.out _ hb1
        have B1 : Hid (Below w.heap.size w w1) := (A0.out _).trans (hb1.mono (A0.out _).size)
        clear hb1 CK C0
        go_wp2_with fail
        go_ret2
        exact ⟨none, 0, rfl, Or.inl ⟨Or.inl rfl, rfl⟩, B1.out⟩
  · rw [if_neg hc] at HE
    have HL : Hid (partsL l a = []) := by show _ = _; unfold partsL; rw [HE.out, if_neg hc]
    rw [HE.out, HL.out]
    obtain ⟨p, cap, rfl⟩ := h.form
    generalize chkO l = c at *
    have h1 : (c == 0) = false := by simpa using hc
    have h2 : (c != 0) = true := by simpa using hc
    clear h ht hv HE HL
    go_enter Tryd.func17, Tryd.ntmps17
    go_wp2_with fail
    refine Calls.mono CK.out ?_
    rintro e w1 ⟨rfl, hb1⟩
    have B1 : Hid (Below w.heap.size w w1) := (A0.out _).trans (hb1.mono (A0.out _).size)
    clear hb1 CK C0
    go_wp2_with fail
    go_ret2
    exact ⟨none, 0, rfl, Or.inl ⟨Or.inl rfl, rfl⟩, B1.out⟩
end Go.Proofs.YthmppnmmlblbhaaDoor
namespace Go.Proofs.YthmppnmmlblbhaaDoor
open Go.RowKit

/-- A row that is filled from the back, as far as r. -/
def qRow (P : List Int) (r : Nat) : List Int := List.replicate r 0 ++ P.drop r
theorem qRow_len (P : List Int) {r : Nat} (h : r ≤ P.length) : (qRow P r).length = P.length := by unfold qRow; simp; omega
theorem qRow_all (P : List Int) : qRow P P.length = List.replicate P.length 0 := by unfold qRow; simp
theorem qRow_zero (P : List Int) : qRow P 0 = P := by unfold qRow; simp
theorem qRow_set (P : List Int) {r : Nat} (h : r < P.length) : (qRow P (r + 1)).set r (P.getD r 0) = qRow P r := by
  unfold qRow
  rw [List.drop_eq_getElem_cons h, List.replicate_succ', List.append_assoc, List.set_append_right _ _ (by simp)]
  simp [List.getD, List.getElem?_eq_getElem h]
set_option maxHeartbeats 8000000 in
set_option maxRecDepth 100000 in
theorem rpartsOf_any (v : Value) (l : List Opn) (k : Nat) (w : World) (h : OS w v l) (ht : ∀ c ∈ l, c.text.size ≤ maxLen) (hlm : l.length ≤ 256) (hwh : wholeB l = true) (hk : k < l.length) :
    Calls Tryd.prog 55 #[v, .int .i64 k] w fun e w' => ∃ p cap, e = .returned (.slice p (ptO l k).length cap) ∧ IS w' (.slice p (ptO l k).length cap) (ptO l k) ∧ Below w.heap.size w w' := by
  obtain ⟨_, hw⟩ := wholeB_ok hwh
  have BG : Hid _ := begins_ok v l w h ht hlm hwh
  obtain ⟨E', PJ⟩ := whA_PI hw
  obtain ⟨c, hc1, hc2, hc3, hc4⟩ := PJ.pa k (by rw [nsO_len]; exact hk)
  obtain ⟨hn, hmb⟩ := ptO_len hw hk
  have hpl := ptO_le (l := l) hk
  change CHN (frA (whA (nsO l))) (ptO l k) k at hc3
  have HFl : Hid (((whA (nsO l)).map (·.1)).length = l.length) := by show _ = _; rw [List.length_map, whA_len, nsO_len]
  have HFg : Hid (∀ j, j < l.length → ((whA (nsO l)).map (·.1)).getD j 0 = frA (whA (nsO l)) (j : Int)) := fun j hj => by
    unfold frA
    have : j < (whA (nsO l)).length := by rw [whA_len, nsO_len]; exact hj
    simp [List.getD, List.getElem?_eq_getElem this]
  have FB : Hid (∀ j, j < l.length → 0 ≤ frA (whA (nsO l)) j ∧ frA (whA (nsO l)) j ≤ j) := fun j hj => whA_fb (by rw [nsO_len]; exact hj)
  obtain ⟨FF, hFF⟩ : ∃ FF, FF = (whA (nsO l)).map (·.1) := ⟨_, rfl⟩
  rw [← hFF] at BG HFl HFg
  obtain ⟨fr, hfr⟩ : ∃ fr, fr = frA (whA (nsO l)) := ⟨_, rfl⟩
  rw [← hfr] at HFg FB hc3
  obtain ⟨p, cap, rfl⟩ := h.form
  obtain ⟨X, o, e1, x1, x2, x3, x4⟩ := h.atO hk
  obtain rfl : p = some ⟨X, o, none⟩ := e1
  have hX : X < w.heap.size := block_lt_of_cell x2
  obtain ⟨P, hP⟩ : ∃ P, P = ptO l k := ⟨_, rfl⟩
  rw [← hP] at hn hmb hpl hc3 ⊢
  obtain ⟨m, hm⟩ : ∃ m, m = P.length := ⟨_, rfl⟩
  rw [← hn, ← hm] at x2
  have CH : Hid (CHN fr P k) := hc3
  have MB : Hid (∀ x ∈ P, 0 ≤ x ∧ x < k) := hmb
  have HM : Hid (m = P.length) := hm
  have hm1 : m ≤ 256 := by omega
  have NE : Hid (∀ w1, Below w.heap.size w w1 → w1.cell? ⟨X, o + k * 4 + 1, none⟩ = some (.int .i64 m)) := fun w1 b => (b.cell (p := ⟨X, o + k * 4 + 1, none⟩) hX).trans x2
  clear hc1 hc2 hc3 hc4 hn hmb hpl hP hFF hfr h ht hw hwh x1 x2 x3 x4 PJ hm
  go_enter Tryd.func55, Tryd.ntmps55
  go_wp2_with (first | (go_at_call 78; refine Calls.mono BG.out ?_; rintro e w1 ⟨p1, c1, rfl, ho1, hb1⟩; have n1 := NE.out _ hb1; have O1 : Hid (OwnG KI w1 w.heap.size (.slice p1 l.length c1) FF) := ho1; have B1 : Hid (Below w.heap.size w w1) := hb1; clear ho1 hb1) | (at_make; refine make_g KI KI_ok 0 rfl rfl _ rfl _ _ 37 rfl Tryd.underlying37 m rfl rfl (by omega) (by decide) ?_; intro w2 ho2 hb2; have n2 := NE.out _ (B1.out.trans (hb2.mono B1.out.size)); have O2 : Hid _ := ho2; have B2 : Hid (Below w1.heap.size w1 w2) := hb2; clear ho2 hb2))
  obtain ⟨g, hg⟩ : ∃ g, g = w1.heap.size := ⟨_, rfl⟩
  rw [← hg] at O2
  have HG : Hid (g = w1.heap.size) := hg
  have Q0 : Hid (OwnG KI w2 g (.slice (some ⟨g, 0, none⟩) m m) (qRow P m) ∧ But (fun x => x = g) w2 w2) := ⟨by rw [HM.out, qRow_all, ← HM.out]; exact O2.out, But.refl _ _⟩
  have OF : Hid (OwnG KI w2 w.heap.size (.slice p1 l.length c1) FF) := O1.out.below B2.out
  have G1 : Hid (∀ x, (Value.slice p1 l.length c1).ownBlock = some x → x ≠ g) := fun x hx => by have := (O1.out.lt hx).2; have := HG.out; omega
  have BW : Hid (Below w.heap.size w w2) := B1.out.trans (B2.out.mono B1.out.size)
  have ZG : Hid (w.heap.size ≤ g) := by show w.heap.size ≤ g; have := B1.out.size; have := HG.out; omega
  clear O1 O2 B1 B2 n1 NE BG hg
  rw [← HG.out]
  clear HG n2
  go_wp2
  go_loopw [8, 9] (fun v8 v9 wr => ∃ (r : Nat) (z i : Int) (wk : World), r ≤ m ∧ v9 = .int .i64 i ∧ i = r - 1 ∧ v8 = .int .i64 z ∧ wk = wr ∧ Hid (0 < r → z = P.getD (r - 1) 0) ∧ Hid (OwnG KI wk g (.slice (some ⟨g, 0, none⟩) m m) (qRow P r) ∧ But (fun x => x = g) w2 wk)) (fun _ v9 _ => (intOf v9 + 1).toNat)
  case atStart => exact ⟨m, _, _, _, Nat.le_refl _, rfl, rfl, rfl, rfl, fun h0 => by have := CH.out.2 (by rw [← HM.out]; exact h0); rw [← HM.out] at this; exact this.symm, Q0⟩
  case round =>
    obtain ⟨r, z, i, wr, hr, rfl, hi, rfl, rfl, HZ, HQ⟩ := hrel
    clear Q0
    cases r with
    | zero =>
      obtain rfl : i = -1 := by omega
      clear hi
      have FN : Hid (IS wr (.slice (some ⟨g, 0, none⟩) m m) P ∧ Below w.heap.size w wr) := by
        obtain ⟨q1, q2⟩ := HQ.out
        rw [qRow_zero] at q1
        exact ⟨q1.gs KI_ok.len, BW.out.trans ⟨q2.os, q2.tape, q2.output, q2.size, fun x hx => q2.block x (Nat.lt_of_lt_of_le hx BW.out.size) (by have := ZG.out; omega)⟩⟩
      clear HQ HZ
      go_wp2
      go_ret
      rw [← HM.out]
      exact ⟨_, _, rfl, FN.out.1, FN.out.2⟩
    | succ r' =>
      obtain rfl : i = (r' : Int) := by omega
      clear hi
      have hz := HZ.out (by omega)
      rw [Nat.add_sub_cancel] at hz
      have hzm := MB.out _ (mem_getD (S := P) (j := r') (by rw [← HM.out]; omega))
      rw [← hz] at hzm
      obtain ⟨qz, rfl⟩ : ∃ qz : Nat, z = qz := ⟨z.toNat, by omega⟩
      have hqk : qz < l.length := by omega
      have hql : (qRow P (r' + 1)).length = m := by rw [qRow_len P (by rw [← HM.out]; omega), HM.out]
      obtain ⟨X1, o1, e1, hcF⟩ := (OF.out.gs KI_ok.len).atI (k := qz) (by rw [HFl.out]; exact hqk)
      obtain rfl : p1 = some ⟨X1, o1, none⟩ := e1
      have hf : FF[qz]'(by rw [HFl.out]; exact hqk) = fr qz := by
        rw [← HFg.out qz hqk]; simp [List.getD, List.getElem?_eq_getElem (show qz < FF.length by rw [HFl.out]; exact hqk)]
      rw [hf] at hcF
      have hX1 : X1 < w2.heap.size := block_lt_of_cell hcF
      have cF : wr.cell? ⟨X1, o1 + qz, none⟩ = some (.int .i64 (fr qz)) := (World.cell?_of_block (w := w2) (w' := wr) (a := ⟨X1, o1 + qz, none⟩) (HQ.out.2.block X1 hX1 (G1.out X1 rfl))).trans hcF
      have ck := own_int HQ.out.1 hql.symm (j := r') (by rw [hql]; omega)
      have fz : wr.frozen? ⟨g, r', none⟩ = false := by
        have := HQ.out.1; unfold OwnG at this; rw [hql] at this
        exact World.ownsRow.frozenAt this r'
      have SET : Hid (OwnG KI (wr.setCell ⟨g, r', none⟩ (.int .i64 qz)) g (.slice (some ⟨g, 0, none⟩) m m) (qRow P r') ∧ But (fun x => x = g) w2 (wr.setCell ⟨g, r', none⟩ (.int .i64 qz))) := by
        have a := HQ.out.1.set1 rfl KI_ok.len (k := r') (qz : Int) (.int .i64 qz) rfl
        have e : (qRow P (r' + 1)).set r' (qz : Int) = qRow P r' := by rw [hz]; exact qRow_set P (by rw [← HM.out]; omega)
        rw [e] at a
        exact ⟨a, ⟨HQ.out.2.os, HQ.out.2.tape, HQ.out.2.output, by rw [set_size]; exact HQ.out.2.size, fun y hy hn => (set_far hn).trans (HQ.out.2.block y hy hn)⟩⟩
      have cF2 : (wr.setCell ⟨g, r', none⟩ (.int .i64 qz)).cell? ⟨X1, o1 + qz, none⟩ = some (.int .i64 (fr qz)) := (World.cell?_of_block (w := wr) (a := ⟨X1, o1 + qz, none⟩) (set_far (G1.out X1 rfl))).trans cF
      have HZ2 : Hid (0 < r' → fr qz - 1 = P.getD (r' - 1) 0) := fun h0 => by
        have := CH.out.1 (r' - 1) (by rw [← HM.out]; omega)
        rw [show r' - 1 + 1 = r' by omega, ← hz] at this
        exact this.symm
      have fb := FB.out qz hqk
      obtain ⟨fb1, fb2⟩ := fb
      have hrm : r' < m := by omega
      generalize fr qz = y at *
      generalize (qRow P (r' + 1)).getD r' 0 = y0 at *
      clear HZ HQ hz hcF hf CH hql
      go_wp2
      go_roundw
      case rel => exact ⟨r', _, _, _, by omega, rfl, by omega, rfl, rfl, HZ2, SET⟩
      case measure => simp [intOf]
set_option maxHeartbeats 4000000 in
theorem rparts_any (v : Value) (l : List Opn) (a : Int) (w : World) (h : OS w v l) (ht : ∀ c ∈ l, c.text.size ≤ maxLen) (hlm : l.length ≤ 1000000000000000) :
    Calls Tryd.prog 18 #[v, .int .i64 a] w fun e w' => AnsI w w' e (partsL l a) (partsE l a) := by
  have CK : Hid _ := rcheck_any v l w h ht hlm
  have HE : Hid (partsE l a = if chkO l = 0 then (if 0 ≤ a ∧ a < l.length then 0 else 1) else chkO l) := rfl
  by_cases hc : chkO l = 0
  · rw [if_pos hc] at HE
    rw [hc] at CK
    obtain ⟨hl, hwh, _⟩ := chkO_ok hc
    by_cases ha : 0 ≤ a ∧ a < l.length
    · obtain ⟨m, rfl⟩ : ∃ m : Nat, a = m := ⟨a.toNat, by omega⟩
      have hm : m < l.length := by omega
      rw [if_pos ha] at HE
      have HL : Hid (partsL l m = ptO l m) := by show _ = _; unfold partsL; rw [HE.out, if_pos rfl, Int.toNat_natCast]
      rw [HE.out, HL.out]
      have PO : Hid (∀ w1, Below w.heap.size w w1 → _) := fun w1 b => rpartsOf_any v l m w1 (h.below b) ht hl hwh hm
      obtain ⟨p, cap, rfl⟩ := h.form
      generalize ptO l m = P at *
      have h1 : ¬ (m : Int) < 0 := by omega
      have h2 : ¬ (m : Int) ≥ l.length := by omega
      clear h ht HE HL ha
      go_enter Tryd.func18, Tryd.ntmps18
      go_wp2_with fail
      refine Calls.mono CK.out ?_
      rintro e w1 ⟨rfl, hb1⟩
      have B1 : Hid (Below w.heap.size w w1) := hb1
      clear hb1 CK
      go_wp2_with fail
      refine Calls.mono (PO.out _ B1.out) ?_
      rintro e w2 ⟨p2, cc2, rfl, q2, hb2⟩
      have B2 : Hid (Below w.heap.size w w2) := B1.out.trans (hb2.mono B1.out.size)
      have I2 : Hid _ := q2
      clear hb2 q2 PO
      go_wp2_with fail
      go_ret2
      exact ⟨p2, cc2, rfl, I2.out, B2.out⟩
    · rw [if_neg ha] at HE
      have HL : Hid (partsL l a = []) := by show _ = _; unfold partsL; rw [HE.out, if_neg (by decide)]
      rw [HE.out, HL.out]
      obtain ⟨p, cap, rfl⟩ := h.form
      clear h ht HE HL
      by_cases h1 : a < 0
      · go_enter Tryd.func18, Tryd.ntmps18
        go_wp2_with fail
        refine Calls.mono CK.out ?_
        rintro e w1 ⟨rfl, hb1⟩
        have B1 : Hid (Below w.heap.size w w1) := hb1
        clear hb1 CK
        go_wp2_with fail
        go_ret2
        exact ⟨none, 0, rfl, Or.inl ⟨Or.inl rfl, rfl⟩, B1.out⟩
      · have h2 : a ≥ l.length := by omega
        go_enter Tryd.func18, Tryd.ntmps18
        go_wp2_with fail
        refine Calls.mono CK.out ?_
        rintro e w1 ⟨rfl, hb1⟩
        have B1 : Hid (Below w.heap.size w w1) := hb1
        clear hb1 CK
        go_wp2_with fail
        go_ret2
        exact ⟨none, 0, rfl, Or.inl ⟨Or.inl rfl, rfl⟩, B1.out⟩
  · rw [if_neg hc] at HE
    have HL : Hid (partsL l a = []) := by show _ = _; unfold partsL; rw [HE.out, if_neg hc]
    rw [HE.out, HL.out]
    obtain ⟨p, cap, rfl⟩ := h.form
    generalize chkO l = c at *
    have h1 : (c == 0) = false := by simpa using hc
    have h2 : (c != 0) = true := by simpa using hc
    clear h ht HE HL
    go_enter Tryd.func18, Tryd.ntmps18
    go_wp2_with fail
    refine Calls.mono CK.out ?_
    rintro e w1 ⟨rfl, hb1⟩
    have B1 : Hid (Below w.heap.size w w1) := hb1
    clear hb1 CK
    go_wp2_with fail
    go_ret2
    exact ⟨none, 0, rfl, Or.inl ⟨Or.inl rfl, rfl⟩, B1.out⟩
end Go.Proofs.YthmppnmmlblbhaaDoor
