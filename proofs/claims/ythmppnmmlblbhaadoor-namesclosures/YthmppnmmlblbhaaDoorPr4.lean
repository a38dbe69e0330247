/- Names: Rename, both sides. -/
import Derived.Test.YthmppnmmlblbhaaDoorPr3
namespace Go.Proofs.YthmppnmmlblbhaaDoor
open Go.RowKit

theorem flat_set {α : Type} {K : RK α} (hf : ∀ x, (K.f x).length = K.W) (x : α) (u : Value) (j : Nat) (hj : j < K.W) : ∀ (l : List α) (k : Nat) (hk : k < l.length), K.f x = (K.f l[k]).set j u → (l.set k x).flatMap K.f = (l.flatMap K.f).set (k * K.W + j) u
  | [], k, hk, _ => by simp at hk
  | y :: r, 0, _, hx => by
    rw [List.set_cons_zero, List.flatMap_cons, List.flatMap_cons, Nat.zero_mul, Nat.zero_add, List.set_append_left _ _ (by rw [hf]; exact hj), hx]; rfl
  | y :: r, k + 1, hk, hx => by
    have ih := flat_set hf x u j hj r k (by simpa using hk) hx
    rw [List.set_cons_succ, List.flatMap_cons, List.flatMap_cons, ih, List.set_append_right _ _ (by rw [hf, Nat.add_mul]; omega), hf]
    congr 2
    rw [Nat.add_mul]; omega
/-- A field of a member written. -/
theorem OwnG.setF {α : Type} {K : RK α} (hf : ∀ x, (K.f x).length = K.W) {w : World} {base g n cap : Nat} {l : List α} (h : OwnG K w base (.slice (some ⟨g, 0, none⟩) n cap) l) {k j : Nat} (hk : k < l.length) (hj : j < K.W) (x : α) (u : Value) (hx : K.f x = (K.f l[k]).set j u) : OwnG K (w.setCell ⟨g, k * K.W + j, none⟩ u) base (.slice (some ⟨g, 0, none⟩) n cap) (l.set k x) := by
  obtain ⟨h1, h2⟩ := h
  rcases h2 with ⟨h2, _⟩ | ⟨g', cp, cur, e1, e2, e3, e4, e5, e6, e7⟩
  · cases h2
  · injection e1 with e1 e8 e9
    injection e1 with e1
    injection e1 with e1 _ _
    subst e1 e9
    refine ⟨RK.flat_len hf _, Or.inr ⟨g, cap, cur.setIfInBounds (k * K.W + j) u, by rw [List.length_set, e8], e2, heap_setCell_same w g (k * K.W + j) cur _ _ e3, by rw [List.length_set]; exact e4, e5, by simpa using e6, ?_⟩⟩
    rw [List.length_set, flat_set hf x u j hj l k hk hx, ← e7]
    simp [Array.toList_setIfInBounds, List.take_set]
/-- An operation renamed. -/
def ren (f t : ByteArray) (o : Opn) : Opn := if o.kind = 3 ∧ o.text = f then ⟨o.kind, o.n, o.int, t⟩ else o
/-- The first k renamed. -/
def renK (l : List Opn) (f t : ByteArray) (k : Nat) : List Opn := (l.take k).map (ren f t) ++ l.drop k
theorem renK_len (l : List Opn) (f t : ByteArray) (k : Nat) : (renK l f t k).length = l.length := by unfold renK; simp; omega
theorem renK_zero (l : List Opn) (f t : ByteArray) : renK l f t 0 = l := by simp [renK]
theorem renK_all (l : List Opn) (f t : ByteArray) : renK l f t l.length = l.map (ren f t) := by simp [renK]
theorem renK_at (l : List Opn) (f t : ByteArray) {k : Nat} (h : k < l.length) : (renK l f t k)[k]'(by rw [renK_len]; exact h) = l[k] := by
  have e : (renK l f t k)[k]? = some l[k] := by
    unfold renK
    rw [List.getElem?_append_right (by simp; omega)]
    simp [List.getElem?_eq_getElem h, Nat.min_eq_left (Nat.le_of_lt h)]
  have := List.getElem?_eq_getElem (l := renK l f t k) (i := k) (by rw [renK_len]; exact h)
  rw [e] at this
  exact (Option.some.inj this).symm
theorem renK_next (l : List Opn) (f t : ByteArray) {k : Nat} (h : k < l.length) : renK l f t (k + 1) = (renK l f t k).set k (ren f t l[k]) := by
  unfold renK
  rw [List.set_append_right _ _ (by simp; omega)]
  have e : k - ((l.take k).map (ren f t)).length = 0 := by simp; omega
  rw [e, List.drop_eq_getElem_cons h, List.set_cons_zero, List.take_add_one, List.getElem?_eq_getElem h, Option.toList_some, List.map_append, List.append_assoc]
  rfl
theorem renK_same (l : List Opn) (f t : ByteArray) {k : Nat} (h : k < l.length) (hr : ren f t l[k] = l[k]) : renK l f t (k + 1) = renK l f t k := by
  rw [renK_next l f t h, hr]
  have := renK_at l f t h
  rw [← this]
  exact List.set_getElem_self (by rw [renK_len]; exact h)
def renE (l : List Opn) (f t : ByteArray) : Int := if chkO l = 0 then (if nameB f = true ∧ nameB t = true then 0 else 2) else chkO l
def renL (l : List Opn) (f t : ByteArray) : List Opn := if renE l f t = 0 then l.map (ren f t) else []
/-- A row of operations of the call's own, with an error's number. -/
def AnsO (w w' : World) (e : Ending) (l : List Opn) (c : Int) : Prop := ∃ p cap, e = .returned (.tuple #[.slice p l.length cap, .int .i64 c]) ∧ OwnG KO w' w.heap.size (.slice p l.length cap) l ∧ Below w.heap.size w w'
set_option maxHeartbeats 8000000 in
set_option maxRecDepth 100000 in
theorem rename_any (v : Value) (l : List Opn) (f t : ByteArray) (w : World) (h : OS w v l) (ht : ∀ c ∈ l, c.text.size ≤ maxLen) (hf : f.size ≤ maxLen) (htt : t.size ≤ maxLen) (hv : NV w) (hlm : l.length ≤ 1000000000000000) :
    Calls Tryd.prog 20 #[v, .string f, .string t] w fun e w' => AnsO w w' e (renL l f t) (renE l f t) := by
  have CK : Hid _ := check_any v l w h ht hv hlm
  have I1 : Hid (∀ w1, Below w.heap.size w w1 → Calls Tryd.prog 56 #[.string f] w1 fun e w2 => e = .returned (.bool (nameB f)) ∧ Below w1.heap.size w1 w2) := fun w1 b => Calls.mono (isName_any f w1 hf (hv.below b).keys) (by rintro e w2 ⟨rfl, hb⟩; exact ⟨rfl, hb ▸ Below.refl _ _⟩)
  have I2 : Hid (∀ w1, Below w.heap.size w w1 → Calls Tryd.prog 56 #[.string t] w1 fun e w2 => e = .returned (.bool (nameB t)) ∧ Below w1.heap.size w1 w2) := fun w1 b => Calls.mono (isName_any t w1 htt (hv.below b).keys) (by rintro e w2 ⟨rfl, hb⟩; exact ⟨rfl, hb ▸ Below.refl _ _⟩)
  have HE : Hid (renE l f t = if chkO l = 0 then (if nameB f = true ∧ nameB t = true then 0 else 2) else chkO l) := rfl
  have HL : Hid (renL l f t = if renE l f t = 0 then l.map (ren f t) else []) := rfl
  by_cases hc : chkO l = 0
  · rw [if_pos hc] at HE
    rw [hc] at CK
    obtain ⟨hl, _⟩ := chkO_ok hc
    have CO : Hid (∀ w1, Below w.heap.size w w1 → _) := fun w1 b => cloneO_any w1 v l (h.below b) (by omega)
    obtain ⟨p, cap, rfl⟩ := h.form
    have HS : Hid (OS w (.slice p l.length cap) l) := h
    generalize renE l f t = r at *
    generalize renL l f t = L at *
    generalize nameB f = nf at *
    generalize nameB t = nt at *
    clear h ht hv hf htt
    go_enter Tryd.func20, Tryd.ntmps20
    go_wp2_with fail
    refine Calls.mono CK.out ?_
    rintro e w1 ⟨rfl, hb1⟩
    have B1 : Hid (Below w.heap.size w w1) := hb1
    clear hb1 CK
    go_wp2_with fail
    refine Calls.mono (I1.out _ B1.out) ?_
    rintro e w2 ⟨rfl, hb2⟩
    have B2 : Hid (Below w.heap.size w w2) := B1.out.trans (hb2.mono B1.out.size)
    clear hb2 I1 B1
    cases nf with
    | false =>
      have hr : r = 2 := HE.out
      subst hr
      have hL : L = [] := HL.out
      subst hL
      go_wp2_with fail
      go_ret2
      exact ⟨none, 0, rfl, OwnG.nil _ _ _, B2.out⟩
    | true =>
      go_wp2_with fail
      refine Calls.mono (I2.out _ B2.out) ?_
      rintro e w3 ⟨rfl, hb3⟩
      have B3 : Hid (Below w.heap.size w w3) := B2.out.trans (hb3.mono B2.out.size)
      clear hb3 I2 B2
      cases nt with
      | false =>
        have hr : r = 2 := HE.out
        subst hr
        have hL : L = [] := HL.out
        subst hL
        go_wp2_with fail
        go_ret2
        exact ⟨none, 0, rfl, OwnG.nil _ _ _, B3.out⟩
      | true =>
        have hr : r = 0 := HE.out
        subst hr
        have HL2 : Hid (L = l.map (ren f t)) := HL.out
        clear HL HE
        go_wp2_with fail
        refine Calls.mono (CO.out _ B3.out) ?_
        rintro e w4 ⟨p4, c4, rfl, ho4, hb4⟩
        have B4 : Hid (Below w.heap.size w w4) := B3.out.trans (hb4.mono B3.out.size)
        have L4 : Hid (OwnG KO w4 w.heap.size (.slice p4 l.length c4) (renK l f t 0) ∧ Below w.heap.size w w4) := ⟨by rw [renK_zero]; exact ho4.low B3.out.size, B4.out⟩
        clear hb4 CO B3 ho4
        go_wp2_with fail
        go_loopw [29] (fun v29 wr => ∃ (k : Nat) (wk : World), v29 = .int .i64 k ∧ wk = wr ∧ k ≤ l.length ∧ Hid (OwnG KO wk w.heap.size (.slice p4 l.length c4) (renK l f t k) ∧ Below w.heap.size w wk)) (fun v29 _ => l.length - (intOf v29).toNat)
        case atStart => exact ⟨0, _, rfl, rfl, Nat.zero_le _, L4⟩
        case round =>
          obtain ⟨k, wr, rfl, rfl, hk, HI⟩ := hrel
          clear L4
          by_cases hlt : k < l.length
          · have hrl := renK_len l f t k
            obtain ⟨X4, o4, e4, y1, y2, y3, y4⟩ := (HI.out.1.gs KO_ok.len).atO (k := k) (by rw [hrl]; exact hlt)
            rw [renK_at l f t hlt] at y1 y2 y3 y4
            obtain rfl : p4 = some ⟨X4, o4, none⟩ := e4
            have ho : o4 = 0 := by
              obtain ⟨g, cc, e, _⟩ := HI.out.1.place (by simp [Value.ownBlock])
              injection e with e
              injection e with e
              injection e
            subst ho
            rw [Nat.zero_add] at y1 y2 y3 y4
            have fz : ∀ j, wr.frozen? ⟨X4, j, none⟩ = false := fun j => by
              have := HI.out.1; unfold OwnG at this; rw [hrl] at this
              exact World.ownsRow.frozenAt this j
            have hXl : X4 < wr.heap.size := block_lt_of_cell y1
            have hXb : w.heap.size ≤ X4 := (HI.out.1.lt rfl).1
            have SAME : Hid (ren f t l[k] = l[k] → renK l f t (k + 1) = renK l f t k) := renK_same l f t hlt
            have SET : Hid (ren f t l[k] = ⟨l[k].kind, l[k].n, l[k].int, t⟩ → ∀ wx : World, Below w.heap.size w wx → OwnG KO wx w.heap.size (.slice (some ⟨X4, 0, none⟩) l.length c4) (renK l f t k) → OwnG KO (wx.setCell ⟨X4, k * 4 + 3, none⟩ (.string t)) w.heap.size (.slice (some ⟨X4, 0, none⟩) l.length c4) (renK l f t (k + 1)) ∧ Below w.heap.size w (wx.setCell ⟨X4, k * 4 + 3, none⟩ (.string t))) := fun hr wx hbx hox => by
              refine ⟨?_, hbx.setCell (p := ⟨X4, k * 4 + 3, none⟩) hXb _⟩
              rw [renK_next l f t hlt, hr]
              exact hox.setF KO_ok.len (k := k) (j := 3) (by rw [hrl]; exact hlt) (by decide) _ _ (by rw [renK_at l f t hlt]; rfl)
            have HR : Hid (ren f t l[k] = if l[k].kind = 3 ∧ l[k].text = f then ⟨l[k].kind, l[k].n, l[k].int, t⟩ else l[k]) := rfl
            obtain ⟨X, o, e1, x1, x2, x3, x4⟩ := (HS.out.below HI.out.2).atO hlt
            obtain rfl : p = some ⟨X, o, none⟩ := e1
            obtain ⟨c, hcc⟩ : ∃ c, c = l[k] := ⟨_, rfl⟩
            rw [← hcc] at x1 x2 x3 x4 y1 y2 y3 y4 SAME SET HR
            clear hcc hrl
            have AL : Hid (∀ ob, Below wr.heap.size wr (wr.alloc ob)) := fun ob => (Below.refl _ _).alloc (Nat.le_refl _) ob
            have IA : Hid (∀ ob, OwnG KO (wr.alloc ob) w.heap.size (.slice (some ⟨X4, 0, none⟩) l.length c4) (renK l f t k) ∧ Below w.heap.size w (wr.alloc ob)) := fun ob => ⟨HI.out.1.below (AL.out ob), HI.out.2.trans ((AL.out ob).mono HI.out.2.size)⟩
            have z4 : ∀ ob, (wr.alloc ob).cell? ⟨X4, k * 4 + 3, none⟩ = some (.string c.text) := fun ob => ((AL.out ob).cell (p := ⟨X4, k * 4 + 3, none⟩) hXl).trans y4
            have fz2 : ∀ ob, (wr.alloc ob).frozen? ⟨X4, k * 4 + 3, none⟩ = false := fun ob => ((AL.out ob).frozen (p := ⟨X4, k * 4 + 3, none⟩) hXl).trans (fz _)
            clear y1 y2 y3 y4 fz
            by_cases k3 : c.kind = 3
            · have k3b : (c.kind == 3) = true := by simpa using k3
              by_cases tf : c.text = f
              · have tfb : (c.text.toList == f.toList) = true := by rw [tf]; simp
                have HSET : Hid _ := SET.out (by rw [HR.out, if_pos ⟨k3, tf⟩])
                clear SAME SET HR tf
                go_wp2_with fail
                go_roundw
                case rel => exact ⟨k + 1, _, by go_num, rfl, by omega, ⟨(HSET.out _ HI.out.2 HI.out.1).1.below ((Below.refl _ _).alloc (Nat.le_refl _) _), (HSET.out _ HI.out.2 HI.out.1).2.alloc (HSET.out _ HI.out.2 HI.out.1).2.size _⟩⟩
                case measure => simp [intOf]; omega
              · have tfb : (c.text.toList == f.toList) = false := by rw [bytes_beq]; exact decide_eq_false tf
                have HSM : Hid (renK l f t (k + 1) = renK l f t k) := SAME.out (by rw [HR.out, if_neg (fun e => tf e.2)])
                clear SAME SET HR
                go_wp2_with fail
                go_roundw
                case rel => exact ⟨k + 1, _, by go_num, rfl, by omega, by rw [HSM.out]; exact IA.out _⟩
                case measure => simp [intOf]; omega
            · have k3b : (c.kind == 3) = false := by simpa using k3
              have HSM : Hid (renK l f t (k + 1) = renK l f t k) := SAME.out (by rw [HR.out, if_neg (fun e => k3 e.1)])
              clear SAME SET HR
              go_wp2_with fail
              go_roundw
              case rel => exact ⟨k + 1, _, by go_num, rfl, by omega, by rw [HSM.out]; exact IA.out _⟩
              case measure => simp [intOf]; omega
          · have hke : k = l.length := by omega
            subst hke
            have FN : Hid (OwnG KO wr w.heap.size (.slice p4 l.length c4) L ∧ Below w.heap.size w wr) := by
              rw [HL2.out, ← renK_all]; exact HI.out
            have hLl : L.length = l.length := by rw [HL2.out]; simp
            rw [← hLl] at FN
            have HLl : Hid (L.length = l.length) := hLl
            clear HI HL2 hLl
            go_wp2_with fail
            go_ret2
            rw [← HLl.out]
            exact ⟨p4, c4, rfl, FN.out.1, FN.out.2⟩
  · rw [if_neg hc] at HE
    have HL2 : Hid (renL l f t = []) := by show _ = _; rw [HL.out, HE.out, if_neg hc]
    rw [HE.out, HL2.out]
    obtain ⟨p, cap, rfl⟩ := h.form
    generalize chkO l = c at *
    have h1 : (c == 0) = false := by simpa using hc
    have h2 : (c != 0) = true := by simpa using hc
    clear h ht hv HE HL HL2 I1 I2
    go_enter Tryd.func20, Tryd.ntmps20
    go_wp2_with fail
    refine Calls.mono CK.out ?_
    rintro e w1 ⟨rfl, hb1⟩
    have B1 : Hid (Below w.heap.size w w1) := hb1
    clear hb1 CK
    go_wp2_with fail
    go_ret2
    exact ⟨none, 0, rfl, OwnG.nil _ _ _, B1.out⟩
set_option maxHeartbeats 8000000 in
set_option maxRecDepth 100000 in
theorem rrename_any (v : Value) (l : List Opn) (f t : ByteArray) (w : World) (h : OS w v l) (ht : ∀ c ∈ l, c.text.size ≤ maxLen) (hf : f.size ≤ maxLen) (htt : t.size ≤ maxLen) (hlm : l.length ≤ 1000000000000000) :
    Calls Tryd.prog 21 #[v, .string f, .string t] w fun e w' => AnsO w w' e (renL l f t) (renE l f t) := by
  have CK : Hid _ := rcheck_any v l w h ht hlm
  have I1 : Hid (∀ w1, Below w.heap.size w w1 → Calls Tryd.prog 58 #[.string f] w1 fun e w2 => e = .returned (.bool (nameB f)) ∧ Below w1.heap.size w1 w2) := fun w1 b => Calls.mono (baseName_any f w1 hf) (by rintro e w2 ⟨rfl, hb⟩; exact ⟨rfl, hb⟩)
  have I2 : Hid (∀ w1, Below w.heap.size w w1 → Calls Tryd.prog 58 #[.string t] w1 fun e w2 => e = .returned (.bool (nameB t)) ∧ Below w1.heap.size w1 w2) := fun w1 b => Calls.mono (baseName_any t w1 htt) (by rintro e w2 ⟨rfl, hb⟩; exact ⟨rfl, hb⟩)
  have HE : Hid (renE l f t = if chkO l = 0 then (if nameB f = true ∧ nameB t = true then 0 else 2) else chkO l) := rfl
  have HL : Hid (renL l f t = if renE l f t = 0 then l.map (ren f t) else []) := rfl
  by_cases hc : chkO l = 0
  · rw [if_pos hc] at HE
    rw [hc] at CK
    obtain ⟨hl, _⟩ := chkO_ok hc
    have CO : Hid (∀ w1, Below w.heap.size w w1 → _) := fun w1 b => copyExpr_any v l w1 (h.below b) (by omega)
    obtain ⟨p, cap, rfl⟩ := h.form
    have HS : Hid (OS w (.slice p l.length cap) l) := h
    generalize renE l f t = r at *
    generalize renL l f t = L at *
    generalize nameB f = nf at *
    generalize nameB t = nt at *
    clear h ht hf htt
    go_enter Tryd.func21, Tryd.ntmps21
    go_wp2_with fail
    refine Calls.mono CK.out ?_
    rintro e w1 ⟨rfl, hb1⟩
    have B1 : Hid (Below w.heap.size w w1) := hb1
    clear hb1 CK
    go_wp2_with fail
    refine Calls.mono (I1.out _ B1.out) ?_
    rintro e w2 ⟨rfl, hb2⟩
    have B2 : Hid (Below w.heap.size w w2) := B1.out.trans (hb2.mono B1.out.size)
    clear hb2 I1 B1
    cases nf with
    | false =>
      have hr : r = 2 := HE.out
      subst hr
      have hL : L = [] := HL.out
      subst hL
      go_wp2_with fail
      go_ret2
      exact ⟨none, 0, rfl, OwnG.nil _ _ _, B2.out⟩
    | true =>
      go_wp2_with fail
      refine Calls.mono (I2.out _ B2.out) ?_
      rintro e w3 ⟨rfl, hb3⟩
      have B3 : Hid (Below w.heap.size w w3) := B2.out.trans (hb3.mono B2.out.size)
      clear hb3 I2 B2
      cases nt with
      | false =>
        have hr : r = 2 := HE.out
        subst hr
        have hL : L = [] := HL.out
        subst hL
        go_wp2_with fail
        go_ret2
        exact ⟨none, 0, rfl, OwnG.nil _ _ _, B3.out⟩
      | true =>
        have hr : r = 0 := HE.out
        subst hr
        have HL2 : Hid (L = l.map (ren f t)) := HL.out
        clear HL HE
        go_wp2_with fail
        refine Calls.mono (CO.out _ B3.out) ?_
        rintro e w4 ⟨p4, c4, rfl, ho4, hb4⟩
        have B4 : Hid (Below w.heap.size w w4) := B3.out.trans (hb4.mono B3.out.size)
        have L4 : Hid (OwnG KO w4 w.heap.size (.slice p4 l.length c4) (renK l f t 0) ∧ Below w.heap.size w w4) := ⟨by rw [renK_zero]; exact ho4.low B3.out.size, B4.out⟩
        clear hb4 CO B3 ho4
        go_wp2_with fail
        go_loopw [10] (fun v29 wr => ∃ (k : Nat) (wk : World), v29 = .int .i64 k ∧ wk = wr ∧ k ≤ l.length ∧ Hid (OwnG KO wk w.heap.size (.slice p4 l.length c4) (renK l f t k) ∧ Below w.heap.size w wk)) (fun v29 _ => l.length - (intOf v29).toNat)
        case atStart => exact ⟨0, _, rfl, rfl, Nat.zero_le _, L4⟩
        case round =>
          obtain ⟨k, wr, rfl, rfl, hk, HI⟩ := hrel
          clear L4
          by_cases hlt : k < l.length
          · have hrl := renK_len l f t k
            obtain ⟨X4, o4, e4, y1, y2, y3, y4⟩ := (HI.out.1.gs KO_ok.len).atO (k := k) (by rw [hrl]; exact hlt)
            rw [renK_at l f t hlt] at y1 y2 y3 y4
            obtain rfl : p4 = some ⟨X4, o4, none⟩ := e4
            have ho : o4 = 0 := by
              obtain ⟨g, cc, e, _⟩ := HI.out.1.place (by simp [Value.ownBlock])
              injection e with e
              injection e with e
              injection e
            subst ho
            rw [Nat.zero_add] at y1 y2 y3 y4
            have fz : ∀ j, wr.frozen? ⟨X4, j, none⟩ = false := fun j => by
              have := HI.out.1; unfold OwnG at this; rw [hrl] at this
              exact World.ownsRow.frozenAt this j
            have hXl : X4 < wr.heap.size := block_lt_of_cell y1
            have hXb : w.heap.size ≤ X4 := (HI.out.1.lt rfl).1
            have SAME : Hid (ren f t l[k] = l[k] → renK l f t (k + 1) = renK l f t k) := renK_same l f t hlt
            have SET : Hid (ren f t l[k] = ⟨l[k].kind, l[k].n, l[k].int, t⟩ → ∀ wx : World, Below w.heap.size w wx → OwnG KO wx w.heap.size (.slice (some ⟨X4, 0, none⟩) l.length c4) (renK l f t k) → OwnG KO (wx.setCell ⟨X4, k * 4 + 3, none⟩ (.string t)) w.heap.size (.slice (some ⟨X4, 0, none⟩) l.length c4) (renK l f t (k + 1)) ∧ Below w.heap.size w (wx.setCell ⟨X4, k * 4 + 3, none⟩ (.string t))) := fun hr wx hbx hox => by
              refine ⟨?_, hbx.setCell (p := ⟨X4, k * 4 + 3, none⟩) hXb _⟩
              rw [renK_next l f t hlt, hr]
              exact hox.setF KO_ok.len (k := k) (j := 3) (by rw [hrl]; exact hlt) (by decide) _ _ (by rw [renK_at l f t hlt]; rfl)
            have HR : Hid (ren f t l[k] = if l[k].kind = 3 ∧ l[k].text = f then ⟨l[k].kind, l[k].n, l[k].int, t⟩ else l[k]) := rfl
            obtain ⟨c, hcc⟩ : ∃ c, c = l[k] := ⟨_, rfl⟩
            rw [← hcc] at y1 y2 y3 y4 SAME SET HR
            clear hcc hrl
            by_cases k3 : c.kind = 3
            · have k3b : (c.kind == 3) = true := by simpa using k3
              by_cases tf : c.text = f
              · have tfb : (c.text.toList == f.toList) = true := by rw [tf]; simp
                have HSET : Hid _ := SET.out (by rw [HR.out, if_pos ⟨k3, tf⟩])
                clear SAME SET HR tf
                go_wp2_with fail
                go_roundw
                case rel => exact ⟨k + 1, _, by go_num, rfl, by omega, HSET.out _ HI.out.2 HI.out.1⟩
                case measure => simp [intOf]; omega
              · have tfb : (c.text.toList == f.toList) = false := by rw [bytes_beq]; exact decide_eq_false tf
                have HSM : Hid (renK l f t (k + 1) = renK l f t k) := SAME.out (by rw [HR.out, if_neg (fun e => tf e.2)])
                clear SAME SET HR
                go_wp2_with fail
                go_roundw
                case rel => exact ⟨k + 1, _, by go_num, rfl, by omega, by rw [HSM.out]; exact HI.out⟩
                case measure => simp [intOf]; omega
            · have k3b : (c.kind == 3) = false := by simpa using k3
              have HSM : Hid (renK l f t (k + 1) = renK l f t k) := SAME.out (by rw [HR.out, if_neg (fun e => k3 e.1)])
              clear SAME SET HR
              go_wp2_with fail
              go_roundw
              case rel => exact ⟨k + 1, _, by go_num, rfl, by omega, by rw [HSM.out]; exact HI.out⟩
              case measure => simp [intOf]; omega
          · have hke : k = l.length := by omega
            subst hke
            have FN : Hid (OwnG KO wr w.heap.size (.slice p4 l.length c4) L ∧ Below w.heap.size w wr) := by
              rw [HL2.out, ← renK_all]; exact HI.out
            have hLl : L.length = l.length := by rw [HL2.out]; simp
            rw [← hLl] at FN
            have HLl : Hid (L.length = l.length) := hLl
            clear HI HL2 hLl
            go_wp2_with fail
            go_ret2
            rw [← HLl.out]
            exact ⟨p4, c4, rfl, FN.out.1, FN.out.2⟩
  · rw [if_neg hc] at HE
    have HL2 : Hid (renL l f t = []) := by show _ = _; rw [HL.out, HE.out, if_neg hc]
    rw [HE.out, HL2.out]
    obtain ⟨p, cap, rfl⟩ := h.form
    generalize chkO l = c at *
    have h1 : (c == 0) = false := by simpa using hc
    have h2 : (c != 0) = true := by simpa using hc
    clear h ht HE HL HL2 I1 I2
    go_enter Tryd.func21, Tryd.ntmps21
    go_wp2_with fail
    refine Calls.mono CK.out ?_
    rintro e w1 ⟨rfl, hb1⟩
    have B1 : Hid (Below w.heap.size w w1) := hb1
    clear hb1 CK
    go_wp2_with fail
    go_ret2
    exact ⟨none, 0, rfl, OwnG.nil _ _ _, B1.out⟩
end Go.Proofs.YthmppnmmlblbhaaDoor
