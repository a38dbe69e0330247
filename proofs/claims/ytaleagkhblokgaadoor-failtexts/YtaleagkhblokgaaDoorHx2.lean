/- Failures: the reference's parts, walked. -/
import Derived.Test.YtaleagkhblokgaaDoorGx1
namespace Go.Proofs.YtaleagkhblokgaaDoor
open Go.RowKit

theorem whS_fb : ∀ (r : List Cr) (i : Nat) (E : List Int) (A : List (Int × List Int)), A.length = i → (∀ x ∈ E, 0 ≤ x ∧ x < i) → (∀ j, j < i → 0 ≤ (A.getD j (0, [])).1 ∧ (A.getD j (0, [])).1 ≤ j) → ∀ j, j < (whS i E A r).length → 0 ≤ ((whS i E A r).getD j (0, [])).1 ∧ ((whS i E A r).getD j (0, [])).1 ≤ j
  | [], i, E, A, hA, _, h, j, hj => by rw [whS] at hj ⊢; exact h j (by omega)
  | c :: r, i, E, A, hA, hE, h, j, hj => by
    rw [whS] at hj ⊢
    refine whS_fb r (i + 1) _ _ (by simp [hA]) (fun x hx => ?_) (fun j hj => ?_) j hj
    · rw [List.mem_append, List.mem_singleton] at hx
      rcases hx with hx | hx
      · have := hE x (List.mem_of_mem_take hx); omega
      · omega
    · by_cases hji : j < i
      · rw [getD_old (by omega)]; exact h j hji
      · have : j = A.length := by omega
        subst this
        rw [show (A ++ [((if 0 < c.n then (A.getD (E.getD (E.length - c.n.toNat) 0).toNat (0, [])).1 else (i : Int)), E.drop (E.length - c.n.toNat))]).getD A.length (0, []) = ((if 0 < c.n then (A.getD (E.getD (E.length - c.n.toNat) 0).toNat (0, [])).1 else (i : Int)), E.drop (E.length - c.n.toNat)) by simp [List.getD]]
        show 0 ≤ (if 0 < c.n then (A.getD (E.getD (E.length - c.n.toNat) 0).toNat (0, [])).1 else (i : Int)) ∧ (if 0 < c.n then (A.getD (E.getD (E.length - c.n.toNat) 0).toNat (0, [])).1 else (i : Int)) ≤ A.length
        split
        · by_cases hlt : E.length - c.n.toNat < E.length
          · have h1 := hE _ (getD_mem hlt)
            have h2 := h (E.getD (E.length - c.n.toNat) 0).toNat (by omega)
            omega
          · have e0 : E.getD (E.length - c.n.toNat) 0 = 0 := by rw [List.getD_eq_getElem?_getD, List.getElem?_eq_none (by omega)]; rfl
            rw [e0]
            by_cases hi : 0 < i
            · have h2 := h 0 hi
              simp only [Int.toNat_zero]; omega
            · have : A = [] := List.length_eq_zero_iff.1 (by omega)
              subst this; simp
        · omega
theorem whA_fb {l : List Cr} {j : Nat} (h : j < l.length) : 0 ≤ frA (whA l) j ∧ frA (whA l) j ≤ j := by
  have := whS_fb l 0 [] [] rfl (fun x hx => by simp at hx) (fun j hj => by omega) j (by rw [whS_len]; simpa using h)
  unfold frA whA; simpa using this
/-- A block of numbers, written from the back as far as r. -/
structure QZ (a b : World) (g m : Nat) (P : List Int) (r : Nat) : Prop where
  kb : KB (some g) a b
  blk : ∃ cur, b.heap[g]? = some (.cells cur 3) ∧ cur.size = m
  cell : ∀ j, r ≤ j → j < m → b.cell? ⟨g, j, none⟩ = some (.int .i64 (P.getD j 0))
theorem QZ.got {a b : World} {g m : Nat} {P : List Int} {r : Nat} (h : QZ a b g m P r) {o : Nat} (ho : o < m) : ∃ v, b.cell? ⟨g, o, none⟩ = some v := by
  obtain ⟨cur, h1, h2⟩ := h.blk
  exact ⟨cur[o]'(by omega), cell_of_row _ _ _ _ _ _ h1 |>.trans (by simp [h2, ho])⟩
theorem QZ.frozen {a b : World} {g m : Nat} {P : List Int} {r : Nat} (h : QZ a b g m P r) (o : Nat) : b.frozen? ⟨g, o, none⟩ = false := by
  obtain ⟨cur, h1, h2⟩ := h.blk
  simp [World.frozen?, h1]
theorem QZ.set {a b : World} {g m : Nat} {P : List Int} {r : Nat} (h : QZ a b g m P (r + 1)) (hr : r < m) : QZ a (b.setCell ⟨g, r, none⟩ (.int .i64 (P.getD r 0))) g m P r := by
  obtain ⟨v, hv⟩ := h.got hr
  obtain ⟨cur, h1, h2⟩ := h.blk
  refine ⟨h.kb.set _ _, ⟨cur.setIfInBounds r _, heap_setCell_same b g r cur _ _ h1, by simpa using h2⟩, fun j hj hm => ?_⟩
  by_cases e : j = r
  · subst e; exact World.cell?_setCell_same _ _ _ hv
  · rw [set_other e]; exact h.cell j (by omega) hm
set_option maxHeartbeats 4000000 in
set_option maxRecDepth 100000 in
theorem rparts_new (v : Value) (l : List Cr) (k : Nat) (w : World) (h : CS w v l) (ht : ∀ c ∈ l, c.text.size ≤ maxLen) (hc : chk l = 0) (hk : k < l.length) :
    Calls Tryd.prog 38 #[v, .int .i64 k] w fun e w' => ∃ p cap, e = .returned (.slice p ((whA l).getD k (0, [])).2.length cap) ∧ IS w' (.slice p ((whA l).getD k (0, [])).2.length cap) ((whA l).getD k (0, [])).2 ∧ Below w.heap.size w w' ∧ ∀ x, (Value.slice p ((whA l).getD k (0, [])).2.length cap).ownBlock = some x → w.heap.size ≤ x := by
  obtain ⟨hl, hw⟩ := chk_ok hc
  obtain ⟨E', PJ⟩ := whA_PI hc
  obtain ⟨c, hc1, hc2, hc3, hc4⟩ := PJ.pa k hk
  have BG := begins_any v l w h ht hl
  have hbg := chk_beg l hl
  rw [hc] at hbg
  obtain ⟨F, hF⟩ : ∃ F, F = (whA l).map (·.1) := ⟨_, rfl⟩
  have hFl : F.length = l.length := by rw [hF, List.length_map, whA_len]
  have BG3 : Hid (Calls Tryd.prog 40 #[v] w fun e w' => ∃ p cap, e = .returned (.tuple #[.slice p l.length cap, .bool true]) ∧ OwnI w' w.heap.size (.slice p l.length cap) F ∧ Below w.heap.size w w') := by
    refine Calls.mono BG ?_
    rintro e w' ⟨hb1, ⟨hno, _⟩ | ⟨q2, p1, c1, hq2, rfl, ho1⟩⟩
    · rw [hno] at hbg; simp at hbg
    · rw [hq2] at hbg
      have e1 := beg_whA hq2
      rw [← hF] at e1
      have e2 : q2.2.length = 1 := by
        simp only at hbg
        split at hbg
        · rename_i hh; exact hh
        · omega
      rw [e1, hFl] at ho1
      rw [e1, hFl, e2]
      exact ⟨p1, c1, rfl, ho1, hb1⟩
  have FC : Hid (∀ j, j < l.length → F.getD j 0 = frA (whA l) j) := fun j hj => by
    rw [hF]; unfold frA
    have : j < (whA l).length := by rw [whA_len]; exact hj
    simp [List.getD, List.getElem?_eq_getElem this]
  · obtain ⟨p, cap, rfl⟩ := h.form
    obtain ⟨X, o, e1, x1, x2, x3⟩ := h.at hk
    have hcl : l[k] = c := by rw [List.getElem?_eq_getElem hk] at hc1; exact Option.some.inj hc1
    rw [hcl] at x2
    have hX : X < w.heap.size := block_lt_of_cell x2
    subst e1
    obtain ⟨P, hP⟩ : ∃ P, P = ((whA l).getD k (0, [])).2 := ⟨_, rfl⟩
    rw [← hP] at hc2 hc3 hc4 ⊢
    obtain ⟨m, hm⟩ : ∃ m, m = P.length := ⟨_, rfl⟩
    rw [← hc2, ← hm] at x2
    have hm1 : m ≤ 1024 := by
      have h1 := (whA_PB l k (by rw [whA_len]; exact hk)).1
      rw [← hP] at h1; omega
    have FB : Hid (∀ j, j < l.length → 0 ≤ frA (whA l) j ∧ frA (whA l) j ≤ j) := fun j hj => whA_fb hj
    have CH : Hid (CHN (frA (whA l)) P k) := hc3
    have MB : Hid (∀ x ∈ P, 0 ≤ x ∧ x < k) := hc4
    clear BG hbg hF PJ hc1 hc2 hc3 hc4 h ht hc hw x1 x3 hcl
    have X2 : Hid (w.cell? ⟨X, o + k * 3 + 1, none⟩ = some (.int .i64 m)) := x2
    have HM : Hid (m = P.length) := hm
    clear hm hP
    go_enter Tryd.func38, Tryd.ntmps38
    have NE : Hid (∀ w1, Below w.heap.size w w1 → w1.cell? ⟨X, o + k * 3 + 1, none⟩ = some (.int .i64 m)) := fun w1 b => (b.cell (p := ⟨X, o + k * 3 + 1, none⟩) hX).trans X2.out
    go_wp2_with (first | (go_at_call 40; refine BG3.out.mono ?_; rintro e w1 ⟨p1, c1, rfl, ho1, hb1⟩; have n1 := NE.out _ hb1; have O1 : Hid (OwnI w1 w.heap.size (.slice p1 l.length c1) F) := ho1; have B1 : Hid (Below w.heap.size w w1) := hb1; clear ho1 hb1) | (at_make; refine make_int _ rfl _ _ 25 rfl Tryd.underlying25 info_int m rfl rfl (by omega) ?_; intro w2 cur hc2 hn2 hb2; have n2 := NE.out _ (B1.out.trans (hb2.mono B1.out.size)); have H2 : Hid (w2.heap[w1.heap.size]? = some (.cells cur 3) ∧ cur.size = m ∧ Below w1.heap.size w1 w2) := ⟨hc2, hn2, hb2⟩; clear hc2 hn2 hb2))
    obtain ⟨g, hg⟩ : ∃ g, g = w1.heap.size := ⟨_, rfl⟩
    rw [← hg] at H2
    have HG : Hid (g = w1.heap.size) := hg
    have Q0 : Hid (QZ w2 w2 g m P m) := ⟨KB.refl _ _, ⟨cur, H2.out.1, H2.out.2.1⟩, fun j h1 h2 => by omega⟩
    have O2 : Hid (OwnI w2 w.heap.size (.slice p1 l.length c1) F) := O1.out.below (HG.out ▸ H2.out.2.2)
    have G1 : Hid (∀ x, (Value.slice p1 l.length c1).ownBlock = some x → x ≠ g) := fun x hx => by have := (World.ownsRow.lt O1.out x hx).2; have := HG.out; omega
    have B2 : Hid (Below w.heap.size w w2) := B1.out.trans ((HG.out ▸ H2.out.2.2 : Below w1.heap.size w1 w2).mono B1.out.size)
    have ZG : Hid (w.heap.size ≤ g) := by show w.heap.size ≤ g; have := B1.out.size; have := HG.out; omega
    have G2 : Hid (g < w2.heap.size) := (Array.getElem?_eq_some_iff.1 H2.out.1).1
    clear H2 O1 B1 n1 NE BG3
    clear hg
    go_wp2
    rw [← HG.out]
    clear HG n2
    go_loopw [8, 9] (fun v8 v9 wr => ∃ (r : Nat) (z i : Int) (wk : World), r ≤ m ∧ v9 = .int .i64 i ∧ i = r - 1 ∧ v8 = .int .i64 z ∧ wk = wr ∧ Hid (0 < r → z = P.getD (r - 1) 0) ∧ Hid (QZ w2 wk g m P r)) (fun _ v9 _ => (intOf v9 + 1).toNat)
    case atStart => exact ⟨m, _, _, _, Nat.le_refl _, rfl, rfl, rfl, rfl, fun h0 => by have := CH.out.2 (by rw [← HM.out]; exact h0); rw [← HM.out] at this; exact this.symm, Q0⟩
    case round =>
      obtain ⟨r, z, i, wr, hr, rfl, hi, rfl, rfl, HZ, HQ⟩ := hrel
      clear Q0
      cases r with
      | zero =>
        obtain rfl : i = -1 := by omega
        clear hi
        have FN : Hid (IS wr (.slice (some ⟨g, 0, none⟩) m m) P ∧ Below w.heap.size w wr) := by
          refine ⟨Or.inr ⟨g, 0, m, by rw [HM.out], by rw [HQ.out.kb.size]; exact G2.out, fun j hj => ?_⟩, B2.out.trans (HQ.out.kb.below (fun x hx => by injection hx with hx; subst hx; exact ZG.out))⟩
          rw [Nat.zero_add]; exact HQ.out.cell j (Nat.zero_le _) (by rw [HM.out]; exact hj)
        clear HQ HZ
        go_wp2
        go_ret
        rw [← HM.out]
        exact ⟨_, _, rfl, FN.out.1, FN.out.2, fun x hx => by injection hx with hx; subst hx; exact ZG.out⟩
      | succ r' =>
        obtain rfl : i = (r' : Int) := by omega
        clear hi
        have hz := HZ.out (by omega)
        rw [Nat.add_sub_cancel] at hz
        have hzm := MB.out _ (getD_mem (D := P) (j := r') (by rw [← HM.out]; omega))
        rw [← hz] at hzm
        obtain ⟨qz, rfl⟩ : ∃ qz : Nat, z = qz := ⟨z.toNat, by omega⟩
        have hqk : qz < l.length := by omega
        obtain ⟨X1, o1, rfl, hcF⟩ := O2.out.is.at (k := qz) (by rw [hFl]; exact hqk)
        rw [FC.out qz hqk] at hcF
        have hfb := FB.out qz hqk
        have hX1 : X1 ≠ g := G1.out X1 rfl
        obtain ⟨y, hy⟩ : ∃ y, y = frA (whA l) qz := ⟨_, rfl⟩
        rw [← hy] at hcF hfb
        have cF : ∀ v, (wr.setCell ⟨g, r', none⟩ v).cell? ⟨X1, o1 + qz, none⟩ = some (.int .i64 y) := fun v => (World.cell?_setCell_other _ _ _ _ (by intro e; injection e with e1 _ _; exact hX1 e1.symm)).trans ((World.cell?_of_block (w := w2) (w' := wr) (a := ⟨X1, o1 + qz, none⟩) (HQ.out.kb.block X1 (by intro e; injection e with e; exact hX1 e))).trans hcF)
        obtain ⟨z0, hz0⟩ := HQ.out.got (o := r') (by omega)
        have fz := HQ.out.frozen r'
        have NX : Hid (QZ w2 (wr.setCell ⟨g, r', none⟩ (.int .i64 qz)) g m P r') := by show QZ _ _ _ _ _ _; rw [hz]; exact HQ.out.set (by omega)
        have NZ : Hid (0 < r' → y - 1 = P.getD (r' - 1) 0) := fun h0 => by
          have := CH.out.1 (r' - 1) (by rw [← HM.out]; omega)
          rw [show r' - 1 + 1 = r' by omega, ← hz] at this
          rw [this, hy]
        have hql : (qz : Int) < (l.length : Int) := by omega
        clear HQ HZ hz hcF hy hX1
        go_wp2
        go_roundw
        case rel => exact ⟨r', _, _, _, by omega, rfl, by go_num, by go_num, rfl, NZ, NX⟩
        case measure => simp [intOf]
theorem rparts_ok (v : Value) (l : List Cr) (k : Nat) (w : World) (h : CS w v l) (ht : ∀ c ∈ l, c.text.size ≤ maxLen) (hc : chk l = 0) (hk : k < l.length) :
    Calls Tryd.prog 38 #[v, .int .i64 k] w fun e w' => ∃ p cap, e = .returned (.slice p ((whA l).getD k (0, [])).2.length cap) ∧ IS w' (.slice p ((whA l).getD k (0, [])).2.length cap) ((whA l).getD k (0, [])).2 ∧ Below w.heap.size w w' :=
  Calls.mono (rparts_new v l k w h ht hc hk) fun _ _ ⟨p, c, h1, h2, h3, _⟩ => ⟨p, c, h1, h2, h3⟩
end Go.Proofs.YtaleagkhblokgaaDoor
