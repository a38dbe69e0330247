/- Failures: Leaves, both sides. -/
import Derived.Test.YtaleagkhblokgaaDoorGx3
import Derived.Test.YtaleagkhblokgaaDoorGx4
namespace Go.Proofs.YtaleagkhblokgaaDoor
open Go.RowKit

theorem OwnC.far {w w' : World} {base : Nat} {v : Value} {l : List Cr} (h : OwnC w base v l) (k : ∀ g, v.ownBlock = some g → w'.heap[g]? = w.heap[g]?) : OwnC w' base v l := by
  obtain ⟨h1, h2⟩ := h
  refine ⟨h1, ?_⟩
  rcases h2 with h2 | ⟨g, cap, cur, e1, e2, e3, e4⟩
  · exact Or.inl h2
  · exact Or.inr ⟨g, cap, cur, e1, e2, by rw [k g (by rw [e1]; rfl)]; exact e3, e4⟩
/-- A row of failures of one crack each, all in blocks of their own. -/
structure LV (b : Nat) (wk : World) (va : Value) (us : List Value) (cs : List Cr) : Prop where
  s : OwnS wk b va us
  ln : us.length = cs.length
  el : ∀ k (h1 : k < us.length) (h2 : k < cs.length), OwnC wk b us[k] [cs[k]] ∧ ∃ g, us[k].ownBlock = some g ∧ va.ownBlock ≠ some g
  ds : ∀ j k (h1 : j < us.length) (h2 : k < us.length), j ≠ k → us[j].ownBlock ≠ us[k].ownBlock
theorem LV.below {b : Nat} {wk w' : World} {va : Value} {us : List Value} {cs : List Cr} (h : LV b wk va us cs) (k : Below wk.heap.size wk w') : LV b w' va us cs :=
  ⟨h.s.below k, h.ln, fun j h1 h2 => ⟨(h.el j h1 h2).1.below k, (h.el j h1 h2).2⟩, h.ds⟩
theorem LV.next {b : Nat} {wr w5 w7 : World} {va u : Value} {us : List Value} {cs : List Cr} {c : Cr} {g cp gu : Nat} (h : LV b wr va us cs) (hb : b ≤ wr.heap.size)
    (b5 : Below wr.heap.size wr w5) (o5 : OwnC w5 wr.heap.size u [c]) (hu : u.ownBlock = some gu)
    (o7 : OwnS w7 b (.slice (some ⟨g, 0, none⟩) (us.length + 1) cp) (us ++ [u])) (k7 : ∀ k, k < w5.heap.size → some k ≠ va.ownBlock → w7.heap[k]? = w5.heap[k]?) (g7 : va.ownBlock = some g ∨ w5.heap.size ≤ g) :
    LV b w7 (.slice (some ⟨g, 0, none⟩) (us.length + 1) cp) (us ++ [u]) (cs ++ [c]) := by
  have hs5 := b5.size
  have hva : ∀ q, va.ownBlock = some q → b ≤ q ∧ q < wr.heap.size := fun q hq => World.ownsRow.lt h.s q hq
  have hgu := World.ownsRow.lt o5 gu hu
  have hl := h.ln
  refine ⟨o7, by simp [hl], fun k h1 h2 => ?_, fun j k h1 h2 hne => ?_⟩
  · by_cases hk : k < us.length
    · have e : (us ++ [u])[k] = us[k] := List.getElem_append_left hk
      have e2 : (cs ++ [c])[k] = cs[k]'(by omega) := List.getElem_append_left (by omega)
      rw [e, e2]
      obtain ⟨c1, gx, hgx, hne⟩ := h.el k hk (by omega)
      have hlt := World.ownsRow.lt c1 gx hgx
      refine ⟨(c1.below b5).far (fun x hx => k7 x ?_ (fun e => ?_)), gx, hgx, fun e => ?_⟩
      · have := World.ownsRow.lt c1 x hx; omega
      · rw [hgx] at hx; injection hx with hx; exact hne (by rw [hx]; exact e.symm)
      · simp only [Value.ownBlock, Option.some.injEq] at e
        rcases g7 with e4 | e4
        · exact hne (by rw [e4, e])
        · omega
    · have hk2 : k = us.length := by simp at h1; omega
      have e : (us ++ [u])[k] = u := by simp [hk2]
      have e2 : (cs ++ [c])[k] = c := by simp [hk2, hl]
      rw [e, e2]
      refine ⟨(o5.low hb).far (fun x hx => k7 x ?_ (fun e => ?_)), gu, hu, fun e => ?_⟩
      · have := World.ownsRow.lt o5 x hx; omega
      · have := World.ownsRow.lt o5 x hx; have := hva x e.symm; omega
      · simp only [Value.ownBlock, Option.some.injEq] at e
        rcases g7 with e4 | e4
        · have := hva g e4; omega
        · omega
  · have old : ∀ i (hi : i < us.length), ∃ x, us[i].ownBlock = some x ∧ x < wr.heap.size := fun i hi => by
      obtain ⟨c1, gx, hgx, _⟩ := h.el i hi (by omega)
      exact ⟨gx, hgx, (World.ownsRow.lt c1 gx hgx).2⟩
    simp only [List.length_append, List.length_singleton] at h1 h2
    by_cases hj : j < us.length
    · have e : (us ++ [u])[j]'(by simp; omega) = us[j] := List.getElem_append_left hj
      by_cases hk : k < us.length
      · have e2 : (us ++ [u])[k]'(by simp; omega) = us[k] := List.getElem_append_left hk
        rw [e, e2]; exact h.ds j k hj hk hne
      · have e2 : (us ++ [u])[k]'(by simp; omega) = u := by simp [show k = us.length by omega]
        rw [e, e2, hu]
        obtain ⟨x, hx, hxl⟩ := old j hj
        rw [hx]; intro e; injection e with e; omega
    · have e : (us ++ [u])[j]'(by simp; omega) = u := by simp [show j = us.length by omega]
      by_cases hk : k < us.length
      · have e2 : (us ++ [u])[k]'(by simp; omega) = us[k] := List.getElem_append_left hk
        rw [e, e2, hu]
        obtain ⟨x, hx, hxl⟩ := old k hk
        rw [hx]; intro e; injection e with e; omega
      · omega
theorem ownC_two (w : World) (ob : Obj) (k n : Int) (t : ByteArray) : OwnC ((w.alloc ob).alloc (.cells #[.int .i64 k, .int .i64 n, .string t] 55)) w.heap.size (.slice (some ⟨w.heap.size + 1, 0, none⟩) 1 1) [⟨k, n, t⟩] := by
  have h := ownC_one (w.alloc ob) k n t
  have e : (w.alloc ob).heap.size = w.heap.size + 1 := by simp
  rw [e] at h
  exact h.low (by omega)
def lvK (l : List Cr) (j : Nat) : List Cr := (l.take j).filter (fun c => decide (c.n = 0))
theorem lvK_succ {l : List Cr} {j : Nat} (h : j < l.length) : lvK l (j + 1) = lvK l j ++ if l[j].n = 0 then [l[j]] else [] := by
  unfold lvK
  rw [List.take_add_one, List.getElem?_eq_getElem h, Option.toList_some, List.filter_append]
  congr 1
  by_cases h0 : l[j].n = 0
  · rw [if_pos h0, List.filter_cons_of_pos (by simpa using h0)]; rfl
  · rw [if_neg h0, List.filter_cons_of_neg (by simpa using h0)]; rfl
theorem lvK_le (l : List Cr) (j : Nat) : (lvK l j).length ≤ j := by
  unfold lvK
  have := List.length_filter_le (fun c : Cr => decide (c.n = 0)) (l.take j)
  simp only [List.length_take] at this; omega
def leavL (l : List Cr) : List Cr := if chk l = 0 then lvK l l.length else []
def AnsL (w w' : World) (e : Ending) (cs : List Cr) (x : Int) : Prop := ∃ p cap us, e = .returned (.tuple #[.slice p cs.length cap, .int .i64 x]) ∧ LV w.heap.size w' (.slice p cs.length cap) us cs ∧ Below w.heap.size w w'
theorem ansL_nil {w w' : World} {cs : List Cr} {x : Int} (hl : cs = []) (b : Below w.heap.size w w') : AnsL w w' (.returned (.tuple #[.slice none 0 0, .int .i64 x])) cs x := by
  subst hl; exact ⟨none, 0, [], rfl, ⟨World.ownsRow_nil _ _ _ _, rfl, fun k h1 => by simp at h1, fun j k h1 => by simp at h1⟩, b⟩
set_option maxHeartbeats 4000000 in
set_option maxRecDepth 100000 in
theorem leaves_any (v : Value) (l : List Cr) (w : World) (h : CS w v l) (ht : ∀ c ∈ l, c.text.size ≤ maxLen) (hlm : l.length ≤ 1000000000000000) (hv : FV w) :
    Calls Tryd.prog 13 #[v] w fun e w' => AnsL w w' e (leavL l) (chk l) := by
  have CK := check_any v l w h ht hv hlm
  obtain ⟨p, cap, rfl⟩ := h.form
  by_cases hc : chk l = 0
  · rw [hc] at CK ⊢
    have e2 : leavL l = lvK l l.length := by unfold leavL; rw [if_pos hc]
    rw [e2]
    have hl := (chk_ok hc).1
    have HS : Hid (CS w (.slice p l.length cap) l) := h
    clear h ht hv e2 hc
    go_enter Tryd.func13, Tryd.ntmps13
    go_wp2_with (go_at_call 31; refine CK.mono ?_; rintro e w1 ⟨rfl, hb1⟩; have B1 : Hid (Below w.heap.size w w1) := hb1; clear hb1)
    have S0 : Hid (LV w.heap.size w1 (.slice none 0 0) [] (lvK l 0)) := ⟨World.ownsRow_nil _ _ _ _, by simp [lvK], fun k h1 => by simp at h1, fun j k h1 => by simp at h1⟩
    go_loopw [5, 15] (fun a b wl => ∃ (j : Nat) (va : Value) (us : List Value) (wk : World), j ≤ l.length ∧ b = .int .i64 j ∧ va = a ∧ wk = wl ∧ Hid (LV w.heap.size wk va us (lvK l j)) ∧ Hid (Below w.heap.size w wk)) (fun _ b _ => l.length - (intOf b).toNat)
    case atStart => exact ⟨0, _, [], _, Nat.zero_le _, rfl, rfl, rfl, S0, B1⟩
    case round =>
      obtain ⟨j, va, us, wr, hj, rfl, rfl, rfl, HI, HB⟩ := hrel
      clear S0
      by_cases hlt : j < l.length
      · obtain ⟨X, o, rfl, x1, x2, x3⟩ := (HS.out.below HB.out).at hlt
        have hX : X < wr.heap.size := block_lt_of_cell x1
        have SU := lvK_succ hlt
        obtain ⟨c, hcc⟩ : ∃ c, c = l[j] := ⟨_, rfl⟩
        rw [← hcc] at x1 x2 x3 SU
        clear hcc
        by_cases h0 : c.n = 0
        · rw [if_pos h0] at SU
          obtain ⟨kd, nn, tx⟩ := c
          obtain rfl : nn = 0 := h0
          have HSU : Hid (lvK l (j + 1) = lvK l j ++ [⟨kd, 0, tx⟩]) := SU
          have LN : Hid ((us.length + 1) * 24 ≤ 140737488355328) := by
            show (us.length + 1) * 24 ≤ 140737488355328
            have := HI.out.ln; have := lvK_le l j; omega
          have B5 : Hid (Below wr.heap.size wr ((wr.alloc (.cells #[.int .i64 kd, .int .i64 0, .string tx] 55)).alloc (.cells #[.int .i64 kd, .int .i64 0, .string tx] 55))) := ((Below.refl _ _).alloc (Nat.le_refl _) _).alloc (by simp) _
          have OW : Hid (OwnS ((wr.alloc (.cells #[.int .i64 kd, .int .i64 0, .string tx] 55)).alloc (.cells #[.int .i64 kd, .int .i64 0, .string tx] 55)) w.heap.size va us ∧ w.heap.size ≤ (((wr.alloc (.cells #[.int .i64 kd, .int .i64 0, .string tx] 55)).alloc (.cells #[.int .i64 kd, .int .i64 0, .string tx] 55))).heap.size) := ⟨HI.out.s.below B5.out, Nat.le_trans HB.out.size B5.out.size⟩
          have O5 : Hid (OwnC ((wr.alloc (.cells #[.int .i64 kd, .int .i64 0, .string tx] 55)).alloc (.cells #[.int .i64 kd, .int .i64 0, .string tx] 55)) wr.heap.size (.slice (some ⟨wr.heap.size + 1, 0, none⟩) 1 1) [⟨kd, 0, tx⟩]) := ownC_two wr _ kd 0 tx
          have NX : Hid (∀ g1 c1 w6, OwnS w6 w.heap.size (.slice (some ⟨g1, 0, none⟩) (us.length + 1) c1) (us ++ [.slice (some ⟨wr.heap.size + 1, 0, none⟩) 1 1]) → Below w.heap.size ((wr.alloc (.cells #[.int .i64 kd, .int .i64 0, .string tx] 55)).alloc (.cells #[.int .i64 kd, .int .i64 0, .string tx] 55)) w6 → (∀ k, k < (((wr.alloc (.cells #[.int .i64 kd, .int .i64 0, .string tx] 55)).alloc (.cells #[.int .i64 kd, .int .i64 0, .string tx] 55))).heap.size → some k ≠ va.ownBlock → w6.heap[k]? = (((wr.alloc (.cells #[.int .i64 kd, .int .i64 0, .string tx] 55)).alloc (.cells #[.int .i64 kd, .int .i64 0, .string tx] 55))).heap[k]?) → (va.ownBlock = some g1 ∨ (((wr.alloc (.cells #[.int .i64 kd, .int .i64 0, .string tx] 55)).alloc (.cells #[.int .i64 kd, .int .i64 0, .string tx] 55))).heap.size ≤ g1) → LV w.heap.size w6 (.slice (some ⟨g1, 0, none⟩) (us.length + 1) c1) (us ++ [.slice (some ⟨wr.heap.size + 1, 0, none⟩) 1 1]) (lvK l (j + 1)) ∧ Below w.heap.size w w6) := fun g1 c1 w6 o6 b6 k6 g6 => ⟨by rw [HSU.out]; exact HI.out.next HB.out.size B5.out O5.out rfl o6 k6 g6, HB.out.trans ((B5.out.mono HB.out.size).trans b6)⟩
          clear SU HI
          go_wp2_with (at_builtin; refine append_sv rfl (.tmp 22) (.tmp 25) 30 rfl w.heap.size Tryd.underlying30 info_fl _ _ _ va us (some ⟨wr.heap.size + 1, 0, none⟩) 1 1 _ rfl OW.out.1 (wr.heap.size + 1 + 1) (by simp) rfl rfl LN.out OW.out.2 ?_; intro g1 c1 w6 ho6 hb6 hk6 hg6)
          go_roundw
          case rel => exact ⟨j + 1, _, _, _, by omega, by go_num, rfl, rfl, (NX.out _ _ _ ho6 hb6 hk6 hg6).1, (NX.out _ _ _ ho6 hb6 hk6 hg6).2⟩
          case measure => simp [intOf]; omega
        · rw [if_neg h0, List.append_nil] at SU
          have NX : Hid (∀ w5, Below wr.heap.size wr w5 → LV w.heap.size w5 va us (lvK l (j + 1)) ∧ Below w.heap.size w w5) := fun w5 b => ⟨SU ▸ HI.out.below b, HB.out.trans (b.mono HB.out.size)⟩
          have AL : Hid (∀ ob, Below wr.heap.size wr (wr.alloc ob)) := fun ob => (Below.refl _ _).alloc (Nat.le_refl _) ob
          have h0b : (c.n == 0) = false := by simpa using h0
          clear SU HI
          go_wp2
          go_roundw
          case rel => exact ⟨j + 1, _, _, _, by omega, by go_num, rfl, rfl, (NX.out _ (AL.out _)).1, (NX.out _ (AL.out _)).2⟩
          case measure => simp [intOf]; omega
      · have hje : j = l.length := by omega
        subst hje
        have FN : Hid (LV w.heap.size wr va us (lvK l l.length)) := HI.out
        have BL : Hid (Below w.heap.size w wr) := HB.out
        obtain ⟨pv, cv, hvv, _⟩ := HI.out.s.form
        rw [HI.out.ln] at hvv
        subst hvv
        clear HI HB
        go_wp2
        go_ret2
        exact ⟨pv, cv, us, rfl, FN.out, BL.out⟩
  · have e2 : leavL l = [] := by unfold leavL; rw [if_neg hc]
    have AN : Hid (∀ w', Below w.heap.size w w' → AnsL w w' (.returned (.tuple #[.slice none 0 0, .int .i64 (chk l)])) (leavL l) (chk l)) := fun w' b => ansL_nil e2 b
    clear h ht
    generalize chk l = c at *
    have h1 : (c == 0) = false := by simpa using hc
    have h2 : (c != 0) = true := by simpa using hc
    go_enter Tryd.func13, Tryd.ntmps13
    go_wp2_with (go_at_call 31; refine CK.mono ?_; rintro e w1 ⟨rfl, hb1⟩; have B1 : Hid (Below w.heap.size w w1) := hb1; clear hb1)
    go_ret2
    exact AN.out _ B1.out
set_option maxHeartbeats 4000000 in
set_option maxRecDepth 100000 in
theorem rleaves_any (v : Value) (l : List Cr) (w : World) (h : CS w v l) (ht : ∀ c ∈ l, c.text.size ≤ maxLen) (hlm : l.length ≤ 1000000000000000) :
    Calls Tryd.prog 14 #[v] w fun e w' => AnsL w w' e (leavL l) (chk l) := by
  have CK := rcheck_any v l w h ht hlm
  obtain ⟨p, cap, rfl⟩ := h.form
  by_cases hc : chk l = 0
  · rw [hc] at CK ⊢
    have e2 : leavL l = lvK l l.length := by unfold leavL; rw [if_pos hc]
    rw [e2]
    have hl := (chk_ok hc).1
    have HS : Hid (CS w (.slice p l.length cap) l) := h
    clear h ht e2 hc
    go_enter Tryd.func14, Tryd.ntmps14
    go_wp2_with (go_at_call 37; refine CK.mono ?_; rintro e w1 ⟨rfl, hb1⟩; have B1 : Hid (Below w.heap.size w w1) := hb1; clear hb1)
    have B2 : Hid (Below w.heap.size w (w1.alloc (.cells #[] 23))) := B1.out.alloc B1.out.size _
    have S0 : Hid (LV w.heap.size (w1.alloc (.cells #[] 23)) (.slice (some ⟨w1.heap.size, 0, none⟩) 0 0) [] (lvK l 0)) := ⟨(ownS_empty w1).low B1.out.size, by simp [lvK], fun k h1 => by simp at h1, fun j k h1 => by simp at h1⟩
    go_loopw [5, 6] (fun a b wl => ∃ (j : Nat) (va : Value) (us : List Value) (wk : World), j ≤ l.length ∧ b = .int .i64 j ∧ va = a ∧ wk = wl ∧ Hid (LV w.heap.size wk va us (lvK l j)) ∧ Hid (Below w.heap.size w wk)) (fun _ b _ => l.length - (intOf b).toNat)
    case atStart => exact ⟨0, _, [], _, Nat.zero_le _, rfl, rfl, rfl, S0, B2⟩
    case round =>
      obtain ⟨j, va, us, wr, hj, rfl, rfl, rfl, HI, HB⟩ := hrel
      clear S0
      by_cases hlt : j < l.length
      · obtain ⟨X, o, rfl, x1, x2, x3⟩ := (HS.out.below HB.out).at hlt
        have hX : X < wr.heap.size := block_lt_of_cell x1
        have SU := lvK_succ hlt
        obtain ⟨c, hcc⟩ : ∃ c, c = l[j] := ⟨_, rfl⟩
        rw [← hcc] at x1 x2 x3 SU
        clear hcc
        by_cases h0 : c.n = 0
        · rw [if_pos h0] at SU
          obtain ⟨kd, nn, tx⟩ := c
          obtain rfl : nn = 0 := h0
          have HSU : Hid (lvK l (j + 1) = lvK l j ++ [⟨kd, 0, tx⟩]) := SU
          have LN : Hid ((us.length + 1) * 24 ≤ 140737488355328) := by
            show (us.length + 1) * 24 ≤ 140737488355328
            have := HI.out.ln; have := lvK_le l j; omega
          have B5 : Hid (Below wr.heap.size wr (wr.alloc (.cells #[.int .i64 kd, .int .i64 0, .string tx] 55))) := (Below.refl _ _).alloc (Nat.le_refl _) _
          have OW : Hid (OwnS (wr.alloc (.cells #[.int .i64 kd, .int .i64 0, .string tx] 55)) w.heap.size va us ∧ w.heap.size ≤ ((wr.alloc (.cells #[.int .i64 kd, .int .i64 0, .string tx] 55))).heap.size) := ⟨HI.out.s.below B5.out, Nat.le_trans HB.out.size B5.out.size⟩
          have O5 : Hid (OwnC (wr.alloc (.cells #[.int .i64 kd, .int .i64 0, .string tx] 55)) wr.heap.size (.slice (some ⟨wr.heap.size, 0, none⟩) 1 1) [⟨kd, 0, tx⟩]) := ownC_one wr kd 0 tx
          have NX : Hid (∀ g1 c1 w6, OwnS w6 w.heap.size (.slice (some ⟨g1, 0, none⟩) (us.length + 1) c1) (us ++ [.slice (some ⟨wr.heap.size, 0, none⟩) 1 1]) → Below w.heap.size (wr.alloc (.cells #[.int .i64 kd, .int .i64 0, .string tx] 55)) w6 → (∀ k, k < ((wr.alloc (.cells #[.int .i64 kd, .int .i64 0, .string tx] 55))).heap.size → some k ≠ va.ownBlock → w6.heap[k]? = ((wr.alloc (.cells #[.int .i64 kd, .int .i64 0, .string tx] 55))).heap[k]?) → (va.ownBlock = some g1 ∨ ((wr.alloc (.cells #[.int .i64 kd, .int .i64 0, .string tx] 55))).heap.size ≤ g1) → LV w.heap.size w6 (.slice (some ⟨g1, 0, none⟩) (us.length + 1) c1) (us ++ [.slice (some ⟨wr.heap.size, 0, none⟩) 1 1]) (lvK l (j + 1)) ∧ Below w.heap.size w w6) := fun g1 c1 w6 o6 b6 k6 g6 => ⟨by rw [HSU.out]; exact HI.out.next HB.out.size B5.out O5.out rfl o6 k6 g6, HB.out.trans ((B5.out.mono HB.out.size).trans b6)⟩
          clear SU HI
          go_wp2_with (at_builtin; refine append_sv rfl (.tmp 25) (.tmp 31) 30 rfl w.heap.size Tryd.underlying30 info_fl _ _ _ va us (some ⟨wr.heap.size, 0, none⟩) 1 1 _ rfl OW.out.1 (wr.heap.size + 1) (by simp) rfl rfl LN.out OW.out.2 ?_; intro g1 c1 w6 ho6 hb6 hk6 hg6)
          go_roundw
          case rel => exact ⟨j + 1, _, _, _, by omega, by go_num, rfl, rfl, (NX.out _ _ _ ho6 hb6 hk6 hg6).1, (NX.out _ _ _ ho6 hb6 hk6 hg6).2⟩
          case measure => simp [intOf]; omega
        · rw [if_neg h0, List.append_nil] at SU
          have NX : Hid (∀ w5, Below wr.heap.size wr w5 → LV w.heap.size w5 va us (lvK l (j + 1)) ∧ Below w.heap.size w w5) := fun w5 b => ⟨SU ▸ HI.out.below b, HB.out.trans (b.mono HB.out.size)⟩
          have AL : Hid (∀ ob, Below wr.heap.size wr (wr.alloc ob)) := fun ob => (Below.refl _ _).alloc (Nat.le_refl _) ob
          have h0b : (c.n == 0) = false := by simpa using h0
          clear SU HI
          go_wp2
          go_roundw
          case rel => exact ⟨j + 1, _, _, _, by omega, by go_num, rfl, rfl, (NX.out _ (Below.refl _ _)).1, (NX.out _ (Below.refl _ _)).2⟩
          case measure => simp [intOf]; omega
      · have hje : j = l.length := by omega
        subst hje
        have FN : Hid (LV w.heap.size wr va us (lvK l l.length)) := HI.out
        have BL : Hid (Below w.heap.size w wr) := HB.out
        obtain ⟨pv, cv, hvv, _⟩ := HI.out.s.form
        rw [HI.out.ln] at hvv
        subst hvv
        clear HI HB
        go_wp2
        go_ret2
        exact ⟨pv, cv, us, rfl, FN.out, BL.out⟩
  · have e2 : leavL l = [] := by unfold leavL; rw [if_neg hc]
    have AN : Hid (∀ w', Below w.heap.size w w' → AnsL w w' (.returned (.tuple #[.slice none 0 0, .int .i64 (chk l)])) (leavL l) (chk l)) := fun w' b => ansL_nil e2 b
    clear h ht
    generalize chk l = c at *
    have h1 : (c == 0) = false := by simpa using hc
    have h2 : (c != 0) = true := by simpa using hc
    go_enter Tryd.func14, Tryd.ntmps14
    go_wp2_with (go_at_call 37; refine CK.mono ?_; rintro e w1 ⟨rfl, hb1⟩; have B1 : Hid (Below w.heap.size w w1) := hb1; clear hb1)
    go_ret2
    exact AN.out _ B1.out
end Go.Proofs.YtaleagkhblokgaaDoor
