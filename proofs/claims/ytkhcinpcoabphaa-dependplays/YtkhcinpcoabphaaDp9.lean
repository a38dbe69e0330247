/- Depend: the law DependPlays. -/
import Derived.Test.YtkhcinpcoabphaaDs7
namespace Go.Proofs.Ytkhcinpcoabphaa
open Go.RowKit

/-- A row whose members begin with a number lies in no box of two slices. -/
theorem GP.off {α : Type} {K : RK α} (hK : ∀ x, ∃ i, (K.f x)[0]? = some (.int .i64 i)) {w : World} {P : Nat → Prop} {v : Value} {l : List α} (h : GP K w P v l) {q : Nat} {p1 p2 : Option Addr} {n1 c1 n2 c2 : Nat} {t : TypeId} (hq : w.heap[q]? = some (.cells #[.slice p1 n1 c1, .slice p2 n2 c2] t)) : GP K w (fun x => P x ∧ x ≠ q) v l := by
  refine ⟨h.gs, fun hl x hx => ⟨h.pr hl x hx, fun e => ?_⟩⟩
  subst e
  obtain ⟨p, c, rfl⟩ := h.gs.form
  obtain ⟨X, o, e1, _, h2⟩ := GS.at h.gs (k := 0) hl
  subst e1
  have hx : X = x := by injection hx
  subst hx
  obtain ⟨i, hi⟩ := hK l[0]
  have := h2 0 _ hi
  rw [Nat.zero_mul, Nat.add_zero, cell_of_row _ _ _ _ _ _ hq] at this
  match o, this with
  | 0, h => simp at h
  | 1, h => simp at h
  | k + 2, h => simp at h
theorem RV.off {w : World} {P : Nat → Prop} {vr vw : Value} {X : Wb} (h : RV w P vr vw X) {q : Nat} {p1 p2 : Option Addr} {n1 c1 n2 c2 : Nat} {t : TypeId} (hq : w.heap[q]? = some (.cells #[.slice p1 n1 c1, .slice p2 n2 c2] t)) : RV w (fun x => P x ∧ x ≠ q) vr vw X := by
  obtain ⟨⟨l, h1⟩, m, h2⟩ := h
  exact ⟨⟨l, h1.gs.off (fun x => ⟨_, rfl⟩) hq, h1.nd, fun r hr => ⟨(h1.st r hr).1, (h1.st r hr).2.off (fun x => ⟨_, rfl⟩) hq⟩, h1.al⟩, m, h2.gs.off (fun x => ⟨_, rfl⟩) hq, h2.mem, h2.up⟩
/-- The law's two webs. -/
structure DP (w1 : World) (q b : Nat) (X : Wb) (m : Nat) (p1 : Option Addr) (n1 c1 : Nat) (p2 : Option Addr) (n2 c2 : Nat) (W : World) : Prop where
  p : PW w1 W b X m
  v : RV W (fun x => x ≠ b) (.slice p1 n1 c1) (.slice p2 n2 c2) X
  x : W.heap[q]? = some (.cells #[.slice p1 n1 c1, .slice p2 n2 c2] 29)
  ne : b ≠ q
  g : w1.heap.size ≤ q
theorem DP.below {w1 : World} {q b : Nat} {X : Wb} {m : Nat} {p1 : Option Addr} {n1 c1 : Nat} {p2 : Option Addr} {n2 c2 : Nat} {W W' : World} (h : DP w1 q b X m p1 n1 c1 p2 n2 c2 W) (k : Below W.heap.size W W') : DP w1 q b X m p1 n1 c1 p2 n2 c2 W' := ⟨h.p.below k, h.v.below k, (k.block _ (lt_of_heap h.x)).trans h.x, h.ne, h.g⟩
theorem DP.at {w1 : World} {q b : Nat} {X : Wb} {m : Nat} {p1 : Option Addr} {n1 c1 : Nat} {p2 : Option Addr} {n2 c2 : Nat} {W : World} (h : DP w1 q b X m p1 n1 c1 p2 n2 c2 W) : W.cell? ⟨q, 0, none⟩ = some (.slice p1 n1 c1) ∧ W.cell? ⟨q, 1, none⟩ = some (.slice p2 n2 c2) ∧ ∀ o, W.frozen? ⟨q, o, none⟩ = false := ⟨cell_of_row _ _ _ _ _ _ h.x, cell_of_row _ _ _ _ _ _ h.x, fun o => by simp [World.frozen?, h.x]⟩
theorem DP.bl {w1 : World} {q b : Nat} {X : Wb} {m : Nat} {p1 : Option Addr} {n1 c1 : Nat} {p2 : Option Addr} {n2 c2 : Nat} {W : World} (h : DP w1 q b X m p1 n1 c1 p2 n2 c2 W) : Below w1.heap.size w1 W := h.p.bl
/-- Behind a step. -/
theorem DP.step {w1 : World} {q b : Nat} {X : Wb} {m : Nat} {p1 : Option Addr} {n1 c1 : Nat} {p2 : Option Addr} {n2 c2 : Nat} {W W' : World} (h : DP w1 q b X m p1 n1 c1 p2 n2 c2 W) {b' : Nat} {X' : Wb} {r1 : Option Addr} {k1 d1 : Nat} {r2 : Option Addr} {k2 d2 : Nat} (hp : PW w1 W' b' X' (m + 1)) (hv : RV W' (fun x => x ≠ b') (.slice r1 k1 d1) (.slice r2 k2 d2) X') (hb : But (fun x => x = b) W W') :
    DP w1 q b' X' (m + 1) r1 k1 d1 r2 k2 d2 ((W'.setCell ⟨q, 0, none⟩ (.slice r1 k1 d1)).setCell ⟨q, 1, none⟩ (.slice r2 k2 d2)) ∧ W'.cell? ⟨q, 0, none⟩ = some (.slice p1 n1 c1) ∧ W'.cell? ⟨q, 1, none⟩ = some (.slice p2 n2 c2) ∧ ∀ o, W'.frozen? ⟨q, o, none⟩ = false := by
  have hq : W'.heap[q]? = some (.cells #[.slice p1 n1 c1, .slice p2 n2 c2] 29) := (hb.block _ (lt_of_heap h.x) (fun e => h.ne e.symm)).trans h.x
  have hne : b' ≠ q := by
    intro e
    have hx : W'.heap[b']? = some (.cells (webL X').toArray 51) := hp.wx
    rw [e, hq] at hx
    injection hx with hx
    injection hx with _ hx _
    revert hx
    decide
  have hg := h.g
  have hv2 := hv.off hq
  refine ⟨⟨(hp.set hg hne _ _).set hg hne _ _, (((hv2.set (fun x hx => hx.2) 0 _).set (fun x hx => hx.2) 1 _)).imp fun x _ hx => hx.1, set2_box hq _ _, hne, hg⟩, cell_of_row _ _ _ _ _ _ hq, cell_of_row _ _ _ _ _ _ hq, fun o => by simp [World.frozen?, hq]⟩
theorem RV.zero (w : World) (P : Nat → Prop) : RV w P (.slice none 0 0) (.slice none 0 0) webO := by
  refine ⟨⟨[], ⟨Or.inl ⟨Or.inl rfl, rfl⟩, fun h => by simp at h⟩, by simp, by simp, fun t ht => absurd (webO_stk t) ht⟩, [], ⟨Or.inl ⟨Or.inl rfl, rfl⟩, fun h => by simp at h⟩, fun t c => ?_, List.Pairwise.nil⟩
  rw [webO_w]
  simp [t0]
theorem DP.start {w1 w2 : World} (h : PW w1 w2 w1.heap.size webO 0) : DP w1 w2.heap.size w1.heap.size webO 0 none 0 0 none 0 0 (w2.alloc (.cells #[.slice none 0 0, .slice none 0 0] 29)) :=
  ⟨h.below (bal _ _), RV.zero _ _, heap_alloc_new _ _, by have := h.lt; omega, h.bl.size⟩
/-- What tells asks. -/
theorem DP.tells {w1 : World} {q b : Nat} {X : Wb} {m : Nat} {p1 : Option Addr} {n1 c1 : Nat} {p2 : Option Addr} {n2 c2 : Nat} {W : World} (h : DP w1 q b X m p1 n1 c1 p2 n2 c2 W) (t c : Int) : Calls Try.prog 7 #[.pointer (some ⟨b, 0, none⟩), .agg #[.slice p1 n1 c1, .slice p2 n2 c2], .int .i64 t, .int .i64 c] W fun e w' => e = .returned (.bool true) ∧ Below W.heap.size W w' := tells_any h.p.wx h.p.wi h.v t c
/-- A run. -/
theorem DP.run {w1 : World} {q b : Nat} {X : Wb} {m : Nat} {p1 : Option Addr} {n1 c1 : Nat} {p2 : Option Addr} {n2 c2 : Nat} {W : World} (h : DP w1 q b X m p1 n1 c1 p2 n2 c2 W) {k : Nat} (hk : k < n1) : ∃ Y o t p n c Z o2 s, p1 = some ⟨Y, o, none⟩ ∧ p = some ⟨Z, o2, none⟩ ∧ 0 < n ∧ W.cell? ⟨Y, o + k * 2, none⟩ = some (.int .i64 t) ∧ W.cell? ⟨Y, o + k * 2 + 1, none⟩ = some (.slice p n c) ∧ W.cell? ⟨Z, o2, none⟩ = some (.int .i64 s) ∧ Y < W.heap.size ∧ Z < W.heap.size := by
  obtain ⟨⟨l, hr⟩, _⟩ := h.v
  obtain ⟨pp, cc, e⟩ := hr.gs.gs.form
  injection e with _ e _
  subst e
  obtain ⟨Y, o, e1, hY, h2⟩ := GS.at hr.gs.gs hk
  have hs := hr.st l[k] (List.getElem_mem hk)
  obtain ⟨p3, c3, e3⟩ := hs.2.gs.form
  injection e3 with e4 e5 e6
  have h0 : 0 < (nI (stk X l[k].task)).length := by
    rw [nI_len]
    exact List.length_pos_iff.2 hs.1
  obtain ⟨Z, o2, e7, hZ, h8⟩ := GS.at hs.2.gs h0
  have h9 := h8 0 _ rfl
  rw [Nat.zero_mul, Nat.add_zero] at h9
  exact ⟨Y, o, _, _, _, _, Z, o2, _, e1, e7, by rw [e5]; exact h0, h2 0 _ rfl, h2 1 _ rfl, h9, hY, hZ⟩
theorem DP.wait {w1 : World} {q b : Nat} {X : Wb} {m : Nat} {p1 : Option Addr} {n1 c1 : Nat} {p2 : Option Addr} {n2 c2 : Nat} {W : World} (h : DP w1 q b X m p1 n1 c1 p2 n2 c2 W) {k : Nat} (hk : k < n2) : ∃ Y o t c, p2 = some ⟨Y, o, none⟩ ∧ W.cell? ⟨Y, o + k * 2, none⟩ = some (.int .i64 t) ∧ W.cell? ⟨Y, o + k * 2 + 1, none⟩ = some (.int .i64 c) ∧ Y < W.heap.size := by
  obtain ⟨_, l, hr⟩ := h.v
  obtain ⟨pp, cc, e⟩ := hr.gs.gs.form
  injection e with _ e _
  subst e
  obtain ⟨Y, o, e1, hY, h2⟩ := GS.at hr.gs.gs hk
  exact ⟨Y, o, _, _, e1, h2 0 _ rfl, h2 1 _ rfl, hY⟩
set_option maxRecDepth 100000 in
set_option maxHeartbeats 64000000 in
theorem dependPlays_any (v : Value) (L : List Ca) (w : World) (hl : GS KCa w v L) (hn : L.length ≤ 140737488355328) : Calls Try.prog 3 #[v] w fun e w' => e = .returned (.bool true) ∧ Below w.heap.size w w' := by
  obtain ⟨p, c, hv⟩ := hl.form
  subst hv
  have WK := hid (works_any w)
  have A1 := hid (fun w' (hb : Below w.heap.size w w') j (hj : j < L.length) => GS.atCa (hl.below hb) hj)
  obtain ⟨n, hnn⟩ : ∃ n, n = L.length := ⟨_, rfl⟩
  rw [← hnn] at hn ⊢
  have M1 : Hid (L.length = n) := hnn.symm
  clear hl hnn
  go_enter Try.func3, Try.ntmps3
  go_wp2_with (first | (go_at_call 4; refine WK.out.mono ?_; rintro e w1 ⟨rfl, hb1⟩; have B1 := hid hb1; clear hb1) | (go_at_call 5; refine (new_pw _).mono ?_; rintro e w2 ⟨rfl, h2⟩; have D2 := hid (DP.start h2); clear h2))
  generalize w2.alloc (.cells #[.slice none 0 0, .slice none 0 0] 29) = W2 at *
  obtain ⟨q, hq⟩ : ∃ q, q = w2.heap.size := ⟨_, rfl⟩
  rw [← hq] at D2 ⊢
  clear hq WK
  go_loopw [3, 16] (fun v3 v16 wr => ∃ (j b : Nat) (X : Wb) (p1 : Option Addr) (n1 c1 : Nat) (p2 : Option Addr) (n2 c2 : Nat) (wk : World), j ≤ n ∧ v3 = .pointer (some ⟨b, 0, none⟩) ∧ v16 = .int .i64 j ∧ wk = wr ∧ Hid (DP w1 q b X j p1 n1 c1 p2 n2 c2 wk)) (fun _ v16 _ => n - (intOf v16).toNat)
  case atStart => exact ⟨0, _, _, _, _, _, _, _, _, _, Nat.zero_le _, rfl, rfl, rfl, D2⟩
  case round =>
    obtain ⟨j, b, X, p1, n1, c1, p2, n2, c2, wr, hj, rfl, rfl, rfl, HD⟩ := hrel
    clear D2
    by_cases hlt : j < n
    · have j1 : j < L.length := by have := M1.out; omega
      have hji : (j : Int) < (n : Nat) := by omega
      obtain ⟨Y, o, e1, hY, y0, y1, y2⟩ := A1.out wr (bl3 B1.out HD.out.bl) j j1
      subst e1
      generalize hx : L[j] = x at *
      clear hx
      generalize hV : wr.alloc (.cells #[.int .i64 x.k, .int .i64 x.t, .int .i64 x.c] 31) = V
      have VB : Hid (Below wr.heap.size wr V) := by rw [← hV]; exact bal _ _
      have VC : Hid (∀ W', Below V.heap.size V W' → W'.cell? ⟨wr.heap.size, 0, none⟩ = some (.int .i64 x.k) ∧ W'.cell? ⟨wr.heap.size, 1, none⟩ = some (.int .i64 x.t) ∧ W'.cell? ⟨wr.heap.size, 2, none⟩ = some (.int .i64 x.c)) := fun W' hb => by
        have e : W'.heap[wr.heap.size]? = some (.cells #[.int .i64 x.k, .int .i64 x.t, .int .i64 x.c] 31) := (hb.block _ (by rw [← hV, alloc_size]; omega)).trans (by rw [← hV]; exact heap_alloc_new _ _)
        exact ⟨cell_of_row _ _ _ _ _ _ e, cell_of_row _ _ _ _ _ _ e, cell_of_row _ _ _ _ _ _ e⟩
      have VH : Hid (V.heap[wr.heap.size]? = some (.cells #[.int .i64 x.k, .int .i64 x.t, .int .i64 x.c] 31)) := by show _ = _; rw [← hV]; exact heap_alloc_new _ _
      have DV := hid (HD.out.below VB.out)
      have hqb : q < wr.heap.size := lt_of_heap HD.out.x
      have hbb : b < wr.heap.size := HD.out.p.lt
      go_upto_region 7 with fail
      try rw [hV]
      clear hV y0 y1 y2
      have ST := hid (step_any DV.out.p (by omega) DV.out.v x)
      obtain ⟨a0, a1, a2⟩ := DV.out.at
      obtain ⟨a3, a4, a5⟩ := VC.out V (Below.refl _ _)
      obtain ⟨t7, ht7⟩ : ∃ t7, t7 = wr.heap.size := ⟨_, rfl⟩
      rw [← ht7] at a3 a4 a5 VC VH hqb hbb ⊢
      clear ht7
      go_upto_region 8 with (go_at_call 6; refine ST.out.mono ?_; rintro e w4 ⟨b', X', r1, k1, d1, r2, k2, d2, rfl, hp4, hv4, hb4⟩; have D4 := hid (DV.out.step hp4 hv4 hb4); obtain ⟨_, e0, e1, e2⟩ := D4.out; have H7 : Hid (((w4.setCell ⟨q, 0, none⟩ (.slice r1 k1 d1)).setCell ⟨q, 1, none⟩ (.slice r2 k2 d2)).heap[t7]? = some (.cells #[.int .i64 x.k, .int .i64 x.t, .int .i64 x.c] 31)) := (by show _ = _; rw [set_far (by omega), set_far (by omega)]; exact (hb4.block t7 (lt_of_heap VH.out) (by show ¬ t7 = b; omega)).trans VH.out); clear hp4 hv4 hb4)
      generalize hW5 : (w4.setCell ⟨q, 0, none⟩ (.slice r1 k1 d1)).setCell ⟨q, 1, none⟩ (.slice r2 k2 d2) = W5 at *
      have D5 := hid D4.out.1
      obtain ⟨g0, g1, g2⟩ := D5.out.at
      obtain ⟨h0, h1, h2⟩ : W5.cell? ⟨t7, 0, none⟩ = some (.int .i64 x.k) ∧ W5.cell? ⟨t7, 1, none⟩ = some (.int .i64 x.t) ∧ W5.cell? ⟨t7, 2, none⟩ = some (.int .i64 x.c) := ⟨cell_of_row _ _ _ _ _ _ H7.out, cell_of_row _ _ _ _ _ _ H7.out, cell_of_row _ _ _ _ _ _ H7.out⟩
      have T5 := hid (D5.out.tells x.t x.c)
      clear hW5 a0 a1 a2 a3 a4 a5 e0 e1 e2 D4 DV HD ST VC VB VH H7
      go_upto_region 10 with (go_at_call 7; refine T5.out.mono ?_; rintro e w6 ⟨rfl, hb6⟩; have D6 := hid (D5.out.below hb6); clear hb6)
      clear g0 g1 g2 h0 h1 h2 T5 D5
      have hc : (¬ j < 60 ∧ ¬ j + 1 = n) ∨ j < 60 ∨ (¬ j < 60 ∧ j + 1 = n) := by omega
      obtain ⟨nm, hnm⟩ : ∃ nm : Nat, nm + 1 = n := ⟨n - 1, by omega⟩
      have hm1 : (n : Int) - 1 = (nm : Nat) := by omega
      have HJ : Hid (j + 1 ≤ n) := hlt
      have hnb : nm ≤ 140737488355328 := by omega
      rcases hc with ⟨hc1, hc2⟩ | hc1 | ⟨hc1, hc2⟩
      · have b1 : ¬ (j : Int) < 60 := by omega
        have b2 : ((j : Int) == (nm : Nat)) = false := by simp; omega
        have b3 : ¬ (j : Int) = (nm : Nat) := by omega
        clear hc1 hc2 hnm
        go_wp2
        go_roundw
        case rel => exact ⟨j + 1, _, _, _, _, _, _, _, _, _, HJ.out, rfl, by go_num, rfl, D6⟩
        case measure => simp [intOf]; omega
      · have b1 : (j : Int) < 60 := by omega
        clear hnm hm1 hnb
        go_wp2
        go_loopw [8] (fun v8 wl => ∃ (k : Nat) (wk : World), k ≤ 8 ∧ v8 = .int .i64 k ∧ wk = wl ∧ Hid (DP w1 q b' X' (j + 1) r1 k1 d1 r2 k2 d2 wk)) (fun v8 _ => 8 - (intOf v8).toNat)
        case atStart => exact ⟨0, _, by omega, rfl, rfl, D6⟩
        case round =>
          obtain ⟨k, wl, hk8, rfl, rfl, DL⟩ := hrel
          clear D6
          obtain ⟨g0, g1, _⟩ := DL.out.at
          have hcase : (k < k1 ∧ k < 8) ∨ ¬ k < k1 ∨ (k < k1 ∧ k = 8) := by omega
          rcases hcase with ⟨ha, hb⟩ | ha | ⟨ha, hb⟩
          · obtain ⟨Y, o, t, p, m, c, Z, o2, s, e1, e2, hm0, y0, y1, y2, hY, hZ⟩ := DL.out.run ha
            subst e1 e2
            have CB : Hid (∀ W', Below wl.heap.size wl W' → W'.cell? ⟨q, 0, none⟩ = some (.slice (some ⟨Y, o, none⟩) k1 d1) ∧ W'.cell? ⟨q, 1, none⟩ = some (.slice r2 k2 d2) ∧ W'.cell? ⟨Y, o + k * 2, none⟩ = some (.int .i64 t) ∧ W'.cell? ⟨Y, o + k * 2 + 1, none⟩ = some (.slice (some ⟨Z, o2, none⟩) m c) ∧ W'.cell? ⟨Z, o2, none⟩ = some (.int .i64 s)) := fun W' hb => ⟨(DL.out.below hb).at.1, (DL.out.below hb).at.2.1, (hb.cell (p := ⟨Y, o + k * 2, none⟩) hY).trans y0, (hb.cell (p := ⟨Y, o + k * 2 + 1, none⟩) hY).trans y1, (hb.cell (p := ⟨Z, o2, none⟩) hZ).trans y2⟩
            have BD : Hid (Below wl.heap.size wl wl.drew) := drew_below wl 1
            have DD := hid ((DL.out.below BD.out).tells t s)
            have a1 : (k : Int) < (k1 : Nat) := by omega
            have a2 : (k : Int) < 8 := by omega
            have a3 : (0 : Int) ≤ (k : Nat) := by omega
            have a4 : (0 : Int) < (m : Nat) := by omega
            clear hY hZ ha hb
            go_wp2
            go_region_held3 (fun w' => w'.cell? ⟨q, 0, none⟩ = some (.slice (some ⟨Y, o, none⟩) k1 d1) ∧ w'.cell? ⟨q, 1, none⟩ = some (.slice r2 k2 d2) ∧ w'.cell? ⟨Y, o + k * 2, none⟩ = some (.int .i64 t) ∧ w'.cell? ⟨Y, o + k * 2 + 1, none⟩ = some (.slice (some ⟨Z, o2, none⟩) m c) ∧ w'.cell? ⟨Z, o2, none⟩ = some (.int .i64 s)) (go_keep) (first | (go_at_call 7; refine DD.out.mono ?_; rintro e w8 ⟨rfl, hb8⟩; have D8 := hid (DL.out.below (bl3 BD.out hb8)); obtain ⟨z0, z1, z2, z3, z4⟩ := CB.out w8 (bl3 BD.out hb8); clear hb8))
            all_goals
              go_wp2
              go_roundw
              case rel => exact ⟨k + 1, _, by omega, by go_num, rfl, D8⟩
              case measure => simp [intOf]; omega
          · have a1 : ¬ (k : Int) < (k1 : Nat) := by omega
            clear ha
            go_wp2
            go_loopw [9] (fun v9 wl => ∃ (k : Nat) (wk : World), k ≤ 8 ∧ v9 = .int .i64 k ∧ wk = wl ∧ Hid (DP w1 q b' X' (j + 1) r1 k1 d1 r2 k2 d2 wk)) (fun v9 _ => 8 - (intOf v9).toNat)
            case atStart => exact ⟨0, _, by omega, rfl, rfl, DL⟩
            case round =>
              obtain ⟨k, wl, hk8, rfl, rfl, DL⟩ := hrel
              clear g0 g1
              obtain ⟨g0, g1, _⟩ := DL.out.at
              have hcase : (k < k2 ∧ k < 8) ∨ ¬ k < k2 ∨ (k < k2 ∧ k = 8) := by omega
              rcases hcase with ⟨ha, hb⟩ | ha | ⟨ha, hb⟩
              · obtain ⟨Y, o, t, s, e1, y0, y1, hY⟩ := DL.out.wait ha
                subst e1
                have CB : Hid (∀ W', Below wl.heap.size wl W' → W'.cell? ⟨q, 0, none⟩ = some (.slice r1 k1 d1) ∧ W'.cell? ⟨q, 1, none⟩ = some (.slice (some ⟨Y, o, none⟩) k2 d2) ∧ W'.cell? ⟨Y, o + k * 2, none⟩ = some (.int .i64 t) ∧ W'.cell? ⟨Y, o + k * 2 + 1, none⟩ = some (.int .i64 s)) := fun W' hb => ⟨(DL.out.below hb).at.1, (DL.out.below hb).at.2.1, (hb.cell (p := ⟨Y, o + k * 2, none⟩) hY).trans y0, (hb.cell (p := ⟨Y, o + k * 2 + 1, none⟩) hY).trans y1⟩
                have BD : Hid (Below wl.heap.size wl wl.drew) := drew_below wl 1
                have DD := hid ((DL.out.below BD.out).tells t s)
                have a1 : (k : Int) < (k2 : Nat) := by omega
                have a2 : (k : Int) < 8 := by omega
                have a3 : (0 : Int) ≤ (k : Nat) := by omega
                clear hY ha hb
                go_wp2
                go_region_held3 (fun w' => w'.cell? ⟨q, 0, none⟩ = some (.slice r1 k1 d1) ∧ w'.cell? ⟨q, 1, none⟩ = some (.slice (some ⟨Y, o, none⟩) k2 d2) ∧ w'.cell? ⟨Y, o + k * 2, none⟩ = some (.int .i64 t) ∧ w'.cell? ⟨Y, o + k * 2 + 1, none⟩ = some (.int .i64 s)) (go_keep) (first | (go_at_call 7; refine DD.out.mono ?_; rintro e w8 ⟨rfl, hb8⟩; have D8 := hid (DL.out.below (bl3 BD.out hb8)); obtain ⟨z0, z1, z2, z3⟩ := CB.out w8 (bl3 BD.out hb8); clear hb8))
                all_goals
                  go_wp2
                  go_roundw
                  case rel => exact ⟨k + 1, _, by omega, by go_num, rfl, D8⟩
                  case measure => simp [intOf]; omega
              · have a1 : ¬ (k : Int) < (k2 : Nat) := by omega
                clear ha
                go_wp2
                go_roundw
                case rel => exact ⟨j + 1, _, _, _, _, _, _, _, _, _, HJ.out, rfl, by go_num, rfl, DL⟩
                case measure => simp [intOf]; omega
              · have a1 : (k : Int) < (k2 : Nat) := by omega
                subst hb
                clear ha
                go_wp2
                go_roundw
                case rel => exact ⟨j + 1, _, _, _, _, _, _, _, _, _, HJ.out, rfl, by go_num, rfl, DL⟩
                case measure => simp [intOf]; omega
          · have a1 : (k : Int) < (k1 : Nat) := by omega
            subst hb
            clear ha
            go_wp2
            go_loopw [9] (fun v9 wl => ∃ (k : Nat) (wk : World), k ≤ 8 ∧ v9 = .int .i64 k ∧ wk = wl ∧ Hid (DP w1 q b' X' (j + 1) r1 k1 d1 r2 k2 d2 wk)) (fun v9 _ => 8 - (intOf v9).toNat)
            case atStart => exact ⟨0, _, by omega, rfl, rfl, DL⟩
            case round =>
              obtain ⟨k, wl, hk8, rfl, rfl, DL⟩ := hrel
              clear g0 g1
              obtain ⟨g0, g1, _⟩ := DL.out.at
              have hcase : (k < k2 ∧ k < 8) ∨ ¬ k < k2 ∨ (k < k2 ∧ k = 8) := by omega
              rcases hcase with ⟨ha, hb⟩ | ha | ⟨ha, hb⟩
              · obtain ⟨Y, o, t, s, e1, y0, y1, hY⟩ := DL.out.wait ha
                subst e1
                have CB : Hid (∀ W', Below wl.heap.size wl W' → W'.cell? ⟨q, 0, none⟩ = some (.slice r1 k1 d1) ∧ W'.cell? ⟨q, 1, none⟩ = some (.slice (some ⟨Y, o, none⟩) k2 d2) ∧ W'.cell? ⟨Y, o + k * 2, none⟩ = some (.int .i64 t) ∧ W'.cell? ⟨Y, o + k * 2 + 1, none⟩ = some (.int .i64 s)) := fun W' hb => ⟨(DL.out.below hb).at.1, (DL.out.below hb).at.2.1, (hb.cell (p := ⟨Y, o + k * 2, none⟩) hY).trans y0, (hb.cell (p := ⟨Y, o + k * 2 + 1, none⟩) hY).trans y1⟩
                have BD : Hid (Below wl.heap.size wl wl.drew) := drew_below wl 1
                have DD := hid ((DL.out.below BD.out).tells t s)
                have a1 : (k : Int) < (k2 : Nat) := by omega
                have a2 : (k : Int) < 8 := by omega
                have a3 : (0 : Int) ≤ (k : Nat) := by omega
                clear hY ha hb
                go_wp2
                go_region_held3 (fun w' => w'.cell? ⟨q, 0, none⟩ = some (.slice r1 k1 d1) ∧ w'.cell? ⟨q, 1, none⟩ = some (.slice (some ⟨Y, o, none⟩) k2 d2) ∧ w'.cell? ⟨Y, o + k * 2, none⟩ = some (.int .i64 t) ∧ w'.cell? ⟨Y, o + k * 2 + 1, none⟩ = some (.int .i64 s)) (go_keep) (first | (go_at_call 7; refine DD.out.mono ?_; rintro e w8 ⟨rfl, hb8⟩; have D8 := hid (DL.out.below (bl3 BD.out hb8)); obtain ⟨z0, z1, z2, z3⟩ := CB.out w8 (bl3 BD.out hb8); clear hb8))
                all_goals
                  go_wp2
                  go_roundw
                  case rel => exact ⟨k + 1, _, by omega, by go_num, rfl, D8⟩
                  case measure => simp [intOf]; omega
              · have a1 : ¬ (k : Int) < (k2 : Nat) := by omega
                clear ha
                go_wp2
                go_roundw
                case rel => exact ⟨j + 1, _, _, _, _, _, _, _, _, _, HJ.out, rfl, by go_num, rfl, DL⟩
                case measure => simp [intOf]; omega
              · have a1 : (k : Int) < (k2 : Nat) := by omega
                subst hb
                clear ha
                go_wp2
                go_roundw
                case rel => exact ⟨j + 1, _, _, _, _, _, _, _, _, _, HJ.out, rfl, by go_num, rfl, DL⟩
                case measure => simp [intOf]; omega
      · have b1 : ¬ (j : Int) < 60 := by omega
        have b3 : (j : Int) = (nm : Nat) := by omega
        have b2 : ((j : Int) == (nm : Nat)) = true := by simp; omega
        clear hc1 hc2 hnm b3
        go_wp2
        go_loopw [8] (fun v8 wl => ∃ (k : Nat) (wk : World), k ≤ 8 ∧ v8 = .int .i64 k ∧ wk = wl ∧ Hid (DP w1 q b' X' (j + 1) r1 k1 d1 r2 k2 d2 wk)) (fun v8 _ => 8 - (intOf v8).toNat)
        case atStart => exact ⟨0, _, by omega, rfl, rfl, D6⟩
        case round =>
          obtain ⟨k, wl, hk8, rfl, rfl, DL⟩ := hrel
          clear D6
          obtain ⟨g0, g1, _⟩ := DL.out.at
          have hcase : (k < k1 ∧ k < 8) ∨ ¬ k < k1 ∨ (k < k1 ∧ k = 8) := by omega
          rcases hcase with ⟨ha, hb⟩ | ha | ⟨ha, hb⟩
          · obtain ⟨Y, o, t, p, m, c, Z, o2, s, e1, e2, hm0, y0, y1, y2, hY, hZ⟩ := DL.out.run ha
            subst e1 e2
            have CB : Hid (∀ W', Below wl.heap.size wl W' → W'.cell? ⟨q, 0, none⟩ = some (.slice (some ⟨Y, o, none⟩) k1 d1) ∧ W'.cell? ⟨q, 1, none⟩ = some (.slice r2 k2 d2) ∧ W'.cell? ⟨Y, o + k * 2, none⟩ = some (.int .i64 t) ∧ W'.cell? ⟨Y, o + k * 2 + 1, none⟩ = some (.slice (some ⟨Z, o2, none⟩) m c) ∧ W'.cell? ⟨Z, o2, none⟩ = some (.int .i64 s)) := fun W' hb => ⟨(DL.out.below hb).at.1, (DL.out.below hb).at.2.1, (hb.cell (p := ⟨Y, o + k * 2, none⟩) hY).trans y0, (hb.cell (p := ⟨Y, o + k * 2 + 1, none⟩) hY).trans y1, (hb.cell (p := ⟨Z, o2, none⟩) hZ).trans y2⟩
            have BD : Hid (Below wl.heap.size wl wl.drew) := drew_below wl 1
            have DD := hid ((DL.out.below BD.out).tells t s)
            have a1 : (k : Int) < (k1 : Nat) := by omega
            have a2 : (k : Int) < 8 := by omega
            have a3 : (0 : Int) ≤ (k : Nat) := by omega
            have a4 : (0 : Int) < (m : Nat) := by omega
            clear hY hZ ha hb
            go_wp2
            go_region_held3 (fun w' => w'.cell? ⟨q, 0, none⟩ = some (.slice (some ⟨Y, o, none⟩) k1 d1) ∧ w'.cell? ⟨q, 1, none⟩ = some (.slice r2 k2 d2) ∧ w'.cell? ⟨Y, o + k * 2, none⟩ = some (.int .i64 t) ∧ w'.cell? ⟨Y, o + k * 2 + 1, none⟩ = some (.slice (some ⟨Z, o2, none⟩) m c) ∧ w'.cell? ⟨Z, o2, none⟩ = some (.int .i64 s)) (go_keep) (first | (go_at_call 7; refine DD.out.mono ?_; rintro e w8 ⟨rfl, hb8⟩; have D8 := hid (DL.out.below (bl3 BD.out hb8)); obtain ⟨z0, z1, z2, z3, z4⟩ := CB.out w8 (bl3 BD.out hb8); clear hb8))
            all_goals
              go_wp2
              go_roundw
              case rel => exact ⟨k + 1, _, by omega, by go_num, rfl, D8⟩
              case measure => simp [intOf]; omega
          · have a1 : ¬ (k : Int) < (k1 : Nat) := by omega
            clear ha
            go_wp2
            go_loopw [9] (fun v9 wl => ∃ (k : Nat) (wk : World), k ≤ 8 ∧ v9 = .int .i64 k ∧ wk = wl ∧ Hid (DP w1 q b' X' (j + 1) r1 k1 d1 r2 k2 d2 wk)) (fun v9 _ => 8 - (intOf v9).toNat)
            case atStart => exact ⟨0, _, by omega, rfl, rfl, DL⟩
            case round =>
              obtain ⟨k, wl, hk8, rfl, rfl, DL⟩ := hrel
              clear g0 g1
              obtain ⟨g0, g1, _⟩ := DL.out.at
              have hcase : (k < k2 ∧ k < 8) ∨ ¬ k < k2 ∨ (k < k2 ∧ k = 8) := by omega
              rcases hcase with ⟨ha, hb⟩ | ha | ⟨ha, hb⟩
              · obtain ⟨Y, o, t, s, e1, y0, y1, hY⟩ := DL.out.wait ha
                subst e1
                have CB : Hid (∀ W', Below wl.heap.size wl W' → W'.cell? ⟨q, 0, none⟩ = some (.slice r1 k1 d1) ∧ W'.cell? ⟨q, 1, none⟩ = some (.slice (some ⟨Y, o, none⟩) k2 d2) ∧ W'.cell? ⟨Y, o + k * 2, none⟩ = some (.int .i64 t) ∧ W'.cell? ⟨Y, o + k * 2 + 1, none⟩ = some (.int .i64 s)) := fun W' hb => ⟨(DL.out.below hb).at.1, (DL.out.below hb).at.2.1, (hb.cell (p := ⟨Y, o + k * 2, none⟩) hY).trans y0, (hb.cell (p := ⟨Y, o + k * 2 + 1, none⟩) hY).trans y1⟩
                have BD : Hid (Below wl.heap.size wl wl.drew) := drew_below wl 1
                have DD := hid ((DL.out.below BD.out).tells t s)
                have a1 : (k : Int) < (k2 : Nat) := by omega
                have a2 : (k : Int) < 8 := by omega
                have a3 : (0 : Int) ≤ (k : Nat) := by omega
                clear hY ha hb
                go_wp2
                go_region_held3 (fun w' => w'.cell? ⟨q, 0, none⟩ = some (.slice r1 k1 d1) ∧ w'.cell? ⟨q, 1, none⟩ = some (.slice (some ⟨Y, o, none⟩) k2 d2) ∧ w'.cell? ⟨Y, o + k * 2, none⟩ = some (.int .i64 t) ∧ w'.cell? ⟨Y, o + k * 2 + 1, none⟩ = some (.int .i64 s)) (go_keep) (first | (go_at_call 7; refine DD.out.mono ?_; rintro e w8 ⟨rfl, hb8⟩; have D8 := hid (DL.out.below (bl3 BD.out hb8)); obtain ⟨z0, z1, z2, z3⟩ := CB.out w8 (bl3 BD.out hb8); clear hb8))
                all_goals
                  go_wp2
                  go_roundw
                  case rel => exact ⟨k + 1, _, by omega, by go_num, rfl, D8⟩
                  case measure => simp [intOf]; omega
              · have a1 : ¬ (k : Int) < (k2 : Nat) := by omega
                clear ha
                go_wp2
                go_roundw
                case rel => exact ⟨j + 1, _, _, _, _, _, _, _, _, _, HJ.out, rfl, by go_num, rfl, DL⟩
                case measure => simp [intOf]; omega
              · have a1 : (k : Int) < (k2 : Nat) := by omega
                subst hb
                clear ha
                go_wp2
                go_roundw
                case rel => exact ⟨j + 1, _, _, _, _, _, _, _, _, _, HJ.out, rfl, by go_num, rfl, DL⟩
                case measure => simp [intOf]; omega
          · have a1 : (k : Int) < (k1 : Nat) := by omega
            subst hb
            clear ha
            go_wp2
            go_loopw [9] (fun v9 wl => ∃ (k : Nat) (wk : World), k ≤ 8 ∧ v9 = .int .i64 k ∧ wk = wl ∧ Hid (DP w1 q b' X' (j + 1) r1 k1 d1 r2 k2 d2 wk)) (fun v9 _ => 8 - (intOf v9).toNat)
            case atStart => exact ⟨0, _, by omega, rfl, rfl, DL⟩
            case round =>
              obtain ⟨k, wl, hk8, rfl, rfl, DL⟩ := hrel
              clear g0 g1
              obtain ⟨g0, g1, _⟩ := DL.out.at
              have hcase : (k < k2 ∧ k < 8) ∨ ¬ k < k2 ∨ (k < k2 ∧ k = 8) := by omega
              rcases hcase with ⟨ha, hb⟩ | ha | ⟨ha, hb⟩
              · obtain ⟨Y, o, t, s, e1, y0, y1, hY⟩ := DL.out.wait ha
                subst e1
                have CB : Hid (∀ W', Below wl.heap.size wl W' → W'.cell? ⟨q, 0, none⟩ = some (.slice r1 k1 d1) ∧ W'.cell? ⟨q, 1, none⟩ = some (.slice (some ⟨Y, o, none⟩) k2 d2) ∧ W'.cell? ⟨Y, o + k * 2, none⟩ = some (.int .i64 t) ∧ W'.cell? ⟨Y, o + k * 2 + 1, none⟩ = some (.int .i64 s)) := fun W' hb => ⟨(DL.out.below hb).at.1, (DL.out.below hb).at.2.1, (hb.cell (p := ⟨Y, o + k * 2, none⟩) hY).trans y0, (hb.cell (p := ⟨Y, o + k * 2 + 1, none⟩) hY).trans y1⟩
                have BD : Hid (Below wl.heap.size wl wl.drew) := drew_below wl 1
                have DD := hid ((DL.out.below BD.out).tells t s)
                have a1 : (k : Int) < (k2 : Nat) := by omega
                have a2 : (k : Int) < 8 := by omega
                have a3 : (0 : Int) ≤ (k : Nat) := by omega
                clear hY ha hb
                go_wp2
                go_region_held3 (fun w' => w'.cell? ⟨q, 0, none⟩ = some (.slice r1 k1 d1) ∧ w'.cell? ⟨q, 1, none⟩ = some (.slice (some ⟨Y, o, none⟩) k2 d2) ∧ w'.cell? ⟨Y, o + k * 2, none⟩ = some (.int .i64 t) ∧ w'.cell? ⟨Y, o + k * 2 + 1, none⟩ = some (.int .i64 s)) (go_keep) (first | (go_at_call 7; refine DD.out.mono ?_; rintro e w8 ⟨rfl, hb8⟩; have D8 := hid (DL.out.below (bl3 BD.out hb8)); obtain ⟨z0, z1, z2, z3⟩ := CB.out w8 (bl3 BD.out hb8); clear hb8))
                all_goals
                  go_wp2
                  go_roundw
                  case rel => exact ⟨k + 1, _, by omega, by go_num, rfl, D8⟩
                  case measure => simp [intOf]; omega
              · have a1 : ¬ (k : Int) < (k2 : Nat) := by omega
                clear ha
                go_wp2
                go_roundw
                case rel => exact ⟨j + 1, _, _, _, _, _, _, _, _, _, HJ.out, rfl, by go_num, rfl, DL⟩
                case measure => simp [intOf]; omega
              · have a1 : (k : Int) < (k2 : Nat) := by omega
                subst hb
                clear ha
                go_wp2
                go_roundw
                case rel => exact ⟨j + 1, _, _, _, _, _, _, _, _, _, HJ.out, rfl, by go_num, rfl, DL⟩
                case measure => simp [intOf]; omega
    · obtain rfl : j = n := by omega
      go_wp2
      go_ret
      exact ⟨rfl, bl3 B1.out HD.out.bl⟩
end Go.Proofs.Ytkhcinpcoabphaa
