/- Cells: the law CellOnce. -/
import Derived.Test.YtbgeihgenckihaaDoorCe2b
namespace Go.Proofs.YtbgeihgenckihaaDoor
open Go.RowKit

set_option maxHeartbeats 32000000 in
set_option maxRecDepth 100000 in
theorem once_any (w : World) (v : Value) (l : List Ax) (ag : Bool) (p : Pol) (h : ARG w v l) (hf : FB w w.heap.size) :
    Calls Tryd.prog 4 #[.agg #[.bool ag, .int .i64 p.t, .int .i64 p.b, .int .i64 p.f, .int .i64 p.c], v] w fun e w' => e = .returned (.bool true) ∧ Below w.heap.size w w' := by
  obtain ⟨pa, ca, rfl⟩ := h.gs.form
  obtain ⟨n, hn⟩ : ∃ n, n = l.length := ⟨_, rfl⟩
  have HA0 := hid h
  have hln := h.len
  rw [← hn] at HA0 hln ⊢
  have HN := hid hn
  have FB0 : Hid (∀ ob, FB (w.alloc ob) (w.alloc ob).heap.size) := fun ob => by
    have q := hf.below ((Below.refl w.heap.size w).alloc (Nat.le_refl _) ob)
    have hz : (w.alloc ob).heap.size = w.heap.size + 1 := by simp
    exact ⟨q.fv, by have := q.k1; omega, by have := q.k2; omega, by have := q.k3; omega⟩
  have WK : Hid (∀ ob, Calls Tryd.prog 15 #[] (w.alloc ob) fun e w' => e = .returned (.bool true) ∧ Below (w.alloc ob).heap.size (w.alloc ob) w') := fun ob => works_any _ _ (Nat.le_refl _) (FB0.out ob)
  have AL : Hid (∀ ob, Below w.heap.size w (w.alloc ob)) := fun ob => (Below.refl _ _).alloc (Nat.le_refl _) ob
  clear h hf hn
  go_enter Tryd.func4, Tryd.ntmps4
  go_wp2_with fail
  refine Calls.mono (WK.out _) ?_
  rintro e w1 ⟨rfl, hb1⟩
  generalize hW : w.alloc _ = W at hb1
  have BX : Hid (W.heap[w.heap.size]? = some (.cells #[.bool ag, .int .i64 p.t, .int .i64 p.b, .int .i64 p.f, .int .i64 p.c] 25)) := by rw [← hW]; exact heap_alloc_new w _
  have BW : Hid (Below w.heap.size w W) := by rw [← hW]; exact AL.out _
  have HA : Hid (ARG W (.slice pa n ca) l) := by rw [← hW]; exact HA0.out.below (AL.out _)
  have FBW : Hid (FB W W.heap.size) := by rw [← hW]; exact FB0.out _
  clear hW HA0 FB0 WK AL
  have KB : Hid (∀ w', Below W.heap.size W w' → w'.cell? ⟨w.heap.size, 0, none⟩ = some (.bool ag) ∧ w'.cell? ⟨w.heap.size, 1, none⟩ = some (.int .i64 p.t) ∧ w'.cell? ⟨w.heap.size, 2, none⟩ = some (.int .i64 p.b) ∧ w'.cell? ⟨w.heap.size, 3, none⟩ = some (.int .i64 p.f) ∧ w'.cell? ⟨w.heap.size, 4, none⟩ = some (.int .i64 p.c)) := fun w' k => by
    have hp := (k.block w.heap.size (lt_of_heap BX.out)).trans BX.out
    exact ⟨cell_of_row _ _ _ _ _ _ hp, cell_of_row _ _ _ _ _ _ hp, cell_of_row _ _ _ _ _ _ hp, cell_of_row _ _ _ _ _ _ hp, cell_of_row _ _ _ _ _ _ hp⟩
  have FIN : Hid (∀ w', Below W.heap.size W w' → Below w.heap.size w w') := fun w' k => BW.out.trans (k.mono BW.out.size)
  obtain ⟨x0, x1, x2, x3, x4⟩ := KB.out w1 hb1
  have NW : Hid (Calls Tryd.prog 7 #[.bool ag, .agg #[.int .i64 p.t, .int .i64 p.b, .int .i64 p.f, .int .i64 p.c]] w1 fun e w' => Below w1.heap.size w1 w' ∧ ((polB p = false ∧ e = .returned (.tuple #[.pointer none, .int .i64 50])) ∨ (polB p = true ∧ ∃ b, w1.heap.size ≤ b ∧ e = .returned (.tuple #[.pointer (some ⟨b, 0, none⟩), .int .i64 0]) ∧ LS W W.heap.size w' b (newC ag p)))) := new_ls W W.heap.size (Nat.le_refl _) FBW.out w1 hb1 ag p
  have B1 := hid hb1
  clear BX FBW BW hb1
  cases hp : polB p with
  | false =>
    have NF : Hid (Calls Tryd.prog 7 #[.bool ag, .agg #[.int .i64 p.t, .int .i64 p.b, .int .i64 p.f, .int .i64 p.c]] w1 fun e w' => e = .returned (.tuple #[.pointer none, .int .i64 50]) ∧ Below W.heap.size W w') := by
      refine NW.out.mono ?_
      rintro e w' ⟨r1, r2⟩
      rcases r2 with ⟨_, r2⟩ | ⟨r2, _⟩
      · exact ⟨r2, B1.out.trans (r1.mono B1.out.size)⟩
      · rw [hp] at r2; cases r2
    clear NW hp
    obtain ⟨pt, pb, pf, pc⟩ := p
    simp only at *
    go_wp2_with (go_at_call 7; refine NF.out.mono ?_; rintro e w2 ⟨rfl, q⟩; have Q2 := hid q; clear q)
    go_ret
    exact ⟨rfl, FIN.out _ Q2.out⟩
  | true =>
    have NT : Hid (Calls Tryd.prog 7 #[.bool ag, .agg #[.int .i64 p.t, .int .i64 p.b, .int .i64 p.f, .int .i64 p.c]] w1 fun e w' => ∃ b, e = .returned (.tuple #[.pointer (some ⟨b, 0, none⟩), .int .i64 0]) ∧ LS W W.heap.size w' b (newC ag p)) := by
      refine NW.out.mono ?_
      rintro e w' ⟨r1, r2⟩
      rcases r2 with ⟨r2, _⟩ | ⟨_, b, _, r3, r4⟩
      · rw [hp] at r2; cases r2
      · exact ⟨b, r3, r4⟩
    clear NW B1
    have N0 : Hid (∃ c0 : Ce, c0 = newC ag p ∧ c0.p = p ∧ c0.gen = 0 ∧ c0.st = 1 ∧ c0.fails = 0) := ⟨_, rfl, rfl, rfl, rfl, rfl⟩
    have hpol := hid hp
    clear hp
    obtain ⟨c0, e0, e1, e2, e3, e4⟩ := N0.out
    rw [← e0] at NT
    have E0 := hid e1
    have E1 := hid e2
    have E2 := hid e3
    have E3 := hid e4
    clear N0 e0 e1 e2 e3 e4
    have PB := hid (pol_bd hpol.out)
    obtain ⟨pt, pb, pf, pc⟩ := p
    simp only at *
    clear hpol
    go_wp2_with (go_at_call 7; refine NT.out.mono ?_; rintro e w2 ⟨b, rfl, q⟩; have Q2 := hid q; clear q)
    clear NT x0 x1 x2 x3 x4
    go_loopw [7, 8, 9, 10] (fun v7 v8 v9 v10 wr => ∃ (k : Nat) (c : Ce) (t g : Int) (rn : Bool) (wk : World), v7 = .int .i64 g ∧ v8 = .int .i64 t ∧ v9 = .bool rn ∧ v10 = .int .i64 k ∧ wk = wr ∧ k ≤ n ∧ Hid (LS W W.heap.size wk b c ∧ c.gen = g ∧ (rn = true ↔ c.st = 2) ∧ (c.st = 2 → c.tk = t))) (fun _ _ _ v10 _ => n - (intOf v10).toNat)
    case atStart => exact ⟨0, c0, 0, 0, false, _, rfl, rfl, rfl, rfl, rfl, Nat.zero_le _, ⟨Q2.out, E1.out, by rw [E2.out]; simp, by rw [E2.out]; intro q; cases q⟩⟩
    case round =>
      obtain ⟨k, c, t, g, rn, wr, rfl, rfl, rfl, rfl, rfl, hk, HR⟩ := hrel
      clear Q2
      by_cases hlt : k < n
      · have LK := hid HR.out.1
        have RN := hid HR.out.2.2.1
        have TK := hid HR.out.2.2.2
        have GG := hid HR.out.2.1
        have hgb : 0 ≤ g ∧ g ≤ 1048576 := by rw [← GG.out]; exact LK.out.ci.gen
        obtain ⟨hg0, hg1⟩ := hgb
        have HAk := hid (HA.out.below LK.out.bl)
        obtain ⟨X, o, e1, y0, y1, y2, y3, y4, y5⟩ := HAk.out.cells (k := k) (by rw [← HN.out]; exact hlt)
        obtain rfl : pa = some ⟨X, o, none⟩ := e1
        have OX := hid (HAk.out.ok _ (List.getElem_mem (show k < l.length by rw [← HN.out]; exact hlt)))
        obtain ⟨x, hx⟩ : ∃ x, x = l[k]'(by rw [← HN.out]; exact hlt) := ⟨_, rfl⟩
        rw [← hx] at y0 y1 y2 y3 y4 y5 OX
        clear hx HAk
        have hbl := LK.out.lt
        have LA : Hid (∀ ob, LS W W.heap.size (wr.alloc ob) b c) := fun ob => LK.out.below ((Below.refl _ _).alloc (Nat.le_refl _) ob)
        have AM := fun w' => among_any x.kind w'
        have am := amF_bd x.kind
        clear HR HA
        generalize amF x.kind = r at *
        have hr : r = 0 ∨ r = 1 ∨ r = 2 ∨ r = 3 ∨ r = 4 := by omega
        clear am
        rcases hr with rfl | rfl | rfl | rfl | rfl
        · -- Begin
          rcases beg_tr c x.tk x.at_ with ⟨f1, f2, f3⟩ | ⟨f1, f2, f3, f4⟩
          · have CB : Hid (∀ ob, Calls Tryd.prog 11 #[.pointer (some ⟨b, 0, none⟩), .int .i64 x.tk, .int .i64 x.at_] (wr.alloc ob) fun e w' => e = .returned (.tuple #[.int .i64 0, .int .i64 (begE c x.tk x.at_)]) ∧ LS W W.heap.size w' b c) := fun ob => (begin_ls (LA.out ob) x.tk x.at_).mono (fun e w' q => by rw [f2, f3] at q; exact ⟨q.1, q.2.1⟩)
            have f5 : (begE c x.tk x.at_ != 0) = true := by simpa using f1
            generalize begE c x.tk x.at_ = er at *
            clear f1 f2 f3
            cases rn with
            | true =>
              have s1 : (c.st == 2) = true := by have := RN.out.1 rfl; simpa using this
              go_wp2_with (first | (go_at_call 9; refine (AM _).mono ?_; rintro e w' ⟨rfl, rfl⟩) | (go_at_call 11; refine (CB.out _).mono ?_; rintro e w6 ⟨rfl, q1⟩; have TD := hid (show Calls Tryd.prog 19 #[.pointer (some ⟨b, 0, none⟩)] w6 fun e w' => e = .returned (.agg #[.int .i64 c.st, .int .i64 g, .int .i64 c.tk, .int .i64 c.fails, .int .i64 (tnx c)]) ∧ LS W W.heap.size w' b c ∧ Below w6.heap.size w6 w' from by have q := told_ls q1; rw [GG.out] at q; exact q); clear q1) | (go_at_call 19; refine TD.out.mono ?_; rintro e w7 ⟨rfl, q3, q4⟩; have L7 := hid q3; clear q3 q4))
              all_goals
                go_roundw
                case rel => exact ⟨k + 1, c, t, g, true, _, rfl, rfl, rfl, by go_num, rfl, by omega, ⟨L7.out.below ((Below.refl _ _).alloc (Nat.le_refl _) _), GG.out, by simpa using RN.out, TK.out⟩⟩
                case measure => simp [intOf]; omega
            | false =>
              have s1 : (c.st == 2) = false := by have : ¬ c.st = 2 := (fun q => by have := RN.out.2 q; cases this); simpa using this
              go_wp2_with (first | (go_at_call 9; refine (AM _).mono ?_; rintro e w' ⟨rfl, rfl⟩) | (go_at_call 11; refine (CB.out _).mono ?_; rintro e w6 ⟨rfl, q1⟩; have TD := hid (show Calls Tryd.prog 19 #[.pointer (some ⟨b, 0, none⟩)] w6 fun e w' => e = .returned (.agg #[.int .i64 c.st, .int .i64 g, .int .i64 c.tk, .int .i64 c.fails, .int .i64 (tnx c)]) ∧ LS W W.heap.size w' b c ∧ Below w6.heap.size w6 w' from by have q := told_ls q1; rw [GG.out] at q; exact q); clear q1) | (go_at_call 19; refine TD.out.mono ?_; rintro e w7 ⟨rfl, q3, q4⟩; have L7 := hid q3; clear q3 q4))
              all_goals
                go_roundw
                case rel => exact ⟨k + 1, c, t, g, false, _, rfl, rfl, rfl, by go_num, rfl, by omega, ⟨L7.out.below ((Below.refl _ _).alloc (Nat.le_refl _) _), GG.out, by simpa using RN.out, TK.out⟩⟩
                case measure => simp [intOf]; omega
          · have hrn : rn = false := by
              cases rn with
              | false => rfl
              | true => exact absurd (RN.out.1 rfl) f2
            subst hrn
            obtain ⟨c', hc'⟩ : ∃ c', c' = begC c x.tk x.at_ := ⟨_, rfl⟩
            have CB : Hid (∀ ar T, Calls Tryd.prog 11 #[.pointer (some ⟨b, 0, none⟩), .int .i64 x.tk, .int .i64 x.at_] (wr.alloc (.cells ar T)) fun e w' => e = .returned (.tuple #[.int .i64 (g + 1), .int .i64 0]) ∧ LS W W.heap.size w' b c' ∧ ∀ i u, ar[i]? = some u → w'.cell? ⟨wr.heap.size, i, none⟩ = some u) := fun ar T => (begin_ls (LA.out _) x.tk x.at_).mono (fun e w' q => by rw [f1, f3, f4, GG.out, ← hc'] at q; exact ⟨q.1, q.2.1, fun i u hu => box_bu hbl q.2.2 hu⟩)
            have g1 : c'.gen = g + 1 := by rw [hc', ← GG.out]; rfl
            have g2 : c'.st = 2 := by rw [hc']; rfl
            have g3 : c'.tk = x.tk := by rw [hc']; rfl
            have G1 := hid g1
            have G2 := hid g2
            have G3 := hid g3
            clear f1 f2 f3 f4 hc' g1 g2 g3
            go_wp2_with (first | (go_at_call 9; refine (AM _).mono ?_; rintro e w' ⟨rfl, rfl⟩) | (go_at_call 11; refine (CB.out _ _).mono ?_; rintro e w6 ⟨rfl, q1, q2⟩; have z1 := q2 1 _ rfl; have TD := hid (show ∀ n, Calls Tryd.prog 19 #[.pointer (some ⟨b, 0, none⟩)] (w6.drewN n) fun e w' => e = .returned (.agg #[.int .i64 2, .int .i64 (g + 1), .int .i64 c'.tk, .int .i64 c'.fails, .int .i64 (tnx c')]) ∧ LS W W.heap.size w' b c' ∧ Below (w6.drewN n).heap.size (w6.drewN n) w' from fun n => by have q := told_ls (q1.below (drew_below w6 n)); rw [G1.out, G2.out] at q; exact q); clear q1 q2))
            go_quiet (fail)
            go_wp2_with (go_at_call 19; refine (TD.out _).mono ?_; rintro e w7 ⟨rfl, q3, q4⟩; have L7 := hid q3; clear q3 q4)
            all_goals
              go_roundw
              case rel => exact ⟨k + 1, c', x.tk, g + 1, true, _, rfl, rfl, rfl, by go_num, rfl, by omega, ⟨L7.out.below ((Below.refl _ _).alloc (Nat.le_refl _) _), G1.out, ⟨fun _ => G2.out, fun _ => rfl⟩, fun _ => G3.out⟩⟩
              case measure => simp [intOf]; omega
        · -- End
          rcases end_tr c x.tk x.at_ x.o with ⟨f1, f2⟩ | ⟨f1, f2, f3, f4⟩
          · have f5 : (endE c x.tk x.o x.at_ == 0) = false := by simpa using f1
            obtain ⟨er, her⟩ : ∃ er, er = endE c x.tk x.o x.at_ := ⟨_, rfl⟩
            obtain ⟨c2, hc2⟩ : ∃ c2, c2 = endX c x.tk x.o x.at_ := ⟨_, rfl⟩
            have HER : Hid (endE c x.tk x.o x.at_ = er) := her.symm
            have HC2 : Hid (endX c x.tk x.o x.at_ = c2) := hc2.symm
            have HCC : Hid (c2 = c) := by show _ = _; rw [hc2, f2]
            have G2 : Hid (c2.gen = g) := by show _ = _; rw [HCC.out]; exact GG.out
            rw [← her] at f5
            clear f1 f2 her hc2
            cases rn with
            | true =>
              have s1 : (c2.st == 2) = true := by have := RN.out.1 rfl; rw [HCC.out]; simpa using this
              go_wp2_with (go_at_call 9; refine (AM _).mono ?_; rintro e w' ⟨rfl, rfl⟩)
              generalize hV : wr.alloc _ = V
              have LV : Hid (LS W W.heap.size V b c) := by rw [← hV]; exact LA.out _
              have BC : Hid (∀ w', Bu b V w' → w'.cell? ⟨wr.heap.size, 1, none⟩ = some (.int .i64 x.tk) ∧ w'.cell? ⟨wr.heap.size, 2, none⟩ = some (.int .i64 x.at_) ∧ w'.cell? ⟨wr.heap.size, 3, none⟩ = some (.int .i64 x.ok) ∧ w'.cell? ⟨wr.heap.size, 4, none⟩ = some (.slice x.vp x.val.length x.vc) ∧ w'.cell? ⟨wr.heap.size, 5, none⟩ = some (.slice x.fp x.fl.length x.fc)) := fun w' kk => by rw [← hV] at kk; exact ⟨box_bu hbl kk rfl, box_bu hbl kk rfl, box_bu hbl kk rfl, box_bu hbl kk rfl, box_bu hbl kk rfl⟩
              have OV : Hid (∀ w', Below V.heap.size V w' → OkO w' x.o (.slice x.vp x.val.length x.vc) (.slice x.fp x.fl.length x.fc)) := fun w' kk => by rw [← hV] at kk; exact (OX.out.below ((Below.refl _ _).alloc (Nat.le_refl _) _)).below kk
              clear hV
              obtain ⟨v1, v2, v3, v4, v5⟩ := BC.out V (Bu.refl _ _)
              have BR : Hid (Below V.heap.size V V) := Below.refl _ _
              have BD : Hid (Below V.heap.size V V.drew) := (Below.refl _ _).drew
              have CO : Hid (∀ w', Below V.heap.size V w' → Calls Tryd.prog 17 #[.agg #[.int .i64 x.ok, .slice x.vp x.val.length x.vc, .slice x.fp x.fl.length x.fc]] w' fun e w'' => ∃ p n q m, e = .returned (.agg #[.int .i64 x.ok, .slice p x.val.length n, .slice q x.fl.length m]) ∧ CpR w' x.o w'' (.slice p x.val.length n) (.slice q x.fl.length m)) := fun w' kk => copyOut_any w' x.o _ _ (OV.out w' kk).sv (OV.out w' kk).sf OX.out.l1 OX.out.l2
              have EN : Hid (∀ w' w5 v f, Below V.heap.size V w' → CpR w' x.o w5 v f → (Bu b V w5) ∧ Calls Tryd.prog 16 #[.pointer (some ⟨b, 0, none⟩), .int .i64 x.tk, .agg #[.int .i64 x.ok, v, f], .int .i64 x.at_] w5 fun e w6 => e = .returned (.int .i64 er) ∧ LS W W.heap.size w6 b c2 ∧ Bu b V w6) := fun w' w5 v f kk cp => by
                have b5 : Below V.heap.size V w5 := kk.trans (cp.2.2.mono kk.size)
                have hne := cp_ne cp (b := b) (by have := LV.out.lt; have := kk.size; omega)
                refine ⟨Bu.of b5, (end_ls (LV.out.below b5) x.tk x.at_ x.o v f (cp_ok cp OX.out) hne.1 hne.2).mono (fun e w6 q => ?_)⟩
                rw [HER.out, HC2.out] at q
                exact ⟨q.1, q.2.1, (Bu.of b5).trans q.2.2⟩
              go_region_held3 (fun w' => w'.cell? ⟨wr.heap.size, 1, none⟩ = some (.int .i64 x.tk) ∧ w'.cell? ⟨wr.heap.size, 2, none⟩ = some (.int .i64 x.at_) ∧ w'.cell? ⟨wr.heap.size, 3, none⟩ = some (.int .i64 x.ok) ∧ w'.cell? ⟨wr.heap.size, 4, none⟩ = some (.slice x.vp x.val.length x.vc) ∧ w'.cell? ⟨wr.heap.size, 5, none⟩ = some (.slice x.fp x.fl.length x.fc)) (go_keep) (first
                | (go_at_call 17; refine Calls.mono (CO.out _ ?_) ?_; (first | exact BR.out | exact BD.out); rintro e w5 ⟨p7, n7, q7, m7, rfl, cp⟩; have ee := EN.out _ w5 _ _ (by first | exact BR.out | exact BD.out) cp; obtain ⟨s1', s2', s3', s4', s5'⟩ := BC.out w5 ee.1; have E5 := hid ee.2; clear cp ee)
                | (go_at_call 16; refine Calls.mono E5.out ?_; rintro e w6 ⟨rfl, q1, q2⟩; obtain ⟨t1', t2', t3', t4', t5'⟩ := BC.out w6 q2; have L6 := hid q1; clear q1 q2))
              have TD := hid (show ∀ n, Calls Tryd.prog 19 #[.pointer (some ⟨b, 0, none⟩)] (w6.drewN n) fun e w' => e = .returned (.agg #[.int .i64 c2.st, .int .i64 g, .int .i64 c2.tk, .int .i64 c2.fails, .int .i64 (tnx c2)]) ∧ LS W W.heap.size w' b c2 ∧ Below (w6.drewN n).heap.size (w6.drewN n) w' from fun n => by have q := told_ls (L6.out.below (drew_below w6 n)); rw [G2.out] at q; exact q)
              have TD0 := hid (show Calls Tryd.prog 19 #[.pointer (some ⟨b, 0, none⟩)] w6 fun e w' => e = .returned (.agg #[.int .i64 c2.st, .int .i64 g, .int .i64 c2.tk, .int .i64 c2.fails, .int .i64 (tnx c2)]) ∧ LS W W.heap.size w' b c2 ∧ Below w6.heap.size w6 w' from by have q := told_ls L6.out; rw [G2.out] at q; exact q)
              go_wp2_with (go_at_call 19; first | (refine TD0.out.mono ?_; rintro e w7 ⟨rfl, q3, q4⟩; have L7 := hid q3; clear q3 q4) | (refine (TD.out _).mono ?_; rintro e w7 ⟨rfl, q3, q4⟩; have L7 := hid q3; clear q3 q4))
              all_goals
                go_roundw
                case rel => exact ⟨k + 1, c2, t, g, true, _, rfl, rfl, rfl, by go_num, rfl, by omega, ⟨L7.out.below ((Below.refl _ _).alloc (Nat.le_refl _) _), G2.out, by rw [HCC.out]; simpa using RN.out, by rw [HCC.out]; exact TK.out⟩⟩
                case measure => simp [intOf]; omega
            | false =>
              have s1 : (c2.st == 2) = false := by have : ¬ c.st = 2 := (fun q => by have := RN.out.2 q; cases this); rw [HCC.out]; simpa using this
              go_wp2_with (go_at_call 9; refine (AM _).mono ?_; rintro e w' ⟨rfl, rfl⟩)
              generalize hV : wr.alloc _ = V
              have LV : Hid (LS W W.heap.size V b c) := by rw [← hV]; exact LA.out _
              have BC : Hid (∀ w', Bu b V w' → w'.cell? ⟨wr.heap.size, 1, none⟩ = some (.int .i64 x.tk) ∧ w'.cell? ⟨wr.heap.size, 2, none⟩ = some (.int .i64 x.at_) ∧ w'.cell? ⟨wr.heap.size, 3, none⟩ = some (.int .i64 x.ok) ∧ w'.cell? ⟨wr.heap.size, 4, none⟩ = some (.slice x.vp x.val.length x.vc) ∧ w'.cell? ⟨wr.heap.size, 5, none⟩ = some (.slice x.fp x.fl.length x.fc)) := fun w' kk => by rw [← hV] at kk; exact ⟨box_bu hbl kk rfl, box_bu hbl kk rfl, box_bu hbl kk rfl, box_bu hbl kk rfl, box_bu hbl kk rfl⟩
              have OV : Hid (∀ w', Below V.heap.size V w' → OkO w' x.o (.slice x.vp x.val.length x.vc) (.slice x.fp x.fl.length x.fc)) := fun w' kk => by rw [← hV] at kk; exact (OX.out.below ((Below.refl _ _).alloc (Nat.le_refl _) _)).below kk
              clear hV
              obtain ⟨v1, v2, v3, v4, v5⟩ := BC.out V (Bu.refl _ _)
              have BR : Hid (Below V.heap.size V V) := Below.refl _ _
              have BD : Hid (Below V.heap.size V V.drew) := (Below.refl _ _).drew
              have CO : Hid (∀ w', Below V.heap.size V w' → Calls Tryd.prog 17 #[.agg #[.int .i64 x.ok, .slice x.vp x.val.length x.vc, .slice x.fp x.fl.length x.fc]] w' fun e w'' => ∃ p n q m, e = .returned (.agg #[.int .i64 x.ok, .slice p x.val.length n, .slice q x.fl.length m]) ∧ CpR w' x.o w'' (.slice p x.val.length n) (.slice q x.fl.length m)) := fun w' kk => copyOut_any w' x.o _ _ (OV.out w' kk).sv (OV.out w' kk).sf OX.out.l1 OX.out.l2
              have EN : Hid (∀ w' w5 v f, Below V.heap.size V w' → CpR w' x.o w5 v f → (Bu b V w5) ∧ Calls Tryd.prog 16 #[.pointer (some ⟨b, 0, none⟩), .int .i64 x.tk, .agg #[.int .i64 x.ok, v, f], .int .i64 x.at_] w5 fun e w6 => e = .returned (.int .i64 er) ∧ LS W W.heap.size w6 b c2 ∧ Bu b V w6) := fun w' w5 v f kk cp => by
                have b5 : Below V.heap.size V w5 := kk.trans (cp.2.2.mono kk.size)
                have hne := cp_ne cp (b := b) (by have := LV.out.lt; have := kk.size; omega)
                refine ⟨Bu.of b5, (end_ls (LV.out.below b5) x.tk x.at_ x.o v f (cp_ok cp OX.out) hne.1 hne.2).mono (fun e w6 q => ?_)⟩
                rw [HER.out, HC2.out] at q
                exact ⟨q.1, q.2.1, (Bu.of b5).trans q.2.2⟩
              go_region_held3 (fun w' => w'.cell? ⟨wr.heap.size, 1, none⟩ = some (.int .i64 x.tk) ∧ w'.cell? ⟨wr.heap.size, 2, none⟩ = some (.int .i64 x.at_) ∧ w'.cell? ⟨wr.heap.size, 3, none⟩ = some (.int .i64 x.ok) ∧ w'.cell? ⟨wr.heap.size, 4, none⟩ = some (.slice x.vp x.val.length x.vc) ∧ w'.cell? ⟨wr.heap.size, 5, none⟩ = some (.slice x.fp x.fl.length x.fc)) (go_keep) (first
                | (go_at_call 17; refine Calls.mono (CO.out _ ?_) ?_; (first | exact BR.out | exact BD.out); rintro e w5 ⟨p7, n7, q7, m7, rfl, cp⟩; have ee := EN.out _ w5 _ _ (by first | exact BR.out | exact BD.out) cp; obtain ⟨s1', s2', s3', s4', s5'⟩ := BC.out w5 ee.1; have E5 := hid ee.2; clear cp ee)
                | (go_at_call 16; refine Calls.mono E5.out ?_; rintro e w6 ⟨rfl, q1, q2⟩; obtain ⟨t1', t2', t3', t4', t5'⟩ := BC.out w6 q2; have L6 := hid q1; clear q1 q2))
              have TD := hid (show ∀ n, Calls Tryd.prog 19 #[.pointer (some ⟨b, 0, none⟩)] (w6.drewN n) fun e w' => e = .returned (.agg #[.int .i64 c2.st, .int .i64 g, .int .i64 c2.tk, .int .i64 c2.fails, .int .i64 (tnx c2)]) ∧ LS W W.heap.size w' b c2 ∧ Below (w6.drewN n).heap.size (w6.drewN n) w' from fun n => by have q := told_ls (L6.out.below (drew_below w6 n)); rw [G2.out] at q; exact q)
              have TD0 := hid (show Calls Tryd.prog 19 #[.pointer (some ⟨b, 0, none⟩)] w6 fun e w' => e = .returned (.agg #[.int .i64 c2.st, .int .i64 g, .int .i64 c2.tk, .int .i64 c2.fails, .int .i64 (tnx c2)]) ∧ LS W W.heap.size w' b c2 ∧ Below w6.heap.size w6 w' from by have q := told_ls L6.out; rw [G2.out] at q; exact q)
              go_wp2_with (go_at_call 19; first | (refine TD0.out.mono ?_; rintro e w7 ⟨rfl, q3, q4⟩; have L7 := hid q3; clear q3 q4) | (refine (TD.out _).mono ?_; rintro e w7 ⟨rfl, q3, q4⟩; have L7 := hid q3; clear q3 q4))
              all_goals
                go_roundw
                case rel => exact ⟨k + 1, c2, t, g, false, _, rfl, rfl, rfl, by go_num, rfl, by omega, ⟨L7.out.below ((Below.refl _ _).alloc (Nat.le_refl _) _), G2.out, by rw [HCC.out]; simpa using RN.out, by rw [HCC.out]; exact TK.out⟩⟩
                case measure => simp [intOf]; omega
          · have hrn : rn = true := RN.out.2 f2
            subst hrn
            have ht : t = x.tk := by rw [← TK.out f2, f3]
            subst ht
            obtain ⟨c2, hc2⟩ : ∃ c2, c2 = endX c x.tk x.o x.at_ := ⟨_, rfl⟩
            have HER : Hid (endE c x.tk x.o x.at_ = 0) := f1
            have HC2 : Hid (endX c x.tk x.o x.at_ = c2) := hc2.symm
            have G2 : Hid (c2.gen = g) := by show _ = _; rw [hc2, f4]; exact GG.out
            have NS : Hid (¬ c2.st = 2) := by show ¬ _; rw [hc2, f4]; have := endC_st c x.o x.at_; omega
            have s1 : (c2.st == 2) = false := by simpa using NS.out
            clear f1 f2 f3 f4 hc2
            go_wp2_with (go_at_call 9; refine (AM _).mono ?_; rintro e w' ⟨rfl, rfl⟩)
            generalize hV : wr.alloc _ = V
            have LV : Hid (LS W W.heap.size V b c) := by rw [← hV]; exact LA.out _
            have BC : Hid (∀ w', Bu b V w' → w'.cell? ⟨wr.heap.size, 1, none⟩ = some (.int .i64 x.tk) ∧ w'.cell? ⟨wr.heap.size, 2, none⟩ = some (.int .i64 x.at_) ∧ w'.cell? ⟨wr.heap.size, 3, none⟩ = some (.int .i64 x.ok) ∧ w'.cell? ⟨wr.heap.size, 4, none⟩ = some (.slice x.vp x.val.length x.vc) ∧ w'.cell? ⟨wr.heap.size, 5, none⟩ = some (.slice x.fp x.fl.length x.fc)) := fun w' kk => by rw [← hV] at kk; exact ⟨box_bu hbl kk rfl, box_bu hbl kk rfl, box_bu hbl kk rfl, box_bu hbl kk rfl, box_bu hbl kk rfl⟩
            have OV : Hid (∀ w', Below V.heap.size V w' → OkO w' x.o (.slice x.vp x.val.length x.vc) (.slice x.fp x.fl.length x.fc)) := fun w' kk => by rw [← hV] at kk; exact (OX.out.below ((Below.refl _ _).alloc (Nat.le_refl _) _)).below kk
            clear hV
            obtain ⟨v1, v2, v3, v4, v5⟩ := BC.out V (Bu.refl _ _)
            have BR : Hid (Below V.heap.size V V) := Below.refl _ _
            have BD : Hid (Below V.heap.size V V.drew) := (Below.refl _ _).drew
            have CO : Hid (∀ w', Below V.heap.size V w' → Calls Tryd.prog 17 #[.agg #[.int .i64 x.ok, .slice x.vp x.val.length x.vc, .slice x.fp x.fl.length x.fc]] w' fun e w'' => ∃ p n q m, e = .returned (.agg #[.int .i64 x.ok, .slice p x.val.length n, .slice q x.fl.length m]) ∧ CpR w' x.o w'' (.slice p x.val.length n) (.slice q x.fl.length m)) := fun w' kk => copyOut_any w' x.o _ _ (OV.out w' kk).sv (OV.out w' kk).sf OX.out.l1 OX.out.l2
            have EN : Hid (∀ w' w5 v f, Below V.heap.size V w' → CpR w' x.o w5 v f → (Bu b V w5) ∧ Calls Tryd.prog 16 #[.pointer (some ⟨b, 0, none⟩), .int .i64 x.tk, .agg #[.int .i64 x.ok, v, f], .int .i64 x.at_] w5 fun e w6 => e = .returned (.int .i64 0) ∧ LS W W.heap.size w6 b c2 ∧ Bu b V w6) := fun w' w5 v f kk cp => by
              have b5 : Below V.heap.size V w5 := kk.trans (cp.2.2.mono kk.size)
              have hne := cp_ne cp (b := b) (by have := LV.out.lt; have := kk.size; omega)
              refine ⟨Bu.of b5, (end_ls (LV.out.below b5) x.tk x.at_ x.o v f (cp_ok cp OX.out) hne.1 hne.2).mono (fun e w6 q => ?_)⟩
              rw [HER.out, HC2.out] at q
              exact ⟨q.1, q.2.1, (Bu.of b5).trans q.2.2⟩
            go_region_held3 (fun w' => w'.cell? ⟨wr.heap.size, 1, none⟩ = some (.int .i64 x.tk) ∧ w'.cell? ⟨wr.heap.size, 2, none⟩ = some (.int .i64 x.at_) ∧ w'.cell? ⟨wr.heap.size, 3, none⟩ = some (.int .i64 x.ok) ∧ w'.cell? ⟨wr.heap.size, 4, none⟩ = some (.slice x.vp x.val.length x.vc) ∧ w'.cell? ⟨wr.heap.size, 5, none⟩ = some (.slice x.fp x.fl.length x.fc)) (go_keep) (first
              | (go_at_call 17; refine Calls.mono (CO.out _ ?_) ?_; (first | exact BR.out | exact BD.out); rintro e w5 ⟨p7, n7, q7, m7, rfl, cp⟩; have ee := EN.out _ w5 _ _ (by first | exact BR.out | exact BD.out) cp; obtain ⟨s1', s2', s3', s4', s5'⟩ := BC.out w5 ee.1; have E5 := hid ee.2; clear cp ee)
              | (go_at_call 16; refine Calls.mono E5.out ?_; rintro e w6 ⟨rfl, q1, q2⟩; obtain ⟨t1', t2', t3', t4', t5'⟩ := BC.out w6 q2; have L6 := hid q1; clear q1 q2))
            have TD := hid (show ∀ n, Calls Tryd.prog 19 #[.pointer (some ⟨b, 0, none⟩)] (w6.drewN n) fun e w' => e = .returned (.agg #[.int .i64 c2.st, .int .i64 g, .int .i64 c2.tk, .int .i64 c2.fails, .int .i64 (tnx c2)]) ∧ LS W W.heap.size w' b c2 ∧ Below (w6.drewN n).heap.size (w6.drewN n) w' from fun n => by have q := told_ls (L6.out.below (drew_below w6 n)); rw [G2.out] at q; exact q)
            have TD0 := hid (show Calls Tryd.prog 19 #[.pointer (some ⟨b, 0, none⟩)] w6 fun e w' => e = .returned (.agg #[.int .i64 c2.st, .int .i64 g, .int .i64 c2.tk, .int .i64 c2.fails, .int .i64 (tnx c2)]) ∧ LS W W.heap.size w' b c2 ∧ Below w6.heap.size w6 w' from by have q := told_ls L6.out; rw [G2.out] at q; exact q)
            go_wp2_with (go_at_call 19; first | (refine TD0.out.mono ?_; rintro e w7 ⟨rfl, q3, q4⟩; have L7 := hid q3; clear q3 q4) | (refine (TD.out _).mono ?_; rintro e w7 ⟨rfl, q3, q4⟩; have L7 := hid q3; clear q3 q4))
            all_goals
              go_roundw
              case rel => exact ⟨k + 1, c2, x.tk, g, false, _, rfl, rfl, rfl, by go_num, rfl, by omega, ⟨L7.out.below ((Below.refl _ _).alloc (Nat.le_refl _) _), G2.out, by constructor; (intro q; cases q); exact fun q => absurd q NS.out, fun q => absurd q NS.out⟩⟩
              case measure => simp [intOf]; omega
        · -- Reset
          rcases res_tr c x.at_ with ⟨f1, f2⟩ | ⟨f1, f2, f3⟩
          · have CB : Hid (∀ ob, Calls Tryd.prog 12 #[.pointer (some ⟨b, 0, none⟩), .int .i64 x.at_] (wr.alloc ob) fun e w' => e = .returned (.int .i64 (resE c x.at_)) ∧ LS W W.heap.size w' b c) := fun ob => (reset_ls (LA.out ob) x.at_).mono (fun e w' q => by rw [f2] at q; exact ⟨q.1, q.2.1⟩)
            have f5 : (resE c x.at_ == 0) = false := by simpa using f1
            generalize resE c x.at_ = er at *
            clear f1 f2
            cases rn with
            | true =>
              have s1 : (c.st == 2) = true := by have := RN.out.1 rfl; simpa using this
              go_wp2_with (first | (go_at_call 9; refine (AM _).mono ?_; rintro e w' ⟨rfl, rfl⟩) | (go_at_call 12; refine (CB.out _).mono ?_; rintro e w6 ⟨rfl, q1⟩; have TD := hid (show Calls Tryd.prog 19 #[.pointer (some ⟨b, 0, none⟩)] w6 fun e w' => e = .returned (.agg #[.int .i64 c.st, .int .i64 g, .int .i64 c.tk, .int .i64 c.fails, .int .i64 (tnx c)]) ∧ LS W W.heap.size w' b c ∧ Below w6.heap.size w6 w' from by have q := told_ls q1; rw [GG.out] at q; exact q); clear q1) | (go_at_call 19; refine TD.out.mono ?_; rintro e w7 ⟨rfl, q3, q4⟩; have L7 := hid q3; clear q3 q4))
              all_goals
                go_roundw
                case rel => exact ⟨k + 1, c, t, g, true, _, rfl, rfl, rfl, by go_num, rfl, by omega, ⟨L7.out.below ((Below.refl _ _).alloc (Nat.le_refl _) _), GG.out, by simpa using RN.out, TK.out⟩⟩
                case measure => simp [intOf]; omega
            | false =>
              have s1 : (c.st == 2) = false := by have : ¬ c.st = 2 := (fun q => by have := RN.out.2 q; cases this); simpa using this
              go_wp2_with (first | (go_at_call 9; refine (AM _).mono ?_; rintro e w' ⟨rfl, rfl⟩) | (go_at_call 12; refine (CB.out _).mono ?_; rintro e w6 ⟨rfl, q1⟩; have TD := hid (show Calls Tryd.prog 19 #[.pointer (some ⟨b, 0, none⟩)] w6 fun e w' => e = .returned (.agg #[.int .i64 c.st, .int .i64 g, .int .i64 c.tk, .int .i64 c.fails, .int .i64 (tnx c)]) ∧ LS W W.heap.size w' b c ∧ Below w6.heap.size w6 w' from by have q := told_ls q1; rw [GG.out] at q; exact q); clear q1) | (go_at_call 19; refine TD.out.mono ?_; rintro e w7 ⟨rfl, q3, q4⟩; have L7 := hid q3; clear q3 q4))
              all_goals
                go_roundw
                case rel => exact ⟨k + 1, c, t, g, false, _, rfl, rfl, rfl, by go_num, rfl, by omega, ⟨L7.out.below ((Below.refl _ _).alloc (Nat.le_refl _) _), GG.out, by simpa using RN.out, TK.out⟩⟩
                case measure => simp [intOf]; omega
          · have hrn : rn = false := by
              cases rn with
              | false => rfl
              | true => exact absurd (RN.out.1 rfl) f2
            subst hrn
            obtain ⟨c', hc'⟩ : ∃ c', c' = resC c x.at_ := ⟨_, rfl⟩
            have CB : Hid (∀ ob, Calls Tryd.prog 12 #[.pointer (some ⟨b, 0, none⟩), .int .i64 x.at_] (wr.alloc ob) fun e w' => e = .returned (.int .i64 0) ∧ LS W W.heap.size w' b c') := fun ob => (reset_ls (LA.out ob) x.at_).mono (fun e w' q => by rw [f1, f3, ← hc'] at q; exact ⟨q.1, q.2.1⟩)
            have G1 : Hid (c'.gen = g) := by show _ = _; rw [hc', ← GG.out]; rfl
            have NS : Hid (¬ c'.st = 2) := by show ¬ _; rw [hc']; intro q; cases q
            have s1 : (c'.st == 2) = false := by simpa using NS.out
            clear f1 f2 f3 hc'
            go_wp2_with (first | (go_at_call 9; refine (AM _).mono ?_; rintro e w' ⟨rfl, rfl⟩) | (go_at_call 12; refine (CB.out _).mono ?_; rintro e w6 ⟨rfl, q1⟩; have TD := hid (show Calls Tryd.prog 19 #[.pointer (some ⟨b, 0, none⟩)] w6 fun e w' => e = .returned (.agg #[.int .i64 c'.st, .int .i64 g, .int .i64 c'.tk, .int .i64 c'.fails, .int .i64 (tnx c')]) ∧ LS W W.heap.size w' b c' ∧ Below w6.heap.size w6 w' from by have q := told_ls q1; rw [G1.out] at q; exact q); clear q1) | (go_at_call 19; refine TD.out.mono ?_; rintro e w7 ⟨rfl, q3, q4⟩; have L7 := hid q3; clear q3 q4))
            all_goals
              go_roundw
              case rel => exact ⟨k + 1, c', t, g, false, _, rfl, rfl, rfl, by go_num, rfl, by omega, ⟨L7.out.below ((Below.refl _ _).alloc (Nat.le_refl _) _), G1.out, by constructor; (intro q; cases q); exact fun q => absurd q NS.out, fun q => absurd q NS.out⟩⟩
              case measure => simp [intOf]; omega
        · -- Close
          rcases clo_tr c with ⟨f1, f2⟩ | ⟨f1, f2, f3⟩
          · have CB : Hid (∀ ob, Calls Tryd.prog 18 #[.pointer (some ⟨b, 0, none⟩)] (wr.alloc ob) fun e w' => e = .returned (.int .i64 (cloE c)) ∧ LS W W.heap.size w' b c) := fun ob => (close_ls (LA.out ob)).mono (fun e w' q => by rw [f2] at q; exact ⟨q.1, q.2.1⟩)
            have f5 : (cloE c == 0) = false := by simpa using f1
            generalize cloE c = er at *
            clear f1 f2
            cases rn with
            | true =>
              have s1 : (c.st == 2) = true := by have := RN.out.1 rfl; simpa using this
              go_wp2_with (first | (go_at_call 9; refine (AM _).mono ?_; rintro e w' ⟨rfl, rfl⟩) | (go_at_call 18; refine (CB.out _).mono ?_; rintro e w6 ⟨rfl, q1⟩; have TD := hid (show Calls Tryd.prog 19 #[.pointer (some ⟨b, 0, none⟩)] w6 fun e w' => e = .returned (.agg #[.int .i64 c.st, .int .i64 g, .int .i64 c.tk, .int .i64 c.fails, .int .i64 (tnx c)]) ∧ LS W W.heap.size w' b c ∧ Below w6.heap.size w6 w' from by have q := told_ls q1; rw [GG.out] at q; exact q); clear q1) | (go_at_call 19; refine TD.out.mono ?_; rintro e w7 ⟨rfl, q3, q4⟩; have L7 := hid q3; clear q3 q4))
              all_goals
                go_roundw
                case rel => exact ⟨k + 1, c, t, g, true, _, rfl, rfl, rfl, by go_num, rfl, by omega, ⟨L7.out.below ((Below.refl _ _).alloc (Nat.le_refl _) _), GG.out, by simpa using RN.out, TK.out⟩⟩
                case measure => simp [intOf]; omega
            | false =>
              have s1 : (c.st == 2) = false := by have : ¬ c.st = 2 := (fun q => by have := RN.out.2 q; cases this); simpa using this
              go_wp2_with (first | (go_at_call 9; refine (AM _).mono ?_; rintro e w' ⟨rfl, rfl⟩) | (go_at_call 18; refine (CB.out _).mono ?_; rintro e w6 ⟨rfl, q1⟩; have TD := hid (show Calls Tryd.prog 19 #[.pointer (some ⟨b, 0, none⟩)] w6 fun e w' => e = .returned (.agg #[.int .i64 c.st, .int .i64 g, .int .i64 c.tk, .int .i64 c.fails, .int .i64 (tnx c)]) ∧ LS W W.heap.size w' b c ∧ Below w6.heap.size w6 w' from by have q := told_ls q1; rw [GG.out] at q; exact q); clear q1) | (go_at_call 19; refine TD.out.mono ?_; rintro e w7 ⟨rfl, q3, q4⟩; have L7 := hid q3; clear q3 q4))
              all_goals
                go_roundw
                case rel => exact ⟨k + 1, c, t, g, false, _, rfl, rfl, rfl, by go_num, rfl, by omega, ⟨L7.out.below ((Below.refl _ _).alloc (Nat.le_refl _) _), GG.out, by simpa using RN.out, TK.out⟩⟩
                case measure => simp [intOf]; omega
          · have hrn : rn = false := by
              cases rn with
              | false => rfl
              | true => exact absurd (RN.out.1 rfl) f2
            subst hrn
            obtain ⟨c', hc'⟩ : ∃ c', c' = cloC c := ⟨_, rfl⟩
            have CB : Hid (∀ ob, Calls Tryd.prog 18 #[.pointer (some ⟨b, 0, none⟩)] (wr.alloc ob) fun e w' => e = .returned (.int .i64 0) ∧ LS W W.heap.size w' b c') := fun ob => (close_ls (LA.out ob)).mono (fun e w' q => by rw [f1, f3, ← hc'] at q; exact ⟨q.1, q.2.1⟩)
            have G1 : Hid (c'.gen = g) := by show _ = _; rw [hc', ← GG.out]; rfl
            have NS : Hid (¬ c'.st = 2) := by show ¬ _; rw [hc']; intro q; cases q
            have s1 : (c'.st == 2) = false := by simpa using NS.out
            clear f1 f2 f3 hc'
            go_wp2_with (first | (go_at_call 9; refine (AM _).mono ?_; rintro e w' ⟨rfl, rfl⟩) | (go_at_call 18; refine (CB.out _).mono ?_; rintro e w6 ⟨rfl, q1⟩; have TD := hid (show Calls Tryd.prog 19 #[.pointer (some ⟨b, 0, none⟩)] w6 fun e w' => e = .returned (.agg #[.int .i64 c'.st, .int .i64 g, .int .i64 c'.tk, .int .i64 c'.fails, .int .i64 (tnx c')]) ∧ LS W W.heap.size w' b c' ∧ Below w6.heap.size w6 w' from by have q := told_ls q1; rw [G1.out] at q; exact q); clear q1) | (go_at_call 19; refine TD.out.mono ?_; rintro e w7 ⟨rfl, q3, q4⟩; have L7 := hid q3; clear q3 q4))
            all_goals
              go_roundw
              case rel => exact ⟨k + 1, c', t, g, false, _, rfl, rfl, rfl, by go_num, rfl, by omega, ⟨L7.out.below ((Below.refl _ _).alloc (Nat.le_refl _) _), G1.out, by constructor; (intro q; cases q); exact fun q => absurd q NS.out, fun q => absurd q NS.out⟩⟩
              case measure => simp [intOf]; omega
        · have TD : Hid (∀ ob, Calls Tryd.prog 19 #[.pointer (some ⟨b, 0, none⟩)] (wr.alloc ob) fun e w' => e = .returned (.agg #[.int .i64 c.st, .int .i64 g, .int .i64 c.tk, .int .i64 c.fails, .int .i64 (tnx c)]) ∧ LS W W.heap.size w' b c ∧ Below (wr.alloc ob).heap.size (wr.alloc ob) w') := fun ob => by have q := told_ls (LA.out ob); rw [GG.out] at q; exact q
          cases rn with
          | true =>
            have s1 : (c.st == 2) = true := by have := RN.out.1 rfl; simpa using this
            go_wp2_with (first | (go_at_call 9; refine (AM _).mono ?_; rintro e w' ⟨rfl, rfl⟩) | (go_at_call 19; refine (TD.out _).mono ?_; rintro e w7 ⟨rfl, q3, q4⟩; have L7 := hid q3; clear q3 q4))
            all_goals
              go_roundw
              case rel => exact ⟨k + 1, c, t, g, true, _, rfl, rfl, rfl, by go_num, rfl, by omega, ⟨L7.out.below ((Below.refl _ _).alloc (Nat.le_refl _) _), GG.out, by simpa using RN.out, TK.out⟩⟩
              case measure => simp [intOf]; omega
          | false =>
            have s1 : (c.st == 2) = false := by have : ¬ c.st = 2 := (fun q => by have := RN.out.2 q; cases this); simpa using this
            go_wp2_with (first | (go_at_call 9; refine (AM _).mono ?_; rintro e w' ⟨rfl, rfl⟩) | (go_at_call 19; refine (TD.out _).mono ?_; rintro e w7 ⟨rfl, q3, q4⟩; have L7 := hid q3; clear q3 q4))
            all_goals
              go_roundw
              case rel => exact ⟨k + 1, c, t, g, false, _, rfl, rfl, rfl, by go_num, rfl, by omega, ⟨L7.out.below ((Below.refl _ _).alloc (Nat.le_refl _) _), GG.out, by simpa using RN.out, TK.out⟩⟩
              case measure => simp [intOf]; omega
      · have FN := hid (FIN.out _ HR.out.1.bl)
        go_wp2_with fail
        go_ret
        exact ⟨rfl, FN.out⟩
end Go.Proofs.YtbgeihgenckihaaDoor
