/- Cells: the law CellBounds. -/
import Derived.Test.YtbgeihgenckihaaDoorCe2c
import Derived.Deep.CutBlock
namespace Go.Proofs.YtbgeihgenckihaaDoor
open Go.RowKit

theorem bnd_facts {c : Ce} {p : Pol} {en : Int} (hi : CI c) (hp : c.p = p) (he : c.st = 4 → c.last = en) : (0 ≤ c.fails ∧ c.fails ≤ max 1 p.t ∧ 0 ≤ p.t ∧ p.t ≤ 64) ∧ (tnx c = 0 ∨ (tnx c ≠ 0 ∧ en ≤ tnx c ∧ tnx c ≤ 1099511627776 ∧ tnx c - en ≤ p.c ∧ 0 ≤ en)) := by
  have hf := hi.fl0
  have hb := pol_bd hi.pol
  rw [hp] at hf hb
  refine ⟨⟨hf.1, hf.2, hb.1, hb.2.1⟩, ?_⟩
  unfold tnx
  split
  · rename_i hd
    have h4 := ((due_iff c).1 hd).1
    have hn := next_bd hi
    have hl := hi.last
    rw [hp, he h4] at hn
    rw [he h4] at hl
    by_cases hz : nextC c = 0
    · exact Or.inl hz
    · exact Or.inr ⟨hz, hn.1, hn.2.1, by omega, hl.1⟩
  · exact Or.inl rfl
theorem begX_e {c : Ce} {tk n en : Int} (h : c.st = 4 → c.last = en) : (begX c tk n).st = 4 → (begX c tk n).last = en := by
  unfold begX; split
  · intro q; cases q
  · exact h
theorem resX_e {c : Ce} {n en : Int} (h : c.st = 4 → c.last = en) : (resX c n).st = 4 → (resX c n).last = en := by
  unfold resX; split
  · intro q; cases q
  · exact h
theorem cloX_e {c : Ce} {en : Int} (h : c.st = 4 → c.last = en) : (cloX c).st = 4 → (cloX c).last = en := by
  unfold cloX; split
  · intro q; cases q
  · exact h
set_option maxHeartbeats 32000000 in
set_option maxRecDepth 100000 in
theorem bounds_any (w : World) (v : Value) (l : List Ax) (ag : Bool) (p : Pol) (h : ARG w v l) (hf : FB w w.heap.size) :
    Calls Tryd.prog 6 #[.agg #[.bool ag, .int .i64 p.t, .int .i64 p.b, .int .i64 p.f, .int .i64 p.c], v] w fun e w' => e = .returned (.bool true) ∧ Below w.heap.size w w' := by
  obtain ⟨pa, ca, rfl⟩ := h.gs.form
  obtain ⟨n, hn⟩ : ∃ n, n = l.length := ⟨_, rfl⟩
  have HA0 := hid h
  have hln := h.len
  rw [← hn] at HA0 hln ⊢
  have HN := hid hn
  have FB0 : Hid (∀ ob, FB (w.alloc ob) (w.alloc ob).heap.size) := fun ob => by
    have q := hf.below ((Below.refl w.heap.size w).alloc (Nat.le_refl _) ob)
    have hz : (w.alloc ob).heap.size = w.heap.size + 1 := by simp
    exact ⟨q.fv, by have := q.k1; omega, by have := q.k2; omega, by have := q.k3; omega⟩
  have WK : Hid (∀ ob, Calls Tryd.prog 15 #[] (w.alloc ob) fun e w' => e = .returned (.bool true) ∧ Below (w.alloc ob).heap.size (w.alloc ob) w') := fun ob => works_any _ _ (Nat.le_refl _) (FB0.out ob)
  have AL : Hid (∀ ob, Below w.heap.size w (w.alloc ob)) := fun ob => (Below.refl _ _).alloc (Nat.le_refl _) ob
  clear h hf hn
  go_enter Tryd.func6, Tryd.ntmps6
  go_wp2_with fail
  refine Calls.mono (WK.out _) ?_
  rintro e w1 ⟨rfl, hb1⟩
  generalize hW : w.alloc _ = W at hb1
  have BX : Hid (W.heap[w.heap.size]? = some (.cells #[.bool ag, .int .i64 p.t, .int .i64 p.b, .int .i64 p.f, .int .i64 p.c] 25)) := by rw [← hW]; exact heap_alloc_new w _
  have BW : Hid (Below w.heap.size w W) := by rw [← hW]; exact AL.out _
  have HA : Hid (ARG W (.slice pa n ca) l) := by rw [← hW]; exact HA0.out.below (AL.out _)
  have FBW : Hid (FB W W.heap.size) := by rw [← hW]; exact FB0.out _
  clear hW HA0 FB0 WK AL
  have KB : Hid (∀ w', Below W.heap.size W w' → w'.cell? ⟨w.heap.size, 0, none⟩ = some (.bool ag) ∧ w'.cell? ⟨w.heap.size, 1, none⟩ = some (.int .i64 p.t) ∧ w'.cell? ⟨w.heap.size, 2, none⟩ = some (.int .i64 p.b) ∧ w'.cell? ⟨w.heap.size, 3, none⟩ = some (.int .i64 p.f) ∧ w'.cell? ⟨w.heap.size, 4, none⟩ = some (.int .i64 p.c)) := fun w' k => by
    have hp := (k.block w.heap.size (lt_of_heap BX.out)).trans BX.out
    exact ⟨cell_of_row _ _ _ _ _ _ hp, cell_of_row _ _ _ _ _ _ hp, cell_of_row _ _ _ _ _ _ hp, cell_of_row _ _ _ _ _ _ hp, cell_of_row _ _ _ _ _ _ hp⟩
  have FIN : Hid (∀ w', Below W.heap.size W w' → Below w.heap.size w w') := fun w' k => BW.out.trans (k.mono BW.out.size)
  obtain ⟨x0, x1, x2, x3, x4⟩ := KB.out w1 hb1
  have NW : Hid (Calls Tryd.prog 7 #[.bool ag, .agg #[.int .i64 p.t, .int .i64 p.b, .int .i64 p.f, .int .i64 p.c]] w1 fun e w' => Below w1.heap.size w1 w' ∧ ((polB p = false ∧ e = .returned (.tuple #[.pointer none, .int .i64 50])) ∨ (polB p = true ∧ ∃ b, w1.heap.size ≤ b ∧ e = .returned (.tuple #[.pointer (some ⟨b, 0, none⟩), .int .i64 0]) ∧ LS W W.heap.size w' b (newC ag p)))) := new_ls W W.heap.size (Nat.le_refl _) FBW.out w1 hb1 ag p
  have B1 := hid hb1
  clear BX FBW BW hb1
  cases hp : polB p with
  | false =>
    have NF : Hid (Calls Tryd.prog 7 #[.bool ag, .agg #[.int .i64 p.t, .int .i64 p.b, .int .i64 p.f, .int .i64 p.c]] w1 fun e w' => e = .returned (.tuple #[.pointer none, .int .i64 50]) ∧ Below W.heap.size W w') := by
      refine NW.out.mono ?_
      rintro e w' ⟨r1, r2⟩
      rcases r2 with ⟨_, r2⟩ | ⟨r2, _⟩
      · exact ⟨r2, B1.out.trans (r1.mono B1.out.size)⟩
      · rw [hp] at r2; cases r2
    clear NW hp
    obtain ⟨pt, pb, pf, pc⟩ := p
    simp only at *
    go_wp2_with (go_at_call 7; refine NF.out.mono ?_; rintro e w2 ⟨rfl, q⟩; have Q2 := hid q; clear q)
    go_ret
    exact ⟨rfl, FIN.out _ Q2.out⟩
  | true =>
    have NT : Hid (Calls Tryd.prog 7 #[.bool ag, .agg #[.int .i64 p.t, .int .i64 p.b, .int .i64 p.f, .int .i64 p.c]] w1 fun e w' => ∃ b, e = .returned (.tuple #[.pointer (some ⟨b, 0, none⟩), .int .i64 0]) ∧ LS W W.heap.size w' b (newC ag p)) := by
      refine NW.out.mono ?_
      rintro e w' ⟨r1, r2⟩
      rcases r2 with ⟨r2, _⟩ | ⟨_, b, _, r3, r4⟩
      · rw [hp] at r2; cases r2
      · exact ⟨b, r3, r4⟩
    clear NW B1
    have N0 : Hid (∃ c0 : Ce, c0 = newC ag p ∧ c0.p = p ∧ c0.gen = 0 ∧ c0.st = 1 ∧ c0.fails = 0) := ⟨_, rfl, rfl, rfl, rfl, rfl⟩
    have hpol := hid hp
    clear hp
    obtain ⟨c0, e0, e1, e2, e3, e4⟩ := N0.out
    rw [← e0] at NT
    have E0 := hid e1
    have E1 := hid e2
    have E2 := hid e3
    have E3 := hid e4
    clear N0 e0 e1 e2 e3 e4
    have PB := hid (pol_bd hpol.out)
    obtain ⟨pt, pb, pf, pc⟩ := p
    simp only at *
    clear hpol
    clear PB
    go_wp2_with (go_at_call 7; refine NT.out.mono ?_; rintro e w2 ⟨b, rfl, q⟩; have Q2 := hid q; clear q)
    clear NT x0 x1 x2 x3 x4
    go_loopw [7, 8] (fun v7 v8 wr => ∃ (k : Nat) (c : Ce) (en : Int) (wk : World), v7 = .int .i64 en ∧ v8 = .int .i64 k ∧ wk = wr ∧ k ≤ n ∧ Hid (LS W W.heap.size wk b c ∧ c.p = ⟨pt, pb, pf, pc⟩ ∧ (c.st = 4 → c.last = en))) (fun _ v8 _ => n - (intOf v8).toNat)
    case atStart => exact ⟨0, c0, 0, _, rfl, rfl, rfl, Nat.zero_le _, ⟨Q2.out, E0.out, by rw [E2.out]; intro q; cases q⟩⟩
    case round =>
      obtain ⟨k, c, en, wr, rfl, rfl, rfl, hk, HR⟩ := hrel
      clear Q2
      by_cases hlt : k < n
      · have LK := hid HR.out.1
        have CP := hid HR.out.2.1
        have CE := hid HR.out.2.2
        have HAk := hid (HA.out.below LK.out.bl)
        obtain ⟨X, o, e1, y0, y1, y2, y3, y4, y5⟩ := HAk.out.cells (k := k) (by rw [← HN.out]; exact hlt)
        obtain rfl : pa = some ⟨X, o, none⟩ := e1
        have OX := hid (HAk.out.ok _ (List.getElem_mem (show k < l.length by rw [← HN.out]; exact hlt)))
        obtain ⟨x, hx⟩ : ∃ x, x = l[k]'(by rw [← HN.out]; exact hlt) := ⟨_, rfl⟩
        rw [← hx] at y0 y1 y2 y3 y4 y5 OX
        clear hx HAk
        have hbl := LK.out.lt
        have LA : Hid (∀ ob, LS W W.heap.size (wr.alloc ob) b c) := fun ob => LK.out.below ((Below.refl _ _).alloc (Nat.le_refl _) ob)
        have AM := fun w' => among_any x.kind w'
        have am := amF_bd x.kind
        clear HR HA
        generalize amF x.kind = r at *
        have hr : r = 0 ∨ r = 1 ∨ r = 2 ∨ r = 3 ∨ r = 4 := by omega
        clear am
        go_upto_block 2 with (go_at_call 9; refine (AM _).mono ?_; rintro e w' ⟨rfl, rfl⟩)
        generalize hV : wr.alloc _ = V
        have LV : Hid (LS W W.heap.size V b c) := by rw [← hV]; exact LA.out _
        have BC : Hid (∀ w', Bu b V w' → w'.cell? ⟨wr.heap.size, 1, none⟩ = some (.int .i64 x.tk) ∧ w'.cell? ⟨wr.heap.size, 2, none⟩ = some (.int .i64 x.at_) ∧ w'.cell? ⟨wr.heap.size, 3, none⟩ = some (.int .i64 x.ok) ∧ w'.cell? ⟨wr.heap.size, 4, none⟩ = some (.slice x.vp x.val.length x.vc) ∧ w'.cell? ⟨wr.heap.size, 5, none⟩ = some (.slice x.fp x.fl.length x.fc)) := fun w' kk => by rw [← hV] at kk; exact ⟨box_bu hbl kk rfl, box_bu hbl kk rfl, box_bu hbl kk rfl, box_bu hbl kk rfl, box_bu hbl kk rfl⟩
        have OV : Hid (∀ w', Below V.heap.size V w' → OkO w' x.o (.slice x.vp x.val.length x.vc) (.slice x.fp x.fl.length x.fc)) := fun w' kk => by rw [← hV] at kk; exact (OX.out.below ((Below.refl _ _).alloc (Nat.le_refl _) _)).below kk
        clear hV
        clear y0 y1 y2 y3 y4 y5
        go_cut [7] from 23 to 107 (fun v7 wx => ∃ (c2 : Ce) (e2 : Int) (w6 : World), v7 = .int .i64 e2 ∧ w6 = wx ∧ Hid (LS W W.heap.size w6 b c2 ∧ c2.p = ⟨pt, pb, pf, pc⟩ ∧ (c2.st = 4 → c2.last = e2)))
        case first =>
          obtain ⟨v1, v2, v3, v4, v5⟩ := BC.out V (Bu.refl _ _)
          rcases hr with rfl | rfl | rfl | rfl | rfl
          · have CB : Hid (Calls Tryd.prog 11 #[.pointer (some ⟨b, 0, none⟩), .int .i64 x.tk, .int .i64 x.at_] V fun e w' => ∃ u, e = .returned u ∧ LS W W.heap.size w' b (begX c x.tk x.at_)) := (begin_ls LV.out x.tk x.at_).mono (fun e w' q => ⟨_, q.1, q.2.1⟩)
            go_wp2_with (go_at_call 11; refine CB.out.mono ?_; rintro e w6 ⟨u6, rfl, q1⟩; have L6 := hid q1; clear q1)
            go_meet
            case rel => exact ⟨_, en, _, rfl, rfl, ⟨L6.out, by rw [begX_p]; exact CP.out, begX_e CE.out⟩⟩
          · rcases end_tr c x.tk x.at_ x.o with ⟨f1, f2⟩ | ⟨f1, f2, f3, f4⟩
            · have f5 : (endE c x.tk x.o x.at_ == 0) = false := by simpa using f1
              obtain ⟨er, her⟩ : ∃ er, er = endE c x.tk x.o x.at_ := ⟨_, rfl⟩
              have HER : Hid (endE c x.tk x.o x.at_ = er) := her.symm
              rw [← her] at f5
              obtain ⟨c2, hc2⟩ : ∃ c2, c2 = endX c x.tk x.o x.at_ := ⟨_, rfl⟩
              have HC2 : Hid (endX c x.tk x.o x.at_ = c2) := hc2.symm
              have C2P : Hid (c2.p = ⟨pt, pb, pf, pc⟩) := by show _ = _; rw [hc2, endX_p]; exact CP.out
              have C2E : Hid (c2.st = 4 → c2.last = en) := by show _ → _; rw [hc2, f2]; exact CE.out
              clear f1 f2 her hc2
              go_wp2_with fail
              have BR : Hid (Below V.heap.size V V) := Below.refl _ _
              have BD : Hid (Below V.heap.size V V.drew) := (Below.refl _ _).drew
              have CO : Hid (∀ w', Below V.heap.size V w' → Calls Tryd.prog 17 #[.agg #[.int .i64 x.ok, .slice x.vp x.val.length x.vc, .slice x.fp x.fl.length x.fc]] w' fun e w'' => ∃ p n q m, e = .returned (.agg #[.int .i64 x.ok, .slice p x.val.length n, .slice q x.fl.length m]) ∧ CpR w' x.o w'' (.slice p x.val.length n) (.slice q x.fl.length m)) := fun w' kk => copyOut_any w' x.o _ _ (OV.out w' kk).sv (OV.out w' kk).sf OX.out.l1 OX.out.l2
              have EN : Hid (∀ w' w5 v f, Below V.heap.size V w' → CpR w' x.o w5 v f → (Bu b V w5) ∧ Calls Tryd.prog 16 #[.pointer (some ⟨b, 0, none⟩), .int .i64 x.tk, .agg #[.int .i64 x.ok, v, f], .int .i64 x.at_] w5 fun e w6 => e = .returned (.int .i64 er) ∧ LS W W.heap.size w6 b c2 ∧ Bu b V w6) := fun w' w5 v f kk cp => by
                have b5 : Below V.heap.size V w5 := kk.trans (cp.2.2.mono kk.size)
                have hne := cp_ne cp (b := b) (by have := LV.out.lt; have := kk.size; omega)
                refine ⟨Bu.of b5, (end_ls (LV.out.below b5) x.tk x.at_ x.o v f (cp_ok cp OX.out) hne.1 hne.2).mono (fun e w6 q => ?_)⟩
                rw [HER.out, HC2.out] at q
                exact ⟨q.1, q.2.1, (Bu.of b5).trans q.2.2⟩
              go_region_held3 (fun w' => w'.cell? ⟨wr.heap.size, 1, none⟩ = some (.int .i64 x.tk) ∧ w'.cell? ⟨wr.heap.size, 2, none⟩ = some (.int .i64 x.at_) ∧ w'.cell? ⟨wr.heap.size, 3, none⟩ = some (.int .i64 x.ok) ∧ w'.cell? ⟨wr.heap.size, 4, none⟩ = some (.slice x.vp x.val.length x.vc) ∧ w'.cell? ⟨wr.heap.size, 5, none⟩ = some (.slice x.fp x.fl.length x.fc)) (go_keep) (first
                | (go_at_call 17; refine Calls.mono (CO.out _ ?_) ?_; (first | exact BR.out | exact BD.out); rintro e w5 ⟨p7, n7, q7, m7, rfl, cp⟩; have ee := EN.out _ w5 _ _ (by first | exact BR.out | exact BD.out) cp; obtain ⟨s1', s2', s3', s4', s5'⟩ := BC.out w5 ee.1; have E5 := hid ee.2; clear cp ee)
                | (go_at_call 16; refine Calls.mono E5.out ?_; rintro e w6 ⟨rfl, q1, q2⟩; obtain ⟨t1', t2', t3', t4', t5'⟩ := BC.out w6 q2; have L6 := hid q1; clear q1 q2))
              all_goals
                go_wp2_with fail
                go_meet
                case rel => exact ⟨_, en, _, rfl, rfl, ⟨by first | exact L6.out | exact L6.out.below (drew_below _ _) | exact L6.out.below ((Below.refl _ _).drew), C2P.out, C2E.out⟩⟩
            · have HER : Hid (endE c x.tk x.o x.at_ = 0) := f1
              obtain ⟨c2, hc2⟩ : ∃ c2, c2 = endX c x.tk x.o x.at_ := ⟨_, rfl⟩
              have HC2 : Hid (endX c x.tk x.o x.at_ = c2) := hc2.symm
              have C2P : Hid (c2.p = ⟨pt, pb, pf, pc⟩) := by show _ = _; rw [hc2, endX_p]; exact CP.out
              have C2E : Hid (c2.st = 4 → c2.last = x.at_) := by show _ → _; rw [hc2, f4]; intro _; rfl
              clear f1 f2 f3 f4 hc2
              go_wp2_with fail
              have BR : Hid (Below V.heap.size V V) := Below.refl _ _
              have BD : Hid (Below V.heap.size V V.drew) := (Below.refl _ _).drew
              have CO : Hid (∀ w', Below V.heap.size V w' → Calls Tryd.prog 17 #[.agg #[.int .i64 x.ok, .slice x.vp x.val.length x.vc, .slice x.fp x.fl.length x.fc]] w' fun e w'' => ∃ p n q m, e = .returned (.agg #[.int .i64 x.ok, .slice p x.val.length n, .slice q x.fl.length m]) ∧ CpR w' x.o w'' (.slice p x.val.length n) (.slice q x.fl.length m)) := fun w' kk => copyOut_any w' x.o _ _ (OV.out w' kk).sv (OV.out w' kk).sf OX.out.l1 OX.out.l2
              have EN : Hid (∀ w' w5 v f, Below V.heap.size V w' → CpR w' x.o w5 v f → (Bu b V w5) ∧ Calls Tryd.prog 16 #[.pointer (some ⟨b, 0, none⟩), .int .i64 x.tk, .agg #[.int .i64 x.ok, v, f], .int .i64 x.at_] w5 fun e w6 => e = .returned (.int .i64 0) ∧ LS W W.heap.size w6 b c2 ∧ Bu b V w6) := fun w' w5 v f kk cp => by
                have b5 : Below V.heap.size V w5 := kk.trans (cp.2.2.mono kk.size)
                have hne := cp_ne cp (b := b) (by have := LV.out.lt; have := kk.size; omega)
                refine ⟨Bu.of b5, (end_ls (LV.out.below b5) x.tk x.at_ x.o v f (cp_ok cp OX.out) hne.1 hne.2).mono (fun e w6 q => ?_)⟩
                rw [HER.out, HC2.out] at q
                exact ⟨q.1, q.2.1, (Bu.of b5).trans q.2.2⟩
              go_region_held3 (fun w' => w'.cell? ⟨wr.heap.size, 1, none⟩ = some (.int .i64 x.tk) ∧ w'.cell? ⟨wr.heap.size, 2, none⟩ = some (.int .i64 x.at_) ∧ w'.cell? ⟨wr.heap.size, 3, none⟩ = some (.int .i64 x.ok) ∧ w'.cell? ⟨wr.heap.size, 4, none⟩ = some (.slice x.vp x.val.length x.vc) ∧ w'.cell? ⟨wr.heap.size, 5, none⟩ = some (.slice x.fp x.fl.length x.fc)) (go_keep) (first
                | (go_at_call 17; refine Calls.mono (CO.out _ ?_) ?_; (first | exact BR.out | exact BD.out); rintro e w5 ⟨p7, n7, q7, m7, rfl, cp⟩; have ee := EN.out _ w5 _ _ (by first | exact BR.out | exact BD.out) cp; obtain ⟨s1', s2', s3', s4', s5'⟩ := BC.out w5 ee.1; have E5 := hid ee.2; clear cp ee)
                | (go_at_call 16; refine Calls.mono E5.out ?_; rintro e w6 ⟨rfl, q1, q2⟩; obtain ⟨t1', t2', t3', t4', t5'⟩ := BC.out w6 q2; have L6 := hid q1; clear q1 q2))
              all_goals
                go_wp2_with fail
                go_meet
                case rel => exact ⟨_, x.at_, _, rfl, rfl, ⟨by first | exact L6.out | exact L6.out.below (drew_below _ _) | exact L6.out.below ((Below.refl _ _).drew), C2P.out, C2E.out⟩⟩
          · have CB : Hid (Calls Tryd.prog 12 #[.pointer (some ⟨b, 0, none⟩), .int .i64 x.at_] V fun e w' => ∃ u, e = .returned u ∧ LS W W.heap.size w' b (resX c x.at_)) := (reset_ls LV.out x.at_).mono (fun e w' q => ⟨_, q.1, q.2.1⟩)
            go_wp2_with (go_at_call 12; refine CB.out.mono ?_; rintro e w6 ⟨u6, rfl, q1⟩; have L6 := hid q1; clear q1)
            go_meet
            case rel => exact ⟨_, en, _, rfl, rfl, ⟨L6.out, by rw [resX_p]; exact CP.out, resX_e CE.out⟩⟩
          · have CB : Hid (Calls Tryd.prog 18 #[.pointer (some ⟨b, 0, none⟩)] V fun e w' => ∃ u, e = .returned u ∧ LS W W.heap.size w' b (cloX c)) := (close_ls LV.out).mono (fun e w' q => ⟨_, q.1, q.2.1⟩)
            go_wp2_with (go_at_call 18; refine CB.out.mono ?_; rintro e w6 ⟨u6, rfl, q1⟩; have L6 := hid q1; clear q1)
            go_meet
            case rel => exact ⟨_, en, _, rfl, rfl, ⟨L6.out, by rw [cloX_p]; exact CP.out, cloX_e CE.out⟩⟩
          · go_wp2_with fail
            go_meet
            case rel => exact ⟨_, en, _, rfl, rfl, ⟨LV.out, CP.out, CE.out⟩⟩
        case rest =>
          obtain ⟨c2, e2, w6, rfl, rfl, HC⟩ := hcut
          clear BC OV OX LA LK CP CE LV hr AM
          have C2P := hid HC.out.2.1
          have C2E := hid HC.out.2.2
          have bf := bnd_facts HC.out.1.ci C2P.out C2E.out
          simp only at bf
          obtain ⟨⟨bf0, bf1, bf2, bf3⟩, bfn⟩ := bf
          have BT := hid (told_ls HC.out.1)
          clear HC
          generalize tnx c2 = nx at *
          generalize c2.fails = fa at *
          have bl0 : ¬ fa < 0 := by omega
          have hmx : ¬ fa > max 1 pt := by omega
          rcases bfn with rfl | ⟨bn0, bn1, bn2, bn3, bn4⟩
          · go_wp2_with (go_at_call 19; refine BT.out.mono ?_; rintro e w7 ⟨rfl, q3, q4⟩; obtain ⟨_, kb1, _, _, kb4⟩ := KB.out w7 q3.bl; have hz7 : w.heap.size < w7.heap.size := block_lt_of_cell kb1; have L7 := hid q3; clear q3 q4)
            all_goals
              try (exfalso; omega)
            all_goals
              go_roundw
              case rel => first | exact ⟨k + 1, c2, e2, _, rfl, by go_num, rfl, by omega, ⟨L7.out.below ((Below.refl _ _).alloc (Nat.le_refl _) _), C2P.out, C2E.out⟩⟩ | ((repeat apply Exists.intro); exact ⟨⟨k + 1, c2, e2, _, rfl, by go_num, rfl, by omega, ⟨L7.out.below ((Below.refl _ _).alloc (Nat.le_refl _) _), C2P.out, C2E.out⟩⟩, rfl⟩)
              case measure => simp [intOf]; omega
          · have bn5 : (nx != 0) = true := by simpa using bn0
            have bn6 : ¬ nx < e2 := by omega
            have bn7 : ¬ nx > 1099511627776 := by omega
            have bn8 : ¬ nx - e2 > pc := by omega
            have bn9 : IntKind.i64.wrap (nx - e2) = nx - e2 := by rw [IntKind.wrap_i64]; omega
            go_wp2_with (go_at_call 19; refine BT.out.mono ?_; rintro e w7 ⟨rfl, q3, q4⟩; obtain ⟨_, kb1, _, _, kb4⟩ := KB.out w7 q3.bl; have hz7 : w.heap.size < w7.heap.size := block_lt_of_cell kb1; have L7 := hid q3; clear q3 q4)
            all_goals
              try (exfalso; omega)
            all_goals
              go_roundw
              case rel => first | exact ⟨k + 1, c2, e2, _, rfl, by go_num, rfl, by omega, ⟨L7.out.below ((Below.refl _ _).alloc (Nat.le_refl _) _), C2P.out, C2E.out⟩⟩ | ((repeat apply Exists.intro); exact ⟨⟨k + 1, c2, e2, _, rfl, by go_num, rfl, by omega, ⟨L7.out.below ((Below.refl _ _).alloc (Nat.le_refl _) _), C2P.out, C2E.out⟩⟩, rfl⟩)
              case measure => simp [intOf]; omega
      · have FN := hid (FIN.out _ HR.out.1.bl)
        go_wp2_with fail
        go_ret
        exact ⟨rfl, FN.out⟩
end Go.Proofs.YtbgeihgenckihaaDoor
