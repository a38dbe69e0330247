/- Cells: the law CellStays. -/
import Derived.Test.YtbgeihgenckihaaDoorCe2c
import Derived.Deep.CutBlock
namespace Go.Proofs.YtbgeihgenckihaaDoor
open Go.RowKit

/-- Does it stay as it is? -/
def stB (c : Ce) : Bool := decide (c.st = 3) || (decide (c.st = 4) && (decide (c.out.kind = 3) || decide (c.p.t ≤ c.fails)))
theorem st_ask {c : Ce} (h : stB c = true) (n : Int) : askC c n = 3 ∨ askC c n = 0 := by
  unfold stB at h
  unfold askC
  simp at h
  split
  · exact Or.inr rfl
  · left
    rcases h with h | ⟨h, h2⟩
    · rw [if_neg (by omega), if_neg (by omega), if_pos h]
    · rw [if_neg (by omega), if_neg (by omega), if_neg (by omega), if_pos h, if_neg]
      rintro ⟨q, _⟩
      have := (due_iff c).1 q
      omega
theorem st_tell {c : Ce} (h : stB c = true) {n : Int} (h0 : 0 ≤ n) (h1 : n ≤ 1099511627776) : askC c n = 3 := by
  rcases st_ask h n with q | q
  · exact q
  · exfalso
    unfold askC at q
    rw [if_neg (fun z => z ⟨h0, h1⟩)] at q
    split at q
    · cases q
    · split at q
      · cases q
      · split at q
        · cases q
        · split at q
          · split at q <;> cases q
          · cases q
theorem st_beg {c : Ce} (h : stB c = true) (tk n : Int) : begX c tk n = c := by
  rcases beg_tr c tk n with ⟨_, q, _⟩ | ⟨q, _⟩
  · exact q
  · obtain ⟨_, _, h3, _⟩ := begE_ok q
    rcases st_ask h n with z | z <;> omega
theorem st_st {c : Ce} (h : stB c = true) : c.st = 3 ∨ c.st = 4 := by
  unfold stB at h
  simp at h
  omega
theorem st_end {c : Ce} (h : stB c = true) (tk n : Int) (o : Oc) : endX c tk o n = c := by
  rcases end_tr c tk n o with ⟨_, q⟩ | ⟨_, q, _⟩
  · exact q
  · have := st_st h; omega
theorem st_clo {c : Ce} (h : stB c = true) : cloE c = 0 := by
  have := st_st h
  unfold cloE
  rw [if_neg (by omega)]
/-- What a round keeps: the cell, what it told, its outcome. -/
structure SK (W : World) (V : World) (b : Nat) (c : Ce) (q8 q9 : Nat) (p : Option Addr) (n : Nat) (q : Option Addr) (m : Nat) : Prop where
  ls : LS W W.heap.size V b c
  h8 : V.heap[q8]? = some (.cells #[.int .i64 c.st, .int .i64 c.gen, .int .i64 c.tk, .int .i64 c.fails, .int .i64 (tnx c)] 57)
  n8 : q8 ≠ b
  h9 : V.heap[q9]? = some (.cells #[.int .i64 c.out.kind, .slice p c.out.val.length n, .slice q c.out.fl.length m] 36)
  n9 : q9 ≠ b
  sv : AS V (.slice p c.out.val.length n) c.out.val
  sf : CS V (.slice q c.out.fl.length m) c.out.fl
  nv : ∀ x, (Value.slice p c.out.val.length n).ownBlock = some x → x ≠ b
  nf : ∀ x, (Value.slice q c.out.fl.length m).ownBlock = some x → x ≠ b
theorem SK.bu {W V w6 : World} {b : Nat} {c : Ce} {q8 q9 : Nat} {p : Option Addr} {n : Nat} {q : Option Addr} {m : Nat} (h : SK W V b c q8 q9 p n q m) (k : Bu b V w6) (l : LS W W.heap.size w6 b c) : SK W w6 b c q8 q9 p n q m :=
  ⟨l, (k.block q8 (lt_of_heap h.h8) h.n8).trans h.h8, h.n8, (k.block q9 (lt_of_heap h.h9) h.n9).trans h.h9, h.n9, h.sv.blk k.size (fun x hx hl => k.block x hl (h.nv x hx)), h.sf.blk k.size (fun x hx hl => k.block x hl (h.nf x hx)), h.nv, h.nf⟩
theorem SK.below {W V w6 : World} {b : Nat} {c : Ce} {q8 q9 : Nat} {p : Option Addr} {n : Nat} {q : Option Addr} {m : Nat} (h : SK W V b c q8 q9 p n q m) (k : Below V.heap.size V w6) : SK W w6 b c q8 q9 p n q m := h.bu (Bu.of k) (h.ls.below k)
set_option maxHeartbeats 32000000 in
set_option maxRecDepth 100000 in
theorem stays_any (w : World) (v : Value) (l : List Ax) (ag : Bool) (p : Pol) (h : ARG w v l) (hf : FB w w.heap.size) :
    Calls Tryd.prog 5 #[.agg #[.bool ag, .int .i64 p.t, .int .i64 p.b, .int .i64 p.f, .int .i64 p.c], v] w fun e w' => e = .returned (.bool true) ∧ Below w.heap.size w w' := by
  obtain ⟨pa, ca, rfl⟩ := h.gs.form
  obtain ⟨n, hn⟩ : ∃ n, n = l.length := ⟨_, rfl⟩
  have HA0 := hid h
  have hln := h.len
  rw [← hn] at HA0 hln ⊢
  have HN := hid hn
  have FB0 : Hid (∀ ob, FB (w.alloc ob) (w.alloc ob).heap.size) := fun ob => by
    have q := hf.below ((Below.refl w.heap.size w).alloc (Nat.le_refl _) ob)
    have hz : (w.alloc ob).heap.size = w.heap.size + 1 := by simp
    exact ⟨q.fv, by have := q.k1; omega, by have := q.k2; omega, by have := q.k3; omega⟩
  have WK : Hid (∀ ob, Calls Tryd.prog 15 #[] (w.alloc ob) fun e w' => e = .returned (.bool true) ∧ Below (w.alloc ob).heap.size (w.alloc ob) w') := fun ob => works_any _ _ (Nat.le_refl _) (FB0.out ob)
  have AL : Hid (∀ ob, Below w.heap.size w (w.alloc ob)) := fun ob => (Below.refl _ _).alloc (Nat.le_refl _) ob
  clear h hf hn
  go_enter Tryd.func5, Tryd.ntmps5
  go_wp2_with fail
  refine Calls.mono (WK.out _) ?_
  rintro e w1 ⟨rfl, hb1⟩
  generalize hW : w.alloc _ = W at hb1
  have BX : Hid (W.heap[w.heap.size]? = some (.cells #[.bool ag, .int .i64 p.t, .int .i64 p.b, .int .i64 p.f, .int .i64 p.c] 25)) := by rw [← hW]; exact heap_alloc_new w _
  have BW : Hid (Below w.heap.size w W) := by rw [← hW]; exact AL.out _
  have HA : Hid (ARG W (.slice pa n ca) l) := by rw [← hW]; exact HA0.out.below (AL.out _)
  have FBW : Hid (FB W W.heap.size) := by rw [← hW]; exact FB0.out _
  clear hW HA0 FB0 WK AL
  have KB : Hid (∀ w', Below W.heap.size W w' → w'.cell? ⟨w.heap.size, 0, none⟩ = some (.bool ag) ∧ w'.cell? ⟨w.heap.size, 1, none⟩ = some (.int .i64 p.t) ∧ w'.cell? ⟨w.heap.size, 2, none⟩ = some (.int .i64 p.b) ∧ w'.cell? ⟨w.heap.size, 3, none⟩ = some (.int .i64 p.f) ∧ w'.cell? ⟨w.heap.size, 4, none⟩ = some (.int .i64 p.c)) := fun w' k => by
    have hp := (k.block w.heap.size (lt_of_heap BX.out)).trans BX.out
    exact ⟨cell_of_row _ _ _ _ _ _ hp, cell_of_row _ _ _ _ _ _ hp, cell_of_row _ _ _ _ _ _ hp, cell_of_row _ _ _ _ _ _ hp, cell_of_row _ _ _ _ _ _ hp⟩
  have FIN : Hid (∀ w', Below W.heap.size W w' → Below w.heap.size w w') := fun w' k => BW.out.trans (k.mono BW.out.size)
  obtain ⟨x0, x1, x2, x3, x4⟩ := KB.out w1 hb1
  have NW : Hid (Calls Tryd.prog 7 #[.bool ag, .agg #[.int .i64 p.t, .int .i64 p.b, .int .i64 p.f, .int .i64 p.c]] w1 fun e w' => Below w1.heap.size w1 w' ∧ ((polB p = false ∧ e = .returned (.tuple #[.pointer none, .int .i64 50])) ∨ (polB p = true ∧ ∃ b, w1.heap.size ≤ b ∧ e = .returned (.tuple #[.pointer (some ⟨b, 0, none⟩), .int .i64 0]) ∧ LS W W.heap.size w' b (newC ag p)))) := new_ls W W.heap.size (Nat.le_refl _) FBW.out w1 hb1 ag p
  have B1 := hid hb1
  clear BX FBW BW hb1
  cases hp : polB p with
  | false =>
    have NF : Hid (Calls Tryd.prog 7 #[.bool ag, .agg #[.int .i64 p.t, .int .i64 p.b, .int .i64 p.f, .int .i64 p.c]] w1 fun e w' => e = .returned (.tuple #[.pointer none, .int .i64 50]) ∧ Below W.heap.size W w') := by
      refine NW.out.mono ?_
      rintro e w' ⟨r1, r2⟩
      rcases r2 with ⟨_, r2⟩ | ⟨r2, _⟩
      · exact ⟨r2, B1.out.trans (r1.mono B1.out.size)⟩
      · rw [hp] at r2; cases r2
    clear NW hp
    obtain ⟨pt, pb, pf, pc⟩ := p
    simp only at *
    go_wp2_with (go_at_call 7; refine NF.out.mono ?_; rintro e w2 ⟨rfl, q⟩; have Q2 := hid q; clear q)
    go_ret
    exact ⟨rfl, FIN.out _ Q2.out⟩
  | true =>
    have NT : Hid (Calls Tryd.prog 7 #[.bool ag, .agg #[.int .i64 p.t, .int .i64 p.b, .int .i64 p.f, .int .i64 p.c]] w1 fun e w' => ∃ b, e = .returned (.tuple #[.pointer (some ⟨b, 0, none⟩), .int .i64 0]) ∧ LS W W.heap.size w' b (newC ag p)) := by
      refine NW.out.mono ?_
      rintro e w' ⟨r1, r2⟩
      rcases r2 with ⟨r2, _⟩ | ⟨_, b, _, r3, r4⟩
      · rw [hp] at r2; cases r2
      · exact ⟨b, r3, r4⟩
    clear NW B1
    have N0 : Hid (∃ c0 : Ce, c0 = newC ag p ∧ c0.p = p ∧ c0.gen = 0 ∧ c0.st = 1 ∧ c0.fails = 0) := ⟨_, rfl, rfl, rfl, rfl, rfl⟩
    have hpol := hid hp
    clear hp
    obtain ⟨c0, e0, e1, e2, e3, e4⟩ := N0.out
    rw [← e0] at NT
    have E0 := hid e1
    have E1 := hid e2
    have E2 := hid e3
    have E3 := hid e4
    clear N0 e0 e1 e2 e3 e4
    have PB := hid (pol_bd hpol.out)
    obtain ⟨pt, pb, pf, pc⟩ := p
    simp only at *
    clear hpol
    clear PB
    go_wp2_with (go_at_call 7; refine NT.out.mono ?_; rintro e w2 ⟨b, rfl, q⟩; have Q2 := hid q; clear q)
    clear NT x0 x1 x2 x3 x4
    go_loopw [7] (fun v7 wr => ∃ (k : Nat) (c : Ce) (wk : World), v7 = .int .i64 k ∧ wk = wr ∧ k ≤ n ∧ Hid (LS W W.heap.size wk b c ∧ c.p = ⟨pt, pb, pf, pc⟩)) (fun v7 _ => n - (intOf v7).toNat)
    case atStart => exact ⟨0, c0, _, rfl, rfl, Nat.zero_le _, ⟨Q2.out, E0.out⟩⟩
    case round =>
      obtain ⟨k, c, wr, rfl, rfl, hk, HR⟩ := hrel
      clear Q2
      by_cases hlt : k < n
      · have LK := hid HR.out.1
        have CP := hid HR.out.2
        have TD := hid (told_ls LK.out)
        have OU : Hid (∀ w3, LS W W.heap.size w3 b c → Calls Tryd.prog 20 #[.pointer (some ⟨b, 0, none⟩)] w3 fun e w' => ∃ p n q m, e = .returned (.tuple #[.agg #[.int .i64 c.out.kind, .slice p c.out.val.length n, .slice q c.out.fl.length m], .int .i64 (ocE c)]) ∧ CpR w3 c.out w' (.slice p c.out.val.length n) (.slice q c.out.fl.length m) ∧ LS W W.heap.size w' b c) := fun w3 q => (outcome_ls q).mono (fun e w' r => by obtain ⟨⟨p, n, q, m, r1, r2⟩, r3⟩ := r; exact ⟨p, n, q, m, r1, r2, r3⟩)
        have SK0 : Hid (∀ w3 w4 p n q m, LS W W.heap.size w3 b c → CpR (w3.alloc (.cells #[.int .i64 c.st, .int .i64 c.gen, .int .i64 c.tk, .int .i64 c.fails, .int .i64 (tnx c)] 57)) c.out w4 (.slice p c.out.val.length n) (.slice q c.out.fl.length m) → SK W (w4.alloc (.cells #[.int .i64 c.out.kind, .slice p c.out.val.length n, .slice q c.out.fl.length m] 36)) b c w3.heap.size w4.heap.size p n q m) := fun w3 w4 p n q m l cp => by
          have hl := l.lt
          have hz : (w3.alloc (.cells #[.int .i64 c.st, .int .i64 c.gen, .int .i64 c.tk, .int .i64 c.fails, .int .i64 (tnx c)] 57)).heap.size = w3.heap.size + 1 := by simp
          have hb4 := cp.2.2
          have hs := hb4.size
          have l4 := (l.below ((Below.refl _ _).alloc (Nat.le_refl _) _)).below hb4
          have a5 : Below w4.heap.size w4 (w4.alloc (.cells #[.int .i64 c.out.kind, .slice p c.out.val.length n, .slice q c.out.fl.length m] 36)) := (Below.refl _ _).alloc (Nat.le_refl _) _
          have hne := cp_ne cp (b := b) (by omega)
          exact ⟨l4.below a5, (a5.block _ (by omega)).trans ((hb4.block _ (by omega)).trans (heap_alloc_new w3 _)), by omega, heap_alloc_new w4 _, by omega, (cp.1.gs KA_ok.len).below a5, ((ownC_g cp.2.1).cs).below a5, hne.1, hne.2⟩
        clear HR
        have X1 : Hid (∀ (w3 : World), LS W W.heap.size w3 b c → ∀ ob, LS W W.heap.size (w3.alloc ob) b c) := fun w3 q ob => q.below ((Below.refl _ _).alloc (Nat.le_refl _) ob)
        go_upto_region 11 with (first | (go_at_call 19; refine TD.out.mono ?_; rintro e w3 ⟨rfl, q3, q4⟩; have L3 := hid q3; have O3 := hid (OU.out _ (X1.out _ q3 (.cells #[.int .i64 c.st, .int .i64 c.gen, .int .i64 c.tk, .int .i64 c.fails, .int .i64 (tnx c)] 57))); clear q3 q4) | (go_at_call 20; refine O3.out.mono ?_; rintro e w4 ⟨op, on, oq, om, rfl, cp, q5⟩; have S4 := hid (SK0.out w3 w4 op on oq om L3.out cp); clear cp q5))
        generalize hV : w4.alloc _ = V at *
        generalize hq8 : w3.heap.size = q8 at *
        generalize hq9 : w4.heap.size = q9 at *
        clear hV hq8 hq9 TD O3 L3 SK0
        have CB8 : Hid (∀ w', SK W w' b c q8 q9 op on oq om → (w'.cell? ⟨q8, 0, none⟩ = some (.int .i64 c.st) ∧ w'.cell? ⟨q8, 1, none⟩ = some (.int .i64 c.gen) ∧ w'.cell? ⟨q8, 2, none⟩ = some (.int .i64 c.tk) ∧ w'.cell? ⟨q8, 3, none⟩ = some (.int .i64 c.fails) ∧ w'.cell? ⟨q8, 4, none⟩ = some (.int .i64 (tnx c))) ∧ (w'.cell? ⟨q9, 0, none⟩ = some (.int .i64 c.out.kind) ∧ w'.cell? ⟨q9, 1, none⟩ = some (.slice op c.out.val.length on) ∧ w'.cell? ⟨q9, 2, none⟩ = some (.slice oq c.out.fl.length om))) := fun w' s => ⟨⟨cell_of_row _ _ _ _ _ _ s.h8, cell_of_row _ _ _ _ _ _ s.h8, cell_of_row _ _ _ _ _ _ s.h8, cell_of_row _ _ _ _ _ _ s.h8, cell_of_row _ _ _ _ _ _ s.h8⟩, ⟨cell_of_row _ _ _ _ _ _ s.h9, cell_of_row _ _ _ _ _ _ s.h9, cell_of_row _ _ _ _ _ _ s.h9⟩⟩
        go_cut [11] from 27 to 132 (fun v11 wx => v11 = .bool (stB c) ∧ wx = V)
        case first =>
          obtain ⟨⟨a0, a1, a2, a3, a4⟩, a5, a6, a7⟩ := CB8.out V S4.out
          obtain ⟨_, kb1, _, _, _⟩ := KB.out V S4.out.ls.bl
          have HS : Hid (stB c = (decide (c.st = 3) || (decide (c.st = 4) && (decide (c.out.kind = 3) || decide (pt ≤ c.fails))))) := by show _ = _; unfold stB; rw [CP.out]
          generalize stB c = sb at *
          generalize c.st = st at *
          generalize c.out.kind = ok at *
          generalize c.fails = fa at *
          by_cases h3 : st = 3
          · subst h3
            go_wp2_with fail
            go_meet
            case rel => exact ⟨by rw [HS.out]; simp, rfl⟩
          · have h3b : (st == 3) = false := by simpa using h3
            by_cases h4 : st = 4
            · subst h4
              by_cases h5 : ok = 3
              · subst h5
                go_wp2_with fail
                go_meet
                case rel => exact ⟨by rw [HS.out]; simp, rfl⟩
              · have h5b : (ok == 3) = false := by simpa using h5
                by_cases h6 : pt ≤ fa
                · go_wp2_with fail
                  go_meet
                  case rel => exact ⟨by rw [HS.out]; simp [h5, h6], rfl⟩
                · have h6b : ¬ fa ≥ pt := h6
                  go_wp2_with fail
                  go_meet
                  case rel => exact ⟨by rw [HS.out]; simp [h5]; omega, rfl⟩
            · have h4b : (st == 4) = false := by simpa using h4
              go_wp2_with fail
              go_meet
              case rel => exact ⟨by rw [HS.out]; simp [h3, h4], rfl⟩
        case rest =>
          obtain ⟨rfl, rfl⟩ := hcut
          have HAk := hid (HA.out.below S4.out.ls.bl)
          obtain ⟨X, o, e1, y0, y1, y2, y3, y4, y5⟩ := HAk.out.cells (k := k) (by rw [← HN.out]; exact hlt)
          obtain rfl : pa = some ⟨X, o, none⟩ := e1
          have OX := hid (HAk.out.ok _ (List.getElem_mem (show k < l.length by rw [← HN.out]; exact hlt)))
          obtain ⟨x, hx⟩ : ∃ x, x = l[k]'(by rw [← HN.out]; exact hlt) := ⟨_, rfl⟩
          rw [← hx] at y0 y1 y2 y3 y4 y5 OX
          clear hx HAk
          have hbl := S4.out.ls.lt
          have LA : Hid (∀ ob, LS W W.heap.size (wc.alloc ob) b c) := fun ob => S4.out.ls.below ((Below.refl _ _).alloc (Nat.le_refl _) ob)
          have SA : Hid (∀ ob, SK W (wc.alloc ob) b c q8 q9 op on oq om) := fun ob => S4.out.below ((Below.refl _ _).alloc (Nat.le_refl _) ob)
          have AM := fun w' => among_any x.kind w'
          have am := amF_bd x.kind
          clear HA
          generalize amF x.kind = r at *
          have hr : r = 0 ∨ r = 1 ∨ r = 2 ∨ r = 3 ∨ r = 4 := by omega
          clear am
          generalize hsb : stB c = sb at *
          have HSB := hid hsb
          clear hsb
          go_upto_block 2 with (go_at_call 9; refine (AM _).mono ?_; rintro e w' ⟨rfl, rfl⟩)
          generalize hV : wc.alloc _ = V
          have SV : Hid (SK W V b c q8 q9 op on oq om) := by rw [← hV]; exact SA.out _
          have LV : Hid (LS W W.heap.size V b c) := by rw [← hV]; exact LA.out _
          have BC : Hid (∀ w', Bu b V w' → w'.cell? ⟨wc.heap.size, 1, none⟩ = some (.int .i64 x.tk) ∧ w'.cell? ⟨wc.heap.size, 2, none⟩ = some (.int .i64 x.at_) ∧ w'.cell? ⟨wc.heap.size, 3, none⟩ = some (.int .i64 x.ok) ∧ w'.cell? ⟨wc.heap.size, 4, none⟩ = some (.slice x.vp x.val.length x.vc) ∧ w'.cell? ⟨wc.heap.size, 5, none⟩ = some (.slice x.fp x.fl.length x.fc)) := fun w' kk => by rw [← hV] at kk; exact ⟨box_bu hbl kk rfl, box_bu hbl kk rfl, box_bu hbl kk rfl, box_bu hbl kk rfl, box_bu hbl kk rfl⟩
          have OV : Hid (∀ w', Below V.heap.size V w' → OkO w' x.o (.slice x.vp x.val.length x.vc) (.slice x.fp x.fl.length x.fc)) := fun w' kk => by rw [← hV] at kk; exact (OX.out.below ((Below.refl _ _).alloc (Nat.le_refl _) _)).below kk
          clear hV
          clear y0 y1 y2 y3 y4 y5 SA LA S4
          go_cut [] from 27 to 132 (fun wx => ∃ (c2 : Ce) (w6 : World), w6 = wx ∧ Hid (LS W W.heap.size w6 b c2 ∧ c2.p = ⟨pt, pb, pf, pc⟩ ∧ (sb = true → c2 = c) ∧ Bu b V w6))
          case first =>
            obtain ⟨v1, v2, v3, v4, v5⟩ := BC.out V (Bu.refl _ _)
            rcases hr with rfl | rfl | rfl | rfl | rfl
            · have CB : Hid (Calls Tryd.prog 11 #[.pointer (some ⟨b, 0, none⟩), .int .i64 x.tk, .int .i64 x.at_] V fun e w' => (∃ u, e = .returned u) ∧ LS W W.heap.size w' b (begX c x.tk x.at_) ∧ Bu b V w') := (begin_ls LV.out x.tk x.at_).mono (fun e w' q => ⟨⟨_, q.1⟩, q.2⟩)
              go_wp2_with (go_at_call 11; refine CB.out.mono ?_; rintro e w6 ⟨⟨u6, rfl⟩, q1, q2⟩; have L6 := hid q1; have U6 := hid q2; clear q1 q2)
              go_meet
              case rel => exact ⟨_, _, rfl, ⟨L6.out, by rw [begX_p]; exact CP.out, fun q => st_beg (by rw [HSB.out]; exact q) _ _, U6.out⟩⟩
            · obtain ⟨er, her⟩ : ∃ er, er = endE c x.tk x.o x.at_ := ⟨_, rfl⟩
              have HER : Hid (endE c x.tk x.o x.at_ = er) := her.symm
              obtain ⟨c2, hc2⟩ : ∃ c2, c2 = endX c x.tk x.o x.at_ := ⟨_, rfl⟩
              have HC2 : Hid (endX c x.tk x.o x.at_ = c2) := hc2.symm
              have C2P : Hid (c2.p = ⟨pt, pb, pf, pc⟩) := by show _ = _; rw [hc2, endX_p]; exact CP.out
              have C2S : Hid (sb = true → c2 = c) := fun q => by rw [hc2]; exact st_end (by rw [HSB.out]; exact q) _ _ _
              clear her hc2
              go_wp2_with fail
              have BR : Hid (Below V.heap.size V V) := Below.refl _ _
              have BD : Hid (Below V.heap.size V V.drew) := (Below.refl _ _).drew
              have CO : Hid (∀ w', Below V.heap.size V w' → Calls Tryd.prog 17 #[.agg #[.int .i64 x.ok, .slice x.vp x.val.length x.vc, .slice x.fp x.fl.length x.fc]] w' fun e w'' => ∃ p n q m, e = .returned (.agg #[.int .i64 x.ok, .slice p x.val.length n, .slice q x.fl.length m]) ∧ CpR w' x.o w'' (.slice p x.val.length n) (.slice q x.fl.length m)) := fun w' kk => copyOut_any w' x.o _ _ (OV.out w' kk).sv (OV.out w' kk).sf OX.out.l1 OX.out.l2
              have EN : Hid (∀ w' w5 v f, Below V.heap.size V w' → CpR w' x.o w5 v f → (Bu b V w5) ∧ Calls Tryd.prog 16 #[.pointer (some ⟨b, 0, none⟩), .int .i64 x.tk, .agg #[.int .i64 x.ok, v, f], .int .i64 x.at_] w5 fun e w6 => e = .returned (.int .i64 er) ∧ LS W W.heap.size w6 b c2 ∧ Bu b V w6) := fun w' w5 v f kk cp => by
                have b5 : Below V.heap.size V w5 := kk.trans (cp.2.2.mono kk.size)
                have hne := cp_ne cp (b := b) (by have := LV.out.lt; have := kk.size; omega)
                refine ⟨Bu.of b5, (end_ls (LV.out.below b5) x.tk x.at_ x.o v f (cp_ok cp OX.out) hne.1 hne.2).mono (fun e w6 q => ?_)⟩
                rw [HER.out, HC2.out] at q
                exact ⟨q.1, q.2.1, (Bu.of b5).trans q.2.2⟩
              go_region_held3 (fun w' => w'.cell? ⟨wc.heap.size, 1, none⟩ = some (.int .i64 x.tk) ∧ w'.cell? ⟨wc.heap.size, 2, none⟩ = some (.int .i64 x.at_) ∧ w'.cell? ⟨wc.heap.size, 3, none⟩ = some (.int .i64 x.ok) ∧ w'.cell? ⟨wc.heap.size, 4, none⟩ = some (.slice x.vp x.val.length x.vc) ∧ w'.cell? ⟨wc.heap.size, 5, none⟩ = some (.slice x.fp x.fl.length x.fc)) (go_keep) (first
                | (go_at_call 17; refine Calls.mono (CO.out _ ?_) ?_; (first | exact BR.out | exact BD.out); rintro e w5 ⟨p7, n7, q7, m7, rfl, cp⟩; have ee := EN.out _ w5 _ _ (by first | exact BR.out | exact BD.out) cp; obtain ⟨s1', s2', s3', s4', s5'⟩ := BC.out w5 ee.1; have E5 := hid ee.2; clear cp ee)
                | (go_at_call 16; refine Calls.mono E5.out ?_; rintro e w6 ⟨rfl, q1, q2⟩; obtain ⟨t1', t2', t3', t4', t5'⟩ := BC.out w6 q2; have L6 := hid q1; have U6 := hid q2; clear q1 q2))
              all_goals
                go_wp2_with fail
                go_meet
                case rel => first | exact ⟨_, _, rfl, ⟨L6.out, C2P.out, C2S.out, U6.out⟩⟩ | exact ⟨_, _, rfl, ⟨L6.out.below (drew_below _ _), C2P.out, C2S.out, U6.out.trans (Bu.of (drew_below _ _))⟩⟩
            · have CB : Hid (Calls Tryd.prog 12 #[.pointer (some ⟨b, 0, none⟩), .int .i64 x.at_] V fun e w' => e = .returned (.int .i64 (resE c x.at_)) ∧ LS W W.heap.size w' b (resX c x.at_) ∧ Bu b V w') := reset_ls LV.out x.at_
              rcases res_tr c x.at_ with ⟨f1, f2⟩ | ⟨f1, f2, f3⟩
              · rw [f2] at CB
                have f5 : (resE c x.at_ == 0) = false := by simpa using f1
                generalize resE c x.at_ = er at *
                clear f1 f2
                go_wp2_with (go_at_call 12; refine CB.out.mono ?_; rintro e w6 ⟨rfl, q1, q2⟩; have L6 := hid q1; have U6 := hid q2; clear q1 q2)
                go_meet
                case rel => exact ⟨_, _, rfl, ⟨L6.out, CP.out, fun _ => rfl, U6.out⟩⟩
              · rw [f1] at CB
                obtain ⟨c2, hc2⟩ : ∃ c2, c2 = resX c x.at_ := ⟨_, rfl⟩
                have C2P : Hid (c2.p = ⟨pt, pb, pf, pc⟩) := by show _ = _; rw [hc2, resX_p]; exact CP.out
                rw [← hc2] at CB
                clear f1 f2 f3 hc2
                go_wp2_with (go_at_call 12; refine CB.out.mono ?_; rintro e w6 ⟨rfl, q1, q2⟩; have L6 := hid q1; clear q1 q2)
                all_goals
                  go_roundw
                  case rel => first | exact ⟨k + 1, c2, _, by go_num, rfl, by omega, ⟨L6.out, C2P.out⟩⟩ | ((repeat apply Exists.intro); exact ⟨⟨k + 1, c2, _, by go_num, rfl, by omega, ⟨L6.out, C2P.out⟩⟩, rfl⟩)
                  case measure => simp [intOf]; omega
            · have CB : Hid (Calls Tryd.prog 18 #[.pointer (some ⟨b, 0, none⟩)] V fun e w' => e = .returned (.int .i64 (cloE c)) ∧ LS W W.heap.size w' b (cloX c) ∧ Bu b V w') := close_ls LV.out
              rcases clo_tr c with ⟨f1, f2⟩ | ⟨f1, f2, f3⟩
              · rw [f2] at CB
                have f5 : (cloE c == 0) = false := by simpa using f1
                generalize cloE c = er at *
                clear f1 f2
                go_wp2_with (go_at_call 18; refine CB.out.mono ?_; rintro e w6 ⟨rfl, q1, q2⟩; have L6 := hid q1; have U6 := hid q2; clear q1 q2)
                go_meet
                case rel => exact ⟨_, _, rfl, ⟨L6.out, CP.out, fun _ => rfl, U6.out⟩⟩
              · rw [f1] at CB
                obtain ⟨c2, hc2⟩ : ∃ c2, c2 = cloX c := ⟨_, rfl⟩
                have C2P : Hid (c2.p = ⟨pt, pb, pf, pc⟩) := by show _ = _; rw [hc2, cloX_p]; exact CP.out
                rw [← hc2] at CB
                clear f1 f2 f3 hc2
                go_wp2_with (go_at_call 18; refine CB.out.mono ?_; rintro e w6 ⟨rfl, q1, q2⟩; have L6 := hid q1; clear q1 q2)
                all_goals
                  go_roundw
                  case rel => first | exact ⟨k + 1, c2, _, by go_num, rfl, by omega, ⟨L6.out, C2P.out⟩⟩ | ((repeat apply Exists.intro); exact ⟨⟨k + 1, c2, _, by go_num, rfl, by omega, ⟨L6.out, C2P.out⟩⟩, rfl⟩)
                  case measure => simp [intOf]; omega
            · go_wp2_with fail
              go_meet
              case rel => exact ⟨c, _, rfl, ⟨LV.out, CP.out, fun _ => rfl, Bu.refl _ _⟩⟩
          case rest =>
            obtain ⟨c2, w6, rfl, HC⟩ := hcut
            cases sb with
            | false =>
              clear CB8 SV OU BC OV OX
              have L6 := hid HC.out.1
              have C2P := hid HC.out.2.1
              go_wp2_with fail
              all_goals
                go_roundw
                case rel => first | exact ⟨k + 1, c2, _, by go_num, rfl, by omega, ⟨L6.out, C2P.out⟩⟩ | ((repeat apply Exists.intro); exact ⟨⟨k + 1, c2, _, by go_num, rfl, by omega, ⟨L6.out, C2P.out⟩⟩, rfl⟩)
                case measure => simp [intOf]; omega
            | true =>
              have e2 : c2 = c := HC.out.2.2.1 rfl
              have TL := hid (fun n h0 h1 => st_tell HSB.out (n := n) h0 h1)
              have L6 : Hid (LS W W.heap.size w6 b c) := by rw [← e2]; exact HC.out.1
              have S6 := hid (SV.out.bu HC.out.2.2.2 L6.out)
              have A6 := hid (BC.out w6 HC.out.2.2.2).2.1
              have hlen := out_len L6.out.ci.out
              clear HC BC OV OX SV LV HSB e2
              go_wp2_with (go_at_call 20; refine (OU.out _ L6.out).mono ?_; rintro e w8 ⟨np, nn, nq, nm, rfl, cp8, q8'⟩; have CP8 := hid cp8; have SV8 : Hid (∀ ob, SK W (w8.alloc ob) b c q8 q9 op on oq om) := (fun ob => (S6.out.below cp8.2.2).below ((Below.refl _ _).alloc (Nat.le_refl _) ob)); have AV8 : Hid (∀ ob, (w8.alloc ob).cell? ⟨wc.heap.size, 2, none⟩ = some (.int .i64 x.at_)) := (fun ob => by have z1 := (cp8.2.2.cell (p := ⟨wc.heap.size, 2, none⟩) (block_lt_of_cell A6.out)).trans A6.out; exact (((Below.refl w8.heap.size w8).alloc (Nat.le_refl _) ob).cell (p := ⟨wc.heap.size, 2, none⟩) (block_lt_of_cell z1)).trans z1); clear cp8 q8')
              generalize hV8 : w8.alloc _ = V8
              have S8 : Hid (SK W V8 b c q8 q9 op on oq om) := by rw [← hV8]; exact SV8.out _
              have H13 : Hid (V8.heap[w8.heap.size]? = some (.cells #[.int .i64 c.out.kind, .slice np c.out.val.length nn, .slice nq c.out.fl.length nm] 36)) := by rw [← hV8]; exact heap_alloc_new w8 _
              have NV8 : Hid (AS V8 (.slice np c.out.val.length nn) c.out.val ∧ CS V8 (.slice nq c.out.fl.length nm) c.out.fl) := by rw [← hV8]; exact ⟨(CP8.out.1.gs KA_ok.len).below ((Below.refl _ _).alloc (Nat.le_refl _) _), ((ownC_g CP8.out.2.1).cs).below ((Below.refl _ _).alloc (Nat.le_refl _) _)⟩
              have A8 : Hid (V8.cell? ⟨wc.heap.size, 2, none⟩ = some (.int .i64 x.at_)) := by rw [← hV8]; exact AV8.out _
              generalize hq13 : w8.heap.size = q13 at *
              clear hV8 SV8 CP8 AV8 hq13
              have KS8 : Hid (∀ w', Below V8.heap.size V8 w' → ((w'.cell? ⟨q8, 0, none⟩ = some (.int .i64 c.st) ∧ w'.cell? ⟨q8, 1, none⟩ = some (.int .i64 c.gen) ∧ w'.cell? ⟨q8, 2, none⟩ = some (.int .i64 c.tk) ∧ w'.cell? ⟨q8, 3, none⟩ = some (.int .i64 c.fails) ∧ w'.cell? ⟨q8, 4, none⟩ = some (.int .i64 (tnx c))) ∧ (w'.cell? ⟨q9, 0, none⟩ = some (.int .i64 c.out.kind) ∧ w'.cell? ⟨q9, 1, none⟩ = some (.slice op c.out.val.length on) ∧ w'.cell? ⟨q9, 2, none⟩ = some (.slice oq c.out.fl.length om))) ∧ (w'.cell? ⟨q13, 0, none⟩ = some (.int .i64 c.out.kind) ∧ w'.cell? ⟨q13, 1, none⟩ = some (.slice np c.out.val.length nn) ∧ w'.cell? ⟨q13, 2, none⟩ = some (.slice nq c.out.fl.length nm)) ∧ w'.cell? ⟨wc.heap.size, 2, none⟩ = some (.int .i64 x.at_)) := fun w' kk => by
                have h13 := (kk.block q13 (lt_of_heap H13.out)).trans H13.out
                exact ⟨CB8.out w' (S8.out.below kk), ⟨cell_of_row _ _ _ _ _ _ h13, cell_of_row _ _ _ _ _ _ h13, cell_of_row _ _ _ _ _ _ h13⟩, (kk.cell (p := ⟨wc.heap.size, 2, none⟩) (block_lt_of_cell A8.out)).trans A8.out⟩
              have T8 : Hid (∀ w', Below V8.heap.size V8 w' → Calls Tryd.prog 19 #[.pointer (some ⟨b, 0, none⟩)] w' fun e w'' => e = .returned (.agg #[.int .i64 c.st, .int .i64 c.gen, .int .i64 c.tk, .int .i64 c.fails, .int .i64 (tnx c)]) ∧ Below V8.heap.size V8 w'') := fun w' kk => (told_ls (S8.out.below kk).ls).mono (fun e w'' q => ⟨q.1, kk.trans (q.2.2.mono kk.size)⟩)
              have D8 : Hid (∀ w', Below V8.heap.size V8 w' → Calls Tryd.prog 21 #[.agg #[.int .i64 c.out.kind, .slice np c.out.val.length nn, .slice nq c.out.fl.length nm], .agg #[.int .i64 c.out.kind, .slice op c.out.val.length on, .slice oq c.out.fl.length om]] w' fun e w'' => e = .returned (.bool true) ∧ Below V8.heap.size V8 w'') := fun w' kk => (sameOut_same w' c.out np nn nq nm op on oq om (NV8.out.1.below kk) (NV8.out.2.below kk) (S8.out.below kk).sv (S8.out.below kk).sf (by omega) (by omega)).mono (fun e w'' q => ⟨q.1, kk.trans (q.2.mono kk.size)⟩)
              have K8 : Hid (∀ w', Below V8.heap.size V8 w' → Calls Tryd.prog 22 #[.pointer (some ⟨b, 0, none⟩), .int .i64 x.at_] w' fun e w'' => e = .returned (.int .i64 (askC c x.at_)) ∧ Below V8.heap.size V8 w'') := fun w' kk => (ask_ls (S8.out.below kk).ls x.at_).mono (fun e w'' q => ⟨q.1, kk.trans (q.2.2.mono kk.size)⟩)
              have BR8 : Hid (Below V8.heap.size V8 V8) := Below.refl _ _
              have BD8 : Hid (Below V8.heap.size V8 V8.drew) := (Below.refl _ _).drew
              have FL8 : Hid (∀ w', Below V8.heap.size V8 w' → LS W W.heap.size w' b c) := fun w' kk => (S8.out.below kk).ls
              obtain ⟨⟨⟨a0, a1, a2, a3, a4⟩, a5, a6, a7⟩, ⟨a8, a9, a10⟩, a11⟩ := KS8.out V8 BR8.out
              clear S8 H13 NV8 A8 CB8
              generalize c.st = st at *
              generalize c.gen = gn at *
              generalize c.tk = tkk at *
              generalize c.fails = fa at *
              generalize tnx c = nx at *
              generalize c.out.kind = okk at *
              generalize c.out.val.length = lv at *
              generalize c.out.fl.length = lf at *
              generalize x.at_ = xa at *
              by_cases h0 : 0 ≤ xa
              · by_cases h1 : xa ≤ 1099511627776
                · have ka := TL.out xa h0 h1
                  rw [ka] at K8
                  clear ka TL
                  go_region_held3 (fun w' => ((w'.cell? ⟨q8, 0, none⟩ = some (.int .i64 st) ∧ w'.cell? ⟨q8, 1, none⟩ = some (.int .i64 gn) ∧ w'.cell? ⟨q8, 2, none⟩ = some (.int .i64 tkk) ∧ w'.cell? ⟨q8, 3, none⟩ = some (.int .i64 fa) ∧ w'.cell? ⟨q8, 4, none⟩ = some (.int .i64 nx)) ∧ (w'.cell? ⟨q9, 0, none⟩ = some (.int .i64 okk) ∧ w'.cell? ⟨q9, 1, none⟩ = some (.slice op lv on) ∧ w'.cell? ⟨q9, 2, none⟩ = some (.slice oq lf om))) ∧ (w'.cell? ⟨q13, 0, none⟩ = some (.int .i64 okk) ∧ w'.cell? ⟨q13, 1, none⟩ = some (.slice np lv nn) ∧ w'.cell? ⟨q13, 2, none⟩ = some (.slice nq lf nm)) ∧ w'.cell? ⟨wc.heap.size, 2, none⟩ = some (.int .i64 xa)) (go_keep) (first
                    | (go_at_call 19; refine Calls.mono (T8.out _ ?_) ?_; (first | exact BR8.out | exact BD8.out); rintro e w9 ⟨rfl, kk9⟩; obtain ⟨⟨⟨b0, b1, b2, b3, b4⟩, b5, b6, b7⟩, ⟨b8, b9, b10⟩, b11⟩ := KS8.out w9 kk9; have B9 := hid kk9; clear kk9)
                    | (go_at_call 21; refine Calls.mono (D8.out _ B9.out) ?_; rintro e w10 ⟨rfl, kk10⟩; obtain ⟨⟨⟨d0, d1, d2, d3, d4⟩, d5, d6, d7⟩, ⟨d8, d9, d10⟩, d11⟩ := KS8.out w10 kk10; have B10 := hid kk10; clear kk10)
                    | (go_at_call 22; refine Calls.mono (K8.out _ B10.out) ?_; rintro e w11 ⟨rfl, kk11⟩; obtain ⟨⟨⟨f0, f1, f2, f3, f4⟩, f5, f6, f7⟩, ⟨f8, f9, f10⟩, f11⟩ := KS8.out w11 kk11; have B11 := hid kk11; clear kk11))
                  all_goals
                    go_wp2_with fail
                  all_goals
                    go_roundw
                    case rel => first | exact ⟨k + 1, c, _, by go_num, rfl, by omega, ⟨by first | exact FL8.out _ B11.out | exact FL8.out _ B10.out, CP.out⟩⟩ | ((repeat apply Exists.intro); exact ⟨⟨k + 1, c, _, by go_num, rfl, by omega, ⟨by first | exact FL8.out _ B11.out | exact FL8.out _ B10.out, CP.out⟩⟩, rfl⟩)
                    case measure => simp [intOf]; omega
                · clear TL K8
                  have hd1 : decide (xa ≤ 1099511627776) = false := by simpa using h1
                  have hd2 : (1099511627776 : Int) < xa := by omega
                  refine wp_region_held_drew (S := (fun w' => ((w'.cell? ⟨q8, 0, none⟩ = some (.int .i64 st) ∧ w'.cell? ⟨q8, 1, none⟩ = some (.int .i64 gn) ∧ w'.cell? ⟨q8, 2, none⟩ = some (.int .i64 tkk) ∧ w'.cell? ⟨q8, 3, none⟩ = some (.int .i64 fa) ∧ w'.cell? ⟨q8, 4, none⟩ = some (.int .i64 nx)) ∧ (w'.cell? ⟨q9, 0, none⟩ = some (.int .i64 okk) ∧ w'.cell? ⟨q9, 1, none⟩ = some (.slice op lv on) ∧ w'.cell? ⟨q9, 2, none⟩ = some (.slice oq lf om))) ∧ (w'.cell? ⟨q13, 0, none⟩ = some (.int .i64 okk) ∧ w'.cell? ⟨q13, 1, none⟩ = some (.slice np lv nn) ∧ w'.cell? ⟨q13, 2, none⟩ = some (.slice nq lf nm)) ∧ w'.cell? ⟨wc.heap.size, 2, none⟩ = some (.int .i64 xa))) (by kernel_rfl) ?_ (fun hHeld => ?_)
                  · exact KS8.out _ BD8.out
                  refine wpAnyH_take (i := 0) (oi := { dst := some 106, op := Op.move (Operand.tmp 5), type := 27, pos := "law.go:199", after := #[], guard := none }) (v := ?_) rfl (by kernel_rfl) (by kernel_rfl) (by kernel_rfl) (fun _ _ _ h => h) (Or.inl ⟨by rfl, ?_⟩) (by assumption) ?_
                  rotate_left
                  · intro w hSw
                    try dsimp only at hSw
                    go_simp
                    try with_reducible rfl
                  try simp only [Act.put, List.setIfInBounds_toArray, List.set_cons_zero, List.set_cons_succ]
                  refine wpAnyH_take (i := 2) (oi := { dst := some 108, op := Op.load 57 (Operand.tmp 8), type := 57, pos := "law.go:199", after := #[], guard := none }) (v := ?_) rfl (by kernel_rfl) (by kernel_rfl) (by kernel_rfl) (fun _ _ _ h => h) (Or.inl ⟨by rfl, ?_⟩) (by assumption) ?_
                  rotate_left
                  · intro w hSw
                    try dsimp only at hSw
                    go_simp
                    try with_reducible rfl
                  try simp only [Act.put, List.setIfInBounds_toArray, List.set_cons_zero, List.set_cons_succ]
                  refine wpAnyH_ready (rs := [1]) (by kernel_rfl) (by simp) ?_
                  refine AllReadyH.cons (o := { dst := some 107, op := Op.call { callee := Callee.value (Operand.func 19), args := #[Operand.tmp 106], argTypes := #[27] }, type := 57, pos := "law.go:199", after := #[{ on := 0, ground := Ground.data }], guard := none }) rfl (fun K hK => ?_) AllReadyH.nil
                  go_simp
                  go_at_call 19
                  refine Calls.mono (T8.out _ BD8.out) ?_
                  rintro e w9 ⟨rfl, kk9⟩
                  have B9 := hid kk9
                  clear kk9
                  go_wp2_with fail
                  refine hK.out _ _ ?_ (fun hHeld => ?_)
                  · exact KS8.out _ B9.out
                  clear hK K
                  try simp only [Act.put, List.setIfInBounds_toArray, List.set_cons_zero, List.set_cons_succ]
                  refine wpAnyH_take (i := 3) (oi := { dst := some 109, op := Op.binOp BinOp.neq 57 (Operand.tmp 107) (Operand.tmp 108) 57, type := 4, pos := "law.go:199", after := #[{ on := 1, ground := Ground.data }, { on := 2, ground := Ground.data }], guard := none }) (v := ?_) rfl (by kernel_rfl) (by kernel_rfl) (by kernel_rfl) (fun _ _ _ h => h) (Or.inl ⟨by rfl, ?_⟩) (by assumption) ?_
                  rotate_left
                  · intro w hSw
                    try dsimp only at hSw
                    go_simp
                    try with_reducible rfl
                  try simp only [Act.put, List.setIfInBounds_toArray, List.set_cons_zero, List.set_cons_succ]
                  refine wpAnyH_take (i := 4) (oi := { dst := some 110, op := Op.move (Operand.tmp 109), type := 4, pos := "law.go:199", after := #[{ on := 3, ground := Ground.data }, { on := 1, ground := Ground.chain }], guard := none }) (v := ?_) rfl (by kernel_rfl) (by kernel_rfl) (by kernel_rfl) (fun _ _ _ h => h) (Or.inl ⟨by rfl, ?_⟩) (by assumption) ?_
                  rotate_left
                  · intro w hSw
                    try dsimp only at hSw
                    go_simp
                    try with_reducible rfl
                  try simp only [Act.put, List.setIfInBounds_toArray, List.set_cons_zero, List.set_cons_succ]
                  refine wpAnyH_take (i := 5) (oi := { dst := some 111, op := Op.load 36 (Operand.tmp 13), type := 36, pos := "law.go:199", after := #[{ on := 4, ground := Ground.guard }], guard := some (4, false) }) (v := ?_) rfl (by kernel_rfl) (by kernel_rfl) (by kernel_rfl) (fun _ _ _ h => h) (Or.inl ⟨by rfl, ?_⟩) (by assumption) ?_
                  rotate_left
                  · intro w hSw
                    try dsimp only at hSw
                    go_simp
                    try with_reducible rfl
                  try simp only [Act.put, List.setIfInBounds_toArray, List.set_cons_zero, List.set_cons_succ]
                  refine wpAnyH_take (i := 6) (oi := { dst := some 112, op := Op.load 36 (Operand.tmp 9), type := 36, pos := "law.go:199", after := #[{ on := 4, ground := Ground.guard }], guard := some (4, false) }) (v := ?_) rfl (by kernel_rfl) (by kernel_rfl) (by kernel_rfl) (fun _ _ _ h => h) (Or.inl ⟨by rfl, ?_⟩) (by assumption) ?_
                  rotate_left
                  · intro w hSw
                    try dsimp only at hSw
                    go_simp
                    try with_reducible rfl
                  try simp only [Act.put, List.setIfInBounds_toArray, List.set_cons_zero, List.set_cons_succ]
                  refine wpAnyH_ready (rs := [7]) (by kernel_rfl) (by simp) ?_
                  refine AllReadyH.cons (o := { dst := some 113, op := Op.call { callee := Callee.value (Operand.func 21), args := #[Operand.tmp 111, Operand.tmp 112], argTypes := #[36, 36] }, type := 4, pos := "law.go:199", after := #[{ on := 5, ground := Ground.data }, { on := 6, ground := Ground.data }, { on := 4, ground := Ground.chain }, { on := 4, ground := Ground.guard }], guard := some (4, false) }) rfl (fun K hK => ?_) AllReadyH.nil
                  go_simp
                  go_at_call 21
                  refine Calls.mono (D8.out _ B9.out) ?_
                  rintro e w10 ⟨rfl, kk10⟩
                  have B10 := hid kk10
                  clear kk10
                  go_wp2_with fail
                  refine hK.out _ _ ?_ (fun hHeld => ?_)
                  · exact KS8.out _ B10.out
                  clear hK K
                  try simp only [Act.put, List.setIfInBounds_toArray, List.set_cons_zero, List.set_cons_succ]
                  refine wpAnyH_take (i := 8) (oi := { dst := some 114, op := Op.unOp UnOp.not 4 (Operand.tmp 113), type := 4, pos := "law.go:199", after := #[{ on := 7, ground := Ground.data }, { on := 4, ground := Ground.guard }], guard := some (4, false) }) (v := ?_) rfl (by kernel_rfl) (by kernel_rfl) (by kernel_rfl) (fun _ _ _ h => h) (Or.inl ⟨by rfl, ?_⟩) (by assumption) ?_
                  rotate_left
                  · intro w hSw
                    try dsimp only at hSw
                    go_simp
                    try with_reducible rfl
                  try simp only [Act.put, List.setIfInBounds_toArray, List.set_cons_zero, List.set_cons_succ]
                  refine wpAnyH_take (i := 9) (oi := { dst := some 115, op := Op.pick (Operand.tmp 110) (Operand.const (Value.bool true)) (Operand.tmp 114), type := 4, pos := "law.go:199", after := #[{ on := 4, ground := Ground.data }, { on := 8, ground := Ground.data }], guard := none }) (v := ?_) rfl (by kernel_rfl) (by kernel_rfl) (by kernel_rfl) (fun _ _ _ h => h) (Or.inl ⟨by rfl, ?_⟩) (by assumption) ?_
                  rotate_left
                  · intro w hSw
                    try dsimp only at hSw
                    go_simp
                    try with_reducible rfl
                  try simp only [Act.put, List.setIfInBounds_toArray, List.set_cons_zero, List.set_cons_succ]
                  refine wpAnyH_take (i := 10) (oi := { dst := some 116, op := Op.move (Operand.tmp 115), type := 4, pos := "law.go:199", after := #[{ on := 9, ground := Ground.data }, { on := 7, ground := Ground.chain }], guard := none }) (v := ?_) rfl (by kernel_rfl) (by kernel_rfl) (by kernel_rfl) (fun _ _ _ h => h) (Or.inl ⟨by rfl, ?_⟩) (by assumption) ?_
                  rotate_left
                  · intro w hSw
                    try dsimp only at hSw
                    go_simp
                    try with_reducible rfl
                  try simp only [Act.put, List.setIfInBounds_toArray, List.set_cons_zero, List.set_cons_succ]
                  refine wpAnyH_take (i := 11) (oi := { dst := some 117, op := Op.fieldAddr 43 (Operand.tmp 12) 2, type := 0, pos := "law.go:199", after := #[{ on := 10, ground := Ground.guard }], guard := some (10, false) }) (v := ?_) rfl (by kernel_rfl) (by kernel_rfl) (by kernel_rfl) (fun _ _ _ h => h) (Or.inl ⟨by rfl, ?_⟩) (by assumption) ?_
                  rotate_left
                  · intro w hSw
                    try dsimp only at hSw
                    go_simp
                    try with_reducible rfl
                  try simp only [Act.put, List.setIfInBounds_toArray, List.set_cons_zero, List.set_cons_succ]
                  refine wpAnyH_take (i := 12) (oi := { dst := some 118, op := Op.load 3 (Operand.tmp 117), type := 3, pos := "law.go:199", after := #[{ on := 11, ground := Ground.data }, { on := 10, ground := Ground.guard }], guard := some (10, false) }) (v := ?_) rfl (by kernel_rfl) (by kernel_rfl) (by kernel_rfl) (fun _ _ _ h => h) (Or.inl ⟨by rfl, ?_⟩) (by assumption) ?_
                  rotate_left
                  · intro w hSw
                    try dsimp only at hSw
                    go_simp
                    try with_reducible rfl
                  try simp only [Act.put, List.setIfInBounds_toArray, List.set_cons_zero, List.set_cons_succ]
                  refine wpAnyH_take (i := 13) (oi := { dst := some 119, op := Op.binOp BinOp.geq 3 (Operand.tmp 118) (Operand.const (Value.int IntKind.i64 0)) 3, type := 4, pos := "law.go:199", after := #[{ on := 12, ground := Ground.data }, { on := 10, ground := Ground.guard }], guard := some (10, false) }) (v := ?_) rfl (by kernel_rfl) (by kernel_rfl) (by kernel_rfl) (fun _ _ _ h => h) (Or.inl ⟨by rfl, ?_⟩) (by assumption) ?_
                  rotate_left
                  · intro w hSw
                    try dsimp only at hSw
                    go_simp
                    try with_reducible rfl
                  try simp only [Act.put, List.setIfInBounds_toArray, List.set_cons_zero, List.set_cons_succ]
                  refine wpAnyH_take (i := 14) (oi := { dst := some 120, op := Op.move (Operand.tmp 119), type := 4, pos := "law.go:199", after := #[{ on := 13, ground := Ground.data }, { on := 10, ground := Ground.chain }, { on := 10, ground := Ground.guard }], guard := some (10, false) }) (v := ?_) rfl (by kernel_rfl) (by kernel_rfl) (by kernel_rfl) (fun _ _ _ h => h) (Or.inl ⟨by rfl, ?_⟩) (by assumption) ?_
                  rotate_left
                  · intro w hSw
                    try dsimp only at hSw
                    go_simp
                    try with_reducible rfl
                  try simp only [Act.put, List.setIfInBounds_toArray, List.set_cons_zero, List.set_cons_succ]
                  refine wpAnyH_take (i := 15) (oi := { dst := some 121, op := Op.fieldAddr 43 (Operand.tmp 12) 2, type := 0, pos := "law.go:199", after := #[{ on := 14, ground := Ground.guard }], guard := some (14, true) }) (v := ?_) rfl (by kernel_rfl) (by kernel_rfl) (by kernel_rfl) (fun _ _ _ h => h) (Or.inl ⟨by rfl, ?_⟩) (by assumption) ?_
                  rotate_left
                  · intro w hSw
                    try dsimp only at hSw
                    go_simp
                    try with_reducible rfl
                  try simp only [Act.put, List.setIfInBounds_toArray, List.set_cons_zero, List.set_cons_succ]
                  refine wpAnyH_take (i := 16) (oi := { dst := some 122, op := Op.load 3 (Operand.tmp 121), type := 3, pos := "law.go:199", after := #[{ on := 15, ground := Ground.data }, { on := 14, ground := Ground.guard }], guard := some (14, true) }) (v := ?_) rfl (by kernel_rfl) (by kernel_rfl) (by kernel_rfl) (fun _ _ _ h => h) (Or.inl ⟨by rfl, ?_⟩) (by assumption) ?_
                  rotate_left
                  · intro w hSw
                    try dsimp only at hSw
                    go_simp
                    try with_reducible rfl
                  try simp only [Act.put, List.setIfInBounds_toArray, List.set_cons_zero, List.set_cons_succ]
                  refine wpAnyH_take (i := 17) (oi := { dst := some 123, op := Op.binOp BinOp.leq 3 (Operand.tmp 122) (Operand.const (Value.int IntKind.i64 1099511627776)) 3, type := 4, pos := "law.go:199", after := #[{ on := 16, ground := Ground.data }, { on := 14, ground := Ground.guard }], guard := some (14, true) }) (v := ?_) rfl (by kernel_rfl) (by kernel_rfl) (by kernel_rfl) (fun _ _ _ h => h) (Or.inl ⟨by rfl, ?_⟩) (by assumption) ?_
                  rotate_left
                  · intro w hSw
                    try dsimp only at hSw
                    go_simp
                    try with_reducible rfl
                  try simp only [Act.put, List.setIfInBounds_toArray, List.set_cons_zero, List.set_cons_succ]
                  refine wpAnyH_take (i := 18) (oi := { dst := some 124, op := Op.pick (Operand.tmp 120) (Operand.tmp 123) (Operand.const (Value.bool false)), type := 4, pos := "law.go:199", after := #[{ on := 14, ground := Ground.data }, { on := 17, ground := Ground.data }, { on := 10, ground := Ground.guard }], guard := some (10, false) }) (v := ?_) rfl (by kernel_rfl) (by kernel_rfl) (by kernel_rfl) (fun _ _ _ h => h) (Or.inl ⟨by rfl, ?_⟩) (by assumption) ?_
                  rotate_left
                  · intro w hSw
                    try dsimp only at hSw
                    go_simp
                    try with_reducible rfl
                  try simp only [Act.put, List.setIfInBounds_toArray, List.set_cons_zero, List.set_cons_succ]
                  refine wpAnyH_take (i := 19) (oi := { dst := some 125, op := Op.move (Operand.tmp 124), type := 4, pos := "law.go:199", after := #[{ on := 18, ground := Ground.data }, { on := 14, ground := Ground.chain }, { on := 10, ground := Ground.guard }], guard := some (10, false) }) (v := ?_) rfl (by kernel_rfl) (by kernel_rfl) (by kernel_rfl) (fun _ _ _ h => h) (Or.inl ⟨by rfl, ?_⟩) (by assumption) ?_
                  rotate_left
                  · intro w hSw
                    try dsimp only at hSw
                    go_simp
                    try with_reducible rfl
                  try simp only [Act.put, List.setIfInBounds_toArray, List.set_cons_zero, List.set_cons_succ]
                  refine wpAnyH_take (i := 20) (oi := { dst := some 126, op := Op.move (Operand.tmp 5), type := 27, pos := "law.go:199", after := #[{ on := 19, ground := Ground.guard }], guard := some (19, true) }) (v := undef) rfl (by kernel_rfl) (by kernel_rfl) (by kernel_rfl) (fun _ _ _ h => h) (Or.inr ⟨by rfl, rfl⟩) (by assumption) ?_
                  try simp only [Act.put, List.setIfInBounds_toArray, List.set_cons_zero, List.set_cons_succ]
                  refine wpAnyH_take (i := 21) (oi := { dst := some 127, op := Op.fieldAddr 43 (Operand.tmp 12) 2, type := 0, pos := "law.go:199", after := #[{ on := 19, ground := Ground.guard }], guard := some (19, true) }) (v := undef) rfl (by kernel_rfl) (by kernel_rfl) (by kernel_rfl) (fun _ _ _ h => h) (Or.inr ⟨by rfl, rfl⟩) (by assumption) ?_
                  try simp only [Act.put, List.setIfInBounds_toArray, List.set_cons_zero, List.set_cons_succ]
                  refine wpAnyH_take (i := 22) (oi := { dst := some 128, op := Op.load 3 (Operand.tmp 127), type := 3, pos := "law.go:199", after := #[{ on := 21, ground := Ground.data }, { on := 19, ground := Ground.guard }], guard := some (19, true) }) (v := undef) rfl (by kernel_rfl) (by kernel_rfl) (by kernel_rfl) (fun _ _ _ h => h) (Or.inr ⟨by rfl, rfl⟩) (by assumption) ?_
                  try simp only [Act.put, List.setIfInBounds_toArray, List.set_cons_zero, List.set_cons_succ]
                  refine wpAnyH_take (i := 23) (oi := { dst := some 129, op := Op.call { callee := Callee.value (Operand.func 22), args := #[Operand.tmp 126, Operand.tmp 128], argTypes := #[27, 3] }, type := 3, pos := "law.go:199", after := #[{ on := 20, ground := Ground.data }, { on := 22, ground := Ground.data }, { on := 19, ground := Ground.chain }, { on := 19, ground := Ground.guard }], guard := some (19, true) }) (v := undef) rfl (by kernel_rfl) (by kernel_rfl) (by kernel_rfl) (fun _ _ _ h => h) (Or.inr ⟨by rfl, rfl⟩) (by assumption) ?_
                  try simp only [Act.put, List.setIfInBounds_toArray, List.set_cons_zero, List.set_cons_succ]
                  refine wpAnyH_take (i := 24) (oi := { dst := some 130, op := Op.binOp BinOp.neq 3 (Operand.tmp 129) (Operand.const (Value.int IntKind.i64 3)) 3, type := 4, pos := "law.go:199", after := #[{ on := 23, ground := Ground.data }, { on := 19, ground := Ground.guard }], guard := some (19, true) }) (v := undef) rfl (by kernel_rfl) (by kernel_rfl) (by kernel_rfl) (fun _ _ _ h => h) (Or.inr ⟨by rfl, rfl⟩) (by assumption) ?_
                  try simp only [Act.put, List.setIfInBounds_toArray, List.set_cons_zero, List.set_cons_succ]
                  refine wpAnyH_take (i := 25) (oi := { dst := some 131, op := Op.pick (Operand.tmp 125) (Operand.tmp 130) (Operand.const (Value.bool false)), type := 4, pos := "law.go:199", after := #[{ on := 19, ground := Ground.data }, { on := 24, ground := Ground.data }, { on := 10, ground := Ground.guard }], guard := some (10, false) }) (v := ?_) rfl (by kernel_rfl) (by kernel_rfl) (by kernel_rfl) (fun _ _ _ h => h) (Or.inl ⟨by rfl, ?_⟩) (by assumption) ?_
                  rotate_left
                  · intro w hSw
                    try dsimp only at hSw
                    go_simp
                    try with_reducible rfl
                  try simp only [Act.put, List.setIfInBounds_toArray, List.set_cons_zero, List.set_cons_succ]
                  refine wpAnyH_take (i := 26) (oi := { dst := some 132, op := Op.pick (Operand.tmp 116) (Operand.const (Value.bool true)) (Operand.tmp 131), type := 4, pos := "law.go:199", after := #[{ on := 10, ground := Ground.data }, { on := 25, ground := Ground.data }], guard := none }) (v := ?_) rfl (by kernel_rfl) (by kernel_rfl) (by kernel_rfl) (fun _ _ _ h => h) (Or.inl ⟨by rfl, ?_⟩) (by assumption) ?_
                  rotate_left
                  · intro w hSw
                    try dsimp only at hSw
                    go_simp
                    try with_reducible rfl
                  try simp only [Act.put, List.setIfInBounds_toArray, List.set_cons_zero, List.set_cons_succ]
                  refine wpAnyH_done (by kernel_rfl) ?_ _
                  go_wp2_with fail
                  all_goals
                    go_roundw
                    case rel => first | exact ⟨k + 1, c, _, by go_num, rfl, by omega, ⟨FL8.out _ B10.out, CP.out⟩⟩ | ((repeat apply Exists.intro); exact ⟨⟨k + 1, c, _, by go_num, rfl, by omega, ⟨FL8.out _ B10.out, CP.out⟩⟩, rfl⟩)
                    case measure => simp [intOf]; omega
              · clear TL K8
                have hd1 : decide (0 ≤ xa) = false := by simpa using h0
                have hd2 : decide (xa ≥ 0) = false := hd1
                have hd3 : xa < 0 := by omega
                refine wp_region_held_drew (S := (fun w' => ((w'.cell? ⟨q8, 0, none⟩ = some (.int .i64 st) ∧ w'.cell? ⟨q8, 1, none⟩ = some (.int .i64 gn) ∧ w'.cell? ⟨q8, 2, none⟩ = some (.int .i64 tkk) ∧ w'.cell? ⟨q8, 3, none⟩ = some (.int .i64 fa) ∧ w'.cell? ⟨q8, 4, none⟩ = some (.int .i64 nx)) ∧ (w'.cell? ⟨q9, 0, none⟩ = some (.int .i64 okk) ∧ w'.cell? ⟨q9, 1, none⟩ = some (.slice op lv on) ∧ w'.cell? ⟨q9, 2, none⟩ = some (.slice oq lf om))) ∧ (w'.cell? ⟨q13, 0, none⟩ = some (.int .i64 okk) ∧ w'.cell? ⟨q13, 1, none⟩ = some (.slice np lv nn) ∧ w'.cell? ⟨q13, 2, none⟩ = some (.slice nq lf nm)) ∧ w'.cell? ⟨wc.heap.size, 2, none⟩ = some (.int .i64 xa))) (by kernel_rfl) ?_ (fun hHeld => ?_)
                · exact KS8.out _ BD8.out
                refine wpAnyH_take (i := 0) (oi := { dst := some 106, op := Op.move (Operand.tmp 5), type := 27, pos := "law.go:199", after := #[], guard := none }) (v := ?_) rfl (by kernel_rfl) (by kernel_rfl) (by kernel_rfl) (fun _ _ _ h => h) (Or.inl ⟨by rfl, ?_⟩) (by assumption) ?_
                rotate_left
                · intro w hSw
                  try dsimp only at hSw
                  go_simp
                  try with_reducible rfl
                try simp only [Act.put, List.setIfInBounds_toArray, List.set_cons_zero, List.set_cons_succ]
                refine wpAnyH_take (i := 2) (oi := { dst := some 108, op := Op.load 57 (Operand.tmp 8), type := 57, pos := "law.go:199", after := #[], guard := none }) (v := ?_) rfl (by kernel_rfl) (by kernel_rfl) (by kernel_rfl) (fun _ _ _ h => h) (Or.inl ⟨by rfl, ?_⟩) (by assumption) ?_
                rotate_left
                · intro w hSw
                  try dsimp only at hSw
                  go_simp
                  try with_reducible rfl
                try simp only [Act.put, List.setIfInBounds_toArray, List.set_cons_zero, List.set_cons_succ]
                refine wpAnyH_ready (rs := [1]) (by kernel_rfl) (by simp) ?_
                refine AllReadyH.cons (o := { dst := some 107, op := Op.call { callee := Callee.value (Operand.func 19), args := #[Operand.tmp 106], argTypes := #[27] }, type := 57, pos := "law.go:199", after := #[{ on := 0, ground := Ground.data }], guard := none }) rfl (fun K hK => ?_) AllReadyH.nil
                go_simp
                go_at_call 19
                refine Calls.mono (T8.out _ BD8.out) ?_
                rintro e w9 ⟨rfl, kk9⟩
                have B9 := hid kk9
                clear kk9
                go_wp2_with fail
                refine hK.out _ _ ?_ (fun hHeld => ?_)
                · exact KS8.out _ B9.out
                clear hK K
                try simp only [Act.put, List.setIfInBounds_toArray, List.set_cons_zero, List.set_cons_succ]
                refine wpAnyH_take (i := 3) (oi := { dst := some 109, op := Op.binOp BinOp.neq 57 (Operand.tmp 107) (Operand.tmp 108) 57, type := 4, pos := "law.go:199", after := #[{ on := 1, ground := Ground.data }, { on := 2, ground := Ground.data }], guard := none }) (v := ?_) rfl (by kernel_rfl) (by kernel_rfl) (by kernel_rfl) (fun _ _ _ h => h) (Or.inl ⟨by rfl, ?_⟩) (by assumption) ?_
                rotate_left
                · intro w hSw
                  try dsimp only at hSw
                  go_simp
                  try with_reducible rfl
                try simp only [Act.put, List.setIfInBounds_toArray, List.set_cons_zero, List.set_cons_succ]
                refine wpAnyH_take (i := 4) (oi := { dst := some 110, op := Op.move (Operand.tmp 109), type := 4, pos := "law.go:199", after := #[{ on := 3, ground := Ground.data }, { on := 1, ground := Ground.chain }], guard := none }) (v := ?_) rfl (by kernel_rfl) (by kernel_rfl) (by kernel_rfl) (fun _ _ _ h => h) (Or.inl ⟨by rfl, ?_⟩) (by assumption) ?_
                rotate_left
                · intro w hSw
                  try dsimp only at hSw
                  go_simp
                  try with_reducible rfl
                try simp only [Act.put, List.setIfInBounds_toArray, List.set_cons_zero, List.set_cons_succ]
                refine wpAnyH_take (i := 5) (oi := { dst := some 111, op := Op.load 36 (Operand.tmp 13), type := 36, pos := "law.go:199", after := #[{ on := 4, ground := Ground.guard }], guard := some (4, false) }) (v := ?_) rfl (by kernel_rfl) (by kernel_rfl) (by kernel_rfl) (fun _ _ _ h => h) (Or.inl ⟨by rfl, ?_⟩) (by assumption) ?_
                rotate_left
                · intro w hSw
                  try dsimp only at hSw
                  go_simp
                  try with_reducible rfl
                try simp only [Act.put, List.setIfInBounds_toArray, List.set_cons_zero, List.set_cons_succ]
                refine wpAnyH_take (i := 6) (oi := { dst := some 112, op := Op.load 36 (Operand.tmp 9), type := 36, pos := "law.go:199", after := #[{ on := 4, ground := Ground.guard }], guard := some (4, false) }) (v := ?_) rfl (by kernel_rfl) (by kernel_rfl) (by kernel_rfl) (fun _ _ _ h => h) (Or.inl ⟨by rfl, ?_⟩) (by assumption) ?_
                rotate_left
                · intro w hSw
                  try dsimp only at hSw
                  go_simp
                  try with_reducible rfl
                try simp only [Act.put, List.setIfInBounds_toArray, List.set_cons_zero, List.set_cons_succ]
                refine wpAnyH_ready (rs := [7]) (by kernel_rfl) (by simp) ?_
                refine AllReadyH.cons (o := { dst := some 113, op := Op.call { callee := Callee.value (Operand.func 21), args := #[Operand.tmp 111, Operand.tmp 112], argTypes := #[36, 36] }, type := 4, pos := "law.go:199", after := #[{ on := 5, ground := Ground.data }, { on := 6, ground := Ground.data }, { on := 4, ground := Ground.chain }, { on := 4, ground := Ground.guard }], guard := some (4, false) }) rfl (fun K hK => ?_) AllReadyH.nil
                go_simp
                go_at_call 21
                refine Calls.mono (D8.out _ B9.out) ?_
                rintro e w10 ⟨rfl, kk10⟩
                have B10 := hid kk10
                clear kk10
                go_wp2_with fail
                refine hK.out _ _ ?_ (fun hHeld => ?_)
                · exact KS8.out _ B10.out
                clear hK K
                try simp only [Act.put, List.setIfInBounds_toArray, List.set_cons_zero, List.set_cons_succ]
                refine wpAnyH_take (i := 8) (oi := { dst := some 114, op := Op.unOp UnOp.not 4 (Operand.tmp 113), type := 4, pos := "law.go:199", after := #[{ on := 7, ground := Ground.data }, { on := 4, ground := Ground.guard }], guard := some (4, false) }) (v := ?_) rfl (by kernel_rfl) (by kernel_rfl) (by kernel_rfl) (fun _ _ _ h => h) (Or.inl ⟨by rfl, ?_⟩) (by assumption) ?_
                rotate_left
                · intro w hSw
                  try dsimp only at hSw
                  go_simp
                  try with_reducible rfl
                try simp only [Act.put, List.setIfInBounds_toArray, List.set_cons_zero, List.set_cons_succ]
                refine wpAnyH_take (i := 9) (oi := { dst := some 115, op := Op.pick (Operand.tmp 110) (Operand.const (Value.bool true)) (Operand.tmp 114), type := 4, pos := "law.go:199", after := #[{ on := 4, ground := Ground.data }, { on := 8, ground := Ground.data }], guard := none }) (v := ?_) rfl (by kernel_rfl) (by kernel_rfl) (by kernel_rfl) (fun _ _ _ h => h) (Or.inl ⟨by rfl, ?_⟩) (by assumption) ?_
                rotate_left
                · intro w hSw
                  try dsimp only at hSw
                  go_simp
                  try with_reducible rfl
                try simp only [Act.put, List.setIfInBounds_toArray, List.set_cons_zero, List.set_cons_succ]
                refine wpAnyH_take (i := 10) (oi := { dst := some 116, op := Op.move (Operand.tmp 115), type := 4, pos := "law.go:199", after := #[{ on := 9, ground := Ground.data }, { on := 7, ground := Ground.chain }], guard := none }) (v := ?_) rfl (by kernel_rfl) (by kernel_rfl) (by kernel_rfl) (fun _ _ _ h => h) (Or.inl ⟨by rfl, ?_⟩) (by assumption) ?_
                rotate_left
                · intro w hSw
                  try dsimp only at hSw
                  go_simp
                  try with_reducible rfl
                try simp only [Act.put, List.setIfInBounds_toArray, List.set_cons_zero, List.set_cons_succ]
                refine wpAnyH_take (i := 11) (oi := { dst := some 117, op := Op.fieldAddr 43 (Operand.tmp 12) 2, type := 0, pos := "law.go:199", after := #[{ on := 10, ground := Ground.guard }], guard := some (10, false) }) (v := ?_) rfl (by kernel_rfl) (by kernel_rfl) (by kernel_rfl) (fun _ _ _ h => h) (Or.inl ⟨by rfl, ?_⟩) (by assumption) ?_
                rotate_left
                · intro w hSw
                  try dsimp only at hSw
                  go_simp
                  try with_reducible rfl
                try simp only [Act.put, List.setIfInBounds_toArray, List.set_cons_zero, List.set_cons_succ]
                refine wpAnyH_take (i := 12) (oi := { dst := some 118, op := Op.load 3 (Operand.tmp 117), type := 3, pos := "law.go:199", after := #[{ on := 11, ground := Ground.data }, { on := 10, ground := Ground.guard }], guard := some (10, false) }) (v := ?_) rfl (by kernel_rfl) (by kernel_rfl) (by kernel_rfl) (fun _ _ _ h => h) (Or.inl ⟨by rfl, ?_⟩) (by assumption) ?_
                rotate_left
                · intro w hSw
                  try dsimp only at hSw
                  go_simp
                  try with_reducible rfl
                try simp only [Act.put, List.setIfInBounds_toArray, List.set_cons_zero, List.set_cons_succ]
                refine wpAnyH_take (i := 13) (oi := { dst := some 119, op := Op.binOp BinOp.geq 3 (Operand.tmp 118) (Operand.const (Value.int IntKind.i64 0)) 3, type := 4, pos := "law.go:199", after := #[{ on := 12, ground := Ground.data }, { on := 10, ground := Ground.guard }], guard := some (10, false) }) (v := ?_) rfl (by kernel_rfl) (by kernel_rfl) (by kernel_rfl) (fun _ _ _ h => h) (Or.inl ⟨by rfl, ?_⟩) (by assumption) ?_
                rotate_left
                · intro w hSw
                  try dsimp only at hSw
                  go_simp
                  try with_reducible rfl
                try simp only [Act.put, List.setIfInBounds_toArray, List.set_cons_zero, List.set_cons_succ]
                refine wpAnyH_take (i := 14) (oi := { dst := some 120, op := Op.move (Operand.tmp 119), type := 4, pos := "law.go:199", after := #[{ on := 13, ground := Ground.data }, { on := 10, ground := Ground.chain }, { on := 10, ground := Ground.guard }], guard := some (10, false) }) (v := ?_) rfl (by kernel_rfl) (by kernel_rfl) (by kernel_rfl) (fun _ _ _ h => h) (Or.inl ⟨by rfl, ?_⟩) (by assumption) ?_
                rotate_left
                · intro w hSw
                  try dsimp only at hSw
                  go_simp
                  try with_reducible rfl
                try simp only [Act.put, List.setIfInBounds_toArray, List.set_cons_zero, List.set_cons_succ]
                refine wpAnyH_take (i := 15) (oi := { dst := some 121, op := Op.fieldAddr 43 (Operand.tmp 12) 2, type := 0, pos := "law.go:199", after := #[{ on := 14, ground := Ground.guard }], guard := some (14, true) }) (v := undef) rfl (by kernel_rfl) (by kernel_rfl) (by kernel_rfl) (fun _ _ _ h => h) (Or.inr ⟨by rfl, rfl⟩) (by assumption) ?_
                try simp only [Act.put, List.setIfInBounds_toArray, List.set_cons_zero, List.set_cons_succ]
                refine wpAnyH_take (i := 16) (oi := { dst := some 122, op := Op.load 3 (Operand.tmp 121), type := 3, pos := "law.go:199", after := #[{ on := 15, ground := Ground.data }, { on := 14, ground := Ground.guard }], guard := some (14, true) }) (v := undef) rfl (by kernel_rfl) (by kernel_rfl) (by kernel_rfl) (fun _ _ _ h => h) (Or.inr ⟨by rfl, rfl⟩) (by assumption) ?_
                try simp only [Act.put, List.setIfInBounds_toArray, List.set_cons_zero, List.set_cons_succ]
                refine wpAnyH_take (i := 17) (oi := { dst := some 123, op := Op.binOp BinOp.leq 3 (Operand.tmp 122) (Operand.const (Value.int IntKind.i64 1099511627776)) 3, type := 4, pos := "law.go:199", after := #[{ on := 16, ground := Ground.data }, { on := 14, ground := Ground.guard }], guard := some (14, true) }) (v := undef) rfl (by kernel_rfl) (by kernel_rfl) (by kernel_rfl) (fun _ _ _ h => h) (Or.inr ⟨by rfl, rfl⟩) (by assumption) ?_
                try simp only [Act.put, List.setIfInBounds_toArray, List.set_cons_zero, List.set_cons_succ]
                refine wpAnyH_take (i := 18) (oi := { dst := some 124, op := Op.pick (Operand.tmp 120) (Operand.tmp 123) (Operand.const (Value.bool false)), type := 4, pos := "law.go:199", after := #[{ on := 14, ground := Ground.data }, { on := 17, ground := Ground.data }, { on := 10, ground := Ground.guard }], guard := some (10, false) }) (v := ?_) rfl (by kernel_rfl) (by kernel_rfl) (by kernel_rfl) (fun _ _ _ h => h) (Or.inl ⟨by rfl, ?_⟩) (by assumption) ?_
                rotate_left
                · intro w hSw
                  try dsimp only at hSw
                  go_simp
                  try with_reducible rfl
                try simp only [Act.put, List.setIfInBounds_toArray, List.set_cons_zero, List.set_cons_succ]
                refine wpAnyH_take (i := 19) (oi := { dst := some 125, op := Op.move (Operand.tmp 124), type := 4, pos := "law.go:199", after := #[{ on := 18, ground := Ground.data }, { on := 14, ground := Ground.chain }, { on := 10, ground := Ground.guard }], guard := some (10, false) }) (v := ?_) rfl (by kernel_rfl) (by kernel_rfl) (by kernel_rfl) (fun _ _ _ h => h) (Or.inl ⟨by rfl, ?_⟩) (by assumption) ?_
                rotate_left
                · intro w hSw
                  try dsimp only at hSw
                  go_simp
                  try with_reducible rfl
                try simp only [Act.put, List.setIfInBounds_toArray, List.set_cons_zero, List.set_cons_succ]
                refine wpAnyH_take (i := 20) (oi := { dst := some 126, op := Op.move (Operand.tmp 5), type := 27, pos := "law.go:199", after := #[{ on := 19, ground := Ground.guard }], guard := some (19, true) }) (v := undef) rfl (by kernel_rfl) (by kernel_rfl) (by kernel_rfl) (fun _ _ _ h => h) (Or.inr ⟨by rfl, rfl⟩) (by assumption) ?_
                try simp only [Act.put, List.setIfInBounds_toArray, List.set_cons_zero, List.set_cons_succ]
                refine wpAnyH_take (i := 21) (oi := { dst := some 127, op := Op.fieldAddr 43 (Operand.tmp 12) 2, type := 0, pos := "law.go:199", after := #[{ on := 19, ground := Ground.guard }], guard := some (19, true) }) (v := undef) rfl (by kernel_rfl) (by kernel_rfl) (by kernel_rfl) (fun _ _ _ h => h) (Or.inr ⟨by rfl, rfl⟩) (by assumption) ?_
                try simp only [Act.put, List.setIfInBounds_toArray, List.set_cons_zero, List.set_cons_succ]
                refine wpAnyH_take (i := 22) (oi := { dst := some 128, op := Op.load 3 (Operand.tmp 127), type := 3, pos := "law.go:199", after := #[{ on := 21, ground := Ground.data }, { on := 19, ground := Ground.guard }], guard := some (19, true) }) (v := undef) rfl (by kernel_rfl) (by kernel_rfl) (by kernel_rfl) (fun _ _ _ h => h) (Or.inr ⟨by rfl, rfl⟩) (by assumption) ?_
                try simp only [Act.put, List.setIfInBounds_toArray, List.set_cons_zero, List.set_cons_succ]
                refine wpAnyH_take (i := 23) (oi := { dst := some 129, op := Op.call { callee := Callee.value (Operand.func 22), args := #[Operand.tmp 126, Operand.tmp 128], argTypes := #[27, 3] }, type := 3, pos := "law.go:199", after := #[{ on := 20, ground := Ground.data }, { on := 22, ground := Ground.data }, { on := 19, ground := Ground.chain }, { on := 19, ground := Ground.guard }], guard := some (19, true) }) (v := undef) rfl (by kernel_rfl) (by kernel_rfl) (by kernel_rfl) (fun _ _ _ h => h) (Or.inr ⟨by rfl, rfl⟩) (by assumption) ?_
                try simp only [Act.put, List.setIfInBounds_toArray, List.set_cons_zero, List.set_cons_succ]
                refine wpAnyH_take (i := 24) (oi := { dst := some 130, op := Op.binOp BinOp.neq 3 (Operand.tmp 129) (Operand.const (Value.int IntKind.i64 3)) 3, type := 4, pos := "law.go:199", after := #[{ on := 23, ground := Ground.data }, { on := 19, ground := Ground.guard }], guard := some (19, true) }) (v := undef) rfl (by kernel_rfl) (by kernel_rfl) (by kernel_rfl) (fun _ _ _ h => h) (Or.inr ⟨by rfl, rfl⟩) (by assumption) ?_
                try simp only [Act.put, List.setIfInBounds_toArray, List.set_cons_zero, List.set_cons_succ]
                refine wpAnyH_take (i := 25) (oi := { dst := some 131, op := Op.pick (Operand.tmp 125) (Operand.tmp 130) (Operand.const (Value.bool false)), type := 4, pos := "law.go:199", after := #[{ on := 19, ground := Ground.data }, { on := 24, ground := Ground.data }, { on := 10, ground := Ground.guard }], guard := some (10, false) }) (v := ?_) rfl (by kernel_rfl) (by kernel_rfl) (by kernel_rfl) (fun _ _ _ h => h) (Or.inl ⟨by rfl, ?_⟩) (by assumption) ?_
                rotate_left
                · intro w hSw
                  try dsimp only at hSw
                  go_simp
                  try with_reducible rfl
                try simp only [Act.put, List.setIfInBounds_toArray, List.set_cons_zero, List.set_cons_succ]
                refine wpAnyH_take (i := 26) (oi := { dst := some 132, op := Op.pick (Operand.tmp 116) (Operand.const (Value.bool true)) (Operand.tmp 131), type := 4, pos := "law.go:199", after := #[{ on := 10, ground := Ground.data }, { on := 25, ground := Ground.data }], guard := none }) (v := ?_) rfl (by kernel_rfl) (by kernel_rfl) (by kernel_rfl) (fun _ _ _ h => h) (Or.inl ⟨by rfl, ?_⟩) (by assumption) ?_
                rotate_left
                · intro w hSw
                  try dsimp only at hSw
                  go_simp
                  try with_reducible rfl
                try simp only [Act.put, List.setIfInBounds_toArray, List.set_cons_zero, List.set_cons_succ]
                refine wpAnyH_done (by kernel_rfl) ?_ _
                go_wp2_with fail
                all_goals
                  go_roundw
                  case rel => first | exact ⟨k + 1, c, _, by go_num, rfl, by omega, ⟨FL8.out _ B10.out, CP.out⟩⟩ | ((repeat apply Exists.intro); exact ⟨⟨k + 1, c, _, by go_num, rfl, by omega, ⟨FL8.out _ B10.out, CP.out⟩⟩, rfl⟩)
                  case measure => simp [intOf]; omega
      · have FN := hid (FIN.out _ HR.out.1.bl)
        go_wp2_with fail
        go_ret
        exact ⟨rfl, FN.out⟩
end Go.Proofs.YtbgeihgenckihaaDoor
