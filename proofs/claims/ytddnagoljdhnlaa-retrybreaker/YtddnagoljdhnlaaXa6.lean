/- Retry: Times, Total. -/
import Derived.Test.YtddnagoljdhnlaaXa5
namespace Go.Proofs.Ytddnagoljdhnlaa
open Go.RowKit

theorem timE_no {p : Pol} (h : polB p = false) (a : Int) : timE p a = 50 ∧ timL p a = [] := by
  have e : timE p a = 50 := by unfold timE; rw [if_pos h]
  exact ⟨e, by unfold timL; rw [e]; rfl⟩
theorem timE_rng {p : Pol} (h : polB p = true) {a : Int} (ha : timB a = false) : timE p a = 1 ∧ timL p a = [] := by
  have e : timE p a = 1 := by unfold timE; rw [if_neg (by simp [h]), if_pos ha]
  exact ⟨e, by unfold timL; rw [e]; rfl⟩
theorem timE_ok {p : Pol} (h : polB p = true) {a : Int} (ha : timB a = true) : timE p a = 0 ∧ timL p a = a :: tmL a (wts p) := by
  have e : timE p a = 0 := by unfold timE; rw [if_neg (by simp [h]), if_neg (by simp [ha])]
  exact ⟨e, by unfold timL; rw [e]; rfl⟩
/-- The policy's box behind a call, and behind a row laid. -/
theorem box_far {w w1 : World} {p : Pol} {T : TypeId} (hb : Below (w.alloc (.cells #[.int .i64 p.t, .int .i64 p.b, .int .i64 p.f, .int .i64 p.c] T)).heap.size (w.alloc (.cells #[.int .i64 p.t, .int .i64 p.b, .int .i64 p.f, .int .i64 p.c] T)) w1) : w1.cell? ⟨w.heap.size, 0, none⟩ = some (.int .i64 p.t) ∧ w1.cell? ⟨w.heap.size, 1, none⟩ = some (.int .i64 p.b) ∧ w1.cell? ⟨w.heap.size, 2, none⟩ = some (.int .i64 p.f) ∧ w1.cell? ⟨w.heap.size, 3, none⟩ = some (.int .i64 p.c) := by
  obtain ⟨a, b, c, d⟩ := box4 w p T
  exact ⟨(hb.cell (p := ⟨w.heap.size, 0, none⟩) (by simp)).trans a, (hb.cell (p := ⟨w.heap.size, 1, none⟩) (by simp)).trans b, (hb.cell (p := ⟨w.heap.size, 2, none⟩) (by simp)).trans c, (hb.cell (p := ⟨w.heap.size, 3, none⟩) (by simp)).trans d⟩
theorem ret_sv {v : Value} {a b : Int} (h : a = b) : Ending.returned (.tuple #[v, .int .i64 a]) = .returned (.tuple #[v, .int .i64 b]) := by rw [h]
theorem OwnG.lit {α : Type} (K : RK α) (w : World) (l : List α) (cells : Array Value) (hc : cells.toList = l.flatMap K.f) (hl : cells.size = l.length * K.W) (hm : l.length ≤ maxLen) : OwnG K (w.alloc (.cells cells K.ty)) w.heap.size (.slice (some ⟨w.heap.size, 0, none⟩) l.length l.length) l :=
  ⟨by rw [← hc]; simpa using hl, Or.inr ⟨w.heap.size, l.length, cells, rfl, Nat.le_refl _, heap_alloc_new w _, Nat.le_refl _, hm, hl, by rw [← hc, List.take_of_length_le]; simp [hl]⟩⟩
/-- The row so far, and the waits beside it. -/
structure TI (ws : List Int) (base : Nat) (W wk : World) (vw v : Value) (S : List Int) : Prop where
  own : OwnG KI wk base v S
  gs : GS KI wk vw ws
  ne : ∀ x, vw.ownBlock = some x → v.ownBlock ≠ some x
  lt : ∀ x, vw.ownBlock = some x → x < wk.heap.size
  bel : Below base W wk
theorem TI.next {ws : List Int} {base : Nat} {W wk w2 : World} {vw v : Value} {S S2 : List Int} {g n c : Nat} (h : TI ws base W wk vw v S) (ho : OwnG KI w2 base (.slice (some ⟨g, 0, none⟩) n c) S2) (hb : Below base wk w2) (hk : ∀ k, k < wk.heap.size → some k ≠ v.ownBlock → w2.heap[k]? = wk.heap[k]?) (hg : v.ownBlock = some g ∨ wk.heap.size ≤ g) : TI ws base W w2 vw (.slice (some ⟨g, 0, none⟩) n c) S2 :=
  ⟨ho, h.gs.blk hb.size (fun x hx hl => hk x hl (fun e => h.ne x hx e.symm)), fun x hx e => by
    have e2 : g = x := by injection e
    subst e2
    rcases hg with q | q
    · exact h.ne _ hx q
    · have := h.lt _ hx; omega, fun x hx => Nat.lt_of_lt_of_le (h.lt x hx) hb.size, h.bel.trans hb⟩
theorem TI.begin {ws : List Int} {w2 w3 : World} {a : Int} {pp : Option Addr} {m cp : Nat} (ho : OwnG KI w3 (w2.alloc (.cells #[.int .i64 a] KI.ty)).heap.size (.slice pp m cp) ws) (hb : Below (w2.alloc (.cells #[.int .i64 a] KI.ty)).heap.size (w2.alloc (.cells #[.int .i64 a] KI.ty)) w3) : TI ws w2.heap.size w2 w3 (.slice pp m cp) (.slice (some ⟨w2.heap.size, 0, none⟩) 1 1) [a] := by
  refine ⟨(OwnG.lit KI w2 [a] _ rfl rfl (by show 1 ≤ maxLen; unfold maxLen; omega)).below hb, ho.gs KI_ok.len, fun x hx e => ?_, fun x hx => (ho.lt hx).2, bl2 hb⟩
  have e2 : w2.heap.size = x := by injection e
  have := (ho.lt hx).1
  simp at this
  omega
theorem TI.at {ws : List Int} {base : Nat} {W wk : World} {v : Value} {S : List Int} {pp : Option Addr} {m cp : Nat} (h : TI ws base W wk (.slice pp m cp) v S) {j : Nat} (hj : j < ws.length) : ∃ X o, pp = some ⟨X, o, none⟩ ∧ wk.cell? ⟨X, o + j, none⟩ = some (.int .i64 ws[j]) := h.gs.atI hj
set_option maxHeartbeats 8000000 in
theorem times_any (p : Pol) (a : Int) (w : World) : Calls Try.prog 14 #[polV p, .int .i64 a] w fun e w' => ∃ v, e = .returned (.tuple #[v, .int .i64 (timE p a)]) ∧ OwnG KI w' w.heap.size v (timL p a) ∧ Below w.heap.size w w' := by
  have CK := fun w' => check_any p w'
  have IT := fun w' => isTime_any a w'
  have BXC := hid (box4 w p 46)
  cases hp : polB p with
  | false =>
    have E := hid (timE_no hp a)
    generalize timE p a = er at *
    generalize timL p a = tl at *
    rw [chk_no hp] at CK
    obtain ⟨pt, pb, pf, pc⟩ := p
    simp only [polV] at *
    clear hp
    go_enter Try.func14, Try.ntmps14
    go_wp2_with (go_at_call 23; refine (CK _).mono ?_; rintro e w1 ⟨rfl, hb⟩; have B1 := hid hb; clear hb)
    go_ret2
    exact ⟨_, ret_sv E.out.1.symm, by rw [E.out.2]; exact OwnG.nil _ _ _, bl2 B1.out⟩
  | true =>
    rw [chk_ok hp] at CK
    cases ht : timB a with
    | false =>
      have E := hid (timE_rng hp ht)
      generalize timE p a = er at *
      generalize timL p a = tl at *
      rw [ht] at IT
      obtain ⟨pt, pb, pf, pc⟩ := p
      simp only [polV] at *
      clear hp ht
      go_enter Try.func14, Try.ntmps14
      go_wp2_with (first | (go_at_call 23; refine (CK _).mono ?_; rintro e w1 ⟨rfl, hb⟩; have B1 := hid hb; clear hb) | (go_at_call 25; refine (IT _).mono ?_; rintro e w2 ⟨rfl, rfl⟩))
      go_ret2
      exact ⟨_, ret_sv E.out.1.symm, by rw [E.out.2]; exact OwnG.nil _ _ _, bl2 B1.out⟩
    | true =>
      rw [ht] at IT
      obtain ⟨t0, t1⟩ := timB_t ht
      have TE := hid (timE_ok hp ht)
      have WT := hid (fun w' => waits_row p w' hp)
      have WB := hid (wts_bd hp)
      have WL := hid (wts_len p)
      have HM : nwt p ≤ 63 := by have := pol_bd hp; unfold nwt; omega
      have WT2 : Hid (∀ w', Calls Try.prog 24 #[polV p] w' fun e w'' => ∃ pp cp, e = .returned (.slice pp (nwt p) cp) ∧ OwnG KI w'' w'.heap.size (.slice pp (nwt p) cp) (wts p) ∧ Below w'.heap.size w' w'') := fun w' => (WT.out w').mono (fun e w'' ⟨pp, cp, h1, h2⟩ => ⟨pp, cp, h1, h2.own, h2.bel⟩)
      clear WT
      have BXF : Hid (∀ w1, _ → _) := fun w1 hb => box_far (w := w) (w1 := w1) (p := p) (T := 46) hb
      generalize timE p a = er at *
      generalize timL p a = tl at *
      generalize wts p = ws at *
      generalize nwt p = m at *
      clear hp ht
      obtain ⟨pt, pb, pf, pc⟩ := p
      simp only [polV] at *
      go_enter Try.func14, Try.ntmps14
      go_wp2_with (first | (go_at_call 23; refine (CK _).mono ?_; rintro e w1 ⟨rfl, hb⟩; have B1 := hid hb; have CA : ∀ ob, (w1.alloc ob).cell? ⟨w.heap.size, 0, none⟩ = some (.int .i64 pt) ∧ (w1.alloc ob).cell? ⟨w.heap.size, 1, none⟩ = some (.int .i64 pb) ∧ (w1.alloc ob).cell? ⟨w.heap.size, 2, none⟩ = some (.int .i64 pf) ∧ (w1.alloc ob).cell? ⟨w.heap.size, 3, none⟩ = some (.int .i64 pc) := fun ob => BXF.out _ (hb.alloc hb.size ob); have C0 := fun ob => (CA ob).1; have C1 := fun ob => (CA ob).2.1; have C2 := fun ob => (CA ob).2.2.1; have C3 := fun ob => (CA ob).2.2.2; clear CA hb) | (go_at_call 25; refine (IT _).mono ?_; rintro e w2 ⟨rfl, rfl⟩) | (go_at_call 24; refine (WT2.out _).mono ?_; rintro e w3 ⟨pp, cp, rfl, ho, hb⟩; have O3 := hid ho; have B3 := hid hb; clear ho hb))
      have T0 := hid (TI.begin O3.out B3.out)
      have BB := hid (bl2 B1.out)
      clear O3 B3 C0 C1 C2 C3 BXF BXC CK IT WT2 B1
      go_loopw [1, 7, 23] (fun v1 v7 v23 wr => ∃ (k : Nat) (x : Int) (v : Value) (S : List Int) (wk : World), v23 = .int .i64 k ∧ v1 = .int .i64 x ∧ v = v7 ∧ wk = wr ∧ k ≤ m ∧ (0 ≤ x ∧ x ≤ 1099511627776) ∧ Hid (a :: tmL a ws = S ++ tmL x (ws.drop k)) ∧ Hid (S.length = k + 1) ∧ Hid (TI ws w2.heap.size w2 wk (.slice pp m cp) v S)) (fun _ _ v23 _ => m - (intOf v23).toNat)
      case atStart => exact ⟨0, a, _, [a], _, rfl, rfl, rfl, rfl, Nat.zero_le _, ⟨t0, t1⟩, rfl, rfl, T0⟩
      case round =>
        obtain ⟨k, x, v, S, wr, rfl, rfl, rfl, rfl, hk, ⟨x0, x1⟩, HE, HL, HT⟩ := hrel
        by_cases hlt : k < m
        · have hk2 : k < ws.length := by have := WL.out; omega
          obtain ⟨y0, y1⟩ := WB.out k hk2
          obtain ⟨D1, D2⟩ := tmL_drop x ws k hk2
          obtain ⟨X, o, hpp, hc⟩ := HT.out.at hk2
          subst hpp
          by_cases hbr : 1099511627776 < x + ws[k]
          · have HF : Hid (tl = S) := by rw [TE.out.2, HE.out, D1 hbr, List.append_nil]; exact rfl
            clear D1 D2
            generalize ws[k] = y at *
            go_wp2
            go_ret2
            exact ⟨_, ret_sv TE.out.1.symm, by rw [HF.out]; exact HT.out.own.low BB.out.size, BB.out.trans (HT.out.bel.mono BB.out.size)⟩
          · have HN : Hid (a :: tmL a ws = (S ++ [x + ws[k]]) ++ tmL (x + ws[k]) (ws.drop (k + 1))) := by show _ = _; rw [HE.out, D2 hbr]; simp
            have LS : Hid ((S.length + 1) * 8 ≤ 140737488355328) := by show (_ : Nat) ≤ _; rw [HL.out]; omega
            have O1 := hid HT.out.own
            have Z1 := hid HT.out.bel.size
            have LN : Hid ((S ++ [x + ws[k]]).length = k + 1 + 1) := by show _ = _; rw [List.length_append, HL.out]; rfl
            clear D1 D2
            generalize ws[k] = y at *
            go_wp2_with (at_builtin; refine append_g KI KI_ok rfl (.tmp 32) (.tmp 34) 49 rfl w2.heap.size Try.underlying49 wr _ _ v S (x + y) _ rfl O1.out _ rfl rfl rfl LS.out Z1.out ?_; intro g2 c2 w6 ho2 hb2 hk2 hg2; have T2 := hid (HT.out.next ho2 hb2 hk2 hg2); clear ho2 hb2 hk2 hg2)
            go_roundw
            case rel => exact ⟨k + 1, x + y, _, _, _, by go_num, rfl, rfl, rfl, by omega, ⟨by omega, by omega⟩, HN, LN, T2⟩
            case measure => simp [intOf]; omega
        · obtain rfl : k = m := by omega
          have HF : Hid (tl = S) := by rw [TE.out.2, HE.out, List.drop_of_length_le (by have := WL.out; omega), tmL, List.append_nil]; exact rfl
          go_wp2
          go_ret2
          exact ⟨_, ret_sv TE.out.1.symm, by rw [HF.out]; exact HT.out.own.low BB.out.size, BB.out.trans (HT.out.bel.mono BB.out.size)⟩
end Go.Proofs.Ytddnagoljdhnlaa
