/- Retry, the document's breakers: Ask. -/
import Derived.Test.YtddnagoljdhnlaaXr1
import Derived.Deep.Cut
namespace Go.Proofs.Ytddnagoljdhnlaa
open Go.RowKit

/-- What the document's Ask leaves. -/
def RaR (w : World) (k : Bk) (v : Value) (a : Int) (e : Ending) (w' : World) : Prop := e = .returned (.tuple #[rbV (askX k a) v, .int .i64 (askN k a), .bool (askB k a), .int .i64 (askE k a)]) ∧ (askX k a).ways = k.ways ∧ Below w.heap.size w w'
set_option maxHeartbeats 8000000 in
set_option maxRecDepth 100000 in
theorem rask_no (w : World) (k : Bk) (p : Option Addr) (ln cp : Nat) (hln : ln = k.ways.length) (a : Int) (hn : askB k a = false) : Calls Try.prog 9 #[rbV k (.slice p ln cp), .int .i64 a] w fun e w' => RaR w k (.slice p ln cp) a e w' := by
  have TD := hid (fun w' => rtimed_any w' k (.slice p ln cp) a)
  have R0 := hid (R2.new w (rbA k (.slice p ln cp)))
  have RX : Hid (∀ e w', RaR w k (.slice p ln cp) a e w' = (e = .returned (.tuple #[rbV (askX k a) (.slice p ln cp), .int .i64 (askN k a), .bool (askB k a), .int .i64 (askE k a)]) ∧ (askX k a).ways = k.ways ∧ Below w.heap.size w w')) := fun _ _ => rfl
  by_cases ht : tdE k a = 0
  · rw [ht] at TD
    cases hl : letB k a with
    | false =>
      have E := hid (askE_n ht hl)
      have FI : Hid (∀ w', Below w.heap.size w w' → RaR w k (.slice p ln cp) a (.returned (.tuple #[.agg #[.int .i64 k.lim, .int .i64 k.rst, .int .i64 k.st, .int .i64 k.trn, .int .i64 k.row, .int .i64 k.unt, .int .i64 a, .int .i64 k.trs, .slice p ln cp], .int .i64 0, .bool false, .int .i64 0])) w') := fun w' hb => by
        rw [RX.out]
        refine ⟨?_, ?_, hb⟩
        · rw [E.out.1, E.out.2.1, E.out.2.2.1, E.out.2.2.2]; rfl
        · rw [E.out.2.2.2]
      have hst : (k.st = 2 ∧ ¬ k.unt ≤ a) ∨ (¬ k.st = 1 ∧ ¬ k.st = 2) := by unfold letB at hl; simp at hl; omega
      simp only [rbV, rbA] at *
      clear E RX hn hl ht hln
      generalize RaR w k (.slice p ln cp) a = RR at *
      rcases hst with ⟨s1, s2⟩ | ⟨s1, s2⟩
      · have b1 : (k.st == 1) = false := by simp [s1]
        have b2 : (k.st == 2) = true := by simp [s1]
        clear s1
        go_enter Try.func9, Try.ntmps9
        go_upto_region 9 with (go_at_call 20; refine (TD.out _).mono ?_; rintro e w1 ⟨rfl, hb⟩; have R1 := hid (R0.out.call hb); obtain ⟨g0, g1, g2, g3, g4, g5, g6, g7, g8⟩ := cells9 R1.out.p; obtain ⟨z0, z1, z2, z3, z4, z5, z6, z7, z8⟩ := cells9 R1.out.q; have fq := frz R1.out.p; have fr := frz R1.out.q; clear hb)
        generalize hS : World.setCell _ ⟨_, 6, none⟩ _ = w2
        have R2' : Hid (R2 w ((#[.int .i64 k.lim, .int .i64 k.rst, .int .i64 k.st, .int .i64 k.trn, .int .i64 k.row, .int .i64 k.unt, .int .i64 k.lst, .int .i64 k.trs, .slice p ln cp] : Array Value).setIfInBounds 6 (.int .i64 a)) w2) := by rw [← hS]; exact R1.out.set 6 _
        clear hS g0 g1 g2 g3 g4 g5 g6 g7 g8 z0 z1 z2 z3 z4 z5 z6 z7 z8 fq fr
        obtain ⟨g0, g1, g2, g3, g4, g5, g6, g7, g8⟩ := cells9 R2'.out.p
        obtain ⟨z0, z1, z2, z3, z4, z5, z6, z7, z8⟩ := cells9 R2'.out.q
        have fq := frz R2'.out.p
        have fr := frz R2'.out.q
        have h9 := set9 R2'.out.q (.int .i64 k.lim) (.int .i64 k.rst) (.int .i64 k.st) (.int .i64 k.trn) (.int .i64 k.row) (.int .i64 k.unt) (.int .i64 a) (.int .i64 k.trs) (.slice p ln cp)
        have hB9 := below9 R2'.out.bel (Nat.le_succ _) (.int .i64 k.lim) (.int .i64 k.rst) (.int .i64 k.st) (.int .i64 k.trn) (.int .i64 k.row) (.int .i64 k.unt) (.int .i64 a) (.int .i64 k.trs) (.slice p ln cp)
        go_wp2_with fail
        generalize hV : World.setCell _ ⟨_, 8, none⟩ _ = V at h9 hB9 ⊢
        clear hV
        obtain ⟨y0, y1, y2, y3, y4, y5, y6, y7, y8⟩ := cells9 h9
        refine bodyPost_ret (v := .tuple #[.agg #[.int .i64 k.lim, .int .i64 k.rst, .int .i64 k.st, .int .i64 k.trn, .int .i64 k.row, .int .i64 k.unt, .int .i64 a, .int .i64 k.trs, (.slice p ln cp)], .int .i64 0, .bool false, .int .i64 0]) (by simp [results, Try.results9, go_sem, y0, y1, y2, y3, y4, y5, y6, y7, y8]) rfl ?_
        exact FI.out _ hB9
      · have b1 : (k.st == 1) = false := by simpa using s1
        have b2 : (k.st == 2) = false := by simpa using s2
        clear s1 s2
        go_enter Try.func9, Try.ntmps9
        go_upto_region 9 with (go_at_call 20; refine (TD.out _).mono ?_; rintro e w1 ⟨rfl, hb⟩; have R1 := hid (R0.out.call hb); obtain ⟨g0, g1, g2, g3, g4, g5, g6, g7, g8⟩ := cells9 R1.out.p; obtain ⟨z0, z1, z2, z3, z4, z5, z6, z7, z8⟩ := cells9 R1.out.q; have fq := frz R1.out.p; have fr := frz R1.out.q; clear hb)
        generalize hS : World.setCell _ ⟨_, 6, none⟩ _ = w2
        have R2' : Hid (R2 w ((#[.int .i64 k.lim, .int .i64 k.rst, .int .i64 k.st, .int .i64 k.trn, .int .i64 k.row, .int .i64 k.unt, .int .i64 k.lst, .int .i64 k.trs, .slice p ln cp] : Array Value).setIfInBounds 6 (.int .i64 a)) w2) := by rw [← hS]; exact R1.out.set 6 _
        clear hS g0 g1 g2 g3 g4 g5 g6 g7 g8 z0 z1 z2 z3 z4 z5 z6 z7 z8 fq fr
        obtain ⟨g0, g1, g2, g3, g4, g5, g6, g7, g8⟩ := cells9 R2'.out.p
        obtain ⟨z0, z1, z2, z3, z4, z5, z6, z7, z8⟩ := cells9 R2'.out.q
        have fq := frz R2'.out.p
        have fr := frz R2'.out.q
        have h9 := set9 R2'.out.q (.int .i64 k.lim) (.int .i64 k.rst) (.int .i64 k.st) (.int .i64 k.trn) (.int .i64 k.row) (.int .i64 k.unt) (.int .i64 a) (.int .i64 k.trs) (.slice p ln cp)
        have hB9 := below9 R2'.out.bel (Nat.le_succ _) (.int .i64 k.lim) (.int .i64 k.rst) (.int .i64 k.st) (.int .i64 k.trn) (.int .i64 k.row) (.int .i64 k.unt) (.int .i64 a) (.int .i64 k.trs) (.slice p ln cp)
        go_wp2_with fail
        generalize hV : World.setCell _ ⟨_, 8, none⟩ _ = V at h9 hB9 ⊢
        clear hV
        obtain ⟨y0, y1, y2, y3, y4, y5, y6, y7, y8⟩ := cells9 h9
        refine bodyPost_ret (v := .tuple #[.agg #[.int .i64 k.lim, .int .i64 k.rst, .int .i64 k.st, .int .i64 k.trn, .int .i64 k.row, .int .i64 k.unt, .int .i64 a, .int .i64 k.trs, (.slice p ln cp)], .int .i64 0, .bool false, .int .i64 0]) (by simp [results, Try.results9, go_sem, y0, y1, y2, y3, y4, y5, y6, y7, y8]) rfl ?_
        exact FI.out _ hB9
    | true =>
      have hw : k.ways.length = 1024 := by
        by_cases q : k.ways.length = 1024
        · exact q
        · rw [(askE_y ht hl q).2.1] at hn; cases hn
      have E := hid (askE_l ht hl hw)
      have FI : Hid (∀ w', Below w.heap.size w w' → RaR w k (.slice p ln cp) a (.returned (.tuple #[.agg #[.int .i64 k.lim, .int .i64 k.rst, .int .i64 k.st, .int .i64 k.trn, .int .i64 k.row, .int .i64 k.unt, .int .i64 k.lst, .int .i64 k.trs, .slice p ln cp], .int .i64 0, .bool false, .int .i64 3])) w') := fun w' hb => by
        rw [RX.out]
        refine ⟨?_, ?_, hb⟩
        · rw [E.out.1, E.out.2.1, E.out.2.2.1, E.out.2.2.2]; rfl
        · rw [E.out.2.2.2]
      have hst : (k.st = 2 ∧ k.unt ≤ a) ∨ k.st = 1 := by unfold letB at hl; simp at hl; omega
      obtain rfl : ln = 1024 := by omega
      simp only [rbV, rbA] at *
      clear E RX hn hl ht hln hw
      generalize RaR w k (.slice p 1024 cp) a = RR at *
      rcases hst with ⟨s1, s2⟩ | s1
      · have b1 : (k.st == 1) = false := by simp [s1]
        have b2 : (k.st == 2) = true := by simp [s1]
        clear s1
        go_enter Try.func9, Try.ntmps9
        go_upto_region 6 with (go_at_call 20; refine (TD.out _).mono ?_; rintro e w1 ⟨rfl, hb⟩; have R1 := hid (R0.out.call hb); obtain ⟨g0, g1, g2, g3, g4, g5, g6, g7, g8⟩ := cells9 R1.out.p; obtain ⟨z0, z1, z2, z3, z4, z5, z6, z7, z8⟩ := cells9 R1.out.q; have fq := frz R1.out.p; have fr := frz R1.out.q; clear hb)
        have h9 := set9 R1.out.q (.int .i64 k.lim) (.int .i64 k.rst) (.int .i64 k.st) (.int .i64 k.trn) (.int .i64 k.row) (.int .i64 k.unt) (.int .i64 k.lst) (.int .i64 k.trs) (.slice p 1024 cp)
        have hB9 := below9 R1.out.bel (Nat.le_succ _) (.int .i64 k.lim) (.int .i64 k.rst) (.int .i64 k.st) (.int .i64 k.trn) (.int .i64 k.row) (.int .i64 k.unt) (.int .i64 k.lst) (.int .i64 k.trs) (.slice p 1024 cp)
        go_wp2_with fail
        generalize hV : World.setCell _ ⟨_, 8, none⟩ _ = V at h9 hB9 ⊢
        clear hV
        obtain ⟨y0, y1, y2, y3, y4, y5, y6, y7, y8⟩ := cells9 h9
        refine bodyPost_ret (v := .tuple #[.agg #[.int .i64 k.lim, .int .i64 k.rst, .int .i64 k.st, .int .i64 k.trn, .int .i64 k.row, .int .i64 k.unt, .int .i64 k.lst, .int .i64 k.trs, (.slice p 1024 cp)], .int .i64 0, .bool false, .int .i64 3]) (by simp [results, Try.results9, go_sem, y0, y1, y2, y3, y4, y5, y6, y7, y8]) rfl ?_
        exact FI.out _ hB9
      · have b1 : (k.st == 1) = true := by simp [s1]
        clear s1
        go_enter Try.func9, Try.ntmps9
        go_upto_region 6 with (go_at_call 20; refine (TD.out _).mono ?_; rintro e w1 ⟨rfl, hb⟩; have R1 := hid (R0.out.call hb); obtain ⟨g0, g1, g2, g3, g4, g5, g6, g7, g8⟩ := cells9 R1.out.p; obtain ⟨z0, z1, z2, z3, z4, z5, z6, z7, z8⟩ := cells9 R1.out.q; have fq := frz R1.out.p; have fr := frz R1.out.q; clear hb)
        have h9 := set9 R1.out.q (.int .i64 k.lim) (.int .i64 k.rst) (.int .i64 k.st) (.int .i64 k.trn) (.int .i64 k.row) (.int .i64 k.unt) (.int .i64 k.lst) (.int .i64 k.trs) (.slice p 1024 cp)
        have hB9 := below9 R1.out.bel (Nat.le_succ _) (.int .i64 k.lim) (.int .i64 k.rst) (.int .i64 k.st) (.int .i64 k.trn) (.int .i64 k.row) (.int .i64 k.unt) (.int .i64 k.lst) (.int .i64 k.trs) (.slice p 1024 cp)
        go_wp2_with fail
        generalize hV : World.setCell _ ⟨_, 8, none⟩ _ = V at h9 hB9 ⊢
        clear hV
        obtain ⟨y0, y1, y2, y3, y4, y5, y6, y7, y8⟩ := cells9 h9
        refine bodyPost_ret (v := .tuple #[.agg #[.int .i64 k.lim, .int .i64 k.rst, .int .i64 k.st, .int .i64 k.trn, .int .i64 k.row, .int .i64 k.unt, .int .i64 k.lst, .int .i64 k.trs, (.slice p 1024 cp)], .int .i64 0, .bool false, .int .i64 3]) (by simp [results, Try.results9, go_sem, y0, y1, y2, y3, y4, y5, y6, y7, y8]) rfl ?_
        exact FI.out _ hB9
  · have E := hid (askE_t ht)
    have FI : Hid (∀ w', Below w.heap.size w w' → RaR w k (.slice p ln cp) a (.returned (.tuple #[.agg #[.int .i64 k.lim, .int .i64 k.rst, .int .i64 k.st, .int .i64 k.trn, .int .i64 k.row, .int .i64 k.unt, .int .i64 k.lst, .int .i64 k.trs, .slice p ln cp], .int .i64 0, .bool false, .int .i64 (tdE k a)])) w') := fun w' hb => by
      rw [RX.out]
      refine ⟨?_, ?_, hb⟩
      · rw [E.out.1, E.out.2.1, E.out.2.2.1, E.out.2.2.2]; rfl
      · rw [E.out.2.2.2]
    have hE2 : (tdE k a == 0) = false := by simpa using ht
    have hE3 : (tdE k a != 0) = true := by simpa using ht
    simp only [rbV, rbA] at *
    clear E RX hn hln
    generalize RaR w k (.slice p ln cp) a = RR at *
    generalize tdE k a = y at *
    go_enter Try.func9, Try.ntmps9
    go_upto_region 3 with (go_at_call 20; refine (TD.out _).mono ?_; rintro e w1 ⟨rfl, hb⟩; have R1 := hid (R0.out.call hb); obtain ⟨g0, g1, g2, g3, g4, g5, g6, g7, g8⟩ := cells9 R1.out.p; obtain ⟨z0, z1, z2, z3, z4, z5, z6, z7, z8⟩ := cells9 R1.out.q; have fq := frz R1.out.p; have fr := frz R1.out.q; clear hb)
    have h9 := set9 R1.out.q (.int .i64 k.lim) (.int .i64 k.rst) (.int .i64 k.st) (.int .i64 k.trn) (.int .i64 k.row) (.int .i64 k.unt) (.int .i64 k.lst) (.int .i64 k.trs) (.slice p ln cp)
    have hB9 := below9 R1.out.bel (Nat.le_succ _) (.int .i64 k.lim) (.int .i64 k.rst) (.int .i64 k.st) (.int .i64 k.trn) (.int .i64 k.row) (.int .i64 k.unt) (.int .i64 k.lst) (.int .i64 k.trs) (.slice p ln cp)
    go_wp2_with fail
    generalize hV : World.setCell _ ⟨_, 8, none⟩ _ = V at h9 hB9 ⊢
    clear hV
    obtain ⟨y0, y1, y2, y3, y4, y5, y6, y7, y8⟩ := cells9 h9
    refine bodyPost_ret (v := .tuple #[.agg #[.int .i64 k.lim, .int .i64 k.rst, .int .i64 k.st, .int .i64 k.trn, .int .i64 k.row, .int .i64 k.unt, .int .i64 k.lst, .int .i64 k.trs, (.slice p ln cp)], .int .i64 0, .bool false, .int .i64 y]) (by simp [results, Try.results9, go_sem, y0, y1, y2, y3, y4, y5, y6, y7, y8]) rfl ?_
    exact FI.out _ hB9
end Go.Proofs.Ytddnagoljdhnlaa
