/- Depend: the chapter's first example. -/
import Derived.Test.YtkhcinpcoabphaaDd1
namespace Go.Proofs.Ytkhcinpcoabphaa
open Go.RowKit

def ex1 : Wb := begW webO 0 5
def ex2 : Wb := begW ex1 0 6
def ex3 : Wb := begW ex2 1 7
def ex4 : Wb := waiW ex3 1 5
theorem webO_r (c : Nat) : webO.r c = t0 := tiA_rep 256 c
theorem webO_w (c : Nat) : webO.w c = t0 := tiA_rep 128 c
theorem webO_stk (t : Nat) : stk webO t = [] := by
  rw [List.eq_nil_iff_forall_not_mem]
  intro c hc
  have := (stk_mem.1 hc).1
  rw [webO_r] at this; cases this
theorem ex1_ok : WI ex1 := begW_ok webO_ok (by omega) (by omega) (by rw [webO_w]; rfl) (by rw [webO_r]; rfl)
theorem ex1_r (c : Nat) : ex1.r c = if c = 5 then ⟨0, 1, true⟩ else t0 := by
  have := begW_r webO_ok (t := 0) (c := 5) (by omega) c
  rw [webO_r] at this; exact this
theorem ex1_stk (t : Nat) : stk ex1 t = if t = 0 then [5] else [] := by
  have := begW_stk webO_ok (t := 0) (c := 5) (by omega) (by rw [webO_r]; rfl) t
  rw [webO_stk, webO_stk] at this; exact this
theorem ex1_w (t : Nat) : ex1.w t = t0 := webO_w t
theorem ex2_ok : WI ex2 := begW_ok ex1_ok (by omega) (by omega) (by rw [ex1_w]; rfl) (by rw [ex1_r]; rfl)
theorem ex2_r (c : Nat) : ex2.r c = if c = 6 then ⟨0, 2, true⟩ else if c = 5 then ⟨0, 1, true⟩ else t0 := by
  have := begW_r ex1_ok (t := 0) (c := 6) (by omega) c
  rw [ex1_r] at this; exact this
theorem ex2_stk (t : Nat) : stk ex2 t = if t = 0 then [5, 6] else [] := by
  have := begW_stk ex1_ok (t := 0) (c := 6) (by omega) (by rw [ex1_r]; rfl) t
  rw [ex1_stk, ex1_stk] at this
  have this : stk ex2 t = if t = 0 then [5] ++ [6] else if t = 0 then [5] else [] := this
  rw [this]; split <;> rfl
theorem ex2_w (t : Nat) : ex2.w t = t0 := webO_w t
theorem ex3_ok : WI ex3 := begW_ok ex2_ok (by omega) (by omega) (by rw [ex2_w]; rfl) (by rw [ex2_r]; rfl)
theorem ex3_r (c : Nat) : ex3.r c = if c = 7 then ⟨1, 3, true⟩ else if c = 6 then ⟨0, 2, true⟩ else if c = 5 then ⟨0, 1, true⟩ else t0 := by
  have := begW_r ex2_ok (t := 1) (c := 7) (by omega) c
  rw [ex2_r] at this; exact this
theorem ex3_stk (t : Nat) : stk ex3 t = if t = 1 then [7] else if t = 0 then [5, 6] else [] := by
  have := begW_stk ex2_ok (t := 1) (c := 7) (by omega) (by rw [ex2_r]; rfl) t
  rw [ex2_stk, ex2_stk] at this
  exact this
theorem ex3_w (t : Nat) : ex3.w t = t0 := webO_w t
theorem ex3_way : Way (nxt ex3) 5 [5, 6] := by
  refine .next 5 6 _ (nxt_iff.2 ⟨0, by rw [ex3_stk]; simp, Or.inl ?_⟩) (.last 6 ?_)
  · rw [ex3_stk]; exact ⟨0, rfl, rfl⟩
  · exact top_none (t := 0) (by rw [ex3_stk]; rfl) (by rw [ex3_w]; rfl)
theorem ex3_cir : cirW ex3 1 5 = [] := by
  unfold cirW cirL
  rw [(wayL_way ex3_ok 5).uniq ex3_way, ex3_stk]
  rfl
theorem ex4_ok : WI ex4 := waiW_ok ex3_ok (by omega) (by rw [ex3_w]; rfl) (by rw [ex3_r]; rfl) (fun ⟨l, hl⟩ => by
  have e := cirW_eq ex3_ok hl
  rw [ex3_cir] at e
  exact hl.way.ne e.symm)
theorem ex4_r (c : Nat) : ex4.r c = if c = 7 then ⟨1, 3, true⟩ else if c = 6 then ⟨0, 2, true⟩ else if c = 5 then ⟨0, 1, true⟩ else t0 := ex3_r c
theorem ex4_stk (t : Nat) : stk ex4 t = if t = 1 then [7] else if t = 0 then [5, 6] else [] := ex3_stk t
theorem ex4_w (t : Nat) : ex4.w t = if t = 1 then ⟨5, 4, true⟩ else t0 := by
  have := waiW_w ex3_ok (t := 1) (c := 5) (by omega) t
  rw [ex3_w] at this; exact this
theorem ex4_way : Way (nxt ex4) 7 [7, 5, 6] := by
  refine .next 7 5 _ (nxt_iff.2 ⟨1, by rw [ex4_stk]; simp, Or.inr ?_⟩) (.next 5 6 _ (nxt_iff.2 ⟨0, by rw [ex4_stk]; simp, Or.inl ?_⟩) (.last 6 ?_))
  · rw [ex4_stk, ex4_w]; exact ⟨rfl, rfl, rfl⟩
  · rw [ex4_stk]; exact ⟨0, rfl, rfl⟩
  · exact top_none (t := 0) (by rw [ex4_stk]; rfl) (by rw [ex4_w]; rfl)
theorem ex4_cir : cirW ex4 0 7 = [7, 5, 6] := by
  unfold cirW cirL
  rw [(wayL_way ex4_ok 7).uniq ex4_way, ex4_stk]
  rfl
theorem exE1 : begE webO 0 5 = 0 := by
  unfold begE
  rw [show (0 : Int).toNat = 0 from rfl, show (5 : Int).toNat = 5 from rfl, webO_w, webO_r, webO_stk]; rfl
theorem exE2 : begE ex1 0 6 = 0 := by
  unfold begE
  rw [show (0 : Int).toNat = 0 from rfl, show (6 : Int).toNat = 6 from rfl, ex1_w, ex1_r, ex1_stk]; rfl
theorem exE3 : begE ex2 1 7 = 0 := by
  unfold begE
  rw [show (1 : Int).toNat = 1 from rfl, show (7 : Int).toNat = 7 from rfl, ex2_w, ex2_r, ex2_stk]; rfl
theorem exX1 : begX webO 0 5 = ex1 := by unfold begX; rw [if_pos exE1]; rfl
theorem exX2 : begX ex1 0 6 = ex2 := by unfold begX; rw [if_pos exE2]; rfl
theorem exX3 : begX ex2 1 7 = ex3 := by unfold begX; rw [if_pos exE3]; rfl
theorem exA3 : askE ex3 1 5 = 0 := by
  unfold askE
  rw [show (1 : Int).toNat = 1 from rfl, ex3_w]; rfl
theorem exW3 : wtE ex3 1 5 = 0 := by
  unfold wtE
  rw [if_pos exA3, show (1 : Int).toNat = 1 from rfl, show (5 : Int).toNat = 5 from rfl, ex3_r, ex3_cir]; rfl
theorem exX4 : wtX ex3 1 5 = ex4 := by unfold wtX; rw [if_pos exW3]; rfl
theorem exL3 : wtL ex3 1 5 = [] := by unfold wtL; rw [exW3]; rfl
theorem exA4 : askE ex4 0 7 = 0 := by
  unfold askE
  rw [show (0 : Int).toNat = 0 from rfl, ex4_w]; rfl
theorem exAL : askL ex4 0 7 = [7, 5, 6] := by
  unfold askL
  rw [if_pos exA4, show (0 : Int).toNat = 0 from rfl, show (7 : Int).toNat = 7 from rfl, ex4_cir]
theorem exW4 : wtE ex4 0 7 = 140 := by
  unfold wtE
  rw [if_pos exA4, show (0 : Int).toNat = 0 from rfl, show (7 : Int).toNat = 7 from rfl, ex4_r, ex4_cir]; rfl
theorem exWL : wtL ex4 0 7 = [7, 5, 6] := by
  unfold wtL
  rw [exW4, if_pos rfl, show (0 : Int).toNat = 0 from rfl, show (7 : Int).toNat = 7 from rfl, ex4_cir]
theorem exWX : wtX ex4 0 7 = ex4 := by unfold wtX; rw [exW4]; rfl
theorem seven_own (w : World) : GS KI (w.alloc (.cells #[.int .i64 7, .int .i64 5, .int .i64 6] 3)) (.slice (some ⟨w.heap.size, 0, none⟩) 3 3) (nI [7, 5, 6]) := by
  have h : OwnG KI (w.alloc (.cells #[.int .i64 7, .int .i64 5, .int .i64 6] 3)) w.heap.size (.slice (some ⟨w.heap.size, 0, none⟩) 3 3) (nI [7, 5, 6]) := ⟨rfl, Or.inr ⟨w.heap.size, 3, #[.int .i64 7, .int .i64 5, .int .i64 6], rfl, Nat.le_refl _, heap_alloc_new w _, Nat.le_refl _, by decide, rfl, rfl⟩⟩
  exact h.gs KI_ok.len
set_option maxRecDepth 100000 in
set_option maxHeartbeats 8000000 in
theorem works_any (w : World) : Calls Try.prog 4 #[] w fun e w' => e = .returned (.bool true) ∧ Below w.heap.size w w' := by
  have N0 := hid (new_pw w)
  have E1 : Hid (∀ W, PW w W w.heap.size webO 0 → Calls Try.prog 8 #[.pointer (some ⟨w.heap.size, 0, none⟩), .int .i64 0, .int .i64 5] W fun e w' => e = .returned (.int .i64 0) ∧ PW w w' w.heap.size ex1 1) := fun W k => by
    refine (begin_pw k (by omega) 0 5).mono ?_
    rw [exE1, exX1]
    exact fun e w' h => ⟨h.1, h.2.1⟩
  have E2 : Hid (∀ W, PW w W w.heap.size ex1 1 → Calls Try.prog 8 #[.pointer (some ⟨w.heap.size, 0, none⟩), .int .i64 0, .int .i64 6] W fun e w' => e = .returned (.int .i64 0) ∧ PW w w' w.heap.size ex2 2) := fun W k => by
    refine (begin_pw k (by omega) 0 6).mono ?_
    rw [exE2, exX2]
    exact fun e w' h => ⟨h.1, h.2.1⟩
  have E3 : Hid (∀ W, PW w W w.heap.size ex2 2 → Calls Try.prog 8 #[.pointer (some ⟨w.heap.size, 0, none⟩), .int .i64 1, .int .i64 7] W fun e w' => e = .returned (.int .i64 0) ∧ PW w w' w.heap.size ex3 3) := fun W k => by
    refine (begin_pw k (by omega) 1 7).mono ?_
    rw [exE3, exX3]
    exact fun e w' h => ⟨h.1, h.2.1⟩
  have E4 : Hid (∀ W, PW w W w.heap.size ex3 3 → Calls Try.prog 9 #[.pointer (some ⟨w.heap.size, 0, none⟩), .int .i64 1, .int .i64 5] W fun e w' => (∃ q cc, e = .returned (.tuple #[.slice q 0 cc, .int .i64 0])) ∧ PW w w' w.heap.size ex4 4) := fun W k => by
    refine (wait_pw k (by omega) 1 5).mono ?_
    rw [exW3, exX4, exL3]
    rintro e w' ⟨q, cc, rfl, _, h, _⟩
    exact ⟨⟨q, cc, rfl⟩, h⟩
  have E5 : Hid (∀ W, PW w W w.heap.size ex4 4 → Calls Try.prog 10 #[.pointer (some ⟨w.heap.size, 0, none⟩), .int .i64 0, .int .i64 7] W fun e w' => (∃ q cc, e = .returned (.tuple #[.slice q 3 cc, .int .i64 0]) ∧ OwnG KI w' W.heap.size (.slice q 3 cc) (nI [7, 5, 6])) ∧ PW w w' w.heap.size ex4 4) := fun W k => by
    refine (ask_pw k 0 7).mono ?_
    rw [exA4, exAL]
    rintro e w' ⟨q, cc, rfl, ho, h, _⟩
    exact ⟨⟨q, cc, rfl, ho⟩, h⟩
  have E6 : Hid (∀ W, PW w W w.heap.size ex4 4 → Calls Try.prog 9 #[.pointer (some ⟨w.heap.size, 0, none⟩), .int .i64 0, .int .i64 7] W fun e w' => (∃ q cc, e = .returned (.tuple #[.slice q 3 cc, .int .i64 140]) ∧ OwnG KI w' W.heap.size (.slice q 3 cc) (nI [7, 5, 6])) ∧ PW w w' w.heap.size ex4 5 ∧ But (fun x => x = w.heap.size) W w') := fun W k => by
    refine (wait_pw k (by omega) 0 7).mono ?_
    rw [exW4, exWX, exWL]
    rintro e w' ⟨q, cc, rfl, ho, h, hb⟩
    exact ⟨⟨q, cc, rfl, ho⟩, h, hb⟩
  have IN : Hid (∀ (W : World) (v : Value), GS KI W v (nI [7, 5, 6]) → Calls Try.prog 11 #[v, .slice (some ⟨W.heap.size, 0, none⟩) 3 3] (W.alloc (.cells #[.int .i64 7, .int .i64 5, .int .i64 6] 3)) fun e w' => e = .returned (.bool true) ∧ Below W.heap.size W w') := fun W v hv => by
    refine (ints_any _ _ _ _ _ (hv.below (bal W _)) (seven_own W) (by decide)).mono ?_
    rintro e w' ⟨rfl, hb⟩
    exact ⟨rfl, bl2 hb⟩
  go_enter Try.func4, Try.ntmps4
  go_wp2_with (first | (go_at_call 5; refine N0.out.mono ?_; rintro e w1 ⟨rfl, h1⟩; have P1 := hid h1; clear h1) | (go_at_call 8; refine (E1.out _ P1.out).mono ?_; clear P1; rintro e w2 ⟨rfl, h2⟩; have P2 := hid h2; clear h2) | (go_at_call 8; refine (E2.out _ P2.out).mono ?_; clear P2; rintro e w3 ⟨rfl, h3⟩; have P3 := hid h3; clear h3) | (go_at_call 8; refine (E3.out _ P3.out).mono ?_; clear P3; rintro e w4 ⟨rfl, h4⟩; have P4 := hid h4; clear h4) | (go_at_call 9; refine (E4.out _ P4.out).mono ?_; clear P4; rintro e w5 ⟨⟨q5, c5, rfl⟩, h5⟩; have P5 := hid h5; clear h5) | (go_at_call 10; refine (E5.out _ P5.out).mono ?_; rintro e w6 ⟨⟨q6, c6, rfl, o6⟩, h6⟩; have P6 := hid h6; have G5 := hid P5.out.bl; have O6 := hid o6; have L6 := hid P5.out.lt; clear h6 o6 P5) | (go_at_call 9; refine (E6.out _ P6.out).mono ?_; rintro e w7 ⟨⟨q7, c7, rfl, o7⟩, h7, b7⟩; have P7 := hid h7; have O7 := hid (OwnG.gs KI_ok.len o7); have O8 := hid (O6.out.far (fun g hg => b7.block g (O6.out.lt hg).2 (fun e => by have e : g = w.heap.size := e; have := (O6.out.lt hg).1; have := L6.out; omega))); clear h7 o7 b7) | (go_at_call 11; refine (IN.out _ _ (OwnG.gs KI_ok.len O8.out)).mono ?_; clear O8 O6; rintro e w8 ⟨rfl, b8⟩; have B8 := hid b8; clear b8) | (go_at_call 11; refine (IN.out _ _ (O7.out.below B8.out)).mono ?_; rintro e w9 ⟨rfl, b9⟩; have B9 := hid b9; clear b9))
  go_ret
  exact ⟨rfl, bl3 (bl3 P7.out.bl B8.out) B9.out⟩
end Go.Proofs.Ytkhcinpcoabphaa
