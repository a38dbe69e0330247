/- The walk of the law LexTokens: it answers true for every text, the keywords and the marks lying in their variables. -/
import Derived.Test.YthckmpjokabkcaaDoorLexTok
namespace Go.Proofs.YthckmpjokabkcaaDoor
open Go.RowKit

theorem othCell {w : World} {a : Addr} {u : Value} {b : Nat} (h : a.block ≠ b) (o : Nat) : (w.setCell a u).cell? ⟨b, o, none⟩ = w.cell? ⟨b, o, none⟩ := World.cell?_of_block (heap_setCell_other w a b u (fun e => h e.symm))
theorem othFroz {w : World} {a : Addr} {u : Value} {b : Nat} (h : a.block ≠ b) (o : Nat) : (w.setCell a u).frozen? ⟨b, o, none⟩ = w.frozen? ⟨b, o, none⟩ := World.frozen?_of_block (heap_setCell_other w a b u (fun e => h e.symm))
/-- What stays while the first list is overwritten. -/
structure LP (w : World) (g1 c1 : Nat) (L : List Tok) (g2 Bf Bg : Nat) (fa fc : Int) (wr : World) : Prop where
  row : ∃ xs, wr.ownsRow (w.heap.size + 1) 30 4 (.slice (some ⟨g1, 0, none⟩) L.length c1) L.length xs
  below : Below w.heap.size w wr
  toks : TokAt wr g2 0 L
  f0 : wr.cell? ⟨Bf, 0, none⟩ = some (.int .i64 fa)
  f1 : wr.cell? ⟨Bf, 1, none⟩ = some (.int .i64 fc)
  z0 : wr.frozen? ⟨Bf, 0, none⟩ = false
  z1 : wr.frozen? ⟨Bf, 1, none⟩ = false
  h0 : wr.cell? ⟨Bg, 0, none⟩ = some (.int .i64 fa)
  h1 : wr.cell? ⟨Bg, 1, none⟩ = some (.int .i64 fc)
  sf : Bf < wr.heap.size
  sg : Bg < wr.heap.size
  s2 : g2 < wr.heap.size
theorem LP.store {w : World} {g1 c1 : Nat} {L : List Tok} {g2 Bf Bg : Nat} {fa fc : Int} {wr : World} (h : LP w g1 c1 L g2 Bf Bg fa fc wr) (n2 : g1 ≠ g2) (nf : g1 ≠ Bf) (ng : g1 ≠ Bg) (hg : w.heap.size ≤ g1) (j : Nat) (u : Value) : LP w g1 c1 L g2 Bf Bg fa fc (wr.setCell ⟨g1, j, none⟩ u) := by
  obtain ⟨xs, hx⟩ := h.row
  have hs : (wr.setCell ⟨g1, j, none⟩ u).heap.size = wr.heap.size := by simp [World.setCell]
  refine ⟨⟨_, (hx.stored j u).1⟩, h.below.setCell hg u, h.toks.setCell n2 u, ?_, ?_, ?_, ?_, ?_, ?_, by rw [hs]; exact h.sf, by rw [hs]; exact h.sg, by rw [hs]; exact h.s2⟩
  · rw [othCell nf]; exact h.f0
  · rw [othCell nf]; exact h.f1
  · rw [othFroz nf]; exact h.z0
  · rw [othFroz nf]; exact h.z1
  · rw [othCell ng]; exact h.h0
  · rw [othCell ng]; exact h.h1

theorem below_drewN_self (w : World) (n : Nat) : Below w.heap.size w (w.drewN n) := below_drewN (Below.refl _ _) n
theorem LP.drewN {w : World} {g1 c1 : Nat} {L : List Tok} {g2 Bf Bg : Nat} {fa fc : Int} {wr : World} (h : LP w g1 c1 L g2 Bf Bg fa fc wr) (n : Nat) : LP w g1 c1 L g2 Bf Bg fa fc (wr.drewN n) := by
  have b := below_drewN_self wr n
  have hs : (wr.drewN n).heap.size = wr.heap.size := rfl
  obtain ⟨xs, hx⟩ := h.row
  refine ⟨⟨xs, ownsRow_below hx b⟩, below_drewN h.below n, h.toks.below b h.s2, ?_, ?_, ?_, ?_, ?_, ?_, h.sf, h.sg, h.s2⟩
  · rw [b.cell (p := ⟨Bf, 0, none⟩) h.sf]; exact h.f0
  · rw [b.cell (p := ⟨Bf, 1, none⟩) h.sf]; exact h.f1
  · rw [b.frozen (p := ⟨Bf, 0, none⟩) h.sf]; exact h.z0
  · rw [b.frozen (p := ⟨Bf, 1, none⟩) h.sf]; exact h.z1
  · rw [b.cell (p := ⟨Bg, 0, none⟩) h.sg]; exact h.h0
  · rw [b.cell (p := ⟨Bg, 1, none⟩) h.sg]; exact h.h1

set_option maxRecDepth 100000 in
set_option maxHeartbeats 8000000 in
theorem lexTokens_some (s : ByteArray) (w : World) (hmax : s.size ≤ maxLen) (hk : KeysAt w) (hm : MarksAt w) (hne : (tkRes s.data.toList).1 ≠ []) :
    Calls Tryd.prog 3 #[.string s] w fun e w' => e = .returned (.bool true) ∧ Below w.heap.size w w' := by
  have TA := fun w1 hk1 hm1 => tokens_any s w1 hmax hk1 hm1
  have RA := fun w1 => refTokens_any s w1 hmax
  have hlen := tkRes_len s.data.toList
  generalize tkRes s.data.toList = X at *
  obtain ⟨L, fa, fc⟩ := X
  simp only at TA RA hlen hne
  have HTA : Hid _ := TA
  have HRA : Hid _ := RA
  have HK : Hid _ := hk
  have HM : Hid _ := hm
  have HNE : Hid _ := hne
  clear TA RA hk hm hne
  go_enter Tryd.func3, Tryd.ntmps3
  go_wp2_with fail
  refine (HTA.out _ HK.out HM.out).mono ?_
  rintro e w1 ⟨v1, rfl, ho1, hb1⟩
  obtain ⟨g1, c1, rfl, hg1, hg1'⟩ := ho1.block HNE.out
  have hz1 := hb1.size
  have t1 : Hid (TokAt w1 g1 0 L) := ho1.at
  go_wp2_with fail
  refine (HRA.out _).mono ?_
  rintro e w2 ⟨v2, rfl, ho2, hb2⟩
  obtain ⟨g2, c2, rfl, hg2, hg2'⟩ := ho2.block HNE.out
  have hz2 := hb2.size
  simp at hz2 hg2
  have t2 : Hid (TokAt w2 g2 0 L) := ho2.at
  have q0 := (oldCells hb2).1 w1.heap.size 0 (by simp)
  have q1 := (oldCells hb2).1 w1.heap.size 1 (by simp)
  have q2 := (oldCells hb2).2 w1.heap.size 0 (by simp)
  have q3 := (oldCells hb2).2 w1.heap.size 1 (by simp)
  have lt12 : w1.heap.size < w2.heap.size := by omega
  go_wp2_with fail
  have n12 : g1 ≠ g2 := by omega
  have n1f : g1 ≠ w1.heap.size := by omega
  have n1g : g1 ≠ w2.heap.size := by omega
  have t1' : TokAt w2 g1 0 L := (t1.out.below ((Below.refl _ _).alloc (Nat.le_refl _) _) (by omega)).below hb2 (by simp; omega)
  have bAll : Below w.heap.size w (w2.alloc (.cells #[.int .i64 fa, .int .i64 fc] 25)) := ((hb1.alloc (by omega) _).trans (hb2.mono (by simp; omega))).alloc (by omega) _
  have lp : LP w g1 c1 L g2 w1.heap.size w2.heap.size fa fc (w2.alloc (.cells #[.int .i64 fa, .int .i64 fc] 25)) := by
    refine ⟨⟨L.flatMap tokC, ?_⟩, bAll, t2.out.below ((Below.refl _ _).alloc (Nat.le_refl _) _) hg2', ?_, ?_, ?_, ?_, ?_, ?_, by simp; omega, by simp, by simp; omega⟩
    · exact ((ho1.below ((Below.refl _ _).alloc (Nat.le_refl _) _)).below hb2).below ((Below.refl _ _).alloc (Nat.le_refl _) _)
    · rw [World.cell?_alloc_past _ _ _ lt12, q0, cell_of_row _ _ _ _ _ _ (heap_alloc_new w1 _)]; rfl
    · rw [World.cell?_alloc_past _ _ _ lt12, q1, cell_of_row _ _ _ _ _ _ (heap_alloc_new w1 _)]; rfl
    · rw [((Below.refl _ _).alloc (Nat.le_refl _) _ : Below w2.heap.size w2 _).frozen (p := ⟨w1.heap.size, 0, none⟩) lt12, q2]; exact frozen_of_row _ _ _ _ _ (heap_alloc_new w1 _)
    · rw [((Below.refl _ _).alloc (Nat.le_refl _) _ : Below w2.heap.size w2 _).frozen (p := ⟨w1.heap.size, 1, none⟩) lt12, q3]; exact frozen_of_row _ _ _ _ _ (heap_alloc_new w1 _)
    · rw [cell_of_row _ _ _ _ _ _ (heap_alloc_new w2 _)]; rfl
    · rw [cell_of_row _ _ _ _ _ _ (heap_alloc_new w2 _)]; rfl
  have TE := tokensEq_any L g1 0 c1 g2 0 c2 (w2.alloc (.cells #[.int .i64 fa, .int .i64 fc] 25)) (by omega) (t1'.below ((Below.refl _ _).alloc (Nat.le_refl _) _) (by omega)) lp.toks
  have HLP : Hid _ := lp
  clear lp bAll t1' t1 t2 q0 q1 q2 q3 ho2 ho1 hb1 hb2
  refine TE.mono ?_
  rintro e w3 ⟨rfl, n3, rfl⟩
  clear TE
  have HLP3 : Hid (LP w g1 c1 L g2 w1.heap.size w2.heap.size fa fc ((w2.alloc (.cells #[.int .i64 fa, .int .i64 fc] 25)).drewN n3)) := HLP.out.drewN n3
  clear HLP
  go_wp2
  go_loopw [7] (fun i wr => ∃ k : Nat, k ≤ L.length ∧ i = .int .i64 k ∧ Hid (LP w g1 c1 L g2 w1.heap.size w2.heap.size fa fc wr)) (fun i _ => L.length - (intOf i).toNat)
  case atStart => exact ⟨0, Nat.zero_le _, rfl, HLP3⟩
  case round =>
    obtain ⟨k, hk, rfl, HL⟩ := hrel
    clear HLP3
    by_cases hlt : k < L.length
    · have hlt' : (k : Int) < (L.length : Int) := by omega
      obtain ⟨xs, hx⟩ := HL.out.row
      have hxl : xs.length = L.length * 4 := hx.1
      have e0 := hx.cellAt (k * 4) (by omega)
      have e1 := hx.cellAt (k * 4 + 1) (by omega)
      have e2 := hx.cellAt (k * 4 + 2) (by omega)
      have e3 := hx.cellAt (k * 4 + 3) (by omega)
      rw [List.getElem?_eq_getElem (by omega)] at e0 e1 e2 e3
      have z0 := hx.frozenAt (k * 4)
      have z1 := hx.frozenAt (k * 4 + 1)
      have z2 := hx.frozenAt (k * 4 + 2)
      have z3 := hx.frozenAt (k * 4 + 3)
      generalize xs[k * 4] = x0 at e0
      generalize xs[k * 4 + 1] = x1 at e1
      generalize xs[k * 4 + 2] = x2 at e2
      generalize xs[k * 4 + 3] = x3 at e3
      clear hx hxl
      have FIN : Hid _ := (((HL.out.store n12 n1f n1g (by omega) (k * 4) (.int .i64 77)).store n12 n1f n1g (by omega) (k * 4 + 1) (.int .i64 0)).store n12 n1f n1g (by omega) (k * 4 + 2) (.int .i64 0)).store n12 n1f n1g (by omega) (k * 4 + 3) (.string ⟨#[]⟩)
      clear HL HTA HRA
      go_wp2
      go_roundw
      case rel => exact ⟨k + 1, by omega, by go_num, FIN⟩
      case measure => simp [intOf]; omega
    · go_wp2_with fail
      refine (HTA.out _ (KeysAt.below HK.out HL.out.below) (MarksAt.below HM.out HL.out.below)).mono ?_
      rintro e w7 ⟨v7, rfl, ho7, hb7⟩
      obtain ⟨g7, c7, rfl, hg7, hg7'⟩ := ho7.block HNE.out
      have hz7 := hb7.size
      obtain ⟨hrow, hbel, htok, f0, f1, z0, z1, h0, h1, sf, sg, s2⟩ := HL.out
      have q0 := (oldCells hb7).1 w1.heap.size 0 sf
      have q1 := (oldCells hb7).1 w1.heap.size 1 sf
      have q2 := (oldCells hb7).2 w1.heap.size 0 sf
      have q3 := (oldCells hb7).2 w1.heap.size 1 sf
      have r0 := (oldCells hb7).1 w2.heap.size 0 sg
      have r1 := (oldCells hb7).1 w2.heap.size 1 sg
      have nfg : w1.heap.size ≠ w2.heap.size := by omega
      have T7 : Hid (TokAt w7 g7 0 L) := ho7.at
      have T2 : Hid (TokAt w7 g2 0 L) := htok.below hb7 s2
      clear hrow htok
      go_wp2_with fail
      have n7 : w1.heap.size ≠ g7 := by omega
      have n2f : w1.heap.size ≠ g2 := by omega
      refine (tokensEq_any L g7 0 c7 g2 0 c2 _ (by omega) ((T7.out.setCell n7 _).setCell n7 _) ((T2.out.setCell n2f _).setCell n2f _)).mono ?_
      rintro e w8 ⟨rfl, n8, rfl⟩
      go_wp2
      go_ret
      refine ⟨rfl, ?_⟩
      exact below_drewN (((hbel.trans (hb7.mono (by omega))).setCell (by simp; omega) _).setCell (by simp; omega) _) n8

set_option maxRecDepth 100000 in
set_option maxHeartbeats 8000000 in
theorem lexTokens_none (s : ByteArray) (w : World) (hmax : s.size ≤ maxLen) (hk : KeysAt w) (hm : MarksAt w) (hne : (tkRes s.data.toList).1 = []) :
    Calls Tryd.prog 3 #[.string s] w fun e w' => e = .returned (.bool true) ∧ Below w.heap.size w w' := by
  have TA := fun w1 hk1 hm1 => tokens_any s w1 hmax hk1 hm1
  have RA := fun w1 => refTokens_any s w1 hmax
  generalize tkRes s.data.toList = X at *
  obtain ⟨L, fa, fc⟩ := X
  simp only at TA RA hne
  subst hne
  have HTA : Hid _ := TA
  have HRA : Hid _ := RA
  have HK : Hid _ := hk
  have HM : Hid _ := hm
  clear TA RA hk hm
  go_enter Tryd.func3, Tryd.ntmps3
  go_wp2_with fail
  refine (HTA.out _ HK.out HM.out).mono ?_
  rintro e w1 ⟨v1, rfl, ho1, hb1⟩
  obtain ⟨a1, c1, rfl⟩ := ho1.form
  have hz1 := hb1.size
  go_wp2_with fail
  refine (HRA.out _).mono ?_
  rintro e w2 ⟨v2, rfl, ho2, hb2⟩
  obtain ⟨a2, c2, rfl⟩ := ho2.form
  have hz2 := hb2.size
  simp at hz2
  have q0 := (oldCells hb2).1 w1.heap.size 0 (by simp)
  have q1 := (oldCells hb2).1 w1.heap.size 1 (by simp)
  have q2 := (oldCells hb2).2 w1.heap.size 0 (by simp)
  have q3 := (oldCells hb2).2 w1.heap.size 1 (by simp)
  have lt12 : w1.heap.size < w2.heap.size := by omega
  have bAll : Below w.heap.size w (w2.alloc (.cells #[.int .i64 fa, .int .i64 fc] 25)) := ((hb1.alloc (by omega) _).trans (hb2.mono (by simp; omega))).alloc (by omega) _
  have HB : Hid _ := bAll
  clear bAll
  simp only [List.length_nil] at *
  go_wp2_with fail
  refine (tokensNil_any _ _ _ _ _).mono ?_
  rintro e w3 ⟨rfl, rfl⟩
  go_wp2
  refine wp_loop_rounds 1 ?_
  rw [rounds_succ]
  go_wp2_with fail
  refine (HTA.out _ (KeysAt.below HK.out HB.out) (MarksAt.below HM.out HB.out)).mono ?_
  rintro e w7 ⟨v7, rfl, ho7, hb7⟩
  obtain ⟨a7, c7, rfl⟩ := ho7.form
  have hz7 := hb7.size
  simp at hz7
  have r0 := (oldCells hb7).1 w1.heap.size 0 (by simp; omega)
  have r1 := (oldCells hb7).1 w1.heap.size 1 (by simp; omega)
  have r2 := (oldCells hb7).2 w1.heap.size 0 (by simp; omega)
  have r3 := (oldCells hb7).2 w1.heap.size 1 (by simp; omega)
  have u0 := (oldCells hb7).1 w2.heap.size 0 (by simp)
  have u1 := (oldCells hb7).1 w2.heap.size 1 (by simp)
  have nfg : w1.heap.size ≠ w2.heap.size := by omega
  simp only [List.length_nil] at *
  go_wp2_with fail
  refine (tokensNil_any _ _ _ _ _).mono ?_
  rintro e w8 ⟨rfl, rfl⟩
  go_wp2
  go_ret
  refine ⟨rfl, ?_⟩
  exact ((HB.out.trans (hb7.mono (by simp; omega))).setCell (by simp; omega) _).setCell (by simp; omega) _

theorem lexTokens_any (s : ByteArray) (w : World) (hmax : s.size ≤ maxLen) (hk : KeysAt w) (hm : MarksAt w) :
    Calls Tryd.prog 3 #[.string s] w fun e w' => e = .returned (.bool true) ∧ Below w.heap.size w w' := by
  by_cases hne : (tkRes s.data.toList).1 = []
  · exact lexTokens_none s w hmax hk hm hne
  · exact lexTokens_some s w hmax hk hm hne
end Go.Proofs.YthckmpjokabkcaaDoor
