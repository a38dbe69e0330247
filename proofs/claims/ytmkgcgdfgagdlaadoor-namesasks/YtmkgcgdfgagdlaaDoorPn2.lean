/- Names: the law's example. -/
import Derived.Test.YtmkgcgdfgagdlaaDoorPn1
namespace Go.Proofs.YtmkgcgdfgagdlaaDoor
open Go.RowKit

theorem OwnG.lit {α : Type} (K : RK α) (w : World) (l : List α) (cells : Array Value) (hc : cells.toList = l.flatMap K.f) (hl : cells.size = l.length * K.W) (hm : l.length ≤ maxLen) : OwnG K (w.alloc (.cells cells K.ty)) w.heap.size (.slice (some ⟨w.heap.size, 0, none⟩) l.length l.length) l :=
  ⟨by rw [← hc]; simpa using hl, Or.inr ⟨w.heap.size, l.length, cells, rfl, Nat.le_refl _, heap_alloc_new w _, Nat.le_refl _, hm, hl, by rw [← hc, List.take_of_length_le]; simp [hl]⟩⟩
def tA : ByteArray := ⟨#[97]⟩
def tB : ByteArray := ⟨#[98]⟩
def tC : ByteArray := ⟨#[99]⟩
def exL : List Opn := [⟨3, 0, 0, tA⟩, ⟨3, 0, 0, tB⟩, ⟨3, 0, 0, tC⟩, ⟨6, 2, 0, ByteArray.empty⟩, ⟨3, 0, 0, tC⟩, ⟨14, 3, 0, ByteArray.empty⟩]
theorem exL_chk : chkO exL = 0 := by kernel_rfl
theorem exL_ask : askL exL 3 = [tA, tB, tC] := by kernel_rfl
theorem exL_sure : sureL exL = [tA, tC] := by kernel_rfl
set_option maxHeartbeats 4000000 in
theorem works_any (w : World) (hv : NV w) :
    Calls Tryd.prog 41 #[] w fun e w' => e = .returned (.bool true) ∧ Below w.heap.size w w' := by
  go_enter Tryd.func41, Tryd.ntmps41
  go_upto_region 2 with fail
  generalize hW : w.alloc _ = W
  have O0 : OwnG KO W w.heap.size (.slice (some ⟨w.heap.size, 0, none⟩) exL.length exL.length) exL := by rw [← hW]; exact OwnG.lit KO w exL _ rfl rfl (by show 6 ≤ maxLen; unfold maxLen; omega)
  have B0 : Hid (Below w.heap.size w W) := by rw [← hW]; exact (Below.refl _ _).alloc (Nat.le_refl _) _
  have ht : ∀ c ∈ exL, c.text.size ≤ maxLen := by
    have : ∀ c ∈ exL, c.text.size ≤ 1 := by decide
    intro c hc; have := this c hc; unfold maxLen; omega
  have S0 : Hid (OS W (.slice (some ⟨w.heap.size, 0, none⟩) 6 6) exL) := O0.gs KO_ok.len
  have AK : Hid (∀ w1, Below w.heap.size w w1 → OS w1 (.slice (some ⟨w.heap.size, 0, none⟩) 6 6) exL → Calls Tryd.prog 29 #[.slice (some ⟨w.heap.size, 0, none⟩) 6 6] w1 fun e w' => AnsT w1 w' e [tA, tB, tC] 0) := fun w1 b h => by
    have := asked_any _ exL w1 h ht (hv.below b) (by decide)
    rw [exL_ask, exL_chk] at this; exact this
  have SK : Hid (∀ w1, Below w.heap.size w w1 → OS w1 (.slice (some ⟨w.heap.size, 0, none⟩) 6 6) exL → Calls Tryd.prog 31 #[.slice (some ⟨w.heap.size, 0, none⟩) 6 6] w1 fun e w' => AnsT w1 w' e [tA, tC] 0) := fun w1 b h => by
    have := sure_any _ exL w1 h ht (hv.below b) (by decide)
    rw [exL_sure, exL_chk] at this; exact this
  have ST : Hid (∀ w1 u1 u2 m, GS KS w1 u1 m → GS KS w1 u2 m → m.length ≤ 100 → _) := fun w1 u1 u2 m h1 h2 h3 => sameTextsG w1 u1 u2 m h1 h2 (by omega)
  clear hW ht O0 hv
  go_wp2_with fail
  refine Calls.mono (AK.out _ B0.out S0.out) ?_
  rintro e w1 ⟨p1, c1, rfl, ho1, hb1⟩
  have B1 : Hid (Below w.heap.size w w1) := B0.out.trans (hb1.mono B0.out.size)
  have S1 : Hid (OS w1 (.slice (some ⟨w.heap.size, 0, none⟩) 6 6) exL) := S0.out.below hb1
  have T1 : Hid (GS KS w1 (.slice p1 3 c1) [tA, tB, tC]) := ho1.gs KS_ok.len
  clear ho1 hb1 AK S0 B0
  go_wp2_with fail
  refine Calls.mono (SK.out _ B1.out S1.out) ?_
  rintro e w2 ⟨p2, c2, rfl, ho2, hb2⟩
  have B2 : Hid (Below w.heap.size w w2) := B1.out.trans (hb2.mono B1.out.size)
  have T2 : Hid (GS KS w2 (.slice p1 3 c1) [tA, tB, tC]) := T1.out.below hb2
  have U2 : Hid (GS KS w2 (.slice p2 2 c2) [tA, tC]) := ho2.gs KS_ok.len
  clear ho2 hb2 SK S1 B1 T1
  go_wp2_with fail
  have AL3 := (Below.refl _ w2).alloc (Nat.le_refl _) (.cells #[.string tA, .string tB, .string tC] 9)
  have L3 : GS KS (w2.alloc (.cells #[.string tA, .string tB, .string tC] 9)) (.slice (some ⟨w2.heap.size, 0, none⟩) 3 3) [tA, tB, tC] := (OwnG.lit KS w2 [tA, tB, tC] _ rfl rfl (by show 3 ≤ maxLen; unfold maxLen; omega)).gs KS_ok.len
  have B3 : Below w.heap.size w (w2.alloc (.cells #[.string tA, .string tB, .string tC] 9)) := B2.out.trans (AL3.mono B2.out.size)
  refine Calls.mono (ST.out _ _ _ _ (T2.out.below AL3) L3 (by decide)) ?_
  rintro e w4 ⟨rfl, n4, hw4⟩
  have B4 : Hid (Below w.heap.size w w4) := by rw [hw4]; exact ⟨B3.os, B3.tape, B3.output, B3.size, B3.block⟩
  have U4 : Hid (GS KS w4 (.slice p2 2 c2) [tA, tC]) := by
    rw [hw4]
    exact (U2.out.below AL3).blk (Nat.le_refl _) (fun _ _ _ => rfl)
  clear hw4 B3 L3 AL3 B2 U2 T2
  go_wp2_with fail
  have AL5 := (Below.refl _ w4).alloc (Nat.le_refl _) (.cells #[.string tA, .string tC] 9)
  have L5 : GS KS (w4.alloc (.cells #[.string tA, .string tC] 9)) (.slice (some ⟨w4.heap.size, 0, none⟩) 2 2) [tA, tC] := (OwnG.lit KS w4 [tA, tC] _ rfl rfl (by show 2 ≤ maxLen; unfold maxLen; omega)).gs KS_ok.len
  have B5 : Below w.heap.size w (w4.alloc (.cells #[.string tA, .string tC] 9)) := B4.out.trans (AL5.mono B4.out.size)
  refine Calls.mono (ST.out _ _ _ _ (U4.out.below AL5) L5 (by decide)) ?_
  rintro e w6 ⟨rfl, n6, hw6⟩
  have B6 : Hid (Below w.heap.size w w6) := by rw [hw6]; exact ⟨B5.os, B5.tape, B5.output, B5.size, B5.block⟩
  clear hw6 B5 L5 AL5 B4 U4 ST
  go_wp2_with fail
  go_ret
  exact ⟨rfl, B6.out⟩
end Go.Proofs.YtmkgcgdfgagdlaaDoor
