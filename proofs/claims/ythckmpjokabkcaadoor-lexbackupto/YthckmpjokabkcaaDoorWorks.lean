/- The walk of the law's own 'works': two of the chapter's examples come out as the chapter says. -/
import Derived.Test.YthckmpjokabkcaaDoorLexTok
import Derived.Test.YthckmpjokabkcaaDoorQuote
namespace Go.Proofs.YthckmpjokabkcaaDoor
open Go.RowKit

def exTok : List Tok := [⟨3, 0, 0, [120]⟩, ⟨6, 2, 0, [61, 61]⟩, ⟨4, 4, 12, []⟩]
theorem exTok_is : tkRes [36, 120, 61, 61, 49, 50, 32, 35, 32, 121] = (exTok, 0, 0) := by kernel_rfl
theorem exQuo_is : (ByteArray.mk (quo [97, 10, 34]).toArray) = ⟨#[34, 97, 92, 110, 92, 34, 34]⟩ := by kernel_rfl
def exCells : Array Value := #[.int .i64 3, .int .i64 0, .int .i64 0, .string ⟨#[120]⟩, .int .i64 6, .int .i64 2, .int .i64 0, .string ⟨#[61, 61]⟩, .int .i64 4, .int .i64 4, .int .i64 12, .string ⟨#[]⟩]
theorem exTok_at (w : World) (t : TypeId) : TokAt (w.alloc (.cells exCells t)) w.heap.size 0 exTok := by
  have hc : ∀ o, (w.alloc (.cells exCells t)).cell? ⟨w.heap.size, o, none⟩ = exCells[o]? := fun o => cell_of_row _ _ _ _ _ _ (heap_alloc_new w _)
  intro k hk
  have h3 : k < 3 := hk
  rw [hc, hc, hc, hc]
  match k, h3 with
  | 0, _ => exact ⟨rfl, rfl, rfl, rfl⟩
  | 1, _ => exact ⟨rfl, rfl, rfl, rfl⟩
  | 2, _ => exact ⟨rfl, rfl, rfl, rfl⟩

set_option maxHeartbeats 2000000 in
theorem works_any (w : World) (hk : KeysAt w) (hm : MarksAt w) :
    Calls Tryd.prog 19 #[] w fun e w' => e = .returned (.bool true) ∧ Below w.heap.size w w' := by
  have TA := tokens_any ⟨#[36, 120, 61, 61, 49, 50, 32, 35, 32, 121]⟩ w (by decide) hk hm
  have e1 : tkRes (ByteArray.mk #[36, 120, 61, 61, 49, 50, 32, 35, 32, 121]).data.toList = (exTok, 0, 0) := exTok_is
  rw [e1] at TA
  clear e1 hk hm
  simp only at TA
  have QU := fun w1 => quote_any ⟨#[97, 10, 34]⟩ w1 (by decide)
  have e2 : (ByteArray.mk (quo (ByteArray.mk #[97, 10, 34]).data.toList).toArray) = ⟨#[34, 97, 92, 110, 92, 34, 34]⟩ := exQuo_is
  rw [e2] at QU
  clear e2
  have HQU : Hid _ := QU
  clear QU
  have hel : exTok.length = 3 := rfl
  go_enter Tryd.func19, Tryd.ntmps19
  go_wp2_with fail
  refine TA.mono ?_
  rintro e w1 ⟨v1, rfl, ho1, hb1⟩
  obtain ⟨g1, c1, rfl, hg1, hg1'⟩ := ho1.block (by decide)
  have hz1 := hb1.size
  have t1 : Hid (TokAt w1 g1 0 exTok) := ho1.at
  go_wp2_with fail
  have hb2 : Below w1.heap.size w1 ((w1.alloc (.cells #[.int .i64 0, .int .i64 0] 25)).alloc (.cells exCells 30)) := ((Below.refl _ _).alloc (Nat.le_refl _) _).alloc (by simp) _
  have t2 : TokAt ((w1.alloc (.cells #[.int .i64 0, .int .i64 0] 25)).alloc (.cells exCells 30)) (w1.heap.size + 1) 0 exTok := by
    have := exTok_at (w1.alloc (.cells #[.int .i64 0, .int .i64 0] 25)) 30
    simpa using this
  have TE := tokensEq_any exTok g1 0 c1 (w1.heap.size + 1) 0 3 _ (by decide) (t1.out.below hb2 hg1') t2
  refine TE.mono ?_
  rintro e w3 ⟨rfl, n3, rfl⟩
  clear TE t2 t1
  go_wp2_with fail
  refine (HQU.out _).mono ?_
  rintro e w4 ⟨rfl, hb4⟩
  go_wp2
  go_ret
  refine ⟨rfl, ?_⟩
  exact (hb1.trans (hb2.mono (by omega))).trans ((below_drewN (Below.refl _ _) n3).trans (hb4.mono (by simp; omega)))
end Go.Proofs.YthckmpjokabkcaaDoor
