/- sort.choosePivot over a queue's address. -/
import Derived.Test.YteiadigafkollaaSt3
namespace Go.Proofs.Yteiadigafkollaa
open Go.RowKit Go.Sort Go.Shelf

theorem QAt.alloc {w : World} {qb qo X cap : Nat} {d : Array Tm} (h : QAt w qb qo X cap d) (o : Obj) : QAt (w.alloc o) qb qo X cap d :=
  ⟨(World.cell?_of_block (w := w) (Below.heap_alloc w o qb h.lt)).trans h.head, (World.frozen?_of_block (w := w) (Below.heap_alloc w o qb h.lt)).trans h.free, h.row.keep (Below.heap_alloc w o X h.row.lt), h.ne, by show qb < (w.heap.push o).size; have := h.lt; simp; omega⟩
theorem QAt.box {w : World} {qb qo X cap : Nat} {d : Array Tm} (h : QAt w qb qo X cap d) (n : Int) (t : TypeId) : QB (w.alloc (.cells #[.int .i64 n] t)) qb qo X cap d w.heap.size := by
  refine ⟨h.alloc _, ⟨n, ?_⟩, ?_, ?_, ?_⟩
  · rw [cell_of_row _ _ _ _ _ _ (heap_alloc_new w _)]; rfl
  · simp
  · have := h.lt; omega
  · have := h.row.lt; omega

set_option maxHeartbeats 8000000 in
set_option maxRecDepth 100000 in
theorem choosePivot_q (w : World) (qb qo X cap : Nat) (d : Array Tm) (h : QAt w qb qo X cap d) (a b : Nat) (hab : a + 12 < b) (hb : b ≤ d.size) (hm : d.size ≤ 1000000000000) (x y : Int) (hx : x = a) (hy : y = b) :
    Calls Try.prog 60 #[.iface 74 (.pointer (some ⟨qb, qo, none⟩)), .int .i64 x, .int .i64 y] w fun e w' => (∃ (p : Nat) (h : Int), e = .returned (.tuple #[.int .i64 p, .int .i64 h]) ∧ a ≤ p ∧ p < b ∧ (h = 0 ∨ h = 1 ∨ h = 2)) ∧ QAt w' qb qo X cap d ∧ Below w.heap.size w w' := by
  subst hx hy
  have HB : Hid (Below w.heap.size w (w.alloc (.cells #[.int .i64 0] 3))) := (Below.refl _ _).alloc (Nat.le_refl _) _
  have Q1 := h.box 0 3
  have h8 : 8 ≤ (b : Int) - a := by omega
  have hq0 : 0 ≤ ((b : Int) - a) / 4 := by omega
  have hq1 : 4 * (((b : Int) - a) / 4) ≤ (b : Int) - a := by omega
  have hab2 : (a : Int) + 12 < b := by omega
  have hq3 : 3 ≤ ((b : Int) - a) / 4 := by omega
  clear h
  by_cases h50 : 50 ≤ (b : Int) - a
  · have M1 := medianAdj_q _ qb qo X cap d w.heap.size Q1 a b hb hm (a + ((b : Int) - a) / 4) (by omega)
    go_enter Try.func60, Try.ntmps60
    go_wp2_with fail
    refine M1.mono ?_
    rintro e w1 ⟨⟨u1, rfl, hu1⟩, hr1, hb1⟩
    have M2 := medianAdj_q _ qb qo X cap d w.heap.size hr1 a b hb hm (a + ((b : Int) - a) / 4 * 2) (by omega)
    clear M1
    go_wp2_with fail
    refine M2.mono ?_
    rintro e w2 ⟨⟨u2, rfl, hu2⟩, hr2, hb2⟩
    have M3 := medianAdj_q _ qb qo X cap d w.heap.size hr2 a b hb hm (a + ((b : Int) - a) / 4 * 3) (by omega)
    clear M2
    go_wp2_with fail
    refine M3.mono ?_
    rintro e w3 ⟨⟨u3, rfl, hu3⟩, hr3, hb3⟩
    have M4 := median_q _ qb qo X cap d w.heap.size hr3 a b hb u1 u2 u3 hu1 hu2 hu3
    clear M3
    go_wp2_with fail
    refine M4.mono ?_
    rintro e w4 ⟨⟨u4, rfl, hu4⟩, hr4, hb4⟩
    clear M4
    obtain ⟨n, hn⟩ := hr4.box
    have HU : Hid (∃ p : Nat, u4 = (p : Int) ∧ a ≤ p ∧ p < b) := ⟨(u4).toNat, by omega, by omega, by omega⟩
    by_cases n0 : n = 0
    · subst n0
      go_wp2
      go_ret2
      obtain ⟨p, hp, hp1, hp2⟩ := HU.out
      exact ⟨⟨p, 1, by rw [← hp]; rfl, hp1, hp2, by omega⟩, hr4.q, (((HB.out.trans hb1).trans hb2).trans hb3).trans hb4⟩
    by_cases n12 : n = 12
    · subst n12
      go_wp2
      go_ret2
      obtain ⟨p, hp, hp1, hp2⟩ := HU.out
      exact ⟨⟨p, 2, by rw [← hp]; rfl, hp1, hp2, by omega⟩, hr4.q, (((HB.out.trans hb1).trans hb2).trans hb3).trans hb4⟩
    have z0 : (n == 0) = false := by simpa using n0
    have z12 : (n == 12) = false := by simpa using n12
    go_wp2
    go_ret2
    obtain ⟨p, hp, hp1, hp2⟩ := HU.out
    exact ⟨⟨p, 0, by rw [← hp]; rfl, hp1, hp2, by omega⟩, hr4.q, (((HB.out.trans hb1).trans hb2).trans hb3).trans hb4⟩
  · have M1 := median_q _ qb qo X cap d w.heap.size Q1 a b hb (a + ((b : Int) - a) / 4) (a + ((b : Int) - a) / 4 * 2) (a + ((b : Int) - a) / 4 * 3) (by omega) (by omega) (by omega)
    go_enter Try.func60, Try.ntmps60
    go_wp2_with fail
    refine M1.mono ?_
    rintro e w4 ⟨⟨u4, rfl, hu4⟩, hr4, hb4⟩
    clear M1
    obtain ⟨n, hn⟩ := hr4.box
    have HU : Hid (∃ p : Nat, u4 = (p : Int) ∧ a ≤ p ∧ p < b) := ⟨(u4).toNat, by omega, by omega, by omega⟩
    by_cases n0 : n = 0
    · subst n0
      go_wp2
      go_ret2
      obtain ⟨p, hp, hp1, hp2⟩ := HU.out
      exact ⟨⟨p, 1, by rw [← hp]; rfl, hp1, hp2, by omega⟩, hr4.q, HB.out.trans hb4⟩
    by_cases n12 : n = 12
    · subst n12
      go_wp2
      go_ret2
      obtain ⟨p, hp, hp1, hp2⟩ := HU.out
      exact ⟨⟨p, 2, by rw [← hp]; rfl, hp1, hp2, by omega⟩, hr4.q, HB.out.trans hb4⟩
    have z0 : (n == 0) = false := by simpa using n0
    have z12 : (n == 12) = false := by simpa using n12
    go_wp2
    go_ret2
    obtain ⟨p, hp, hp1, hp2⟩ := HU.out
    exact ⟨⟨p, 0, by rw [← hp]; rfl, hp1, hp2, by omega⟩, hr4.q, HB.out.trans hb4⟩
end Go.Proofs.Yteiadigafkollaa
