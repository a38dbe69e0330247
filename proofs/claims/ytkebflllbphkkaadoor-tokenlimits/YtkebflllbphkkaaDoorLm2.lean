/- Tokens: Limit, and when time cancels one. -/
import Derived.Test.YtkebflllbphkkaaDoorLm1
namespace Go.Proofs.YtkebflllbphkkaaDoor
open Go.RowKit

def limA (x : Int) : Array Value := if x = 1099511627777 then #[.int .i64 0, .bool false, .int .i64 0] else #[.int .i64 x, .bool true, .int .i64 0]
set_option maxHeartbeats 8000000 in
set_option maxRecDepth 100000 in
theorem limit_any (w : World) (b cb mb : Nat) (nv ov : Value) (L : List NM) (T : Tr) (h : TX w b cb mb nv ov L T) (s : ByteArray) (hs : s.size ≤ maxLen) {p : Nat} (hp : plO T.nms s = some p) (ht : ∀ q, q < T.ns.length → 0 ≤ (T.n q).til ∧ (T.n q).til ≤ 1099511627777) :
    Calls Tryd.prog 22 #[.pointer (some ⟨b, 0, none⟩), .string s] w fun e w' => e = .returned (.tuple (limA (limT T p p))) ∧ Below w.heap.size w w' := by
  have hpl := (plO_some hp).1
  obtain ⟨W, hW⟩ : ∃ W, W = w.alloc (.cells #[.pointer (some ⟨b, 0, none⟩)] 24) := ⟨_, rfl⟩
  have bW : Below w.heap.size w W := by rw [hW]; exact (Below.refl _ _).alloc (Nat.le_refl _) _
  have tW := h.below bW
  have FD := find_any W b cb mb nv ov L T tW s hs
  rw [hp] at FD
  have FD2 : Hid (Calls Tryd.prog 25 #[.pointer (some ⟨b, 0, none⟩), .string s] W fun e w' => e = .returned (.tuple #[.int .i64 (p : Nat), .int .i64 0]) ∧ w' = W) := FD
  obtain ⟨c0, c1, c2, c3⟩ := tW.cells
  obtain ⟨X, cap, hnv, hcap, hX, fz, n0, n1, n5, n6, n7, wp, wc, n8, ow⟩ := tW.nd hpl
  rw [hnv] at c1
  have hnl := h.nl
  have b1 : W.cell? ⟨w.heap.size, 0, none⟩ = some (.pointer (some ⟨b, 0, none⟩)) := by
    rw [hW, cell_of_row _ _ _ #[.pointer (some ⟨b, 0, none⟩)] 24 (0, 0)]
    · rfl
    · exact heap_alloc_new w _
  have hbd := limT_bd ht hpl p (Nat.le_refl _)
  have HW := hid hW
  generalize hti : (T.n p).til = ti at *
  clear n0 n1 n6 n7 n8 ow c0 c2 c3 fz hW FD
  go_enter Tryd.func22, Tryd.ntmps22
  go_upto_region 2 with (rw [← HW.out]; go_at_call 25; refine FD2.out.mono ?_; rintro e w2 ⟨rfl, hw2⟩; rw [hw2]; clear hw2)
  go_upto_region 5 with fail
  obtain ⟨V, hV⟩ : ∃ V, V = W.alloc (.cells #[.int .i64 ti] 3) := ⟨_, rfl⟩
  rw [← hV]
  have bV : Below W.heap.size W V := by rw [hV]; exact (Below.refl _ _).alloc (Nat.le_refl _) _
  have hB1 : V.heap[W.heap.size]? = some (.cells #[.int .i64 ti] 3) := by rw [hV]; exact heap_alloc_new W _
  have v2 : V.cell? ⟨w.heap.size, 0, none⟩ = some (.pointer (some ⟨b, 0, none⟩)) := (bV.cell (p := ⟨w.heap.size, 0, none⟩) (block_lt_of_cell b1)).trans b1
  have AV : Hid (Calls Tryd.prog 41 #[.pointer (some ⟨b, 0, none⟩), .int .i64 p, .func (.func 42) #[] #[.pointer (some ⟨W.heap.size, 0, none⟩), .pointer (some ⟨w.heap.size, 0, none⟩)]] V fun e w' => e = .returned (.tuple #[]) ∧ w'.cell? ⟨W.heap.size, 0, none⟩ = some (.int .i64 (limT T p p)) ∧ Below w.heap.size w w') := by
    have hne : w.heap.size ≠ W.heap.size := by have := block_lt_of_cell b1; have : w.heap.size < W.heap.size := this; omega
    refine (above_any V b cb mb nv ov L T (tW.below bV) W.heap.size w.heap.size p (by rw [hti]; exact hB1) v2 hpl (fp_ne tW (Nat.le_refl _)) hne).mono ?_
    rintro e w' ⟨rfl, q1, q2⟩
    refine ⟨rfl, by rw [cell_of_row _ _ _ _ _ _ q1]; rfl, ?_⟩
    have := q2.to (base := W.heap.size) (fun x hx => by subst hx; exact Nat.le_refl _) bV.size
    exact bW.trans ((bV.trans this).mono bW.size)
  clear h tW bW bV hB1 c1 n5 hnv FD2 HW hV b1
  generalize T.ns.length = N at *
  generalize hlm : limT T p p = lm at *
  have HL := hid hlm
  clear hlm
  by_cases hl : lm = 1099511627777
  · have e : limA lm = #[.int .i64 0, .bool false, .int .i64 0] := by unfold limA; rw [if_pos hl]
    subst hl
    have HE := hid e
    clear e
    go_wp2_with (go_at_call 41; refine AV.out.mono ?_; rintro e w4 ⟨rfl, d1, q⟩; have Q := hid q; clear q)
    exact bodyPost_ret (v := .tuple #[.int .i64 0, .bool false, .int .i64 0]) (by simp [results, Tryd.results22, go_sem]) rfl ⟨by rw [HL.out, HE.out], Q.out⟩
  · have e : limA lm = #[.int .i64 lm, .bool true, .int .i64 0] := by unfold limA; rw [if_neg hl]
    have HE := hid e
    clear e
    go_wp2_with (go_at_call 41; refine AV.out.mono ?_; rintro e w4 ⟨rfl, d1, q⟩; have Q := hid q; clear q)
    exact bodyPost_ret (v := .tuple #[.int .i64 lm, .bool true, .int .i64 0]) (by simp [results, Tryd.results22, go_sem]) rfl ⟨by rw [HL.out, HE.out], Q.out⟩
theorem limit_ps {w0 W : World} {base b : Nat} {T : Tr} (h : PS w0 W base b T) (s : ByteArray) (hs : s.size ≤ maxLen) {p : Nat} (hp : plO T.nms s = some p) :
    Calls Tryd.prog 22 #[.pointer (some ⟨b, 0, none⟩), .string s] W fun e w' => e = .returned (.tuple (limA (limT T p p))) ∧ Below W.heap.size W w' := by
  obtain ⟨F, h1, h2⟩ := h
  obtain ⟨cb, mb, nv, ov, L, t, e⟩ := h1.ex
  exact limit_any W b cb mb nv ov L T t s hs hp h1.inv.til
theorem now_ps {w0 W : World} {base b : Nat} {T : Tr} (h : PS w0 W base b T) :
    Calls Tryd.prog 21 #[.pointer (some ⟨b, 0, none⟩)] W fun e w' => e = .returned (.int .i64 T.now) ∧ w' = W := by
  obtain ⟨F, h1, h2⟩ := h
  obtain ⟨cb, mb, nv, ov, L, t, e⟩ := h1.ex
  exact tnow_any W b cb mb nv ov L T t
/-- Time cancels one that lives when its limit is reached, not ahead of it. -/
theorem lim_adv {T : Tr} (hi : Inv T) {m : Int} (hm : 0 ≤ m ∧ m ≤ 1099511627776) {E : List Nat} (hE : DU (nowT T m) E) {p : Nat} (hp : p < T.ns.length) (hd : p ∉ T.od) : p ∈ (expT (nowT T m) E).od ↔ limT T p p ≤ m := by
  obtain ⟨_, _, x3⟩ := expT_all E (nowT T m) (nowT_inv hi hm.1 hm.2) hE.lt
  have mE : ∀ q, q ∈ E ↔ q < T.ns.length ∧ (T.n q).til ≤ m ∧ q ∉ T.od := fun q => by
    rw [hE.pm.mem_iff]
    unfold dueK
    rw [List.mem_filter, List.mem_range]
    show (q < T.ns.length ∧ (decide ((T.n q).til ≤ m) && !decide (q ∈ T.od)) = true) ↔ _
    simp
  rw [x3, limT_le]
  have up : ∀ a q, (nowT T m).up a q = T.up a q := fun _ _ => rfl
  constructor
  · rintro (h | ⟨q, hq, h⟩)
    · exact absurd h hd
    · obtain ⟨_, h2, _⟩ := (mE q).1 hq
      rcases h with rfl | ⟨_, h⟩
      · exact Or.inl h2
      · rw [up] at h
        exact Or.inr ⟨q, hi.up p q hp h, h, h2⟩
  · rintro (h | ⟨q, hq, h, h2⟩)
    · exact Or.inr ⟨p, (mE p).2 ⟨hp, h, hd⟩, Or.inl rfl⟩
    · exact Or.inr ⟨q, (mE q).2 ⟨by omega, h2, fun z => hd (hi.cl p q hp h z)⟩, Or.inr ⟨hp, h⟩⟩
end Go.Proofs.YtkebflllbphkkaaDoor
