/- One timer fires. -/
import Derived.Test.YteiadigafkollaaCk8
namespace Go.Proofs.Yteiadigafkollaa
open Go.RowKit Go.Sort Go.Shelf

theorem KC.cell {b : Nat} {xo : Option Nat} {w w' : World} (h : KC b xo w w') {p : Addr} (hp : p.block < w.heap.size) (h1 : p.block ≠ b) (h2 : some p.block ≠ xo) : w'.cell? p = w.cell? p ∧ w'.frozen? p = w.frozen? p :=
  ⟨World.cell?_of_block (w := w) (h.block p.block hp h1 h2), World.frozen?_of_block (w := w) (h.block p.block hp h1 h2)⟩
set_option maxHeartbeats 4000000 in
set_option maxRecDepth 100000 in
theorem fire_any (w : World) (b : Nat) (xo : Option Nat) (now given : Int) (t : Tm) (r : List Tm) (h : CL w b xo now given (t :: r)) :
    Calls Try.prog 36 #[.pointer (some ⟨b, 2, none⟩)] w fun e w' => e = .returned (.agg #[.int .i64 t.num, .int .i64 t.tm]) ∧ CL w' b xo now given (stepL t r) ∧ KC b xo w w' := by
  obtain ⟨d, hk, hp, hh, ho⟩ := h
  obtain ⟨h0, hx⟩ := front_eq hp hh ho.srt
  obtain ⟨X, cap, rfl, q⟩ := hk.xq h0
  obtain ⟨c1, c2, c3⟩ := q.row.cells h0
  rw [hx] at c1 c2 c3
  have hv := q.head
  have hxl := q.row.lt
  have hbl := hk.lt
  have ht := ho.rng t (List.mem_cons_self ..)
  obtain ⟨t1, t2, t3, t4, t5, t6⟩ := ht
  obtain ⟨n1, n2⟩ := ho.now0
  have hsz : d.size = r.length + 1 := by have := hp.length_eq; simpa using this
  have hlen : r.length + 1 ≤ 1024 := by simpa using ho.len
  have hbd := q.row.bound
  unfold maxLen at hbd
  obtain ⟨hb1, hb2⟩ := hbd
  have W2 : ∀ o1 o2, Below w.heap.size w ((w.alloc o1).alloc o2) := fun o1 o2 => ((Below.refl _ _).alloc (Nat.le_refl _) _).alloc (by show w.heap.size ≤ (w.heap.push _).size; simp) _
  have hs2 : ∀ o1 o2, ((w.alloc o1).alloc o2).heap.size = w.heap.size + 2 := fun o1 o2 => by show ((w.heap.push _).push _).size = _; simp
  -- behind the call: the boxes stand as they stood
  have BX : Hid (∀ o1 o2 w3, KC b (some X) ((w.alloc o1).alloc o2) w3 → (∀ o, w3.cell? ⟨w.heap.size, o, none⟩ = ((w.alloc o1).alloc o2).cell? ⟨w.heap.size, o, none⟩) ∧ (∀ o, w3.cell? ⟨w.heap.size + 1, o, none⟩ = ((w.alloc o1).alloc o2).cell? ⟨w.heap.size + 1, o, none⟩) ∧ (∀ o, w3.frozen? ⟨w.heap.size, o, none⟩ = ((w.alloc o1).alloc o2).frozen? ⟨w.heap.size, o, none⟩)) := fun o1 o2 w3 k =>
    ⟨fun o => (k.cell (p := ⟨w.heap.size, o, none⟩) (by rw [hs2]; show w.heap.size < _; omega) (by show w.heap.size ≠ b; omega) (by simp; omega)).1, fun o => (k.cell (p := ⟨w.heap.size + 1, o, none⟩) (by rw [hs2]; show w.heap.size + 1 < _; omega) (by show w.heap.size + 1 ≠ b; omega) (by simp; omega)).1, fun o => (k.cell (p := ⟨w.heap.size, o, none⟩) (by rw [hs2]; show w.heap.size < _; omega) (by show w.heap.size ≠ b; omega) (by simp; omega)).2⟩
  have FIN : Hid (∀ o1 o2 w3 x y, KC b (some X) ((w.alloc o1).alloc o2) w3 → CL w3 b (some X) now given (stepL t r) → CL ((w3.setCell ⟨w.heap.size, 0, none⟩ x).setCell ⟨w.heap.size, 1, none⟩ y) b (some X) now given (stepL t r) ∧ KC b (some X) w ((w3.setCell ⟨w.heap.size, 0, none⟩ x).setCell ⟨w.heap.size, 1, none⟩ y)) := by
    intro o1 o2 w3 x y k hc
    have bl : ∀ i, i ≠ w.heap.size → ((w3.setCell ⟨w.heap.size, 0, none⟩ x).setCell ⟨w.heap.size, 1, none⟩ y).heap[i]? = w3.heap[i]? := fun i hi => (Below.heap_setCell _ _ _ _ hi).trans (Below.heap_setCell _ _ _ _ hi)
    have hss : ((w3.setCell ⟨w.heap.size, 0, none⟩ x).setCell ⟨w.heap.size, 1, none⟩ y).heap.size = w3.heap.size := by simp [World.setCell]
    have ks := k.size
    rw [hs2] at ks
    refine ⟨hc.keep (by omega) (bl b (by omega)) (fun X' e => by injection e with e; exact bl X' (by omega)), ⟨k.os, k.tape, k.output, by omega, fun i hi h1 h2 => ?_⟩⟩
    rw [bl i (by omega), k.block i (by rw [hs2]; omega) h1 h2, (W2 o1 o2).block i hi]
  by_cases hc : 0 < t.ev ∧ t.ev ≤ 1099511627776 - t.tm
  · have M : ∀ o1 o2, Calls Try.prog 42 #[.pointer (some ⟨b, 2, none⟩), .int .i64 0, .int .i64 (t.tm + t.ev)] ((w.alloc o1).alloc o2) fun e w' => e = .returned (.tuple #[]) ∧ CL w' b (some X) now given (stepL t r) ∧ KC b (some X) ((w.alloc o1).alloc o2) w' := fun o1 o2 =>
      (ck_move (hk.below (W2 o1 o2)) (by omega) 0 h0 (t.tm + t.ev)).mono fun e w' ⟨he, hck, hkc⟩ => ⟨he, by
        have := cl_move hck hp hh ho h0 (by omega)
        rw [hx, del_head ho.srt] at this
        unfold stepL; rw [if_pos hc]; exact this, hkc⟩
    obtain ⟨hc1, hc2⟩ := hc
    clear hk q hh hx
    go_enter Try.func36, Try.ntmps36
    go_wp2_with (go_at_call 42; refine (M _ _).mono ?_; rintro e w3 ⟨rfl, hcl, hkc⟩; have bx := (BX.out _ _ _ hkc).1; have by' := (BX.out _ _ _ hkc).2.1; have bf := (BX.out _ _ _ hkc).2.2)
    exact bodyPost_ret (v := .agg #[.int .i64 t.num, .int .i64 t.tm]) (by simp [results, Try.results36, go_sem, bx]) rfl ⟨rfl, FIN.out _ _ _ _ _ hkc hcl⟩
  · have M : ∀ o1 o2, Calls Try.prog 40 #[.pointer (some ⟨b, 2, none⟩), .int .i64 0] ((w.alloc o1).alloc o2) fun e w' => e = .returned (.tuple #[]) ∧ CL w' b (some X) now given (stepL t r) ∧ KC b (some X) ((w.alloc o1).alloc o2) w' := fun o1 o2 =>
      (ck_remove (hk.below (W2 o1 o2)) (by omega) 0 h0).mono fun e w' ⟨he, hck, hkc⟩ => ⟨he, by
        have := cl_remove hck hp hh ho h0
        rw [hx, del_head ho.srt] at this
        unfold stepL; rw [if_neg hc]; exact this, hkc⟩
    clear hk q hh hx
    by_cases hc1 : 0 < t.ev
    · have hc2 : ¬ t.ev ≤ 1099511627776 - t.tm := fun h => hc ⟨hc1, h⟩
      clear hc
      go_enter Try.func36, Try.ntmps36
      go_wp2_with (go_at_call 40; refine (M _ _).mono ?_; rintro e w3 ⟨rfl, hcl, hkc⟩; have bx := (BX.out _ _ _ hkc).1; have by' := (BX.out _ _ _ hkc).2.1; have bf := (BX.out _ _ _ hkc).2.2)
      exact bodyPost_ret (v := .agg #[.int .i64 t.num, .int .i64 t.tm]) (by simp [results, Try.results36, go_sem, bx]) rfl ⟨rfl, FIN.out _ _ _ _ _ hkc hcl⟩
    · have hc1d : decide (0 < t.ev) = false := by simpa using hc1
      clear hc
      go_enter Try.func36, Try.ntmps36
      go_wp2_with (go_at_call 40; refine (M _ _).mono ?_; rintro e w3 ⟨rfl, hcl, hkc⟩; have bx := (BX.out _ _ _ hkc).1; have by' := (BX.out _ _ _ hkc).2.1; have bf := (BX.out _ _ _ hkc).2.2)
      exact bodyPost_ret (v := .agg #[.int .i64 t.num, .int .i64 t.tm]) (by simp [results, Try.results36, go_sem, bx]) rfl ⟨rfl, FIN.out _ _ _ _ _ hkc hcl⟩
end Go.Proofs.Yteiadigafkollaa
