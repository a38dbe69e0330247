/- Cells, the laws: what each call leaves, plain; Told of a state. -/
import Derived.Test.YtbgeihgenckihaaDoorCe1
import Derived.Deep.Cut
namespace Go.Proofs.YtbgeihgenckihaaDoor
open Go.RowKit

theorem crack_one (w : World) : CS (w.alloc (.cells #[.int .i64 6, .int .i64 0, .string ByteArray.empty] 79)) (.slice (some ⟨w.heap.size, 0, none⟩) 1 1) [⟨6, 0, ByteArray.empty⟩] := by
  refine Or.inr ⟨w.heap.size, 0, 1, rfl, by simp, Nat.le_refl _, fun k hk => ?_⟩
  obtain rfl : k = 0 := by simpa using hk
  have hn := heap_alloc_new w (.cells #[.int .i64 6, .int .i64 0, .string ByteArray.empty] 79)
  exact ⟨cell_of_row _ _ _ _ _ _ hn, cell_of_row _ _ _ _ _ _ hn, cell_of_row _ _ _ _ _ _ hn⟩
theorem ok_oW (w : World) : OkO (w.alloc (.cells #[.int .i64 6, .int .i64 0, .string ByteArray.empty] 79)) oW (.slice none 0 0) (.slice (some ⟨w.heap.size, 0, none⟩) 1 1) :=
  ⟨Or.inl ⟨Or.inl rfl, rfl⟩, crack_one w, fun c hc => (by cases hc), fun c hc => (by simp [oW] at hc; subst hc; decide), by decide, by decide⟩
set_option maxHeartbeats 16000000 in
set_option maxRecDepth 100000 in
theorem works_any (w : World) (base : Nat) (hB : base ≤ w.heap.size) (hfb : FB w base) :
    Calls Tryd.prog 15 #[] w fun e w' => e = .returned (.bool true) ∧ Below base w w' := by
  have NW : Hid (Calls Tryd.prog 7 #[.bool true, .agg #[.int .i64 3, .int .i64 10, .int .i64 2, .int .i64 100]] w fun e w' => ∃ b, e = .returned (.tuple #[.pointer (some ⟨b, 0, none⟩), .int .i64 0]) ∧ LS w base w' b W1) := by
    refine (new_ls w base hB hfb w (Below.refl _ _) true pW).mono ?_
    rintro e w' ⟨_, r⟩
    rcases r with ⟨r, _⟩ | ⟨_, b, _, r1, r2⟩
    · exact absurd r (by decide)
    · exact ⟨b, r1, r2⟩
  have M1 : Hid (∀ W b, LS w base W b W1 → Calls Tryd.prog 11 #[.pointer (some ⟨b, 0, none⟩), .int .i64 1, .int .i64 0] W fun e w' => e = .returned (.tuple #[.int .i64 1, .int .i64 0]) ∧ LS w base w' b W2) := fun W b h => (begin_ls h 1 0).mono (fun e w' q => ⟨by rw [q.1, w_1.1, w_1.2], q.2.1⟩)
  have M2 : Hid (∀ W b, LS w base W b W2 → Calls Tryd.prog 16 #[.pointer (some ⟨b, 0, none⟩), .int .i64 1, .agg #[.int .i64 2, .slice none 0 0, .slice (some ⟨W.heap.size, 0, none⟩) 1 1], .int .i64 5] (W.alloc (.cells #[.int .i64 6, .int .i64 0, .string ByteArray.empty] 79)) fun e w' => e = .returned (.int .i64 0) ∧ LS w base w' b W3) := fun W b h => by
    have hl := h.lt
    exact (end_ls (h.below ((Below.refl _ _).alloc (Nat.le_refl _) _)) 1 5 oW _ _ (ok_oW W) (fun x hx => by simp [Value.ownBlock] at hx) (fun x hx => by simp [Value.ownBlock] at hx; omega)).mono (fun e w' q => ⟨by rw [q.1, w_2], q.2.1⟩)
  have M3 : Hid (∀ W b, LS w base W b W3 → Calls Tryd.prog 19 #[.pointer (some ⟨b, 0, none⟩)] W fun e w' => e = .returned (.agg #[.int .i64 4, .int .i64 1, .int .i64 0, .int .i64 1, .int .i64 15]) ∧ LS w base w' b W3) := fun W b h => (told_ls h).mono (fun e w' q => ⟨by rw [q.1, w_3.1, w_3.2.1, w_3.2.2.1, w_3.2.2.2.1, w_3.2.2.2.2], q.2.1⟩)
  have M4 : Hid (∀ W b, LS w base W b W3 → Calls Tryd.prog 22 #[.pointer (some ⟨b, 0, none⟩), .int .i64 14] W fun e w' => e = .returned (.int .i64 3) ∧ LS w base w' b W3) := fun W b h => (ask_ls h 14).mono (fun e w' q => ⟨by rw [q.1, w_4.1], q.2.1⟩)
  have M5 : Hid (∀ W b, LS w base W b W3 → Calls Tryd.prog 22 #[.pointer (some ⟨b, 0, none⟩), .int .i64 15] W fun e w' => e = .returned (.int .i64 1) ∧ Below base w w') := fun W b h => (ask_ls h 15).mono (fun e w' q => ⟨by rw [q.1, w_4.2], q.2.1.bl⟩)
  clear hfb
  go_enter Tryd.func15, Tryd.ntmps15
  go_upto_region 4 with (go_at_call 7; refine NW.out.mono ?_; rintro e w1 ⟨b, rfl, q1⟩; have P1 := hid q1; clear q1)
  have C1 := hid (M1.out w1 b P1.out)
  clear M1 NW
  go_upto_region 5 with (go_at_call 11; refine C1.out.mono ?_; rintro e w2 ⟨rfl, q⟩; have P2 := hid q; clear q)
  have C2 := hid (M2.out w2 b P2.out)
  clear M2 C1
  go_upto_region 6 with (go_at_call 16; refine C2.out.mono ?_; rintro e w3 ⟨rfl, q⟩; have P3 := hid q; clear q)
  have C3 := hid (M3.out w3 b P3.out)
  clear M3 C2
  go_wp2_with fail
  refine Calls.mono C3.out ?_
  rintro e w4 ⟨rfl, q⟩
  have C4 := hid (M4.out w4 b q)
  clear q C3 M4
  go_wp2_with fail
  refine Calls.mono C4.out ?_
  rintro e w5 ⟨rfl, q⟩
  have C5 := hid (M5.out w5 b q)
  clear q C4 M5
  go_wp2_with fail
  refine Calls.mono C5.out ?_
  rintro e w6 ⟨rfl, q⟩
  have B6 := hid q
  clear q C5
  go_wp2_with fail
  go_ret
  exact ⟨rfl, B6.out⟩
end Go.Proofs.YtbgeihgenckihaaDoor
namespace Go.Proofs.YtbgeihgenckihaaDoor
open Go.RowKit

theorem beg_tr (c : Ce) (tk n : Int) : (begE c tk n ≠ 0 ∧ begX c tk n = c ∧ begG c tk n = 0) ∨ (begE c tk n = 0 ∧ c.st ≠ 2 ∧ begX c tk n = begC c tk n ∧ begG c tk n = c.gen + 1) := by
  by_cases h : begE c tk n = 0
  · refine Or.inr ⟨h, ?_, by unfold begX; rw [if_pos h], by unfold begG; rw [if_pos h]⟩
    obtain ⟨_, _, h3, _⟩ := begE_ok h
    rcases ask_one h3 with e | ⟨e, _⟩ <;> omega
  · exact Or.inl ⟨h, by unfold begX; rw [if_neg h], by unfold begG; rw [if_neg h]⟩
theorem end_tr (c : Ce) (tk n : Int) (o : Oc) : (endE c tk o n ≠ 0 ∧ endX c tk o n = c) ∨ (endE c tk o n = 0 ∧ c.st = 2 ∧ c.tk = tk ∧ endX c tk o n = endC c o n) := by
  by_cases h : endE c tk o n = 0
  · obtain ⟨h1, h2, _⟩ := endE_ok h
    exact Or.inr ⟨h, h1, h2, by unfold endX; rw [if_pos h]⟩
  · exact Or.inl ⟨h, by unfold endX; rw [if_neg h]⟩
theorem res_tr (c : Ce) (n : Int) : (resE c n ≠ 0 ∧ resX c n = c) ∨ (resE c n = 0 ∧ c.st ≠ 2 ∧ resX c n = resC c n) := by
  by_cases h : resE c n = 0
  · obtain ⟨_, h2, _⟩ := resE_ok h
    exact Or.inr ⟨h, h2, by unfold resX; rw [if_pos h]⟩
  · exact Or.inl ⟨h, by unfold resX; rw [if_neg h]⟩
theorem clo_tr (c : Ce) : (cloE c ≠ 0 ∧ cloX c = c) ∨ (cloE c = 0 ∧ c.st ≠ 2 ∧ cloX c = cloC c) := by
  by_cases h : cloE c = 0
  · refine Or.inr ⟨h, fun e => ?_, by unfold cloX; rw [if_pos h]⟩
    unfold cloE at h
    rw [if_pos (Or.inl e)] at h
    cases h
  · exact Or.inl ⟨h, by unfold cloX; rw [if_neg h]⟩
theorem endC_st (c : Ce) (o : Oc) (n : Int) : (endC c o n).st = 3 ∨ (endC c o n).st = 4 := by
  unfold endC
  show (if o.kind = 1 then (3 : Int) else 4) = 3 ∨ (if o.kind = 1 then (3 : Int) else 4) = 4
  split <;> simp
/-- The box of an act, behind calls that write the cell alone. -/
theorem box_bu {wr w6 : World} {b : Nat} {ar : Array Value} {T : TypeId} (hb : b < wr.heap.size) (k : Bu b (wr.alloc (.cells ar T)) w6) {i : Nat} {u : Value} (hu : ar[i]? = some u) : w6.cell? ⟨wr.heap.size, i, none⟩ = some u := by
  have h1 : w6.heap[wr.heap.size]? = some (.cells ar T) := (k.block wr.heap.size (by simp) (by omega)).trans (heap_alloc_new wr _)
  rw [cell_of_row _ _ _ _ _ _ h1]; exact hu
/-- An outcome that was copied may be handed in. -/
theorem cp_ok {w0 w w' : World} {o : Oc} {v f v0 f0 : Value} (h : CpR w o w' v f) (k : OkO w0 o v0 f0) : OkO w' o v f := ⟨h.1.gs KA_ok.len, (ownC_g h.2.1).cs, k.at_, k.ct, k.l1, k.l2⟩
theorem cp_ne {w w' : World} {o : Oc} {v f : Value} (h : CpR w o w' v f) {b : Nat} (hb : b < w.heap.size) : (∀ x, v.ownBlock = some x → x ≠ b) ∧ ∀ x, f.ownBlock = some x → x ≠ b :=
  ⟨fun x hx => by have := (h.1.lt hx).1; omega, fun x hx => by have := (h.2.1.lt hx).1; omega⟩
end Go.Proofs.YtbgeihgenckihaaDoor
