/- The walk of the law NamesParts. -/
import Derived.Test.YtmkgcgdfgagdlaaDoorPr4
namespace Go.Proofs.YtmkgcgdfgagdlaaDoor
open Go.RowKit

/-- A block of so many operations; all else as it was. -/
structure SP (a b : World) (g n : Nat) : Prop where
  bt : But (fun x => x = g) a b
  blk : ∃ cur, b.heap[g]? = some (.cells cur 56) ∧ cur.size = n * 4
theorem SP.got {a b : World} {g n : Nat} (h : SP a b g n) {o : Nat} (ho : o < n * 4) : ∃ v, b.cell? ⟨g, o, none⟩ = some v := by
  obtain ⟨cur, h1, h2⟩ := h.blk
  exact ⟨cur[o]'(by omega), (cell_of_row _ _ _ _ _ _ h1).trans (by simp [h2, ho])⟩
theorem SP.frozen {a b : World} {g n : Nat} (h : SP a b g n) (o : Nat) : b.frozen? ⟨g, o, none⟩ = false := by
  obtain ⟨cur, h1, h2⟩ := h.blk
  exact box_frozen h1
theorem SP.set {a b : World} {g n : Nat} (h : SP a b g n) (o : Nat) (v : Value) : SP a (b.setCell ⟨g, o, none⟩ v) g n := by
  obtain ⟨cur, h1, h2⟩ := h.blk
  exact ⟨⟨h.bt.os, h.bt.tape, h.bt.output, by rw [set_size]; exact h.bt.size, fun y hy hn => (set_far hn).trans (h.bt.block y hy hn)⟩, ⟨cur.setIfInBounds o v, heap_setCell_same b g o cur _ _ h1, by simpa using h2⟩⟩
set_option maxHeartbeats 8000000 in
set_option maxRecDepth 100000 in
theorem namesParts_any (v : Value) (l : List Opn) (a : Int) (f t : ByteArray) (w : World) (h : OS w v l) (ht : ∀ c ∈ l, c.text.size ≤ maxLen) (hl : l.length * 40 ≤ 140737488355328) (hf : f.size ≤ maxLen) (htt : t.size ≤ maxLen) (hv : NV w) :
    Calls Tryd.prog 5 #[v, .int .i64 a, .string f, .string t] w fun e w' => e = .returned (.bool true) ∧ Below w.heap.size w w' := by
  have hlm : l.length ≤ 1000000000000000 := by omega
  have CE : Hid _ := copyExpr_any v l w h hl
  have PA : Hid (∀ w1 u, Below w.heap.size w w1 → OS w1 u l → _) := fun w1 u b hu => parts_any u l a w1 hu ht (hv.below b) hlm
  have RP : Hid (∀ w1, Below w.heap.size w w1 → _) := fun w1 b => rparts_any v l a w1 (h.below b) ht hlm
  have SI : Hid (∀ w1 u1 u2 m, IS w1 u1 m → IS w1 u2 m → m.length ≤ 1000000000000000 → _) := fun w1 u1 u2 m h1 h2 h3 => sameInts_same w1 u1 u2 m h1 h2 (by omega)
  have RN : Hid (∀ w1 u, Below w.heap.size w w1 → OS w1 u l → _) := fun w1 u b hu => rename_any u l f t w1 hu ht hf htt (hv.below b) hlm
  have RR : Hid (∀ w1, Below w.heap.size w w1 → _) := fun w1 b => rrename_any v l f t w1 (h.below b) ht hf htt hlm
  have SE : Hid (∀ w1 u1 u2 m, OS w1 u1 m → OS w1 u2 m → m.length ≤ 1000000000000000 → _) := fun w1 u1 u2 m h1 h2 h3 => sameExpr_same w1 u1 u2 m h1 h2 (by omega)
  have HP : Hid ((partsL l a).length ≤ 1000000000000000) := by
    show _ ≤ _
    unfold partsL
    by_cases hc : partsE l a = 0
    · rw [if_pos hc]
      unfold partsE at hc
      split at hc
      · split at hc
        · have := ptO_le (l := l) (k := a.toNat) (by omega); omega
        · omega
      · rename_i h1; exact absurd hc h1
    · rw [if_neg hc]; simp
  have HR : Hid ((renL l f t).length ≤ 1000000000000000) := by show _ ≤ _; unfold renL; split <;> simp <;> omega
  have HS : Hid (∀ w1, Below w.heap.size w w1 → OS w1 v l) := fun w1 b => h.below b
  have HLM : Hid (l.length ≤ 1000000000000000) := hlm
  obtain ⟨p, cap, rfl⟩ := h.form
  generalize partsL l a = PL at *
  generalize partsE l a = PE at *
  generalize renL l f t = RL at *
  generalize renE l f t = RE at *
  clear h ht hv hf htt hlm
  go_enter Tryd.func5, Tryd.ntmps5
  go_wp2_with fail
  refine Calls.mono CE.out ?_
  rintro e w1 ⟨p1, c1, rfl, ho1, hb1⟩
  have O1 : Hid (OwnG KO w1 w.heap.size (.slice p1 l.length c1) l) := ho1
  have B1 : Hid (Below w.heap.size w w1) := hb1
  clear ho1 hb1 CE
  go_wp2_with fail
  refine Calls.mono (PA.out _ _ B1.out (O1.out.gs KO_ok.len)) ?_
  rintro e w2 ⟨p2, c2, rfl, hi2, hb2⟩
  have O2 : Hid (OwnG KO w2 w.heap.size (.slice p1 l.length c1) l) := O1.out.below hb2
  have B2 : Hid (Below w.heap.size w w2) := B1.out.trans (hb2.mono B1.out.size)
  have I2 : Hid (IS w2 (.slice p2 PL.length c2) PL) := hi2
  clear hi2 hb2 PA O1 B1
  go_wp2_with fail
  refine Calls.mono (RP.out _ B2.out) ?_
  rintro e w3 ⟨p3, c3, rfl, hi3, hb3⟩
  have O3 : Hid (OwnG KO w3 w.heap.size (.slice p1 l.length c1) l) := O2.out.below hb3
  have B3 : Hid (Below w.heap.size w w3) := B2.out.trans (hb3.mono B2.out.size)
  have I3 : Hid (IS w3 (.slice p2 PL.length c2) PL) := I2.out.below hb3
  have J3 : Hid (IS w3 (.slice p3 PL.length c3) PL) := hi3
  clear hi3 hb3 RP O2 B2 I2
  go_wp2_with fail
  refine Calls.mono (SI.out _ _ _ _ I3.out J3.out HP.out) ?_
  rintro e w4 ⟨rfl, hb4⟩
  have O4 : Hid (OwnG KO w4 w.heap.size (.slice p1 l.length c1) l) := O3.out.below hb4
  have B4 : Hid (Below w.heap.size w w4) := B3.out.trans (hb4.mono B3.out.size)
  clear hb4 SI O3 B3 I3 J3
  go_wp2_with fail
  refine Calls.mono (RN.out _ _ B4.out (O4.out.gs KO_ok.len)) ?_
  rintro e w5 ⟨p5, c5, rfl, ho5, hb5⟩
  have O5 : Hid (OwnG KO w5 w.heap.size (.slice p1 l.length c1) l) := O4.out.below hb5
  have B5 : Hid (Below w.heap.size w w5) := B4.out.trans (hb5.mono B4.out.size)
  have X5 : Hid (OwnG KO w5 w4.heap.size (.slice p5 RL.length c5) RL) := ho5
  have L4 : Hid (∀ x, (Value.slice p1 l.length c1).ownBlock = some x → x < w4.heap.size) := fun x hx => (O4.out.lt hx).2
  have Z4 : Hid (w.heap.size ≤ w4.heap.size) := B4.out.size
  clear ho5 hb5 RN O4 B4
  go_wp2_with fail
  refine Calls.mono (RR.out _ B5.out) ?_
  rintro e w6 ⟨p6, c6, rfl, ho6, hb6⟩
  have O6 : Hid (OwnG KO w6 w.heap.size (.slice p1 l.length c1) l) := O5.out.below hb6
  have B6 : Hid (Below w.heap.size w w6) := B5.out.trans (hb6.mono B5.out.size)
  have X6 : Hid (OwnG KO w6 w4.heap.size (.slice p5 RL.length c5) RL) := X5.out.below hb6
  have Y6 : Hid (OS w6 (.slice p6 RL.length c6) RL) := ho6.gs KO_ok.len
  clear ho6 hb6 RR O5 B5 X5
  go_wp2_with fail
  refine Calls.mono (SE.out _ _ _ _ (X6.out.gs KO_ok.len) Y6.out HR.out) ?_
  rintro e w7 ⟨rfl, hb7⟩
  have O7 : Hid (OwnG KO w7 w.heap.size (.slice p1 l.length c1) l) := O6.out.below hb7
  have B7 : Hid (Below w.heap.size w w7) := B6.out.trans (hb7.mono B6.out.size)
  have X7 : Hid (OwnG KO w7 w4.heap.size (.slice p5 RL.length c5) RL) := X6.out.below hb7
  clear hb7 O6 B6 X6 Y6
  rcases X7.out.2 with ⟨hnil, _⟩ | ⟨g, cp, cur, hvs, hg4, hcur, hcp, hcm, hcs, _⟩
  · injection hnil with e1 e2 e3
    subst e1 e3
    rw [e2]
    have FN : Hid _ := SE.out _ _ _ _ (O7.out.gs KO_ok.len) (HS.out _ B7.out) HLM.out
    go_wp2_with fail
    go_loopw [16] (fun v16 wr => ∃ wk, v16 = .int .i64 0 ∧ wk = wr ∧ wk = w7) (fun _ _ => 0)
    case atStart => exact ⟨_, rfl, rfl, rfl⟩
    case round =>
      obtain ⟨wk, rfl, rfl, rfl⟩ := hrel
      go_wp2_with fail
      refine Calls.mono FN.out ?_
      rintro e w8 ⟨rfl, hb8⟩
      go_wp2_with fail
      go_ret
      exact ⟨rfl, B7.out.trans (hb8.mono B7.out.size)⟩
  · injection hvs with e1 e2 e3
    subst e1 e3
    have S0 : Hid (SP w7 w7 g c5) := ⟨But.refl _ _, ⟨cur, hcur, hcs⟩⟩
    have FN : Hid (∀ w8, SP w7 w8 g c5 → Below w.heap.size w w8 ∧ Calls Tryd.prog 15 #[.slice p1 l.length c1, .slice p l.length cap] w8 fun e w' => e = .returned (.bool true) ∧ Below w8.heap.size w8 w') := fun w8 s => by
      have b8 : Below w.heap.size w w8 := B7.out.trans ⟨s.bt.os, s.bt.tape, s.bt.output, s.bt.size, fun x hx => s.bt.block x (Nat.lt_of_lt_of_le hx B7.out.size) (by have := Z4.out; omega)⟩
      have o8 : OwnG KO w8 w.heap.size (.slice p1 l.length c1) l := O7.out.far (fun x hx => s.bt.block x (O7.out.lt hx).2 (by have := L4.out x hx; omega))
      exact ⟨b8, SE.out _ _ _ _ (o8.gs KO_ok.len) (HS.out _ b8) HLM.out⟩
    have hcm2 : c5 ≤ 9223372036854775807 := by unfold maxLen at hcm; omega
    clear hcur hcs O7 X7 SE HS
    go_wp2_with fail
    go_loopw [16] (fun v16 wr => ∃ (k : Nat) (wk : World), v16 = .int .i64 k ∧ wk = wr ∧ k ≤ c5 ∧ Hid (SP w7 wk g c5)) (fun v16 _ => c5 - (intOf v16).toNat)
    case atStart => exact ⟨0, _, rfl, rfl, Nat.zero_le _, S0⟩
    case round =>
      obtain ⟨k, wr, rfl, rfl, hk, HI⟩ := hrel
      clear S0
      by_cases hlt : k < c5
      · obtain ⟨y0, h0⟩ := HI.out.got (o := k * 4) (by omega)
        obtain ⟨y1, h1⟩ := HI.out.got (o := k * 4 + 1) (by omega)
        obtain ⟨y2, h2⟩ := HI.out.got (o := k * 4 + 2) (by omega)
        obtain ⟨y3, h3⟩ := HI.out.got (o := k * 4 + 3) (by omega)
        have fz := HI.out.frozen
        have NX : Hid (∀ u0 u1 u2 u3, SP w7 ((((wr.setCell ⟨g, k * 4, none⟩ u0).setCell ⟨g, k * 4 + 1, none⟩ u1).setCell ⟨g, k * 4 + 2, none⟩ u2).setCell ⟨g, k * 4 + 3, none⟩ u3) g c5) := fun u0 u1 u2 u3 => (((HI.out.set _ u0).set _ u1).set _ u2).set _ u3
        go_wp2_with fail
        go_roundw
        case rel => exact ⟨k + 1, _, by go_num, rfl, by omega, NX.out _ _ _ _⟩
        case measure => simp [intOf]; omega
      · obtain ⟨b8, f8⟩ := FN.out _ HI.out
        have B8 : Hid (Below w.heap.size w wr) := b8
        have F8 : Hid _ := f8
        clear b8 f8
        go_wp2_with fail
        refine Calls.mono F8.out ?_
        rintro e w8 ⟨rfl, hb8⟩
        go_wp2_with fail
        go_ret
        exact ⟨rfl, B8.out.trans (hb8.mono B8.out.size)⟩
end Go.Proofs.YtmkgcgdfgagdlaaDoor
