/- Tokens, the laws: works. -/
import Derived.Test.YtkebflllbphkkaaDoorTl3
namespace Go.Proofs.YtkebflllbphkkaaDoor
open Go.RowKit

theorem mak_ok {w w' : World} {base b : Nat} {F : Nat → Prop} {T : Tr} {s : ByteArray} {l : List ByteArray} {ps : List Nat} {e : Ending} (h : MakR w base b F T s l w' e) (hc : ckO T s l = some ps) : e = .returned (.tuple #[.bool (decide (leastA T.od 256 ps ≠ 256)), .int .i64 0]) ∧ TVu w base b F w' (makT T s ps) := by
  rcases h with ⟨err, _, _, q, _⟩ | ⟨ps', q1, q2, q3⟩
  · rw [hc] at q; cases q
  · rw [hc] at q1
    injection q1 with q1
    subst q1
    exact ⟨q2, q3⟩
theorem can_ok {w w' : World} {base b : Nat} {F : Nat → Prop} {T : Tr} {s : ByteArray} {l : List Cr} {p : Nat} {e : Ending} (h : CanR w base b F T s l w' e) (hp : plO T.nms s = some p) (ht : tokE s l = 0) : NmE w w' e (nmL (cancelT T p (tokL s l)) T.od.length) 0 ∧ TVu w base b F w' (cancelT T p (tokL s l)) := by
  rcases h with ⟨err, _, _, q, _⟩ | ⟨p', q1, _, q2, q3⟩
  · rcases q with q | q
    · rw [hp] at q; cases q
    · exact absurd ht q
  · rw [hp] at q1
    injection q1 with q1
    subst q1
    exact ⟨q2, q3⟩
theorem make_ps {w0 W : World} {base b : Nat} {T : Tr} (h : PS w0 W base b T) (s : ByteArray) (hs : s.size ≤ maxLen) (v : Value) (l : List ByteArray) (hv : GS KS W v l) (hl : ∀ x ∈ l, x.size ≤ maxLen) (hll : l.length ≤ 1000) {ps : List Nat} (hc : ckO T s l = some ps) :
    Calls Tryd.prog 12 #[.pointer (some ⟨b, 0, none⟩), .string s, v] W fun e w' => e = .returned (.tuple #[.bool (decide (leastA T.od 256 ps ≠ 256)), .int .i64 0]) ∧ PS w0 w' base b (makT T s ps) := by
  obtain ⟨F, h1, h2⟩ := h
  refine (make_any W base b F T h1 s hs v l hv hl (by omega)).mono ?_
  intro e w' q
  obtain ⟨q1, q2⟩ := mak_ok q hc
  exact ⟨q1, PS.to h1 h2 q2⟩
theorem cancel_ps {w0 W : World} {base b : Nat} {T : Tr} (h : PS w0 W base b T) (s : ByteArray) (hs : s.size ≤ maxLen) (v : Value) (l : List Cr) (hv : CS W v l) (hl : ∀ c ∈ l, c.text.size ≤ maxLen) (hll : l.length ≤ 1000) {p : Nat} (hp : plO T.nms s = some p) (ht : tokE s l = 0) :
    Calls Tryd.prog 13 #[.pointer (some ⟨b, 0, none⟩), .string s, v] W fun e w' => ∃ pu cu, e = .returned (.tuple #[.slice pu (nmL (cancelT T p (tokL s l)) T.od.length).length cu, .int .i64 0]) ∧ OwnG KS w' W.heap.size (.slice pu (nmL (cancelT T p (tokL s l)) T.od.length).length cu) (nmL (cancelT T p (tokL s l)) T.od.length) ∧ PS w0 w' base b (cancelT T p (tokL s l)) := by
  obtain ⟨F, h1, h2⟩ := h
  refine (tcancel_any W base b F T h1 s hs v l hv hl (by omega)).mono ?_
  intro e w' q
  obtain ⟨⟨u, q1, q2⟩, q3⟩ := can_ok q hp ht
  obtain ⟨pu, cu, eu, _⟩ := q2.form
  rw [eu] at q1 q2
  exact ⟨pu, cu, q1, q2, PS.to h1 h2 q3⟩
theorem fail_ps {w0 W : World} {base b : Nat} {T : Tr} (h : PS w0 W base b T) (s : ByteArray) (hs : s.size ≤ maxLen) {p : Nat} (hp : plO T.nms s = some p) (hd : p ∈ T.od) :
    Calls Tryd.prog 10 #[.pointer (some ⟨b, 0, none⟩), .string s] W fun e w' => ∃ pu cu, e = .returned (.tuple #[.slice pu (T.n (T.n p).bw).why.length cu, .int .i64 0]) ∧ OwnC w' W.heap.size (.slice pu (T.n (T.n p).bw).why.length cu) (T.n (T.n p).bw).why ∧ PS w0 w' base b T ∧ Below W.heap.size W w' := by
  have hP := h
  obtain ⟨F, h1, h2⟩ := h
  refine (fail_any W base b F T h1 s hs).mono ?_
  rintro e w' ⟨u, err, rfl, hb, q⟩
  rcases q with ⟨p', q1, q2, q3, q4⟩ | ⟨q, _, _⟩
  · rw [hp] at q1
    injection q1 with q1
    subst q1 q3
    obtain ⟨pu, cu, eu⟩ := q4.form
    subst eu
    exact ⟨pu, cu, rfl, q4, hP.below hb, hb⟩
  · rcases q with q | ⟨p', q, q2⟩
    · rw [hp] at q; cases q
    · rw [hp] at q
      injection q with q
      subst q
      exact absurd hd q2
def bA : ByteArray := ⟨#[97]⟩
def bB : ByteArray := ⟨#[98]⟩
def bC : ByteArray := ⟨#[99]⟩
def W1 : Tr := makT T0 bA []
def W2 : Tr := makT W1 bB [0]
def W3 : Tr := makT W2 bC [1]
def xC : List Cr := [⟨1, 0, ⟨#[120]⟩⟩]
def W4 : Tr := cancelT W3 1 (tokL bB xC)
theorem w_1 : ckO T0 bA [] = some [] := by decide
theorem w_2 : ckO W1 bB [bA] = some [0] := by decide
theorem w_3 : ckO W2 bC [bB] = some [1] := by decide
theorem w_4 : plO W3.nms bB = some 1 := by decide
theorem w_5 : tokE bB xC = 0 := by decide
theorem w_6 : nmL W4 W3.od.length = [bB, bC] := by decide
theorem w_7 : plO W4.nms bC = some 2 := by decide
theorem w_8 : 2 ∈ W4.od := by decide
theorem w_9 : (W4.n (W4.n 2).bw).why = [⟨1, 0, ⟨#[120]⟩⟩, ⟨8, 1, bB⟩] := by rfl
theorem ks_lit1 (w : World) (s : ByteArray) : GS KS (w.alloc (.cells #[.string s] 9)) (.slice (some ⟨w.heap.size, 0, none⟩) 1 1) [s] := by
  refine Or.inr ⟨w.heap.size, 0, 1, rfl, by simp, Nat.le_refl _, fun k hk j u hu => ?_⟩
  have hk0 : k = 0 := by simpa using hk
  subst hk0
  have hj : j = 0 := by
    by_cases h : j = 0
    · exact h
    · rw [List.getElem?_eq_none (by show 1 ≤ j; omega)] at hu; cases hu
  subst hj
  injection hu with hu
  rw [← hu]
  exact cell_of_row _ _ _ _ _ _ (heap_alloc_new w _)
theorem ks_lit2 (w : World) (s t : ByteArray) : GS KS (w.alloc (.cells #[.string s, .string t] 9)) (.slice (some ⟨w.heap.size, 0, none⟩) 2 2) [s, t] := by
  refine Or.inr ⟨w.heap.size, 0, 2, rfl, by simp, Nat.le_refl _, fun k hk j u hu => ?_⟩
  have hk0 : k = 0 ∨ k = 1 := by have : k < 2 := hk; omega
  rcases hk0 with rfl | rfl
  · have hj : j = 0 := by
      by_cases h : j = 0
      · exact h
      · rw [List.getElem?_eq_none (by show 1 ≤ j; omega)] at hu; cases hu
    subst hj
    injection hu with hu
    rw [← hu]
    exact cell_of_row _ _ _ _ _ _ (heap_alloc_new w _)
  · have hj : j = 0 := by
      by_cases h : j = 0
      · exact h
      · rw [List.getElem?_eq_none (by show 1 ≤ j; omega)] at hu; cases hu
    subst hj
    injection hu with hu
    rw [← hu]
    exact cell_of_row _ _ _ _ _ _ (heap_alloc_new w _)
theorem cs_lit2 (w : World) (a b : Cr) : CS (w.alloc (.cells #[.int .i64 a.kind, .int .i64 a.n, .string a.text, .int .i64 b.kind, .int .i64 b.n, .string b.text] 56)) (.slice (some ⟨w.heap.size, 0, none⟩) 2 2) [a, b] := by
  refine Or.inr ⟨w.heap.size, 0, 2, rfl, by simp, Nat.le_refl _, fun k hk => ?_⟩
  have hk0 : k = 0 ∨ k = 1 := by have : k < 2 := hk; omega
  have hn := heap_alloc_new w (.cells #[.int .i64 a.kind, .int .i64 a.n, .string a.text, .int .i64 b.kind, .int .i64 b.n, .string b.text] 56)
  rcases hk0 with rfl | rfl
  · exact ⟨cell_of_row _ _ _ _ _ _ hn, cell_of_row _ _ _ _ _ _ hn, cell_of_row _ _ _ _ _ _ hn⟩
  · exact ⟨cell_of_row _ _ _ _ _ _ hn, cell_of_row _ _ _ _ _ _ hn, cell_of_row _ _ _ _ _ _ hn⟩
theorem size1 (s : ByteArray) (h : s.size ≤ 64) : s.size ≤ maxLen := by unfold maxLen; omega
theorem PS.bl {w0 wk : World} {base b : Nat} {T : Tr} (h : PS w0 wk base b T) : Below base w0 wk := by obtain ⟨_, _, q⟩ := h; exact q
set_option maxHeartbeats 16000000 in
set_option maxRecDepth 100000 in
theorem works_any (w : World) (base : Nat) (hB : base ≤ w.heap.size) (hfb : FB w base) :
    Calls Tryd.prog 7 #[] w fun e w' => e = .returned (.bool true) ∧ Below base w w' := by
  have NW := hid (new_any w base hB hfb)
  have one : ∀ (x : ByteArray), x.size ≤ 64 → ∀ y ∈ [x], y.size ≤ maxLen := fun x hx y hy => by simp at hy; subst hy; exact size1 _ hx
  have M1 : Hid (∀ W b, PS w W base b T0 → Calls Tryd.prog 12 #[.pointer (some ⟨b, 0, none⟩), .string ⟨#[97]⟩, .slice none 0 0] W fun e w' => ∃ u, e = .returned u ∧ PS w w' base b W1) := fun W b h => (make_ps h bA (size1 _ (by decide)) _ [] (Or.inl ⟨Or.inl rfl, rfl⟩) (fun _ h => by cases h) (by decide) w_1).mono (fun e w' q => ⟨_, q.1, q.2⟩)
  have M2 : Hid (∀ W b, PS w W base b W1 → Calls Tryd.prog 12 #[.pointer (some ⟨b, 0, none⟩), .string ⟨#[98]⟩, .slice (some ⟨W.heap.size, 0, none⟩) 1 1] (W.alloc (.cells #[.string ⟨#[97]⟩] 9)) fun e w' => ∃ u, e = .returned u ∧ PS w w' base b W2) := fun W b h => (make_ps (h.below ((Below.refl _ _).alloc (Nat.le_refl _) _)) bB (size1 _ (by decide)) _ [bA] (ks_lit1 W bA) (one bA (by decide)) (by decide) w_2).mono (fun e w' q => ⟨_, q.1, q.2⟩)
  have M3 : Hid (∀ W b, PS w W base b W2 → Calls Tryd.prog 12 #[.pointer (some ⟨b, 0, none⟩), .string ⟨#[99]⟩, .slice (some ⟨W.heap.size, 0, none⟩) 1 1] (W.alloc (.cells #[.string ⟨#[98]⟩] 9)) fun e w' => ∃ u, e = .returned u ∧ PS w w' base b W3) := fun W b h => (make_ps (h.below ((Below.refl _ _).alloc (Nat.le_refl _) _)) bC (size1 _ (by decide)) _ [bB] (ks_lit1 W bB) (one bB (by decide)) (by decide) w_3).mono (fun e w' q => ⟨_, q.1, q.2⟩)
  have M4 : Hid (∀ W b, PS w W base b W3 → Calls Tryd.prog 13 #[.pointer (some ⟨b, 0, none⟩), .string ⟨#[98]⟩, .slice (some ⟨W.heap.size, 0, none⟩) 1 1] (W.alloc (.cells #[.int .i64 1, .int .i64 0, .string ⟨#[120]⟩] 56)) fun e w' => ∃ pu cu, e = .returned (.tuple #[.slice pu 2 cu, .int .i64 0]) ∧ GS KS w' (.slice pu 2 cu) [bB, bC] ∧ PS w w' base b W4) := fun W b h => by
    refine (cancel_ps (h.below ((Below.refl _ _).alloc (Nat.le_refl _) _)) bB (size1 _ (by decide)) _ xC (ownC_one W 1 0 ⟨#[120]⟩).cs (fun c hc => by simp [xC] at hc; subst hc; exact size1 _ (by decide)) (by decide) w_4 w_5).mono ?_
    rintro e w' ⟨pu, cu, q1, q2, q3⟩
    have e6 : nmL (cancelT W3 1 (tokL bB xC)) W3.od.length = [bB, bC] := w_6
    rw [e6] at q1 q2
    exact ⟨pu, cu, q1, q2.gs KS_ok.len, q3⟩
  have M5 : Hid (∀ W b, PS w W base b W4 → Calls Tryd.prog 10 #[.pointer (some ⟨b, 0, none⟩), .string ⟨#[99]⟩] W fun e w' => ∃ pu cu, e = .returned (.tuple #[.slice pu 2 cu, .int .i64 0]) ∧ CS w' (.slice pu 2 cu) [⟨1, 0, ⟨#[120]⟩⟩, ⟨8, 1, bB⟩] ∧ Below W.heap.size W w') := fun W b h => by
    refine (fail_ps h bC (size1 _ (by decide)) w_7 w_8).mono ?_
    rintro e w' ⟨pu, cu, q1, q2, _, q3⟩
    rw [w_9] at q1 q2
    exact ⟨pu, cu, q1, q2.cs, q3⟩
  clear hfb one
  go_enter Tryd.func7, Tryd.ntmps7
  go_upto_region 4 with (go_at_call 23; refine NW.out.mono ?_; rintro e w1 ⟨b, F0, rfl, q1, q2, q3⟩; have P0 : Hid (PS w w1 base b T0) := ⟨F0, q1, (q3.mono hB)⟩; clear q1 q2 q3)
  have C1 := hid (M1.out w1 b P0.out)
  clear M1
  go_upto_region 5 with (go_at_call 12; refine C1.out.mono ?_; rintro e w2 ⟨u2, rfl, q⟩; have P1 := hid q; clear q)
  have C2 := hid (M2.out w2 b P1.out)
  clear M2 C1
  go_upto_region 6 with (go_at_call 12; refine C2.out.mono ?_; rintro e w3 ⟨u3, rfl, q⟩; have P2 := hid q; clear q)
  have C3 := hid (M3.out w3 b P2.out)
  clear M3 C2
  go_upto_region 7 with (go_at_call 12; refine C3.out.mono ?_; rintro e w4 ⟨u4, rfl, q⟩; have P3 := hid q; clear q)
  have C4 := hid (M4.out w4 b P3.out)
  clear M4 C3
  go_upto_region 8 with (go_at_call 13; refine C4.out.mono ?_; rintro e w5 ⟨pu, cu, rfl, q, q'⟩; have G5 := hid q; have P4 := hid q'; clear q q')
  have C5 := hid (M5.out w5 b P4.out)
  clear M5 C4
  go_upto_region 9 with (go_at_call 10; refine C5.out.mono ?_; rintro e w6 ⟨pf, cf, rfl, q, q'⟩; have G6 := hid q; have B6 := hid q'; clear q q')
  have TT : Hid (Calls Tryd.prog 16 #[.slice pu 2 cu, .slice (some ⟨w6.heap.size, 0, none⟩) 2 2] (w6.alloc (.cells #[.string ⟨#[98]⟩, .string ⟨#[99]⟩] 9)) fun e w' => e = .returned (.bool true) ∧ ∃ n, w' = (w6.alloc (.cells #[.string ⟨#[98]⟩, .string ⟨#[99]⟩] 9)).drewN n) := texts_same _ _ _ [bB, bC] ((G5.out.below B6.out).below ((Below.refl _ _).alloc (Nat.le_refl _) _)) (ks_lit2 w6 bB bC) (by decide)
  have FF : Hid (∀ w7, Below w6.heap.size w6 w7 → Calls Tryd.prog 18 #[.slice pf 2 cf, .slice (some ⟨w7.heap.size, 0, none⟩) 2 2] (w7.alloc (.cells #[.int .i64 1, .int .i64 0, .string ⟨#[120]⟩, .int .i64 8, .int .i64 1, .string ⟨#[98]⟩] 56)) fun e w' => e = .returned (.bool true) ∧ Below base w w') := fun w7 hb => by
    refine (fails_same _ _ _ [⟨1, 0, ⟨#[120]⟩⟩, ⟨8, 1, bB⟩] ((G6.out.below hb).below ((Below.refl _ _).alloc (Nat.le_refl _) _)) (cs_lit2 w7 ⟨1, 0, ⟨#[120]⟩⟩ ⟨8, 1, bB⟩) (by decide)).mono ?_
    rintro e w' ⟨rfl, n, rfl⟩
    refine ⟨rfl, ?_⟩
    have hz : base ≤ w5.heap.size := by have := P4.out.bl.size; omega
    have b1 : Below w7.heap.size w7 ((w7.alloc (.cells #[.int .i64 1, .int .i64 0, .string ⟨#[120]⟩, .int .i64 8, .int .i64 1, .string ⟨#[98]⟩] 56)).drewN n) := by
      have := (Below.refl w7.heap.size w7).alloc (Nat.le_refl _) (.cells #[.int .i64 1, .int .i64 0, .string ⟨#[120]⟩, .int .i64 8, .int .i64 1, .string ⟨#[98]⟩] 56)
      exact ⟨this.os, this.tape, this.output, this.size, this.block⟩
    exact (P4.out.bl.trans (B6.out.mono hz)).trans ((hb.trans (b1.mono hb.size)).mono (Nat.le_trans hz B6.out.size))
  have BN : Hid (∀ n, Below w6.heap.size w6 ((w6.alloc (.cells #[.string ⟨#[98]⟩, .string ⟨#[99]⟩] 9)).drewN n)) := fun n => by
    have := (Below.refl w6.heap.size w6).alloc (Nat.le_refl _) (.cells #[.string ⟨#[98]⟩, .string ⟨#[99]⟩] 9)
    exact ⟨this.os, this.tape, this.output, this.size, this.block⟩
  clear C5
  go_wp2_with (first | (go_at_call 16; refine TT.out.mono ?_; rintro e w7 ⟨rfl, n7, hw7⟩; have F7 := hid (FF.out w7 (by rw [hw7]; exact BN.out n7)); clear hw7) | (go_at_call 18; refine F7.out.mono ?_; rintro e w8 ⟨rfl, q⟩; have B8 := hid q; clear q))
  go_ret
  exact ⟨rfl, B8.out⟩
end Go.Proofs.YtkebflllbphkkaaDoor
