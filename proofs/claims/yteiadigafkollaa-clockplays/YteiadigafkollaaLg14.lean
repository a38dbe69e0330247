/- The law's step, walked. -/
import Derived.Test.YteiadigafkollaaLg12
namespace Go.Proofs.Yteiadigafkollaa
open Go.RowKit Go.Sort Go.Shelf

set_option maxHeartbeats 16000000 in
set_option maxRecDepth 100000 in
theorem step0_any (w0 w : World) (b : Nat) (xo : Option Nat) (now given : Int) (L : List Tm) (p : Option Addr) (cap : Nat) (h : SP w0 w b xo now given L p cap) (hw0 : w0.heap.size ≤ w.heap.size) (hg : given ≤ 1000000000000000000) (c : Int × Int × Int) (hc : amg c.1 8 = 0) :
    Calls Try.prog 10 #[.pointer (some ⟨b, 0, none⟩), .agg #[.int .i64 now, .int .i64 given, .slice p L.length cap], .agg #[.int .i64 c.1, .int .i64 c.2.1, .int .i64 c.2.2]] w fun e w' => StepR w0 w b xo p w' given e := by
  have AM := fun w' => among_any w' c.1 8 (by omega) (by omega)
  rw [hc] at AM
  have hbl : Below w.heap.size w (((w.alloc (.cells #[.int .i64 now, .int .i64 given, .slice p L.length cap] 28)).alloc (.cells #[.int .i64 c.1, .int .i64 c.2.1, .int .i64 c.2.2] 30)).alloc (.cells #[.int .i64 0, .int .i64 0, .slice none 0 0] 28)) := (((Below.refl _ _).alloc (Nat.le_refl _) _).alloc (by simp) _).alloc (by simp; omega) _
  have HX : Hid (SPX w0 (((w.alloc (.cells #[.int .i64 now, .int .i64 given, .slice p L.length cap] 28)).alloc (.cells #[.int .i64 c.1, .int .i64 c.2.1, .int .i64 c.2.2] 30)).alloc (.cells #[.int .i64 0, .int .i64 0, .slice none 0 0] 28)) w.heap.size b xo now given L p cap) := h.x hbl
  have BX : Hid (Boxes w (((w.alloc (.cells #[.int .i64 now, .int .i64 given, .slice p L.length cap] 28)).alloc (.cells #[.int .i64 c.1, .int .i64 c.2.1, .int .i64 c.2.2] 30)).alloc (.cells #[.int .i64 0, .int .i64 0, .slice none 0 0] 28)) now given p L.length cap c) := Boxes.start _ _ _ _ _ _ _ _ _ _
  have HW0 : Hid (w0.heap.size ≤ w.heap.size) := hw0
  have HBL : Hid _ := hbl
  obtain ⟨n, er, given', L', hg', CP, RP⟩ := at_pair b xo p cap h.st.ok hg c.2.1
  have CP2 := CP _ HX.out.sp.st.cl
  have RP2 : Hid _ := RP
  have HG : Hid (given' ≤ given + 1) := hg'
  clear h hbl CP RP hc hg hw0 hg'
  go_enter Try.func10, Try.ntmps10
  go_wp2_with (first | (go_at_call 13; refine (AM _).mono ?_; rintro e w3 ⟨rfl, rfl⟩) | (go_at_call 24; refine CP2.mono ?_; rintro e w4 ⟨rfl, xo4, hk4, hn4, hc4⟩; have R4 := RP2.out w4 (HX.out.clock hk4); have B4 : Boxes w w4 now given p L.length cap c := BX.out.kc hk4 HX.out; have a04 : w4.cell? ⟨w.heap.size, 0, none⟩ = some (.int .i64 now) := B4.1 0; have a14 : w4.cell? ⟨w.heap.size, 1, none⟩ = some (.int .i64 given) := B4.1 1; have a24 : w4.cell? ⟨w.heap.size, 2, none⟩ = some (.slice p L.length cap) := B4.1 2; have b04 : w4.cell? ⟨w.heap.size + 1, 0, none⟩ = some (.int .i64 c.1) := B4.2.1 0; have b14 : w4.cell? ⟨w.heap.size + 1, 1, none⟩ = some (.int .i64 c.2.1) := B4.2.1 1; have b24 : w4.cell? ⟨w.heap.size + 1, 2, none⟩ = some (.int .i64 c.2.2) := B4.2.1 2; have r04 : w4.cell? ⟨w.heap.size + 2, 0, none⟩ = some (.int .i64 0) := B4.2.2.1 0; have r14 : w4.cell? ⟨w.heap.size + 2, 1, none⟩ = some (.int .i64 0) := B4.2.2.1 1; have r24 : w4.cell? ⟨w.heap.size + 2, 2, none⟩ = some (.slice none 0 0) := B4.2.2.1 2; have f04 : ∀ o, w4.frozen? ⟨w.heap.size, o, none⟩ = false := (fun o => B4.2.2.2.1 _ o (by omega) (by omega)); have f24 : ∀ o, w4.frozen? ⟨w.heap.size + 2, o, none⟩ = false := (fun o => B4.2.2.2.1 _ o (by omega) (by omega)); have K4 : Hid _ := hk4; have N4 : Hid _ := hn4; have C4 : Hid _ := hc4; have B4h : Hid (Boxes w w4 now given p L.length cap c) := B4; clear hk4 hn4 hc4 B4))
  refine R4.mono ?_
  rintro e w5 ⟨p5, c5, rfl, hr5, hs5, hb5⟩
  have X5 : Hid (SPX w0 w5 w.heap.size b xo4 now given' L' p5 c5) := HX.out.both (by simp) K4.out N4.out C4.out hr5 hs5 hb5
  have S5 : Hid (Src w.heap.size p (.slice p5 L'.length c5)) := hs5.low (by have := B4h.out.2.2.2.2; omega)
  have B5 : Boxes w w5 now given p L.length cap c := B4h.out.below hb5
  have a05 : w5.cell? ⟨w.heap.size, 0, none⟩ = some (.int .i64 now) := B5.1 0; have a15 : w5.cell? ⟨w.heap.size, 1, none⟩ = some (.int .i64 given) := B5.1 1; have a25 : w5.cell? ⟨w.heap.size, 2, none⟩ = some (.slice p L.length cap) := B5.1 2; have b05 : w5.cell? ⟨w.heap.size + 1, 0, none⟩ = some (.int .i64 c.1) := B5.2.1 0; have b15 : w5.cell? ⟨w.heap.size + 1, 1, none⟩ = some (.int .i64 c.2.1) := B5.2.1 1; have b25 : w5.cell? ⟨w.heap.size + 1, 2, none⟩ = some (.int .i64 c.2.2) := B5.2.1 2; have r05 : w5.cell? ⟨w.heap.size + 2, 0, none⟩ = some (.int .i64 0) := B5.2.2.1 0; have r15 : w5.cell? ⟨w.heap.size + 2, 1, none⟩ = some (.int .i64 0) := B5.2.2.1 1; have r25 : w5.cell? ⟨w.heap.size + 2, 2, none⟩ = some (.slice none 0 0) := B5.2.2.1 2; have f05 : ∀ o, w5.frozen? ⟨w.heap.size, o, none⟩ = false := (fun o => B5.2.2.2.1 _ o (by omega) (by omega)); have f25 : ∀ o, w5.frozen? ⟨w.heap.size + 2, o, none⟩ = false := (fun o => B5.2.2.2.1 _ o (by omega) (by omega)); have B5h : Hid _ := B5
  obtain ⟨⟨v0, v1, v2⟩, ⟨y0, y1, y2⟩, FF, XF, FR⟩ := step_end X5.out B5 HW0.out (((Fr.of_below HBL.out).kc K4.out).below hb5)
  have HFR : Hid _ := FR
  have HF : Hid _ := FF
  have HXF : Hid _ := XF
  clear hr5 hs5 hb5 B5 FF XF FR
  go_wp2
  go_region
  all_goals
    go_wp2
    exact bodyPost_ret (v := .tuple #[.pointer (some ⟨b, 0, none⟩), .agg #[.int .i64 now, .int .i64 given', .slice p5 L'.length c5], .bool true]) (by simp [results, Try.results10, go_sem, HF.out.1, HF.out.2.1, HF.out.2.2]) rfl ⟨b, xo4, now, given', L', p5, c5, rfl, HXF.out.sp.below ((Below.refl _ _).drew), HG.out, Fr.drew HFR.out, Or.inl rfl, NX.old N4.out (by simp; omega), S5.out⟩
set_option maxHeartbeats 16000000 in
set_option maxRecDepth 100000 in
theorem step1_any (w0 w : World) (b : Nat) (xo : Option Nat) (now given : Int) (L : List Tm) (p : Option Addr) (cap : Nat) (h : SP w0 w b xo now given L p cap) (hw0 : w0.heap.size ≤ w.heap.size) (hg : given ≤ 1000000000000000000) (c : Int × Int × Int) (hc : amg c.1 8 = 1) :
    Calls Try.prog 10 #[.pointer (some ⟨b, 0, none⟩), .agg #[.int .i64 now, .int .i64 given, .slice p L.length cap], .agg #[.int .i64 c.1, .int .i64 c.2.1, .int .i64 c.2.2]] w fun e w' => StepR w0 w b xo p w' given e := by
  have AM := fun w' => among_any w' c.1 8 (by omega) (by omega)
  rw [hc] at AM
  have hbl : Below w.heap.size w (((w.alloc (.cells #[.int .i64 now, .int .i64 given, .slice p L.length cap] 28)).alloc (.cells #[.int .i64 c.1, .int .i64 c.2.1, .int .i64 c.2.2] 30)).alloc (.cells #[.int .i64 0, .int .i64 0, .slice none 0 0] 28)) := (((Below.refl _ _).alloc (Nat.le_refl _) _).alloc (by simp) _).alloc (by simp; omega) _
  have HX : Hid (SPX w0 (((w.alloc (.cells #[.int .i64 now, .int .i64 given, .slice p L.length cap] 28)).alloc (.cells #[.int .i64 c.1, .int .i64 c.2.1, .int .i64 c.2.2] 30)).alloc (.cells #[.int .i64 0, .int .i64 0, .slice none 0 0] 28)) w.heap.size b xo now given L p cap) := h.x hbl
  have BX : Hid (Boxes w (((w.alloc (.cells #[.int .i64 now, .int .i64 given, .slice p L.length cap] 28)).alloc (.cells #[.int .i64 c.1, .int .i64 c.2.1, .int .i64 c.2.2] 30)).alloc (.cells #[.int .i64 0, .int .i64 0, .slice none 0 0] 28)) now given p L.length cap c) := Boxes.start _ _ _ _ _ _ _ _ _ _
  have HW0 : Hid (w0.heap.size ≤ w.heap.size) := hw0
  have HBL : Hid _ := hbl
  obtain ⟨n, er, given', L', hg', CP, RP⟩ := after_pair b xo p cap h.st.ok hg c.2.1
  have CP2 := CP _ HX.out.sp.st.cl
  have RP2 : Hid _ := RP
  have HG : Hid (given' ≤ given + 1) := hg'
  clear h hbl CP RP hc hg hw0 hg'
  go_enter Try.func10, Try.ntmps10
  go_wp2_with (first | (go_at_call 13; refine (AM _).mono ?_; rintro e w3 ⟨rfl, rfl⟩) | (go_at_call 21; refine CP2.mono ?_; rintro e w4 ⟨rfl, xo4, hk4, hn4, hc4⟩; have R4 := RP2.out w4 (HX.out.clock hk4); have B4 : Boxes w w4 now given p L.length cap c := BX.out.kc hk4 HX.out; have a04 : w4.cell? ⟨w.heap.size, 0, none⟩ = some (.int .i64 now) := B4.1 0; have a14 : w4.cell? ⟨w.heap.size, 1, none⟩ = some (.int .i64 given) := B4.1 1; have a24 : w4.cell? ⟨w.heap.size, 2, none⟩ = some (.slice p L.length cap) := B4.1 2; have b04 : w4.cell? ⟨w.heap.size + 1, 0, none⟩ = some (.int .i64 c.1) := B4.2.1 0; have b14 : w4.cell? ⟨w.heap.size + 1, 1, none⟩ = some (.int .i64 c.2.1) := B4.2.1 1; have b24 : w4.cell? ⟨w.heap.size + 1, 2, none⟩ = some (.int .i64 c.2.2) := B4.2.1 2; have r04 : w4.cell? ⟨w.heap.size + 2, 0, none⟩ = some (.int .i64 0) := B4.2.2.1 0; have r14 : w4.cell? ⟨w.heap.size + 2, 1, none⟩ = some (.int .i64 0) := B4.2.2.1 1; have r24 : w4.cell? ⟨w.heap.size + 2, 2, none⟩ = some (.slice none 0 0) := B4.2.2.1 2; have f04 : ∀ o, w4.frozen? ⟨w.heap.size, o, none⟩ = false := (fun o => B4.2.2.2.1 _ o (by omega) (by omega)); have f24 : ∀ o, w4.frozen? ⟨w.heap.size + 2, o, none⟩ = false := (fun o => B4.2.2.2.1 _ o (by omega) (by omega)); have K4 : Hid _ := hk4; have N4 : Hid _ := hn4; have C4 : Hid _ := hc4; have B4h : Hid (Boxes w w4 now given p L.length cap c) := B4; clear hk4 hn4 hc4 B4))
  refine R4.mono ?_
  rintro e w5 ⟨p5, c5, rfl, hr5, hs5, hb5⟩
  have X5 : Hid (SPX w0 w5 w.heap.size b xo4 now given' L' p5 c5) := HX.out.both (by simp) K4.out N4.out C4.out hr5 hs5 hb5
  have S5 : Hid (Src w.heap.size p (.slice p5 L'.length c5)) := hs5.low (by have := B4h.out.2.2.2.2; omega)
  have B5 : Boxes w w5 now given p L.length cap c := B4h.out.below hb5
  have a05 : w5.cell? ⟨w.heap.size, 0, none⟩ = some (.int .i64 now) := B5.1 0; have a15 : w5.cell? ⟨w.heap.size, 1, none⟩ = some (.int .i64 given) := B5.1 1; have a25 : w5.cell? ⟨w.heap.size, 2, none⟩ = some (.slice p L.length cap) := B5.1 2; have b05 : w5.cell? ⟨w.heap.size + 1, 0, none⟩ = some (.int .i64 c.1) := B5.2.1 0; have b15 : w5.cell? ⟨w.heap.size + 1, 1, none⟩ = some (.int .i64 c.2.1) := B5.2.1 1; have b25 : w5.cell? ⟨w.heap.size + 1, 2, none⟩ = some (.int .i64 c.2.2) := B5.2.1 2; have r05 : w5.cell? ⟨w.heap.size + 2, 0, none⟩ = some (.int .i64 0) := B5.2.2.1 0; have r15 : w5.cell? ⟨w.heap.size + 2, 1, none⟩ = some (.int .i64 0) := B5.2.2.1 1; have r25 : w5.cell? ⟨w.heap.size + 2, 2, none⟩ = some (.slice none 0 0) := B5.2.2.1 2; have f05 : ∀ o, w5.frozen? ⟨w.heap.size, o, none⟩ = false := (fun o => B5.2.2.2.1 _ o (by omega) (by omega)); have f25 : ∀ o, w5.frozen? ⟨w.heap.size + 2, o, none⟩ = false := (fun o => B5.2.2.2.1 _ o (by omega) (by omega)); have B5h : Hid _ := B5
  obtain ⟨⟨v0, v1, v2⟩, ⟨y0, y1, y2⟩, FF, XF, FR⟩ := step_end X5.out B5 HW0.out (((Fr.of_below HBL.out).kc K4.out).below hb5)
  have HFR : Hid _ := FR
  have HF : Hid _ := FF
  have HXF : Hid _ := XF
  clear hr5 hs5 hb5 B5 FF XF FR
  go_wp2
  go_region
  all_goals
    go_wp2
    exact bodyPost_ret (v := .tuple #[.pointer (some ⟨b, 0, none⟩), .agg #[.int .i64 now, .int .i64 given', .slice p5 L'.length c5], .bool true]) (by simp [results, Try.results10, go_sem, HF.out.1, HF.out.2.1, HF.out.2.2]) rfl ⟨b, xo4, now, given', L', p5, c5, rfl, HXF.out.sp.below ((Below.refl _ _).drew), HG.out, Fr.drew HFR.out, Or.inl rfl, NX.old N4.out (by simp; omega), S5.out⟩
set_option maxHeartbeats 16000000 in
set_option maxRecDepth 100000 in
theorem step2_any (w0 w : World) (b : Nat) (xo : Option Nat) (now given : Int) (L : List Tm) (p : Option Addr) (cap : Nat) (h : SP w0 w b xo now given L p cap) (hw0 : w0.heap.size ≤ w.heap.size) (hg : given ≤ 1000000000000000000) (c : Int × Int × Int) (hc : amg c.1 8 = 2) :
    Calls Try.prog 10 #[.pointer (some ⟨b, 0, none⟩), .agg #[.int .i64 now, .int .i64 given, .slice p L.length cap], .agg #[.int .i64 c.1, .int .i64 c.2.1, .int .i64 c.2.2]] w fun e w' => StepR w0 w b xo p w' given e := by
  have AM := fun w' => among_any w' c.1 8 (by omega) (by omega)
  rw [hc] at AM
  have hbl : Below w.heap.size w (((w.alloc (.cells #[.int .i64 now, .int .i64 given, .slice p L.length cap] 28)).alloc (.cells #[.int .i64 c.1, .int .i64 c.2.1, .int .i64 c.2.2] 30)).alloc (.cells #[.int .i64 0, .int .i64 0, .slice none 0 0] 28)) := (((Below.refl _ _).alloc (Nat.le_refl _) _).alloc (by simp) _).alloc (by simp; omega) _
  have HX : Hid (SPX w0 (((w.alloc (.cells #[.int .i64 now, .int .i64 given, .slice p L.length cap] 28)).alloc (.cells #[.int .i64 c.1, .int .i64 c.2.1, .int .i64 c.2.2] 30)).alloc (.cells #[.int .i64 0, .int .i64 0, .slice none 0 0] 28)) w.heap.size b xo now given L p cap) := h.x hbl
  have BX : Hid (Boxes w (((w.alloc (.cells #[.int .i64 now, .int .i64 given, .slice p L.length cap] 28)).alloc (.cells #[.int .i64 c.1, .int .i64 c.2.1, .int .i64 c.2.2] 30)).alloc (.cells #[.int .i64 0, .int .i64 0, .slice none 0 0] 28)) now given p L.length cap c) := Boxes.start _ _ _ _ _ _ _ _ _ _
  have HW0 : Hid (w0.heap.size ≤ w.heap.size) := hw0
  have HBL : Hid _ := hbl
  obtain ⟨n, er, given', L', hg', CP, RP⟩ := every_pair b xo p cap h.st.ok hg c.2.1 c.2.2
  have CP2 := CP _ HX.out.sp.st.cl
  have RP2 : Hid _ := RP
  have HG : Hid (given' ≤ given + 1) := hg'
  clear h hbl CP RP hc hg hw0 hg'
  go_enter Try.func10, Try.ntmps10
  go_wp2_with (first | (go_at_call 13; refine (AM _).mono ?_; rintro e w3 ⟨rfl, rfl⟩) | (go_at_call 25; refine CP2.mono ?_; rintro e w4 ⟨rfl, xo4, hk4, hn4, hc4⟩; have R4 := RP2.out w4 (HX.out.clock hk4); have B4 : Boxes w w4 now given p L.length cap c := BX.out.kc hk4 HX.out; have a04 : w4.cell? ⟨w.heap.size, 0, none⟩ = some (.int .i64 now) := B4.1 0; have a14 : w4.cell? ⟨w.heap.size, 1, none⟩ = some (.int .i64 given) := B4.1 1; have a24 : w4.cell? ⟨w.heap.size, 2, none⟩ = some (.slice p L.length cap) := B4.1 2; have b04 : w4.cell? ⟨w.heap.size + 1, 0, none⟩ = some (.int .i64 c.1) := B4.2.1 0; have b14 : w4.cell? ⟨w.heap.size + 1, 1, none⟩ = some (.int .i64 c.2.1) := B4.2.1 1; have b24 : w4.cell? ⟨w.heap.size + 1, 2, none⟩ = some (.int .i64 c.2.2) := B4.2.1 2; have r04 : w4.cell? ⟨w.heap.size + 2, 0, none⟩ = some (.int .i64 0) := B4.2.2.1 0; have r14 : w4.cell? ⟨w.heap.size + 2, 1, none⟩ = some (.int .i64 0) := B4.2.2.1 1; have r24 : w4.cell? ⟨w.heap.size + 2, 2, none⟩ = some (.slice none 0 0) := B4.2.2.1 2; have f04 : ∀ o, w4.frozen? ⟨w.heap.size, o, none⟩ = false := (fun o => B4.2.2.2.1 _ o (by omega) (by omega)); have f24 : ∀ o, w4.frozen? ⟨w.heap.size + 2, o, none⟩ = false := (fun o => B4.2.2.2.1 _ o (by omega) (by omega)); have K4 : Hid _ := hk4; have N4 : Hid _ := hn4; have C4 : Hid _ := hc4; have B4h : Hid (Boxes w w4 now given p L.length cap c) := B4; clear hk4 hn4 hc4 B4))
  refine R4.mono ?_
  rintro e w5 ⟨p5, c5, rfl, hr5, hs5, hb5⟩
  have X5 : Hid (SPX w0 w5 w.heap.size b xo4 now given' L' p5 c5) := HX.out.both (by simp) K4.out N4.out C4.out hr5 hs5 hb5
  have S5 : Hid (Src w.heap.size p (.slice p5 L'.length c5)) := hs5.low (by have := B4h.out.2.2.2.2; omega)
  have B5 : Boxes w w5 now given p L.length cap c := B4h.out.below hb5
  have a05 : w5.cell? ⟨w.heap.size, 0, none⟩ = some (.int .i64 now) := B5.1 0; have a15 : w5.cell? ⟨w.heap.size, 1, none⟩ = some (.int .i64 given) := B5.1 1; have a25 : w5.cell? ⟨w.heap.size, 2, none⟩ = some (.slice p L.length cap) := B5.1 2; have b05 : w5.cell? ⟨w.heap.size + 1, 0, none⟩ = some (.int .i64 c.1) := B5.2.1 0; have b15 : w5.cell? ⟨w.heap.size + 1, 1, none⟩ = some (.int .i64 c.2.1) := B5.2.1 1; have b25 : w5.cell? ⟨w.heap.size + 1, 2, none⟩ = some (.int .i64 c.2.2) := B5.2.1 2; have r05 : w5.cell? ⟨w.heap.size + 2, 0, none⟩ = some (.int .i64 0) := B5.2.2.1 0; have r15 : w5.cell? ⟨w.heap.size + 2, 1, none⟩ = some (.int .i64 0) := B5.2.2.1 1; have r25 : w5.cell? ⟨w.heap.size + 2, 2, none⟩ = some (.slice none 0 0) := B5.2.2.1 2; have f05 : ∀ o, w5.frozen? ⟨w.heap.size, o, none⟩ = false := (fun o => B5.2.2.2.1 _ o (by omega) (by omega)); have f25 : ∀ o, w5.frozen? ⟨w.heap.size + 2, o, none⟩ = false := (fun o => B5.2.2.2.1 _ o (by omega) (by omega)); have B5h : Hid _ := B5
  obtain ⟨⟨v0, v1, v2⟩, ⟨y0, y1, y2⟩, FF, XF, FR⟩ := step_end X5.out B5 HW0.out (((Fr.of_below HBL.out).kc K4.out).below hb5)
  have HFR : Hid _ := FR
  have HF : Hid _ := FF
  have HXF : Hid _ := XF
  clear hr5 hs5 hb5 B5 FF XF FR
  go_wp2
  go_region
  all_goals
    go_wp2
    exact bodyPost_ret (v := .tuple #[.pointer (some ⟨b, 0, none⟩), .agg #[.int .i64 now, .int .i64 given', .slice p5 L'.length c5], .bool true]) (by simp [results, Try.results10, go_sem, HF.out.1, HF.out.2.1, HF.out.2.2]) rfl ⟨b, xo4, now, given', L', p5, c5, rfl, HXF.out.sp.below ((Below.refl _ _).drew), HG.out, Fr.drew HFR.out, Or.inl rfl, NX.old N4.out (by simp; omega), S5.out⟩
set_option maxHeartbeats 16000000 in
set_option maxRecDepth 100000 in
theorem step3_any (w0 w : World) (b : Nat) (xo : Option Nat) (now given : Int) (L : List Tm) (p : Option Addr) (cap : Nat) (h : SP w0 w b xo now given L p cap) (hw0 : w0.heap.size ≤ w.heap.size) (_hg : given ≤ 1000000000000000000) (c : Int × Int × Int) (hc : amg c.1 8 = 3) :
    Calls Try.prog 10 #[.pointer (some ⟨b, 0, none⟩), .agg #[.int .i64 now, .int .i64 given, .slice p L.length cap], .agg #[.int .i64 c.1, .int .i64 c.2.1, .int .i64 c.2.2]] w fun e w' => StepR w0 w b xo p w' given e := by
  have AM := fun w' => among_any w' c.1 8 (by omega) (by omega)
  rw [hc] at AM
  have hbl : Below w.heap.size w (((w.alloc (.cells #[.int .i64 now, .int .i64 given, .slice p L.length cap] 28)).alloc (.cells #[.int .i64 c.1, .int .i64 c.2.1, .int .i64 c.2.2] 30)).alloc (.cells #[.int .i64 0, .int .i64 0, .slice none 0 0] 28)) := (((Below.refl _ _).alloc (Nat.le_refl _) _).alloc (by simp) _).alloc (by simp; omega) _
  have HX : Hid (SPX w0 (((w.alloc (.cells #[.int .i64 now, .int .i64 given, .slice p L.length cap] 28)).alloc (.cells #[.int .i64 c.1, .int .i64 c.2.1, .int .i64 c.2.2] 30)).alloc (.cells #[.int .i64 0, .int .i64 0, .slice none 0 0] 28)) w.heap.size b xo now given L p cap) := h.x hbl
  have BX : Hid (Boxes w (((w.alloc (.cells #[.int .i64 now, .int .i64 given, .slice p L.length cap] 28)).alloc (.cells #[.int .i64 c.1, .int .i64 c.2.1, .int .i64 c.2.2] 30)).alloc (.cells #[.int .i64 0, .int .i64 0, .slice none 0 0] 28)) now given p L.length cap c) := Boxes.start _ _ _ _ _ _ _ _ _ _
  have HW0 : Hid (w0.heap.size ≤ w.heap.size) := hw0
  have HBL : Hid _ := hbl
  obtain ⟨er, L', CP, RP⟩ := stop_pair b xo p cap h.st.ok c.2.1
  have CP2 := CP _ HX.out.sp.st.cl
  have RP2 : Hid _ := RP
  have HG : Hid (given ≤ given + 1) := by show given ≤ given + 1; omega
  clear h hbl CP RP hc hw0
  go_enter Try.func10, Try.ntmps10
  go_wp2_with (first | (go_at_call 13; refine (AM _).mono ?_; rintro e w3 ⟨rfl, rfl⟩) | (go_at_call 22; refine CP2.mono ?_; rintro e w4 ⟨rfl, xo4, hk4, hn4, hc4⟩; have R4 := RP2.out w4 (HX.out.clock hk4); have B4 : Boxes w w4 now given p L.length cap c := BX.out.kc hk4 HX.out; have a04 : w4.cell? ⟨w.heap.size, 0, none⟩ = some (.int .i64 now) := B4.1 0; have a14 : w4.cell? ⟨w.heap.size, 1, none⟩ = some (.int .i64 given) := B4.1 1; have a24 : w4.cell? ⟨w.heap.size, 2, none⟩ = some (.slice p L.length cap) := B4.1 2; have b04 : w4.cell? ⟨w.heap.size + 1, 0, none⟩ = some (.int .i64 c.1) := B4.2.1 0; have b14 : w4.cell? ⟨w.heap.size + 1, 1, none⟩ = some (.int .i64 c.2.1) := B4.2.1 1; have b24 : w4.cell? ⟨w.heap.size + 1, 2, none⟩ = some (.int .i64 c.2.2) := B4.2.1 2; have r04 : w4.cell? ⟨w.heap.size + 2, 0, none⟩ = some (.int .i64 0) := B4.2.2.1 0; have r14 : w4.cell? ⟨w.heap.size + 2, 1, none⟩ = some (.int .i64 0) := B4.2.2.1 1; have r24 : w4.cell? ⟨w.heap.size + 2, 2, none⟩ = some (.slice none 0 0) := B4.2.2.1 2; have f04 : ∀ o, w4.frozen? ⟨w.heap.size, o, none⟩ = false := (fun o => B4.2.2.2.1 _ o (by omega) (by omega)); have f24 : ∀ o, w4.frozen? ⟨w.heap.size + 2, o, none⟩ = false := (fun o => B4.2.2.2.1 _ o (by omega) (by omega)); have K4 : Hid _ := hk4; have N4 : Hid _ := hn4; have C4 : Hid _ := hc4; have B4h : Hid (Boxes w w4 now given p L.length cap c) := B4; clear hk4 hn4 hc4 B4))
  refine R4.mono ?_
  rintro e w5 ⟨p5, c5, rfl, hr5, hs5, hb5⟩
  have X5 : Hid (SPX w0 w5 w.heap.size b xo4 now given L' p5 c5) := HX.out.both (by simp) K4.out N4.out C4.out hr5 hs5 hb5
  have S5 : Hid (Src w.heap.size p (.slice p5 L'.length c5)) := hs5.low (by have := B4h.out.2.2.2.2; omega)
  have B5 : Boxes w w5 now given p L.length cap c := B4h.out.below hb5
  have a05 : w5.cell? ⟨w.heap.size, 0, none⟩ = some (.int .i64 now) := B5.1 0; have a15 : w5.cell? ⟨w.heap.size, 1, none⟩ = some (.int .i64 given) := B5.1 1; have a25 : w5.cell? ⟨w.heap.size, 2, none⟩ = some (.slice p L.length cap) := B5.1 2; have b05 : w5.cell? ⟨w.heap.size + 1, 0, none⟩ = some (.int .i64 c.1) := B5.2.1 0; have b15 : w5.cell? ⟨w.heap.size + 1, 1, none⟩ = some (.int .i64 c.2.1) := B5.2.1 1; have b25 : w5.cell? ⟨w.heap.size + 1, 2, none⟩ = some (.int .i64 c.2.2) := B5.2.1 2; have r05 : w5.cell? ⟨w.heap.size + 2, 0, none⟩ = some (.int .i64 0) := B5.2.2.1 0; have r15 : w5.cell? ⟨w.heap.size + 2, 1, none⟩ = some (.int .i64 0) := B5.2.2.1 1; have r25 : w5.cell? ⟨w.heap.size + 2, 2, none⟩ = some (.slice none 0 0) := B5.2.2.1 2; have f05 : ∀ o, w5.frozen? ⟨w.heap.size, o, none⟩ = false := (fun o => B5.2.2.2.1 _ o (by omega) (by omega)); have f25 : ∀ o, w5.frozen? ⟨w.heap.size + 2, o, none⟩ = false := (fun o => B5.2.2.2.1 _ o (by omega) (by omega)); have B5h : Hid _ := B5
  obtain ⟨⟨v0, v1, v2⟩, ⟨y0, y1, y2⟩, FF, XF, FR⟩ := step_end X5.out B5 HW0.out (((Fr.of_below HBL.out).kc K4.out).below hb5)
  have HFR : Hid _ := FR
  have HF : Hid _ := FF
  have HXF : Hid _ := XF
  clear hr5 hs5 hb5 B5 FF XF FR
  go_wp2
  go_region
  all_goals
    go_wp2
    exact bodyPost_ret (v := .tuple #[.pointer (some ⟨b, 0, none⟩), .agg #[.int .i64 now, .int .i64 given, .slice p5 L'.length c5], .bool true]) (by simp [results, Try.results10, go_sem, HF.out.1, HF.out.2.1, HF.out.2.2]) rfl ⟨b, xo4, now, given, L', p5, c5, rfl, HXF.out.sp.below ((Below.refl _ _).drew), HG.out, Fr.drew HFR.out, Or.inl rfl, NX.old N4.out (by simp; omega), S5.out⟩
set_option maxHeartbeats 16000000 in
set_option maxRecDepth 100000 in
theorem step4_any (w0 w : World) (b : Nat) (xo : Option Nat) (now given : Int) (L : List Tm) (p : Option Addr) (cap : Nat) (h : SP w0 w b xo now given L p cap) (hw0 : w0.heap.size ≤ w.heap.size) (_hg : given ≤ 1000000000000000000) (c : Int × Int × Int) (hc : amg c.1 8 = 4) :
    Calls Try.prog 10 #[.pointer (some ⟨b, 0, none⟩), .agg #[.int .i64 now, .int .i64 given, .slice p L.length cap], .agg #[.int .i64 c.1, .int .i64 c.2.1, .int .i64 c.2.2]] w fun e w' => StepR w0 w b xo p w' given e := by
  have AM := fun w' => among_any w' c.1 8 (by omega) (by omega)
  rw [hc] at AM
  have hbl : Below w.heap.size w (((w.alloc (.cells #[.int .i64 now, .int .i64 given, .slice p L.length cap] 28)).alloc (.cells #[.int .i64 c.1, .int .i64 c.2.1, .int .i64 c.2.2] 30)).alloc (.cells #[.int .i64 0, .int .i64 0, .slice none 0 0] 28)) := (((Below.refl _ _).alloc (Nat.le_refl _) _).alloc (by simp) _).alloc (by simp; omega) _
  have HX : Hid (SPX w0 (((w.alloc (.cells #[.int .i64 now, .int .i64 given, .slice p L.length cap] 28)).alloc (.cells #[.int .i64 c.1, .int .i64 c.2.1, .int .i64 c.2.2] 30)).alloc (.cells #[.int .i64 0, .int .i64 0, .slice none 0 0] 28)) w.heap.size b xo now given L p cap) := h.x hbl
  have BX : Hid (Boxes w (((w.alloc (.cells #[.int .i64 now, .int .i64 given, .slice p L.length cap] 28)).alloc (.cells #[.int .i64 c.1, .int .i64 c.2.1, .int .i64 c.2.2] 30)).alloc (.cells #[.int .i64 0, .int .i64 0, .slice none 0 0] 28)) now given p L.length cap c) := Boxes.start _ _ _ _ _ _ _ _ _ _
  have HW0 : Hid (w0.heap.size ≤ w.heap.size) := hw0
  have HBL : Hid _ := hbl
  obtain ⟨er, L', CP, RP⟩ := move_pair b xo p cap h.st.ok c.2.1 c.2.2
  have CP2 := CP _ HX.out.sp.st.cl
  have RP2 : Hid _ := RP
  have HG : Hid (given ≤ given + 1) := by show given ≤ given + 1; omega
  clear h hbl CP RP hc hw0
  go_enter Try.func10, Try.ntmps10
  go_wp2_with (first | (go_at_call 13; refine (AM _).mono ?_; rintro e w3 ⟨rfl, rfl⟩) | (go_at_call 23; refine CP2.mono ?_; rintro e w4 ⟨rfl, xo4, hk4, hn4, hc4⟩; have R4 := RP2.out w4 (HX.out.clock hk4); have B4 : Boxes w w4 now given p L.length cap c := BX.out.kc hk4 HX.out; have a04 : w4.cell? ⟨w.heap.size, 0, none⟩ = some (.int .i64 now) := B4.1 0; have a14 : w4.cell? ⟨w.heap.size, 1, none⟩ = some (.int .i64 given) := B4.1 1; have a24 : w4.cell? ⟨w.heap.size, 2, none⟩ = some (.slice p L.length cap) := B4.1 2; have b04 : w4.cell? ⟨w.heap.size + 1, 0, none⟩ = some (.int .i64 c.1) := B4.2.1 0; have b14 : w4.cell? ⟨w.heap.size + 1, 1, none⟩ = some (.int .i64 c.2.1) := B4.2.1 1; have b24 : w4.cell? ⟨w.heap.size + 1, 2, none⟩ = some (.int .i64 c.2.2) := B4.2.1 2; have r04 : w4.cell? ⟨w.heap.size + 2, 0, none⟩ = some (.int .i64 0) := B4.2.2.1 0; have r14 : w4.cell? ⟨w.heap.size + 2, 1, none⟩ = some (.int .i64 0) := B4.2.2.1 1; have r24 : w4.cell? ⟨w.heap.size + 2, 2, none⟩ = some (.slice none 0 0) := B4.2.2.1 2; have f04 : ∀ o, w4.frozen? ⟨w.heap.size, o, none⟩ = false := (fun o => B4.2.2.2.1 _ o (by omega) (by omega)); have f24 : ∀ o, w4.frozen? ⟨w.heap.size + 2, o, none⟩ = false := (fun o => B4.2.2.2.1 _ o (by omega) (by omega)); have K4 : Hid _ := hk4; have N4 : Hid _ := hn4; have C4 : Hid _ := hc4; have B4h : Hid (Boxes w w4 now given p L.length cap c) := B4; clear hk4 hn4 hc4 B4))
  refine R4.mono ?_
  rintro e w5 ⟨p5, c5, rfl, hr5, hs5, hb5⟩
  have X5 : Hid (SPX w0 w5 w.heap.size b xo4 now given L' p5 c5) := HX.out.both (by simp) K4.out N4.out C4.out hr5 hs5 hb5
  have S5 : Hid (Src w.heap.size p (.slice p5 L'.length c5)) := hs5.low (by have := B4h.out.2.2.2.2; omega)
  have B5 : Boxes w w5 now given p L.length cap c := B4h.out.below hb5
  have a05 : w5.cell? ⟨w.heap.size, 0, none⟩ = some (.int .i64 now) := B5.1 0; have a15 : w5.cell? ⟨w.heap.size, 1, none⟩ = some (.int .i64 given) := B5.1 1; have a25 : w5.cell? ⟨w.heap.size, 2, none⟩ = some (.slice p L.length cap) := B5.1 2; have b05 : w5.cell? ⟨w.heap.size + 1, 0, none⟩ = some (.int .i64 c.1) := B5.2.1 0; have b15 : w5.cell? ⟨w.heap.size + 1, 1, none⟩ = some (.int .i64 c.2.1) := B5.2.1 1; have b25 : w5.cell? ⟨w.heap.size + 1, 2, none⟩ = some (.int .i64 c.2.2) := B5.2.1 2; have r05 : w5.cell? ⟨w.heap.size + 2, 0, none⟩ = some (.int .i64 0) := B5.2.2.1 0; have r15 : w5.cell? ⟨w.heap.size + 2, 1, none⟩ = some (.int .i64 0) := B5.2.2.1 1; have r25 : w5.cell? ⟨w.heap.size + 2, 2, none⟩ = some (.slice none 0 0) := B5.2.2.1 2; have f05 : ∀ o, w5.frozen? ⟨w.heap.size, o, none⟩ = false := (fun o => B5.2.2.2.1 _ o (by omega) (by omega)); have f25 : ∀ o, w5.frozen? ⟨w.heap.size + 2, o, none⟩ = false := (fun o => B5.2.2.2.1 _ o (by omega) (by omega)); have B5h : Hid _ := B5
  obtain ⟨⟨v0, v1, v2⟩, ⟨y0, y1, y2⟩, FF, XF, FR⟩ := step_end X5.out B5 HW0.out (((Fr.of_below HBL.out).kc K4.out).below hb5)
  have HFR : Hid _ := FR
  have HF : Hid _ := FF
  have HXF : Hid _ := XF
  clear hr5 hs5 hb5 B5 FF XF FR
  go_wp2
  go_region
  all_goals
    go_wp2
    exact bodyPost_ret (v := .tuple #[.pointer (some ⟨b, 0, none⟩), .agg #[.int .i64 now, .int .i64 given, .slice p5 L'.length c5], .bool true]) (by simp [results, Try.results10, go_sem, HF.out.1, HF.out.2.1, HF.out.2.2]) rfl ⟨b, xo4, now, given, L', p5, c5, rfl, HXF.out.sp.below ((Below.refl _ _).drew), HG.out, Fr.drew HFR.out, Or.inl rfl, NX.old N4.out (by simp; omega), S5.out⟩
theorem SPX.keep2 {w0 w w' : World} {s b : Nat} {xo : Option Nat} {now given : Int} {L : List Tm} {p : Option Addr} {cap : Nat} (h : SPX w0 w s b xo now given L p cap) (hs : w.heap.size ≤ w'.heap.size) (hB : Below w0.heap.size w0 w') (hb : w'.heap[b]? = w.heap[b]?) (hx : ∀ X, xo = some X → w'.heap[X]? = w.heap[X]?) (hp : ∀ a, p = some a → w'.heap[a.block]? = w.heap[a.block]?) : SPX w0 w' s b xo now given L p cap := by
  refine ⟨⟨⟨h.sp.st.cl.keep hs hb hx, h.sp.st.hb, h.sp.st.hx, hB⟩, h.sp.rs.blk hs (fun a n c e => ?_), h.sp.dj⟩, h.ob, h.ox, h.op⟩
  injection e with e _ _
  exact hp a e
/-- The answer's box alone. -/
theorem step_end2 {w0 w W : World} {b : Nat} {xo : Option Nat} {now given : Int} {L : List Tm} {p : Option Addr} {cap : Nat} (x : SPX w0 W w.heap.size b xo now given L p cap) (h : ∀ o, W.cell? ⟨w.heap.size + 2, o, none⟩ = #[.int .i64 0, .int .i64 0, .slice none 0 0][o]?) (hw0 : w0.heap.size ≤ w.heap.size) {bb : Nat} {xx : Option Nat} (fr : Fr bb xx w W) :
    let F := ((W.setCell ⟨w.heap.size + 2, 0, none⟩ (.int .i64 now)).setCell ⟨w.heap.size + 2, 1, none⟩ (.int .i64 given)).setCell ⟨w.heap.size + 2, 2, none⟩ (.slice p L.length cap)
    (F.cell? ⟨w.heap.size + 2, 0, none⟩ = some (.int .i64 now) ∧ F.cell? ⟨w.heap.size + 2, 1, none⟩ = some (.int .i64 given) ∧ F.cell? ⟨w.heap.size + 2, 2, none⟩ = some (.slice p L.length cap)) ∧ SPX w0 F w.heap.size b xo now given L p cap ∧ Fr bb xx w F := by
  refine ⟨set3 (h 0) (h 1) (h 2), x.keep (by simp [World.setCell]) ?_ ?_, ((fr.set _ _ (by simp)).set _ _ (by simp)).set _ _ (by simp)⟩
  · exact (((x.sp.st.bl.setCell (by simp; omega) _).setCell (by simp; omega) _).setCell (by simp; omega) _)
  · intro j hj _
    unfold Out at hj
    have n2 : j ≠ w.heap.size + 2 := by omega
    rw [Below.heap_setCell _ _ _ _ n2, Below.heap_setCell _ _ _ _ n2, Below.heap_setCell _ _ _ _ n2]
theorem clone_spx {w0 W w4 : World} {s b b' : Nat} {xo xo' : Option Nat} {now given : Int} {L : List Tm} {p : Option Addr} {cap : Nat} (h : SPX w0 W s b xo now given L p cap) (hs : s + 3 ≤ W.heap.size) (hc : CL w4 b' xo' now given L) (hb : W.heap.size ≤ b') (hx : ∀ X, xo' = some X → W.heap.size ≤ X) (B : Below W.heap.size W w4) : SPX w0 w4 s b' xo' now given L p cap := by
  have hw := h.sp.st.bl.size
  refine ⟨⟨⟨hc, by omega, fun X e => by have := hx X e; omega, below_then h.sp.st.bl B⟩, h.sp.rs.below B, fun a e => ?_⟩, Or.inr (by omega), fun X e => Or.inr (by have := hx X e; omega), h.op⟩
  have := h.sp.plt a e
  refine ⟨by omega, fun e2 => ?_⟩
  have := hx _ e2.symm; omega
set_option maxHeartbeats 16000000 in
set_option maxRecDepth 100000 in
theorem step6_any (w0 w : World) (b : Nat) (xo : Option Nat) (now given : Int) (L : List Tm) (p : Option Addr) (cap : Nat) (h : SP w0 w b xo now given L p cap) (hw0 : w0.heap.size ≤ w.heap.size) (_hg : given ≤ 1000000000000000000) (c : Int × Int × Int) (hc : amg c.1 8 = 6) :
    Calls Try.prog 10 #[.pointer (some ⟨b, 0, none⟩), .agg #[.int .i64 now, .int .i64 given, .slice p L.length cap], .agg #[.int .i64 c.1, .int .i64 c.2.1, .int .i64 c.2.2]] w fun e w' => StepR w0 w b xo p w' given e := by
  have AM := fun w' => among_any w' c.1 8 (by omega) (by omega)
  rw [hc] at AM
  have hbl : Below w.heap.size w (((w.alloc (.cells #[.int .i64 now, .int .i64 given, .slice p L.length cap] 28)).alloc (.cells #[.int .i64 c.1, .int .i64 c.2.1, .int .i64 c.2.2] 30)).alloc (.cells #[.int .i64 0, .int .i64 0, .slice none 0 0] 28)) := (((Below.refl _ _).alloc (Nat.le_refl _) _).alloc (by simp) _).alloc (by simp; omega) _
  have HX : Hid (SPX w0 (((w.alloc (.cells #[.int .i64 now, .int .i64 given, .slice p L.length cap] 28)).alloc (.cells #[.int .i64 c.1, .int .i64 c.2.1, .int .i64 c.2.2] 30)).alloc (.cells #[.int .i64 0, .int .i64 0, .slice none 0 0] 28)) w.heap.size b xo now given L p cap) := h.x hbl
  have BX : Hid (Boxes w (((w.alloc (.cells #[.int .i64 now, .int .i64 given, .slice p L.length cap] 28)).alloc (.cells #[.int .i64 c.1, .int .i64 c.2.1, .int .i64 c.2.2] 30)).alloc (.cells #[.int .i64 0, .int .i64 0, .slice none 0 0] 28)) now given p L.length cap c) := Boxes.start _ _ _ _ _ _ _ _ _ _
  have HW0 : Hid (w0.heap.size ≤ w.heap.size) := hw0
  have HBL : Hid _ := hbl
  have HG : Hid (given ≤ given + 1) := by show given ≤ given + 1; omega
  have hs3 : Hid (w.heap.size + 3 ≤ (((w.alloc (.cells #[.int .i64 now, .int .i64 given, .slice p L.length cap] 28)).alloc (.cells #[.int .i64 c.1, .int .i64 c.2.1, .int .i64 c.2.2] 30)).alloc (.cells #[.int .i64 0, .int .i64 0, .slice none 0 0] 28)).heap.size) := by show _ ≤ _; simp
  clear hbl hc hw0
  go_enter Try.func10, Try.ntmps10
  clear h
  go_wp2_with (first | (go_at_call 13; refine (AM _).mono ?_; rintro e w3 ⟨rfl, rfl⟩))
  refine (cclone_any _ _ _ _ _ _ HX.out.sp.st.cl).mono ?_
  rintro e w4 ⟨b', xo', rfl, hc4, hb4, hx4, hB4⟩
  have X9 : Hid (SPX w0 w4 w.heap.size b' xo' now given L p cap) := clone_spx HX.out hs3.out hc4 hb4 hx4 hB4
  have B9 : Boxes w w4 now given p L.length cap c := BX.out.below hB4
  have FR9 : Hid (Fr b xo w w4) := (Fr.of_below HBL.out).below hB4
  have OB : Hid (w.heap.size ≤ b') := by have := hs3.out; show _ ≤ _; omega
  have OX : Hid (∀ X, xo' = some X → w.heap.size ≤ X) := fun X e => by have := hs3.out; have := hx4 X e; omega
  have a04 : w4.cell? ⟨w.heap.size, 0, none⟩ = some (.int .i64 now) := B9.1 0
  have a14 : w4.cell? ⟨w.heap.size, 1, none⟩ = some (.int .i64 given) := B9.1 1
  have a24 : w4.cell? ⟨w.heap.size, 2, none⟩ = some (.slice p L.length cap) := B9.1 2
  have b04 : w4.cell? ⟨w.heap.size + 1, 0, none⟩ = some (.int .i64 c.1) := B9.2.1 0
  have b14 : w4.cell? ⟨w.heap.size + 1, 1, none⟩ = some (.int .i64 c.2.1) := B9.2.1 1
  have b24 : w4.cell? ⟨w.heap.size + 1, 2, none⟩ = some (.int .i64 c.2.2) := B9.2.1 2
  have r04 : w4.cell? ⟨w.heap.size + 2, 0, none⟩ = some (.int .i64 0) := B9.2.2.1 0
  have r14 : w4.cell? ⟨w.heap.size + 2, 1, none⟩ = some (.int .i64 0) := B9.2.2.1 1
  have r24 : w4.cell? ⟨w.heap.size + 2, 2, none⟩ = some (.slice none 0 0) := B9.2.2.1 2
  have f04 : ∀ o, w4.frozen? ⟨w.heap.size, o, none⟩ = false := (fun o => B9.2.2.2.1 _ o (by omega) (by omega))
  have f24 : ∀ o, w4.frozen? ⟨w.heap.size + 2, o, none⟩ = false := (fun o => B9.2.2.2.1 _ o (by omega) (by omega))
  clear hc4 hb4 hx4 hB4
  obtain ⟨FF, XF, FR⟩ := step_end2 X9.out B9.2.2.1 HW0.out FR9.out
  have HFR : Hid _ := FR
  have HF : Hid _ := FF
  have HXF : Hid _ := XF
  clear FF XF B9 FR
  go_wp2
  go_region
  all_goals
    go_wp2
    exact bodyPost_ret (v := .tuple #[.pointer (some ⟨b', 0, none⟩), .agg #[.int .i64 now, .int .i64 given, .slice p L.length cap], .bool true]) (by simp [results, Try.results10, go_sem, HF.out.1, HF.out.2.1, HF.out.2.2]) rfl ⟨b', xo', now, given, L, p, cap, rfl, HXF.out.sp.below ((Below.refl _ _).drew), HG.out, Fr.drew HFR.out, Or.inr OB.out, fun X e => Or.inr (OX.out X e), src_same _ _ _ _⟩
set_option maxHeartbeats 16000000 in
set_option maxRecDepth 100000 in
theorem step7_any (w0 w : World) (b : Nat) (xo : Option Nat) (now given : Int) (L : List Tm) (p : Option Addr) (cap : Nat) (h : SP w0 w b xo now given L p cap) (hw0 : w0.heap.size ≤ w.heap.size) (hg : given ≤ 1000000000000000000) (c : Int × Int × Int) (hc : amg c.1 8 = 7) :
    Calls Try.prog 10 #[.pointer (some ⟨b, 0, none⟩), .agg #[.int .i64 now, .int .i64 given, .slice p L.length cap], .agg #[.int .i64 c.1, .int .i64 c.2.1, .int .i64 c.2.2]] w fun e w' => StepR w0 w b xo p w' given e := by
  have AM := fun w' => among_any w' c.1 8 (by omega) (by omega)
  rw [hc] at AM
  have hbl : Below w.heap.size w (((w.alloc (.cells #[.int .i64 now, .int .i64 given, .slice p L.length cap] 28)).alloc (.cells #[.int .i64 c.1, .int .i64 c.2.1, .int .i64 c.2.2] 30)).alloc (.cells #[.int .i64 0, .int .i64 0, .slice none 0 0] 28)) := (((Below.refl _ _).alloc (Nat.le_refl _) _).alloc (by simp) _).alloc (by simp; omega) _
  have HX : Hid (SPX w0 (((w.alloc (.cells #[.int .i64 now, .int .i64 given, .slice p L.length cap] 28)).alloc (.cells #[.int .i64 c.1, .int .i64 c.2.1, .int .i64 c.2.2] 30)).alloc (.cells #[.int .i64 0, .int .i64 0, .slice none 0 0] 28)) w.heap.size b xo now given L p cap) := h.x hbl
  have BX : Hid (Boxes w (((w.alloc (.cells #[.int .i64 now, .int .i64 given, .slice p L.length cap] 28)).alloc (.cells #[.int .i64 c.1, .int .i64 c.2.1, .int .i64 c.2.2] 30)).alloc (.cells #[.int .i64 0, .int .i64 0, .slice none 0 0] 28)) now given p L.length cap c) := Boxes.start _ _ _ _ _ _ _ _ _ _
  have HW0 : Hid (w0.heap.size ≤ w.heap.size) := hw0
  have HBL : Hid _ := hbl
  have HG : Hid (given ≤ given + 1) := by show given ≤ given + 1; omega
  have hs3 : Hid (w.heap.size + 3 ≤ (((w.alloc (.cells #[.int .i64 now, .int .i64 given, .slice p L.length cap] 28)).alloc (.cells #[.int .i64 c.1, .int .i64 c.2.1, .int .i64 c.2.2] 30)).alloc (.cells #[.int .i64 0, .int .i64 0, .slice none 0 0] 28)).heap.size) := by show _ ≤ _; simp
  clear hbl hc hw0
  go_enter Try.func10, Try.ntmps10
  clear h
  go_wp2_with (first | (go_at_call 13; refine (AM _).mono ?_; rintro e w3 ⟨rfl, rfl⟩))
  refine (cclone_any _ _ _ _ _ _ HX.out.sp.st.cl).mono ?_
  rintro e w4 ⟨b', xo', rfl, hc4, hb4, hx4, hB4⟩
  obtain ⟨W, hW⟩ : ∃ W, W = (((w.alloc (.cells #[.int .i64 now, .int .i64 given, .slice p L.length cap] 28)).alloc (.cells #[.int .i64 c.1, .int .i64 c.2.1, .int .i64 c.2.2] 30)).alloc (.cells #[.int .i64 0, .int .i64 0, .slice none 0 0] 28)) := ⟨_, rfl⟩
  rw [← hW] at hb4 hx4 hB4 HX BX hs3 HBL
  clear hW
  have HC4 : Hid (CL w4 b' xo' now given L) := hc4
  have HB4 : Hid (Below W.heap.size W w4) := hB4
  have Hb : Hid (W.heap.size ≤ b') := hb4
  have Hx : Hid (∀ X, xo' = some X → W.heap.size ≤ X) := hx4
  clear hc4 hb4 hx4 hB4
  go_wp2_with fail
  refine (after_cw _ _ _ _ _ _ HC4.out hg 1).mono ?_
  rintro e w5 ⟨⟨v5, rfl⟩, k5, xo5, now5, given5, L5, hc5, n5, g5a, g5b⟩
  have HB5 : Hid (Below W.heap.size W w5) := HB4.out.trans (k5.below HB4.out.size Hb.out Hx.out)
  have Hx5 : Hid (∀ X, xo5 = some X → W.heap.size ≤ X) := fun X e => by
    rcases n5 with e2 | ⟨g, e2, hg2⟩
    · exact Hx.out X (e2 ▸ e)
    · rw [e2] at e; injection e with e; have := HB4.out.size; omega
  have HC5 : Hid (CL w5 b' xo5 now5 given5 L5) := hc5
  clear k5 hc5 n5
  go_wp2_with fail
  refine (advance_cw _ _ _ _ _ _ HC5.out 2).mono ?_
  rintro e w6 ⟨⟨v6, rfl⟩, k6, xo6, now6, given6, L6, hc6, n6, g6a, g6b⟩
  have HB6 : Hid (Below W.heap.size W w6) := HB5.out.trans (k6.below HB5.out.size Hb.out Hx5.out)
  have Hx6 : Hid (∀ X, xo6 = some X → W.heap.size ≤ X) := fun X e => by
    rcases n6 with e2 | ⟨g, e2, hg2⟩
    · exact Hx5.out X (e2 ▸ e)
    · rw [e2] at e; injection e with e; have := HB5.out.size; omega
  have HC6 : Hid (CL w6 b' xo6 now6 given6 L6) := hc6
  clear k6 hc6 n6
  go_wp2_with fail
  refine (stop_cw _ _ _ _ _ _ HC6.out 1).mono ?_
  rintro e w7 ⟨⟨v7, rfl⟩, k7, xo7, now7, given7, L7, hc7, n7, g7a, g7b⟩
  have HB7 : Hid (Below W.heap.size W w7) := HB6.out.trans (k7.below HB6.out.size Hb.out Hx6.out)
  have X9 : Hid (SPX w0 w7 w.heap.size b xo now given L p cap) := HX.out.below HB7.out
  have B9 : Boxes w w7 now given p L.length cap c := BX.out.below HB7.out
  have FR9 : Hid (Fr b xo w w7) := (Fr.of_below HBL.out).below HB7.out
  have a07 : w7.cell? ⟨w.heap.size, 0, none⟩ = some (.int .i64 now) := B9.1 0
  have a17 : w7.cell? ⟨w.heap.size, 1, none⟩ = some (.int .i64 given) := B9.1 1
  have a27 : w7.cell? ⟨w.heap.size, 2, none⟩ = some (.slice p L.length cap) := B9.1 2
  have b07 : w7.cell? ⟨w.heap.size + 1, 0, none⟩ = some (.int .i64 c.1) := B9.2.1 0
  have b17 : w7.cell? ⟨w.heap.size + 1, 1, none⟩ = some (.int .i64 c.2.1) := B9.2.1 1
  have b27 : w7.cell? ⟨w.heap.size + 1, 2, none⟩ = some (.int .i64 c.2.2) := B9.2.1 2
  have r07 : w7.cell? ⟨w.heap.size + 2, 0, none⟩ = some (.int .i64 0) := B9.2.2.1 0
  have r17 : w7.cell? ⟨w.heap.size + 2, 1, none⟩ = some (.int .i64 0) := B9.2.2.1 1
  have r27 : w7.cell? ⟨w.heap.size + 2, 2, none⟩ = some (.slice none 0 0) := B9.2.2.1 2
  have f07 : ∀ o, w7.frozen? ⟨w.heap.size, o, none⟩ = false := (fun o => B9.2.2.2.1 _ o (by omega) (by omega))
  have f27 : ∀ o, w7.frozen? ⟨w.heap.size + 2, o, none⟩ = false := (fun o => B9.2.2.2.1 _ o (by omega) (by omega))
  clear k7 hc7 n7
  obtain ⟨FF, XF, FR⟩ := step_end2 X9.out B9.2.2.1 HW0.out FR9.out
  have HFR : Hid _ := FR
  have HF : Hid _ := FF
  have HXF : Hid _ := XF
  clear FF XF B9 FR
  go_wp2
  go_region
  all_goals
    go_wp2
    exact bodyPost_ret (v := .tuple #[.pointer (some ⟨b, 0, none⟩), .agg #[.int .i64 now, .int .i64 given, .slice p L.length cap], .bool true]) (by simp [results, Try.results10, go_sem, HF.out.1, HF.out.2.1, HF.out.2.2]) rfl ⟨b, xo, now, given, L, p, cap, rfl, HXF.out.sp.below ((Below.refl _ _).drew), HG.out, Fr.drew HFR.out, Or.inl rfl, fun X e => Or.inl e, src_same _ _ _ _⟩
theorem OwnF.far {w w' : World} {base : Nat} {v : Value} {l : List (Int × Int)} (h : OwnF w base v l) (k : ∀ g, v.ownBlock = some g → w'.heap[g]? = w.heap[g]?) : OwnF w' base v l := by
  obtain ⟨h1, h2⟩ := h
  refine ⟨h1, ?_⟩
  rcases h2 with h2 | ⟨g, cap, cur, e1, e2, e3, e4⟩
  · exact Or.inl h2
  · exact Or.inr ⟨g, cap, cur, e1, e2, by rw [k g (by rw [e1]; rfl)]; exact e3, e4⟩
theorem OwnF.sets {w : World} {base : Nat} {v : Value} {l : List (Int × Int)} (h : OwnF w base v l) (a : Addr) (u : Value) (ha : a.block < base) : OwnF (w.setCell a u) base v l :=
  h.far (fun g hg => Below.heap_setCell _ _ _ _ (fun e => by have := (World.ownsRow.lt h g hg).1; omega))
theorem OwnF.wr {w : World} {base : Nat} {p : Option Addr} {n cap : Nat} {l : List (Int × Int)} (h : OwnF w base (.slice p n cap) l) (hl : 0 < l.length) : ∃ g, p = some ⟨g, 0, none⟩ ∧ base ≤ g ∧ g < w.heap.size ∧ Wr w g (l.length * 2) := by
  have h0 := h
  rcases h.2 with ⟨_, e⟩ | ⟨g, cp, cur, e1, hb, hg, _⟩
  · omega
  · injection e1 with e1 e2 e3
    subst e1 e2 e3
    have hl2 := (World.ownsRow.lt h0 g rfl)
    refine ⟨g, rfl, hb, hl2.2, fun j hj => ?_, fun o => World.ownsRow.frozenAt h0 o⟩
    have := World.ownsRow.cellAt h0 j hj
    have hlen := fC_len l
    rw [List.getElem?_eq_getElem (by omega)] at this
    exact ⟨_, this⟩
/-- Advance, of both. -/
theorem adv_both {now given : Int} {L : List Tm} (b : Nat) (xo : Option Nat) (p : Option Addr) (cap : Nat) (ho : Ok now given L) (x : Int) :
    ∃ (er now' : Int) (l : List (Int × Int)) (L' : List Tm), l.length ≤ 4096 ∧
      (∀ W, CL W b xo now given L → Calls Try.prog 15 #[.pointer (some ⟨b, 0, none⟩), .int .i64 x] W fun E w' => ∃ p4 c4, E = .returned (.tuple #[.slice p4 l.length c4, .int .i64 er]) ∧ OwnF w' W.heap.size (.slice p4 l.length c4) l ∧ KC b xo W w' ∧ CL w' b xo now' given L') ∧
      (∀ W, RS W (.slice p L.length cap) L → Calls Try.prog 31 #[.agg #[.int .i64 now, .int .i64 given, .slice p L.length cap], .int .i64 x] W fun E w' => ∃ p' cap' pf cf, E = .returned (.tuple #[.agg #[.int .i64 now', .int .i64 given, .slice p' L'.length cap'], .slice pf l.length cf, .int .i64 er]) ∧ RS w' (.slice p' L'.length cap') L' ∧ Src W.heap.size p (.slice p' L'.length cap') ∧ Below W.heap.size W w' ∧ OwnF w' W.heap.size (.slice pf l.length cf) l) := by
  by_cases hx : 0 ≤ x ∧ x ≤ 1099511627776 - now
  · have hnn := due_nn (now + x) L (fun t ht => (ho.rng t ht).2.2.2.2.1)
    by_cases hd : 4096 < dueL (now + x) L
    · refine ⟨3, now, [], L, by simp, fun W hW => (advance_any W b xo now given L hW x).mono fun E w' ⟨k, h⟩ => ?_, fun W hW => (radv_any W now given x p cap L hW ho).mono fun E w' ⟨hb, h⟩ => ?_⟩
      · rcases h with ⟨h, _⟩ | ⟨_, _, he, hc⟩ | ⟨_, n, v, h1, h2, _⟩
        · exact absurd hx h
        · exact ⟨none, 0, he, World.ownsRow_nil _ _ _ _, k, hc⟩
        · omega
      · rcases h with ⟨h, _⟩ | ⟨_, _, he⟩ | ⟨_, n, p', pf, cap', cf, h1, h2, _⟩
        · exact absurd hx h
        · exact ⟨p, cap, none, 0, he, hW.below hb, src_same _ _ _ _, hb, World.ownsRow_nil _ _ _ _⟩
        · omega
    · obtain ⟨n, hn⟩ : ∃ n : Nat, (n : Int) = dueL (now + x) L := ⟨(dueL (now + x) L).toNat, by omega⟩
      refine ⟨0, now + x, told n L, it n L, by rw [told_len]; omega, fun W hW => (advance_any W b xo now given L hW x).mono fun E w' ⟨k, h⟩ => ?_, fun W hW => (radv_any W now given x p cap L hW ho).mono fun E w' ⟨hb, h⟩ => ?_⟩
      · rcases h with ⟨h, _⟩ | ⟨_, h, _⟩ | ⟨_, m, v, h1, h2, he, hf, hc⟩
        · exact absurd hx h
        · omega
        · obtain rfl : m = n := by omega
          obtain ⟨p4, c4, rfl⟩ := hf.form
          exact ⟨p4, c4, he, hf, k, hc⟩
      · rcases h with ⟨h, _⟩ | ⟨_, h, _⟩ | ⟨_, m, p', pf, cap', cf, h1, h2, he, hr, hs, hf⟩
        · exact absurd hx h
        · omega
        · obtain rfl : m = n := by omega
          rw [told_len]
          exact ⟨p', cap', pf, cf, he, hr, hs, hb, hf⟩
  · refine ⟨1, now, [], L, by simp, fun W hW => (advance_any W b xo now given L hW x).mono fun E w' ⟨k, h⟩ => ?_, fun W hW => (radv_any W now given x p cap L hW ho).mono fun E w' ⟨hb, h⟩ => ?_⟩
    · rcases h with ⟨_, he, hc⟩ | ⟨h, _⟩ | ⟨h, _⟩
      · exact ⟨none, 0, he, World.ownsRow_nil _ _ _ _, k, hc⟩
      · exact absurd h hx
      · exact absurd h hx
    · rcases h with ⟨_, he⟩ | ⟨h, _⟩ | ⟨h, _⟩
      · exact ⟨p, cap, none, 0, he, hW.below hb, src_same _ _ _ _, hb, World.ownsRow_nil _ _ _ _⟩
      · exact absurd h hx
      · exact absurd h hx
set_option maxHeartbeats 16000000 in
set_option maxRecDepth 100000 in
theorem step5_any (w0 w : World) (b : Nat) (xo : Option Nat) (now given : Int) (L : List Tm) (p : Option Addr) (cap : Nat) (h : SP w0 w b xo now given L p cap) (hw0 : w0.heap.size ≤ w.heap.size) (_hg : given ≤ 1000000000000000000) (c : Int × Int × Int) (hc : amg c.1 8 = 5) :
    Calls Try.prog 10 #[.pointer (some ⟨b, 0, none⟩), .agg #[.int .i64 now, .int .i64 given, .slice p L.length cap], .agg #[.int .i64 c.1, .int .i64 c.2.1, .int .i64 c.2.2]] w fun e w' => StepR w0 w b xo p w' given e := by
  have AM := fun w' => among_any w' c.1 8 (by omega) (by omega)
  rw [hc] at AM
  have hbl : Below w.heap.size w (((w.alloc (.cells #[.int .i64 now, .int .i64 given, .slice p L.length cap] 28)).alloc (.cells #[.int .i64 c.1, .int .i64 c.2.1, .int .i64 c.2.2] 30)).alloc (.cells #[.int .i64 0, .int .i64 0, .slice none 0 0] 28)) := (((Below.refl _ _).alloc (Nat.le_refl _) _).alloc (by simp) _).alloc (by simp; omega) _
  have HX : Hid (SPX w0 (((w.alloc (.cells #[.int .i64 now, .int .i64 given, .slice p L.length cap] 28)).alloc (.cells #[.int .i64 c.1, .int .i64 c.2.1, .int .i64 c.2.2] 30)).alloc (.cells #[.int .i64 0, .int .i64 0, .slice none 0 0] 28)) w.heap.size b xo now given L p cap) := h.x hbl
  have BX : Hid (Boxes w (((w.alloc (.cells #[.int .i64 now, .int .i64 given, .slice p L.length cap] 28)).alloc (.cells #[.int .i64 c.1, .int .i64 c.2.1, .int .i64 c.2.2] 30)).alloc (.cells #[.int .i64 0, .int .i64 0, .slice none 0 0] 28)) now given p L.length cap c) := Boxes.start _ _ _ _ _ _ _ _ _ _
  have HW0 : Hid (w0.heap.size ≤ w.heap.size) := hw0
  have HBL : Hid _ := hbl
  have HG : Hid (given ≤ given + 1) := by show given ≤ given + 1; omega
  have hs3 : Hid (w.heap.size + 3 ≤ (((w.alloc (.cells #[.int .i64 now, .int .i64 given, .slice p L.length cap] 28)).alloc (.cells #[.int .i64 c.1, .int .i64 c.2.1, .int .i64 c.2.2] 30)).alloc (.cells #[.int .i64 0, .int .i64 0, .slice none 0 0] 28)).heap.size) := by show _ ≤ _; simp
  clear hbl hc hw0
  obtain ⟨er, now', l, L', hll, CP, RP⟩ := adv_both b xo p cap h.st.ok c.2.1
  have CP2 := CP _ HX.out.sp.st.cl
  have RP2 : Hid _ := RP
  have LT3 : Hid (b < w.heap.size ∧ ∀ X, xo = some X → X < w.heap.size) := h.st.lt
  have PT3 : Hid (∀ a, p = some a → a.block < w.heap.size) := h.plt
  clear CP RP h
  go_enter Try.func10, Try.ntmps10
  go_wp2_with (first | (go_at_call 13; refine (AM _).mono ?_; rintro e w3 ⟨rfl, rfl⟩) | (go_at_call 15; refine CP2.mono ?_; rintro e w4 ⟨p4, c4, rfl, ho4, hk4, hc4⟩; have R4 := RP2.out w4 (HX.out.clock hk4); have B4 : Boxes w w4 now given p L.length cap c := BX.out.kc hk4 HX.out; have a04 : w4.cell? ⟨w.heap.size, 0, none⟩ = some (.int .i64 now) := B4.1 0; have a14 : w4.cell? ⟨w.heap.size, 1, none⟩ = some (.int .i64 given) := B4.1 1; have a24 : w4.cell? ⟨w.heap.size, 2, none⟩ = some (.slice p L.length cap) := B4.1 2; have b04 : w4.cell? ⟨w.heap.size + 1, 0, none⟩ = some (.int .i64 c.1) := B4.2.1 0; have b14 : w4.cell? ⟨w.heap.size + 1, 1, none⟩ = some (.int .i64 c.2.1) := B4.2.1 1; have b24 : w4.cell? ⟨w.heap.size + 1, 2, none⟩ = some (.int .i64 c.2.2) := B4.2.1 2; have r04 : w4.cell? ⟨w.heap.size + 2, 0, none⟩ = some (.int .i64 0) := B4.2.2.1 0; have r14 : w4.cell? ⟨w.heap.size + 2, 1, none⟩ = some (.int .i64 0) := B4.2.2.1 1; have r24 : w4.cell? ⟨w.heap.size + 2, 2, none⟩ = some (.slice none 0 0) := B4.2.2.1 2; have f04 : ∀ o, w4.frozen? ⟨w.heap.size, o, none⟩ = false := (fun o => B4.2.2.2.1 _ o (by omega) (by omega)); have f24 : ∀ o, w4.frozen? ⟨w.heap.size + 2, o, none⟩ = false := (fun o => B4.2.2.2.1 _ o (by omega) (by omega)); have K4 : Hid _ := hk4; have C4 : Hid _ := hc4; have O4 : Hid (OwnF w4 (w.heap.size + 3) (.slice p4 l.length c4) l) := (by show OwnF _ _ _ _; simpa using ho4); have B4h : Hid (Boxes w w4 now given p L.length cap c) := B4; have Z4 : Hid (w.heap.size + 3 ≤ w4.heap.size) := B4.2.2.2.2; clear hk4 hc4 B4 ho4))
  refine R4.mono ?_
  rintro e w5 ⟨p5, c5, pf, cf, rfl, hr5, hs5, hb5, hf5⟩
  have X5 : Hid (SPX w0 w5 w.heap.size b xo now' given L' p5 c5) := HX.out.both (by simp) K4.out (NX.refl _ _) C4.out hr5 hs5 hb5
  have B5 : Boxes w w5 now given p L.length cap c := B4h.out.below hb5
  have a05 : w5.cell? ⟨w.heap.size, 0, none⟩ = some (.int .i64 now) := B5.1 0
  have a15 : w5.cell? ⟨w.heap.size, 1, none⟩ = some (.int .i64 given) := B5.1 1
  have a25 : w5.cell? ⟨w.heap.size, 2, none⟩ = some (.slice p L.length cap) := B5.1 2
  have b05 : w5.cell? ⟨w.heap.size + 1, 0, none⟩ = some (.int .i64 c.1) := B5.2.1 0
  have b15 : w5.cell? ⟨w.heap.size + 1, 1, none⟩ = some (.int .i64 c.2.1) := B5.2.1 1
  have b25 : w5.cell? ⟨w.heap.size + 1, 2, none⟩ = some (.int .i64 c.2.2) := B5.2.1 2
  have r05 : w5.cell? ⟨w.heap.size + 2, 0, none⟩ = some (.int .i64 0) := B5.2.2.1 0
  have r15 : w5.cell? ⟨w.heap.size + 2, 1, none⟩ = some (.int .i64 0) := B5.2.2.1 1
  have r25 : w5.cell? ⟨w.heap.size + 2, 2, none⟩ = some (.slice none 0 0) := B5.2.2.1 2
  have f05 : ∀ o, w5.frozen? ⟨w.heap.size, o, none⟩ = false := (fun o => B5.2.2.2.1 _ o (by omega) (by omega))
  have f25 : ∀ o, w5.frozen? ⟨w.heap.size + 2, o, none⟩ = false := (fun o => B5.2.2.2.1 _ o (by omega) (by omega))
  have FR5 : Hid (Fr b xo w w5) := ((Fr.of_below HBL.out).kc K4.out).below hb5
  have S5 : Hid (Src w4.heap.size p (.slice p5 L'.length c5)) := hs5
  have O45 : Hid (OwnF w5 (w.heap.size + 3) (.slice p4 l.length c4) l) := O4.out.lt hb5
  have G4 : Hid (∀ g, p4 = some ⟨g, 0, none⟩ → w.heap.size + 3 ≤ g ∧ g < w4.heap.size) := fun g e => World.ownsRow.lt O4.out g (by rw [e]; rfl)
  have OF5 : Hid (OwnF w5 (w.heap.size + 3) (.slice pf l.length cf) l) := hf5.lower Z4.out
  have XV : Hid (SPX w0 (((w5.setCell ⟨w.heap.size, 0, none⟩ (.int .i64 now')).setCell ⟨w.heap.size, 1, none⟩ (.int .i64 given)).setCell ⟨w.heap.size, 2, none⟩ (.slice p5 L'.length c5)) w.heap.size b xo now' given L' p5 c5) := by
    refine X5.out.keep (by simp [World.setCell]) (((X5.out.sp.st.bl.setCell HW0.out _).setCell HW0.out _).setCell HW0.out _) (fun j hj _ => ?_)
    unfold Out at hj
    have n1 : j ≠ w.heap.size := by omega
    rw [Below.heap_setCell _ _ _ _ n1, Below.heap_setCell _ _ _ _ n1, Below.heap_setCell _ _ _ _ n1]
  have FRV : Hid (Fr b xo w (((w5.setCell ⟨w.heap.size, 0, none⟩ (.int .i64 now')).setCell ⟨w.heap.size, 1, none⟩ (.int .i64 given)).setCell ⟨w.heap.size, 2, none⟩ (.slice p5 L'.length c5))) := ((FR5.out.set ⟨w.heap.size, 0, none⟩ _ (Nat.le_refl _)).set ⟨w.heap.size, 1, none⟩ _ (Nat.le_refl _)).set ⟨w.heap.size, 2, none⟩ _ (Nat.le_refl _)
  have V3 := set3 (a' := .int .i64 now') (b' := .int .i64 given) (c' := .slice p5 L'.length c5) (B5.1 0) (B5.1 1) (B5.1 2)
  have VR : ∀ o, (((w5.setCell ⟨w.heap.size, 0, none⟩ (.int .i64 now')).setCell ⟨w.heap.size, 1, none⟩ (.int .i64 given)).setCell ⟨w.heap.size, 2, none⟩ (.slice p5 L'.length c5)).cell? ⟨w.heap.size + 2, o, none⟩ = #[.int .i64 0, .int .i64 0, .slice none 0 0][o]? := fun o => by rw [far_set (by omega), far_set (by omega), far_set (by omega)]; exact B5.2.2.1 o
  have VF : ∀ b o, w.heap.size ≤ b → b < w.heap.size + 3 → (((w5.setCell ⟨w.heap.size, 0, none⟩ (.int .i64 now')).setCell ⟨w.heap.size, 1, none⟩ (.int .i64 given)).setCell ⟨w.heap.size, 2, none⟩ (.slice p5 L'.length c5)).frozen? ⟨b, o, none⟩ = false := fun b o h1 h2 => by rw [World.frozen?_setCell, World.frozen?_setCell, World.frozen?_setCell]; exact B5.2.2.2.1 b o h1 h2
  have OV : Hid (OwnF (((w5.setCell ⟨w.heap.size, 0, none⟩ (.int .i64 now')).setCell ⟨w.heap.size, 1, none⟩ (.int .i64 given)).setCell ⟨w.heap.size, 2, none⟩ (.slice p5 L'.length c5)) (w.heap.size + 3) (.slice p4 l.length c4) l) := ((O45.out.sets ⟨w.heap.size, 0, none⟩ _ (by simp)).sets ⟨w.heap.size, 1, none⟩ _ (by simp)).sets ⟨w.heap.size, 2, none⟩ _ (by simp)
  have OFV : Hid (OwnF (((w5.setCell ⟨w.heap.size, 0, none⟩ (.int .i64 now')).setCell ⟨w.heap.size, 1, none⟩ (.int .i64 given)).setCell ⟨w.heap.size, 2, none⟩ (.slice p5 L'.length c5)) (w.heap.size + 3) (.slice pf l.length cf) l) := ((OF5.out.sets ⟨w.heap.size, 0, none⟩ _ (by simp)).sets ⟨w.heap.size, 1, none⟩ _ (by simp)).sets ⟨w.heap.size, 2, none⟩ _ (by simp)
  have V3h : Hid _ := V3
  have VRh : Hid _ := VR
  have VFh : Hid _ := VF
  clear hr5 hs5 hb5 hf5 B5 V3 VR VF X5 O45 OF5
  go_wp2_with (go_at_call 16; refine (firingsEq_same _ _ _ l OV.out.fs OFV.out.fs (by omega)).mono ?_; rintro e w6 ⟨rfl, q, rfl⟩)
  obtain ⟨V, hV⟩ : ∃ V, V = (((w5.setCell ⟨w.heap.size, 0, none⟩ (.int .i64 now')).setCell ⟨w.heap.size, 1, none⟩ (.int .i64 given)).setCell ⟨w.heap.size, 2, none⟩ (.slice p5 L'.length c5)) := ⟨_, rfl⟩
  rw [← hV] at XV OV OFV V3h VRh VFh FRV ⊢
  clear hV
  have XD : Hid (SPX w0 (V.drewN q) w.heap.size b xo now' given L' p5 c5) := XV.out.below (drewN_below V q)
  have OD : Hid (OwnF (V.drewN q) (w.heap.size + 3) (.slice p4 l.length c4) l) := OV.out.lt (drewN_below V q)
  have V3d : Hid ((V.drewN q).cell? ⟨w.heap.size, 0, none⟩ = some (.int .i64 now') ∧ (V.drewN q).cell? ⟨w.heap.size, 1, none⟩ = some (.int .i64 given) ∧ (V.drewN q).cell? ⟨w.heap.size, 2, none⟩ = some (.slice p5 L'.length c5)) := V3h.out
  have VRd : Hid (∀ o, (V.drewN q).cell? ⟨w.heap.size + 2, o, none⟩ = #[.int .i64 0, .int .i64 0, .slice none 0 0][o]?) := VRh.out
  have VFd : Hid (∀ b o, w.heap.size ≤ b → b < w.heap.size + 3 → (V.drewN q).frozen? ⟨b, o, none⟩ = false) := VFh.out
  have FRD : Hid (Fr b xo w (V.drewN q)) := FRV.out
  clear XV OV OFV V3h VRh VFh FRV
  generalize V.drewN q = U at XD OD V3d VRd VFd FRD ⊢
  go_loopw [132] (fun v132 wr => ∃ (k : Nat) (wk : World), v132 = .int .i64 k ∧ wk = wr ∧ k ≤ l.length ∧ Hid ((∀ j, (∀ g, p4 = some ⟨g, 0, none⟩ → j ≠ g) → wk.heap[j]? = U.heap[j]?) ∧ U.heap.size ≤ wk.heap.size ∧ Below w0.heap.size w0 wk ∧ (∀ g, 0 < l.length → p4 = some ⟨g, 0, none⟩ → Wr wk g (l.length * 2)))) (fun v132 _ => l.length - (intOf v132).toNat)
  case atStart =>
    refine ⟨0, _, rfl, rfl, Nat.zero_le _, ⟨fun j _ => rfl, Nat.le_refl _, XD.out.sp.st.bl, fun g hl e => ?_⟩⟩
    obtain ⟨g', e', _, _, hw⟩ := OD.out.wr hl
    rw [e] at e'; injection e' with e'; injection e' with e' _ _; subst e'; exact hw
  case round =>
    obtain ⟨k, wr, rfl, rfl, hk, HW⟩ := hrel
    by_cases hlt : k < l.length
    · obtain ⟨g, e1, hg1, _, _⟩ := OD.out.wr (by omega)
      obtain rfl : p4 = some ⟨g, 0, none⟩ := e1
      have hw := HW.out.2.2.2 g (by omega) rfl
      obtain ⟨u0, h0⟩ := hw.1 (k * 2) (by omega)
      obtain ⟨u1, h1⟩ := hw.1 (k * 2 + 1) (by omega)
      have hf := hw.2
      have HG1 : Hid (w0.heap.size ≤ g) := by have := HW0.out; show _ ≤ _; omega
      have HWR : Hid (Wr wr g (l.length * 2)) := hw
      clear hw hg1
      go_wp2
      go_roundw
      case rel =>
        refine ⟨k + 1, _, by go_num, rfl, by omega, ⟨fun j hj => ?_, by simpa [World.setCell] using HW.out.2.1, (HW.out.2.2.1.setCell HG1.out _).setCell HG1.out _, fun g2 _ e => ?_⟩⟩
        · have hn := hj g rfl
          rw [Below.heap_setCell _ _ _ _ hn, Below.heap_setCell _ _ _ _ hn]
          exact HW.out.1 j hj
        · injection e with e; injection e with e _ _; subst e
          exact (HWR.out.set _ _).set _ _
      case measure => simp [intOf]; omega
    · have hg : ∀ g, p4 = some ⟨g, 0, none⟩ → w.heap.size + 3 ≤ g ∧ g < w4.heap.size := G4.out
      have KB : ∀ j, j < w.heap.size + 3 → wr.heap[j]? = U.heap[j]? := fun j hj => HW.out.1 j (fun g e => by have := hg g e; omega)
      have X9 : Hid (SPX w0 wr w.heap.size b xo now' given L' p5 c5) := by
        refine XD.out.keep2 HW.out.2.1 HW.out.2.2.1 (KB _ (by have := LT3.out.1; omega)) (fun X e => KB X (by have := LT3.out.2 X e; omega)) (fun a e => HW.out.1 _ (fun g e2 => ?_))
        have hgg := hg g e2
        rcases S5.out a _ _ (by rw [e]) with ⟨a0, e3, e4⟩ | hge
        · have := PT3.out a0 e3; omega
        · omega
      have i0 : wr.cell? ⟨w.heap.size, 0, none⟩ = some (.int .i64 now') := (World.cell?_of_block (w := U) (a := ⟨w.heap.size, 0, none⟩) (KB w.heap.size (by omega))).trans V3d.out.1
      have i1 : wr.cell? ⟨w.heap.size, 1, none⟩ = some (.int .i64 given) := (World.cell?_of_block (w := U) (a := ⟨w.heap.size, 1, none⟩) (KB w.heap.size (by omega))).trans V3d.out.2.1
      have i2 : wr.cell? ⟨w.heap.size, 2, none⟩ = some (.slice p5 L'.length c5) := (World.cell?_of_block (w := U) (a := ⟨w.heap.size, 2, none⟩) (KB w.heap.size (by omega))).trans V3d.out.2.2
      have R9 : ∀ o, wr.cell? ⟨w.heap.size + 2, o, none⟩ = #[.int .i64 0, .int .i64 0, .slice none 0 0][o]? := fun o => (World.cell?_of_block (w := U) (a := ⟨w.heap.size + 2, o, none⟩) (KB (w.heap.size + 2) (by omega))).trans (VRd.out o)
      have s0 : wr.cell? ⟨w.heap.size + 2, 0, none⟩ = some (.int .i64 0) := R9 0
      have s1 : wr.cell? ⟨w.heap.size + 2, 1, none⟩ = some (.int .i64 0) := R9 1
      have s2 : wr.cell? ⟨w.heap.size + 2, 2, none⟩ = some (.slice none 0 0) := R9 2
      have j0 : ∀ o, wr.frozen? ⟨w.heap.size, o, none⟩ = false := fun o => (World.frozen?_of_block (w := U) (a := ⟨w.heap.size, o, none⟩) (KB w.heap.size (by omega))).trans (VFd.out _ o (by omega) (by omega))
      have j2 : ∀ o, wr.frozen? ⟨w.heap.size + 2, o, none⟩ = false := fun o => (World.frozen?_of_block (w := U) (a := ⟨w.heap.size + 2, o, none⟩) (KB (w.heap.size + 2) (by omega))).trans (VFd.out _ o (by omega) (by omega))
      have FR9 : Fr b xo w wr := ⟨Nat.le_trans FRD.out.1 HW.out.2.1, fun j hj h1 h2 => (KB j (by omega)).trans (FRD.out.2 j hj h1 h2)⟩
      obtain ⟨FF, XF, FR⟩ := step_end2 X9.out R9 HW0.out FR9
      have HFR : Hid _ := FR
      have HF : Hid _ := FF
      have HXF : Hid _ := XF
      clear FF XF R9 KB hg HW FR FR9
      go_wp2
      go_region
      all_goals
        go_wp2
        exact bodyPost_ret (v := .tuple #[.pointer (some ⟨b, 0, none⟩), .agg #[.int .i64 now', .int .i64 given, .slice p5 L'.length c5], .bool true]) (by simp [results, Try.results10, go_sem, HF.out.1, HF.out.2.1, HF.out.2.2]) rfl ⟨b, xo, now', given, L', p5, c5, rfl, HXF.out.sp.below ((Below.refl _ _).drew), HG.out, Fr.drew HFR.out, Or.inl rfl, fun X e => Or.inl e, S5.out.low (by have := Z4.out; omega)⟩
theorem step_any (w0 w : World) (b : Nat) (xo : Option Nat) (now given : Int) (L : List Tm) (p : Option Addr) (cap : Nat) (h : SP w0 w b xo now given L p cap) (hw0 : w0.heap.size ≤ w.heap.size) (hg : given ≤ 1000000000000000000) (c : Int × Int × Int) :
    Calls Try.prog 10 #[.pointer (some ⟨b, 0, none⟩), .agg #[.int .i64 now, .int .i64 given, .slice p L.length cap], .agg #[.int .i64 c.1, .int .i64 c.2.1, .int .i64 c.2.2]] w fun e w' => StepR w0 w b xo p w' given e := by
  have bd := amg_bd (x := c.1) (n := 8) (by omega)
  have hk : amg c.1 8 = 0 ∨ amg c.1 8 = 1 ∨ amg c.1 8 = 2 ∨ amg c.1 8 = 3 ∨ amg c.1 8 = 4 ∨ amg c.1 8 = 5 ∨ amg c.1 8 = 6 ∨ amg c.1 8 = 7 := by omega
  rcases hk with hk | hk | hk | hk | hk | hk | hk | hk
  · exact step0_any w0 w b xo now given L p cap h hw0 hg c hk
  · exact step1_any w0 w b xo now given L p cap h hw0 hg c hk
  · exact step2_any w0 w b xo now given L p cap h hw0 hg c hk
  · exact step3_any w0 w b xo now given L p cap h hw0 hg c hk
  · exact step4_any w0 w b xo now given L p cap h hw0 hg c hk
  · exact step5_any w0 w b xo now given L p cap h hw0 hg c hk
  · exact step6_any w0 w b xo now given L p cap h hw0 hg c hk
  · exact step7_any w0 w b xo now given L p cap h hw0 hg c hk
/-- The state, outside the law's own box. -/
structure SD (w0 w : World) (D b : Nat) (xo : Option Nat) (now given : Int) (L : List Tm) (p : Option Addr) (cap : Nat) (k : Nat) : Prop where
  sp : SP w0 w b xo now given L p cap
  gk : given ≤ k
  nb : D ≠ b
  nx : some D ≠ xo
  np : ∀ a, p = some a → a.block ≠ D
  lt : D < w.heap.size
  w0D : w0.heap.size ≤ D
theorem SD.below {w0 w w' : World} {D b : Nat} {xo : Option Nat} {now given : Int} {L : List Tm} {p : Option Addr} {cap k : Nat} (h : SD w0 w D b xo now given L p cap k) (B : Below w.heap.size w w') : SD w0 w' D b xo now given L p cap k := ⟨h.sp.below B, h.gk, h.nb, h.nx, h.np, Nat.lt_of_lt_of_le h.lt B.size, h.w0D⟩
/-- The box is written. -/
theorem SD.put {w0 w : World} {D b : Nat} {xo : Option Nat} {now given : Int} {L : List Tm} {p : Option Addr} {cap k : Nat} (h : SD w0 w D b xo now given L p cap k) (x y z : Value) : SD w0 (((w.setCell ⟨D, 0, none⟩ x).setCell ⟨D, 1, none⟩ y).setCell ⟨D, 2, none⟩ z) D b xo now given L p cap k := by
  have hk : ∀ j, j ≠ D → (((w.setCell ⟨D, 0, none⟩ x).setCell ⟨D, 1, none⟩ y).setCell ⟨D, 2, none⟩ z).heap[j]? = w.heap[j]? := fun j hj => by
    rw [Below.heap_setCell _ _ _ _ hj, Below.heap_setCell _ _ _ _ hj, Below.heap_setCell _ _ _ _ hj]
  refine ⟨⟨⟨h.sp.st.cl.keep (by simp [World.setCell]) (hk b h.nb.symm) (fun X e => hk X (fun e2 => h.nx (by rw [e, e2]))), h.sp.st.hb, h.sp.st.hx, ((h.sp.st.bl.setCell h.w0D _).setCell h.w0D _).setCell h.w0D _⟩, h.sp.rs.blk (by simp [World.setCell]) (fun a n c e => ?_), h.sp.dj⟩, h.gk, h.nb, h.nx, h.np, by simpa [World.setCell] using h.lt, h.w0D⟩
  injection e with e _ _
  exact hk _ (h.np a e)
theorem SD.next {w0 w w' : World} {D b b' : Nat} {xo xo' : Option Nat} {now given now' given' : Int} {L L' : List Tm} {p p' : Option Addr} {cap cap' k : Nat} (h : SD w0 w D b xo now given L p cap k) (s : SP w0 w' b' xo' now' given' L' p' cap') (g : given' ≤ given + 1) (f : Fr b xo w w') (hb : b' = b ∨ w.heap.size ≤ b') (hx : ∀ X, xo' = some X → xo = some X ∨ w.heap.size ≤ X) (hp : Src w.heap.size p (.slice p' L'.length cap')) : SD w0 w' D b' xo' now' given' L' p' cap' (k + 1) ∧ w'.heap[D]? = w.heap[D]? := by
  have hl := h.lt
  refine ⟨⟨s, by have := h.gk; omega, ?_, ?_, ?_, Nat.lt_of_lt_of_le h.lt f.1, h.w0D⟩, f.2 D h.lt h.nb h.nx⟩
  · rcases hb with rfl | hb
    · exact h.nb
    · omega
  · intro e
    rcases hx D e.symm with e2 | e2
    · exact h.nx e2.symm
    · omega
  · intro a e
    rcases hp a _ _ (by rw [e]) with ⟨a0, e1, e2⟩ | hge
    · rw [← e2]; exact h.np a0 e1
    · omega
set_option maxHeartbeats 16000000 in
set_option maxRecDepth 100000 in
theorem clockPlays_any (w : World) (p : Option Addr) (cap : Nat) (cs : List (Int × Int × Int)) (h : ArgC w p cs) (hl : cs.length ≤ 100000000000000000) :
    Calls Try.prog 3 #[.slice p cs.length cap] w fun e w' => e = .returned (.bool true) ∧ Below w.heap.size w w' := by
  have HA : Hid (ArgC w p cs) := h
  have WK := works_any w
  clear h
  go_enter Try.func3, Try.ntmps3
  go_wp2_with (first | (go_at_call 8; refine WK.mono ?_; rintro e w1 ⟨rfl, hb1⟩; have HB1 : Hid (Below w.heap.size w w1) := hb1; clear hb1) | (go_at_call 9; refine (new_any _).mono ?_; rintro e w2 ⟨rfl, hck, hb2⟩; have HC2 : Hid (CL w2 w1.heap.size none 0 0 []) := CL.new hck; have HB2 : Hid (Below w1.heap.size w1 w2) := hb2; clear hck hb2))
  clear WK
  have S0 : Hid (SD w (w2.alloc (.cells #[.int .i64 0, .int .i64 0, .slice none 0 0] 28)) w2.heap.size w1.heap.size none 0 0 [] none 0 0) := by
    have hs1 := HB1.out.size
    have hb := HC2.out.lt
    have B2 := below_then HB1.out HB2.out
    refine ⟨⟨⟨HC2.out.below (below_alloc _ _), hs1, (fun X e => by cases e), below_then B2 (below_alloc _ _)⟩, Or.inl ⟨rfl, rfl⟩, (fun a e => by cases e)⟩, by simp, by omega, by simp, (fun a e => by cases e), by simp, B2.size⟩
  have BX0 : (w2.alloc (.cells #[.int .i64 0, .int .i64 0, .slice none 0 0] 28)).heap[w2.heap.size]? = some (.cells #[.int .i64 0, .int .i64 0, .slice none 0 0] 28) := heap_alloc_new _ _
  have BXh : Hid _ := BX0
  clear BX0
  go_loopw [3, 14] (fun v3 v14 wr => ∃ (k b : Nat) (xo : Option Nat) (now given : Int) (L : List Tm) (q : Option Addr) (cq : Nat) (wk : World), v14 = .int .i64 k ∧ v3 = .pointer (some ⟨b, 0, none⟩) ∧ wk = wr ∧ k ≤ cs.length ∧ wk.cell? ⟨w2.heap.size, 0, none⟩ = some (.int .i64 now) ∧ wk.cell? ⟨w2.heap.size, 1, none⟩ = some (.int .i64 given) ∧ wk.cell? ⟨w2.heap.size, 2, none⟩ = some (.slice q L.length cq) ∧ (∀ o, wk.frozen? ⟨w2.heap.size, o, none⟩ = false) ∧ Hid (SD w wk w2.heap.size b xo now given L q cq k)) (fun _ v14 _ => cs.length - (intOf v14).toNat)
  case atStart => exact ⟨0, _, none, 0, 0, [], none, 0, _, rfl, rfl, rfl, Nat.zero_le _, cell_of_row _ _ _ _ _ _ BXh.out, cell_of_row _ _ _ _ _ _ BXh.out, cell_of_row _ _ _ _ _ _ BXh.out, fun o => frozen_of_row BXh.out, S0⟩
  case round =>
    obtain ⟨k, b, xo, now, given, L, q, cq, wr, rfl, rfl, rfl, hk, d0, d1, d2, df, HS⟩ := hrel
    clear S0 BXh
    by_cases hlt : k < cs.length
    · obtain ⟨X, o, rfl, hX, a1, a2, a3⟩ := HA.out k hlt
      have hBw := HS.out.sp.st.bl
      have x1 := (hBw.cell (p := ⟨X, o + k * 3, none⟩) hX).trans a1
      have x2 := (hBw.cell (p := ⟨X, o + k * 3 + 1, none⟩) hX).trans a2
      have x3 := (hBw.cell (p := ⟨X, o + k * 3 + 2, none⟩) hX).trans a3
      obtain ⟨c, hc⟩ : ∃ c, c = cs[k] := ⟨_, rfl⟩
      rw [← hc] at x1 x2 x3
      have HSA : Hid (∀ ob, SD w (wr.alloc ob) w2.heap.size b xo now given L q cq k) := fun ob => HS.out.below (below_alloc _ _)
      have hDl : w2.heap.size < wr.heap.size := HS.out.lt
      have ST1 : ∀ ob, Calls Try.prog 10 #[.pointer (some ⟨b, 0, none⟩), .agg #[.int .i64 now, .int .i64 given, .slice q L.length cq], .agg #[.int .i64 c.1, .int .i64 c.2.1, .int .i64 c.2.2]] (wr.alloc ob) fun e w' => StepR w (wr.alloc ob) b xo q w' given e := fun ob => step_any w (wr.alloc ob) b xo now given L q cq (HSA.out ob).sp (HSA.out ob).sp.st.bl.size (by have := HS.out.gk; omega) c
      have dA : Hid (∀ ob, (wr.alloc ob).heap[w2.heap.size]? = wr.heap[w2.heap.size]?) := fun ob => Below.heap_alloc _ _ _ hDl
      clear hc a1 a2 a3 hBw
      go_wp2_with fail
      refine (ST1 _).mono ?_
      rintro e w5 ⟨b5, xo5, now5, given5, L5, p5, c5, rfl, sp5, g5, f5, hb5, hx5, hp5⟩
      obtain ⟨sd5, blk5⟩ := (HSA.out _).next sp5 g5 f5 hb5 hx5 hp5
      have e0 : w5.cell? ⟨w2.heap.size, 0, none⟩ = some (.int .i64 now) := (World.cell?_of_block (w := wr) (a := ⟨w2.heap.size, 0, none⟩) (blk5.trans (dA.out _))).trans d0
      have e1 : w5.cell? ⟨w2.heap.size, 1, none⟩ = some (.int .i64 given) := (World.cell?_of_block (w := wr) (a := ⟨w2.heap.size, 1, none⟩) (blk5.trans (dA.out _))).trans d1
      have e2 : w5.cell? ⟨w2.heap.size, 2, none⟩ = some (.slice q L.length cq) := (World.cell?_of_block (w := wr) (a := ⟨w2.heap.size, 2, none⟩) (blk5.trans (dA.out _))).trans d2
      have ef : ∀ o, w5.frozen? ⟨w2.heap.size, o, none⟩ = false := fun o => (World.frozen?_of_block (w := wr) (a := ⟨w2.heap.size, o, none⟩) (blk5.trans (dA.out _))).trans (df o)
      have SV : Hid (SD w (((w5.setCell ⟨w2.heap.size, 0, none⟩ (.int .i64 now5)).setCell ⟨w2.heap.size, 1, none⟩ (.int .i64 given5)).setCell ⟨w2.heap.size, 2, none⟩ (.slice p5 L5.length c5)) w2.heap.size b5 xo5 now5 given5 L5 p5 c5 (k + 1)) := sd5.put _ _ _
      have V3 := set3 (a' := .int .i64 now5) (b' := .int .i64 given5) (c' := .slice p5 L5.length c5) e0 e1 e2
      have VF : ∀ o, (((w5.setCell ⟨w2.heap.size, 0, none⟩ (.int .i64 now5)).setCell ⟨w2.heap.size, 1, none⟩ (.int .i64 given5)).setCell ⟨w2.heap.size, 2, none⟩ (.slice p5 L5.length c5)).frozen? ⟨w2.heap.size, o, none⟩ = false := fun o => by rw [World.frozen?_setCell, World.frozen?_setCell, World.frozen?_setCell]; exact ef o
      have V3h : Hid _ := V3
      have VFh : Hid _ := VF
      clear sp5 g5 f5 hb5 hx5 hp5 sd5 blk5 V3 VF ST1 HSA
      obtain ⟨v0, v1, v2⟩ := V3h.out
      have SN := stands_any w _ b5 xo5 now5 given5 L5 p5 c5 SV.out.sp
      go_wp2_with (go_at_call 11; refine SN.mono ?_; rintro e w6 ⟨rfl, hb6⟩; have HB6 : Hid _ := hb6; clear hb6)
      go_roundw
      case rel =>
        have hD := SV.out.lt
        refine ⟨k + 1, b5, xo5, now5, given5, L5, p5, c5, _, by go_num, rfl, rfl, by omega, ?_, ?_, ?_, ?_, SV.out.below HB6.out⟩
        · exact (HB6.out.cell (p := ⟨w2.heap.size, 0, none⟩) hD).trans V3h.out.1
        · exact (HB6.out.cell (p := ⟨w2.heap.size, 1, none⟩) hD).trans V3h.out.2.1
        · exact (HB6.out.cell (p := ⟨w2.heap.size, 2, none⟩) hD).trans V3h.out.2.2
        · exact fun o => (HB6.out.frozen (p := ⟨w2.heap.size, o, none⟩) hD).trans (VFh.out o)
      case measure => simp [intOf]; omega
    · have SN := stands_any w wr b xo now given L q cq HS.out.sp
      have HB : Hid (Below w.heap.size w wr) := HS.out.sp.st.bl
      go_wp2_with (go_at_call 11; refine SN.mono ?_; rintro e w6 ⟨rfl, hb6⟩)
      go_ret
      exact ⟨rfl, below_then HB.out hb6⟩
end Go.Proofs.Yteiadigafkollaa
