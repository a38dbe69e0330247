/- Sorting: a symmetric merge, the general case. (Made by mkso7.py.) -/
import Derived.Test.YtkebflllbphkkaaDoorSp4
import Derived.Test.YtkebflllbphkkaaDoorSp5
import Derived.Test.YtkebflllbphkkaaDoorSo6
namespace Go.Proofs.YtkebflllbphkkaaDoor
open Go.RowKit

/-- A merge's contract. -/
def SMC (cap N : Nat) (w0 : World) (g n fn : Nat) (cp : Array Value) (c : Int → Int → Int) (L : Nat) : Prop := ∀ (W : World) (E : List Int) (x y z : Nat), z - x < L → x < y → y < z → z ≤ n → SD cap N w0 W g n E → Run c E x y → Run c E y z →
  Calls Tryd.prog 76 #[.slice (some ⟨g, 0, none⟩) n cap, .int .i64 x, .int .i64 y, .int .i64 z, .func (.func fn) #[] cp] W fun e w' => e = .returned (.tuple #[]) ∧ ∃ G, SD cap N w0 w' g n G ∧ Run c G x z ∧ RelT c x z E G
/-- Behind the rotation. -/
structure CR (c : Int → Int → Int) (D E : List Int) (a b st md en : Nat) : Prop where
  r1 : Run c E a st
  r2 : Run c E st md
  r3 : Run c E md en
  r4 : Run c E en b
  x : ∀ i j, a ≤ i → i < md → md ≤ j → j < b → c (gD E i) (gD E j) ≤ 0
  rl : RelT c a b D E
theorem CR.of {c : Int → Int → Int} (O : OrdC c) {D E : List Int} {a m b st en md : Nat} (hr1 : Run c D a m) (hr2 : Run c D m b) (ha : a ≤ st) (hm : st ≤ m) (he : m ≤ en) (hb : en ≤ b) (hs : st + en = md + m)
    (f1 : a < st → en < b → c (gD D (st - 1)) (gD D en) ≤ 0) (f2 : st < m → m < en → c (gD D (en - 1)) (gD D st) < 0) (hE : ∀ k, gD E k = rotV D st m en k) (hR : Rel a b D E) (hbl : b ≤ D.length) : CR c D E a b st md en := by
  obtain ⟨q1, q2, q3, q4, q5⟩ := cut_runs O hr1 hr2 ha hm he hb hs f1 (fun x y => Int.le_of_lt (f2 x y)) hE
  exact ⟨q1, q2, q3, q4, q5, ⟨hR, fun q => q.rot hE hR.len hm he (by omega) (fun i j h1 h2 h3 h4 => O.lt (hr2.le O h3 (show j ≤ en - 1 by omega) (by omega)) (f2 (by omega) (by omega)) (hr1.le O ha h1 h2))⟩⟩
set_option maxHeartbeats 32000000 in
set_option maxRecDepth 100000 in
theorem symC_any {cap : Nat} (N : Nat) (w0 w : World) (g n fn : Nat) (cp : Array Value) (c : Int → Int → Int) (D : List Int) (a m b : Nat) (C : CmpOk N w0 g fn cp c) (h : SD cap N w0 w g n D) (ham : a + 1 < m) (hmb : m + 1 < b) (hb : b ≤ n) (hn : n ≤ 100000) (hr1 : Run c D a m) (hr2 : Run c D m b) (IH : SMC cap N w0 g n fn cp c (b - a)) :
    Calls Tryd.prog 76 #[.slice (some ⟨g, 0, none⟩) n cap, .int .i64 a, .int .i64 m, .int .i64 b, .func (.func fn) #[] cp] w fun e w' => e = .returned (.tuple #[]) ∧ ∃ E, SD cap N w0 w' g n E ∧ Run c E a b ∧ RelT c a b D E := by
  have hln := h.ln
  have hen := C.en
  have HC : Hid (CmpOk N w0 g fn cp c) := C
  have HR1 : Hid (Run c D a m) := hr1
  have HR2 : Hid (Run c D m b) := hr2
  have H0 : Hid (SD cap N w0 w g n D) := h
  have HI : Hid (SMC cap N w0 g n fn cp c (b - a)) := IH
  have hma : (((m : Int) - (a : Int)) == 1) = false := by simp; omega
  have hma2 : ¬ ((m : Int) - (a : Int)) = 1 := by omega
  have hbm : (((b : Int) - (m : Int)) == 1) = false := by simp; omega
  have hbm2 : ¬ ((b : Int) - (m : Int)) = 1 := by omega
  obtain ⟨md, hmd⟩ : ∃ md, md = (a + b) / 2 := ⟨_, rfl⟩
  have hmd1 : ((a : Int) + (b : Int)) / 2 = (md : Int) := by omega
  obtain ⟨nn, hnn⟩ : ∃ nn, nn = md + m := ⟨_, rfl⟩
  have hnn1 : (md : Int) + (m : Int) = (nn : Int) := by omega
  obtain ⟨pp, hpp⟩ : ∃ pp, pp = nn - 1 := ⟨_, rfl⟩
  have hpp1 : (nn : Int) - 1 = (pp : Int) := by omega
  have HM : Hid (md = (a + b) / 2 ∧ nn = md + m ∧ pp = nn - 1) := ⟨hmd, hnn, hpp⟩
  have hamd : a < md := by omega
  have hmdb : md < b := by omega
  have hnnB : nn ≤ 200000 := by omega
  clear h C hr1 hr2 IH hmd hnn hpp
  by_cases hgt : md < m
  · have hgt2 : (md : Int) < (m : Int) := by omega
    obtain ⟨lo, hlo⟩ : ∃ lo, lo = nn - b := ⟨_, rfl⟩
    have hlo1 : (nn : Int) - (b : Int) = (lo : Int) := by have := HM.out; omega
    have hlo2 : lo + b = nn := by have := HM.out; omega
    clear hlo
    go_enter Tryd.func76, Tryd.ntmps76
    go_wp2_with fail
    go_loopw [20, 21] (fun v20 v21 wr => ∃ (st r : Nat) (wk : World), v20 = .int .i64 st ∧ v21 = .int .i64 r ∧ wk = wr ∧ lo ≤ st ∧ st ≤ r ∧ r ≤ md ∧ Hid (SD cap N w0 wk g n D ∧ (lo < st → NL (c (gD D (pp + 1 - st)) (gD D (st - 1)))) ∧ (r < md → c (gD D (pp - r)) (gD D r) < 0))) (fun v20 v21 _ => (intOf v21).toNat - (intOf v20).toNat)
    case atStart => have := HM.out; exact ⟨lo, md, _, by go_num, rfl, rfl, by omega, by omega, by omega, ⟨H0.out, fun h => by omega, fun h => by omega⟩⟩
    case round =>
      obtain ⟨st, r, wr, rfl, rfl, rfl, hl1, hl2, hl3, HS⟩ := hrel
      clear H0
      by_cases hlt : st < r
      · obtain ⟨s1, s2, s3⟩ := HS.out
        obtain ⟨q, hq⟩ : ∃ q, q = (st + r) / 2 := ⟨_, rfl⟩
        have hq1 : st ≤ q := by omega
        have hq2 : q < r := by omega
        have hq3 : ((st : Int) + (r : Int)) / 2 = (q : Int) := by omega
        obtain ⟨pq, hpq⟩ : ∃ pq, pq = pp - q := ⟨_, rfl⟩
        have hpq1 : (pp : Int) - (q : Int) = (pq : Int) := by have := HM.out; omega
        have hpq2 : IntKind.i64.wrap (pq : Int) = (pq : Int) := by rw [IntKind.wrap_i64]; have := HM.out; omega
        have hpqn : pq < n := by have := HM.out; omega
        have hqn : q < n := by omega
        obtain ⟨x1, f1⟩ := s1.at (k := pq) hpqn
        obtain ⟨x2, f2⟩ := s1.at (k := q) hqn
        have CL : Hid (∀ W, Below wr.heap.size wr W → Calls Tryd.prog fn (#[.int .i64 (gD D pq), .int .i64 (gD D q)] ++ cp) W fun e w' => e = .returned (.int .i64 (c (gD D pq) (gD D q))) ∧ SD cap N w0 w' g n D) := fun W b => (s1.below b).cmp HC.out hpqn hqn
        have AT : Hid (∀ W, SD cap N w0 W g n D → (W.cell? ⟨g, pq, none⟩ = some (.int .i64 (gD D pq)) ∧ W.frozen? ⟨g, pq, none⟩ = false) ∧ (W.cell? ⟨g, q, none⟩ = some (.int .i64 (gD D q)) ∧ W.frozen? ⟨g, q, none⟩ = false)) := fun W hs => ⟨hs.at hpqn, hs.at hqn⟩
        have hcb := HC.out.bd (gD D pq) (gD D q)
        have k1 : (0 : Int) ≤ (pq : Int) := by omega
        have k2 : (pq : Int) < (n : Int) := by omega
        have k3 : (0 : Int) ≤ (q : Int) := by omega
        have k4 : (q : Int) < (n : Int) := by omega
        have U1 : Hid (NL (c (gD D pq) (gD D q)) → (lo < q + 1 → NL (c (gD D (pp + 1 - (q + 1))) (gD D (q + 1 - 1)))) ∧ (r < md → c (gD D (pp - r)) (gD D r) < 0)) := fun hc => ⟨fun _ => by rw [Nat.add_sub_cancel, show pp + 1 - (q + 1) = pq by omega]; exact hc, s3⟩
        have U2 : Hid (c (gD D pq) (gD D q) < 0 → (lo < st → NL (c (gD D (pp + 1 - st)) (gD D (st - 1)))) ∧ (q < md → c (gD D (pp - q)) (gD D q) < 0)) := fun hc => ⟨s2, fun _ => by rw [← hpq]; exact hc⟩
        obtain ⟨vx, hvx⟩ : ∃ vx, vx = gD D pq := ⟨_, rfl⟩
        obtain ⟨vy, hvy⟩ : ∃ vy, vy = gD D q := ⟨_, rfl⟩
        obtain ⟨cc, hcc⟩ : ∃ cc, cc = c vx vy := ⟨_, rfl⟩
        rw [← hvx] at x1
        rw [← hvy] at x2
        rw [← hvx, ← hvy, ← hcc] at hcb
        simp only [← hvx, ← hvy, ← hcc] at CL AT
        have HV : Hid (cc = c (gD D pq) (gD D q)) := by show _ = _; rw [hcc, hvx, hvy]
        clear s1 s2 s3 HS hq hvx hvy hcc hpq HI
        by_cases hc : cc < 0
        · have V1 : Hid ((lo < st → NL (c (gD D (pp + 1 - st)) (gD D (st - 1)))) ∧ (q < md → c (gD D (pp - q)) (gD D q) < 0)) := U2.out (by rw [← HV.out]; exact hc)
          go_wp2_with fail
          go_region_held3 (fun w' => w'.cell? ⟨g, pq, none⟩ = some (.int .i64 vx) ∧ w'.cell? ⟨g, q, none⟩ = some (.int .i64 vy)) (go_keep) ((refine (CL.out _ (by first | exact (Below.refl _ _).drew | exact Below.refl _ _)).mono ?_; rintro e w1 ⟨rfl, q1⟩; have Q1 : Hid _ := q1; obtain ⟨⟨u1, u2⟩, u3, u4⟩ := AT.out _ q1; clear q1))
          go_wp2_with fail
          go_roundw
          case rel => exact ⟨st, q, _, rfl, rfl, rfl, by omega, by omega, by omega, ⟨Q1.out, V1.out⟩⟩
          case measure => simp [intOf]; omega
        · have hc2 : (0 : Int) ≤ cc := by omega
          have hc3 : decide (cc < 0) = false := by simpa using hc
          have V1 : Hid ((lo < q + 1 → NL (c (gD D (pp + 1 - (q + 1))) (gD D (q + 1 - 1)))) ∧ (r < md → c (gD D (pp - r)) (gD D r) < 0)) := U1.out (by rw [← HV.out]; exact hc)
          go_wp2_with fail
          go_region_held3 (fun w' => w'.cell? ⟨g, pq, none⟩ = some (.int .i64 vx) ∧ w'.cell? ⟨g, q, none⟩ = some (.int .i64 vy)) (go_keep) ((refine (CL.out _ (by first | exact (Below.refl _ _).drew | exact Below.refl _ _)).mono ?_; rintro e w1 ⟨rfl, q1⟩; have Q1 : Hid _ := q1; obtain ⟨⟨u1, u2⟩, u3, u4⟩ := AT.out _ q1; clear q1))
          go_wp2_with fail
          go_roundw
          case rel => exact ⟨q + 1, r, _, by go_num, rfl, rfl, by omega, by omega, by omega, ⟨Q1.out, V1.out⟩⟩
          case measure => simp [intOf]; omega
      · obtain rfl : r = st := by omega
        obtain ⟨en, hen'⟩ : ∃ en, en = nn - r := ⟨_, rfl⟩
        have hen1 : (nn : Int) - (r : Int) = (en : Int) := by have := HM.out; omega
        have hb1 : a ≤ r := by have := HM.out; omega
        have hb2 : r ≤ m := by have := HM.out; omega
        have hb3 : m ≤ en := by have := HM.out; omega
        have hb4 : en ≤ b := by have := HM.out; omega
        have hb5 : r ≤ md := by have := HM.out; omega
        have hb6 : md ≤ en := by have := HM.out; omega
        have G0 : Hid (∀ E, (∀ k, gD E k = rotV D r m en k) → Rel a b D E → CR c D E a b r md en) := fun E h1 h2 => by
          obtain ⟨s1, s2, s3⟩ := HS.out
          have hM := HM.out
          refine CR.of HC.out.od HR1.out HR2.out hb1 hb2 hb3 hb4 (by omega) (fun q1 q2 => ?_) (fun q1 q2 => ?_) h1 h2 (by omega)
          · have := HC.out.od.le (s2 (by omega))
            rw [show pp + 1 - r = en by omega] at this
            exact this
          · have := s3 (by omega)
            rw [show pp - r = en - 1 by omega] at this
            omega
        have S0 : Hid (SD cap N w0 wr g n D) := HS.out.1
        have RT : Hid (∀ (W : World), SD cap N w0 W g n D → r < m → m < en → Calls Tryd.prog 81 #[.slice (some ⟨g, 0, none⟩) n cap, .int .i64 r, .int .i64 m, .int .i64 en, .func (.func fn) #[] cp] W fun e w' => e = .returned (.tuple #[]) ∧ ∃ E, SD cap N w0 w' g n E ∧ (∀ k, gD E k = rotV D r m en k) ∧ Rel r en D E) := fun W h1 h2 h3 => rotate_any N w0 W g n fn cp D r m en h1 h2 h3 (by omega) hn
        clear HS hen'
        have X1 : ∀ E, CR c D E a b r md en → (¬ (a < r ∧ r < md) → Run c E a md) ∧ (¬ (md < en ∧ en < b) → Run c E md b) := fun E hE => ⟨fun hno => by
            by_cases e1 : a = r
            · rw [e1]; exact hE.r2
            · have : r = md := by omega
              rw [← this]; exact hE.r1, fun hno => by
            by_cases e1 : en = b
            · rw [← e1]; exact hE.r3
            · have : md = en := by omega
              rw [this]; exact hE.r4⟩
        have HX1 : Hid (∀ E, CR c D E a b r md en → (¬ (a < r ∧ r < md) → Run c E a md) ∧ (¬ (md < en ∧ en < b) → Run c E md b)) := X1
        clear X1
        by_cases hrot : r < m ∧ m < en
        · obtain ⟨hr1, hr2⟩ := hrot
          go_upto_region 41 with (go_at_call 81; refine (RT.out _ S0.out hr1 hr2).mono ?_; rintro e w1 ⟨rfl, E, q1, q2, q3⟩; have QE : Hid (SD cap N w0 w1 g n E ∧ CR c D E a b r md en) := ⟨q1, G0.out E q2 (q3.wide hb1 hb4)⟩; clear q1 q2 q3 RT S0 G0)
          by_cases hL : a < r ∧ r < md
          · obtain ⟨hL1, hL2⟩ := hL
            have CL : Hid (Calls Tryd.prog 76 #[.slice (some ⟨g, 0, none⟩) n cap, .int .i64 (a : Nat), .int .i64 (r : Nat), .int .i64 (md : Nat), .func (.func fn) #[] cp] w1 fun e w' => e = .returned (.tuple #[]) ∧ ∃ G, SD cap N w0 w' g n G ∧ Run c G a md ∧ RelT c a md E G) := HI.out w1 E a r md (by omega) hL1 hL2 (by omega) QE.out.1 QE.out.2.r1 QE.out.2.r2
            have CE : Hid (CR c D E a b r md en) := QE.out.2
            clear QE
            go_upto_region 43 with (go_at_call 76; refine CL.out.mono ?_; rintro e w2 ⟨rfl, G, q1, q2, q3⟩; have QG : Hid (SD cap N w0 w2 g n G ∧ Run c G a md ∧ RelT c a md E G) := ⟨q1, q2, q3⟩; clear q1 q2 q3 CL)
            by_cases hR : md < en ∧ en < b
            · obtain ⟨hR1, hR2⟩ := hR
              have CL : Hid (Calls Tryd.prog 76 #[.slice (some ⟨g, 0, none⟩) n cap, .int .i64 (md : Nat), .int .i64 (en : Nat), .int .i64 (b : Nat), .func (.func fn) #[] cp] w2 fun e w' => e = .returned (.tuple #[]) ∧ ∃ K, SD cap N w0 w' g n K ∧ Run c K md b ∧ RelT c md b G K) := HI.out w2 G md en b (by omega) hR1 hR2 hb QG.out.1 (CE.out.r3.same (fun k h1 h2 => QG.out.2.2.out k (by omega))) (CE.out.r4.same (fun k h1 h2 => QG.out.2.2.out k (by omega)))
              go_wp2_with (go_at_call 76; refine CL.out.mono ?_; rintro e w3 ⟨rfl, K, q1, q2, q3⟩; have QK : Hid (SD cap N w0 w3 g n K ∧ Run c K a b ∧ RelT c a b D K) := (by have := joinT QG.out.2.2 QG.out.2.1 q3 q2 (by omega) (by omega) CE.out.x; exact ⟨q1, this.1, CE.out.rl.trans this.2⟩); clear q1 q2 q3 CL)
              all_goals (go_end0; exact ⟨rfl, K, QK.out⟩)
            · have QK : Hid (SD cap N w0 w2 g n G ∧ Run c G a b ∧ RelT c a b D G) := by
                have := joinT QG.out.2.2 QG.out.2.1 (RelT.refl c md b G) (((HX1.out E CE.out).2 hR).same (fun k h1 h2 => QG.out.2.2.out k (by omega))) (by omega) (by omega) CE.out.x
                exact ⟨QG.out.1, this.1, CE.out.rl.trans this.2⟩
              go_wp2_with fail
              all_goals (go_end0; exact ⟨rfl, G, QK.out⟩)
          · obtain ⟨G, QG⟩ : ∃ G, Hid (SD cap N w0 w1 g n G ∧ Run c G a md ∧ RelT c a md E G) := ⟨E, QE.out.1, (HX1.out E QE.out.2).1 hL, RelT.refl _ _ _ _⟩
            have CE : Hid (CR c D E a b r md en) := QE.out.2
            clear QE
            go_upto_region 43 with fail
            generalize w1 = w2 at *
            by_cases hR : md < en ∧ en < b
            · obtain ⟨hR1, hR2⟩ := hR
              have CL : Hid (Calls Tryd.prog 76 #[.slice (some ⟨g, 0, none⟩) n cap, .int .i64 (md : Nat), .int .i64 (en : Nat), .int .i64 (b : Nat), .func (.func fn) #[] cp] w2 fun e w' => e = .returned (.tuple #[]) ∧ ∃ K, SD cap N w0 w' g n K ∧ Run c K md b ∧ RelT c md b G K) := HI.out w2 G md en b (by omega) hR1 hR2 hb QG.out.1 (CE.out.r3.same (fun k h1 h2 => QG.out.2.2.out k (by omega))) (CE.out.r4.same (fun k h1 h2 => QG.out.2.2.out k (by omega)))
              go_wp2_with (go_at_call 76; refine CL.out.mono ?_; rintro e w3 ⟨rfl, K, q1, q2, q3⟩; have QK : Hid (SD cap N w0 w3 g n K ∧ Run c K a b ∧ RelT c a b D K) := (by have := joinT QG.out.2.2 QG.out.2.1 q3 q2 (by omega) (by omega) CE.out.x; exact ⟨q1, this.1, CE.out.rl.trans this.2⟩); clear q1 q2 q3 CL)
              all_goals (go_end0; exact ⟨rfl, K, QK.out⟩)
            · have QK : Hid (SD cap N w0 w2 g n G ∧ Run c G a b ∧ RelT c a b D G) := by
                have := joinT QG.out.2.2 QG.out.2.1 (RelT.refl c md b G) (((HX1.out E CE.out).2 hR).same (fun k h1 h2 => QG.out.2.2.out k (by omega))) (by omega) (by omega) CE.out.x
                exact ⟨QG.out.1, this.1, CE.out.rl.trans this.2⟩
              go_wp2_with fail
              all_goals (go_end0; exact ⟨rfl, G, QK.out⟩)
        · obtain ⟨E, QE⟩ : ∃ E, Hid (SD cap N w0 wr g n E ∧ CR c D E a b r md en) := ⟨D, S0.out, G0.out D (rot_none (by omega)) (Rel.refl _ _ _)⟩
          clear RT S0 G0
          go_upto_region 41 with fail
          generalize wr = w1 at *
          by_cases hL : a < r ∧ r < md
          · obtain ⟨hL1, hL2⟩ := hL
            have CL : Hid (Calls Tryd.prog 76 #[.slice (some ⟨g, 0, none⟩) n cap, .int .i64 (a : Nat), .int .i64 (r : Nat), .int .i64 (md : Nat), .func (.func fn) #[] cp] w1 fun e w' => e = .returned (.tuple #[]) ∧ ∃ G, SD cap N w0 w' g n G ∧ Run c G a md ∧ RelT c a md E G) := HI.out w1 E a r md (by omega) hL1 hL2 (by omega) QE.out.1 QE.out.2.r1 QE.out.2.r2
            have CE : Hid (CR c D E a b r md en) := QE.out.2
            clear QE
            go_upto_region 43 with (go_at_call 76; refine CL.out.mono ?_; rintro e w2 ⟨rfl, G, q1, q2, q3⟩; have QG : Hid (SD cap N w0 w2 g n G ∧ Run c G a md ∧ RelT c a md E G) := ⟨q1, q2, q3⟩; clear q1 q2 q3 CL)
            by_cases hR : md < en ∧ en < b
            · obtain ⟨hR1, hR2⟩ := hR
              have CL : Hid (Calls Tryd.prog 76 #[.slice (some ⟨g, 0, none⟩) n cap, .int .i64 (md : Nat), .int .i64 (en : Nat), .int .i64 (b : Nat), .func (.func fn) #[] cp] w2 fun e w' => e = .returned (.tuple #[]) ∧ ∃ K, SD cap N w0 w' g n K ∧ Run c K md b ∧ RelT c md b G K) := HI.out w2 G md en b (by omega) hR1 hR2 hb QG.out.1 (CE.out.r3.same (fun k h1 h2 => QG.out.2.2.out k (by omega))) (CE.out.r4.same (fun k h1 h2 => QG.out.2.2.out k (by omega)))
              go_wp2_with (go_at_call 76; refine CL.out.mono ?_; rintro e w3 ⟨rfl, K, q1, q2, q3⟩; have QK : Hid (SD cap N w0 w3 g n K ∧ Run c K a b ∧ RelT c a b D K) := (by have := joinT QG.out.2.2 QG.out.2.1 q3 q2 (by omega) (by omega) CE.out.x; exact ⟨q1, this.1, CE.out.rl.trans this.2⟩); clear q1 q2 q3 CL)
              all_goals (go_end0; exact ⟨rfl, K, QK.out⟩)
            · have QK : Hid (SD cap N w0 w2 g n G ∧ Run c G a b ∧ RelT c a b D G) := by
                have := joinT QG.out.2.2 QG.out.2.1 (RelT.refl c md b G) (((HX1.out E CE.out).2 hR).same (fun k h1 h2 => QG.out.2.2.out k (by omega))) (by omega) (by omega) CE.out.x
                exact ⟨QG.out.1, this.1, CE.out.rl.trans this.2⟩
              go_wp2_with fail
              all_goals (go_end0; exact ⟨rfl, G, QK.out⟩)
          · obtain ⟨G, QG⟩ : ∃ G, Hid (SD cap N w0 w1 g n G ∧ Run c G a md ∧ RelT c a md E G) := ⟨E, QE.out.1, (HX1.out E QE.out.2).1 hL, RelT.refl _ _ _ _⟩
            have CE : Hid (CR c D E a b r md en) := QE.out.2
            clear QE
            go_upto_region 43 with fail
            generalize w1 = w2 at *
            by_cases hR : md < en ∧ en < b
            · obtain ⟨hR1, hR2⟩ := hR
              have CL : Hid (Calls Tryd.prog 76 #[.slice (some ⟨g, 0, none⟩) n cap, .int .i64 (md : Nat), .int .i64 (en : Nat), .int .i64 (b : Nat), .func (.func fn) #[] cp] w2 fun e w' => e = .returned (.tuple #[]) ∧ ∃ K, SD cap N w0 w' g n K ∧ Run c K md b ∧ RelT c md b G K) := HI.out w2 G md en b (by omega) hR1 hR2 hb QG.out.1 (CE.out.r3.same (fun k h1 h2 => QG.out.2.2.out k (by omega))) (CE.out.r4.same (fun k h1 h2 => QG.out.2.2.out k (by omega)))
              go_wp2_with (go_at_call 76; refine CL.out.mono ?_; rintro e w3 ⟨rfl, K, q1, q2, q3⟩; have QK : Hid (SD cap N w0 w3 g n K ∧ Run c K a b ∧ RelT c a b D K) := (by have := joinT QG.out.2.2 QG.out.2.1 q3 q2 (by omega) (by omega) CE.out.x; exact ⟨q1, this.1, CE.out.rl.trans this.2⟩); clear q1 q2 q3 CL)
              all_goals (go_end0; exact ⟨rfl, K, QK.out⟩)
            · have QK : Hid (SD cap N w0 w2 g n G ∧ Run c G a b ∧ RelT c a b D G) := by
                have := joinT QG.out.2.2 QG.out.2.1 (RelT.refl c md b G) (((HX1.out E CE.out).2 hR).same (fun k h1 h2 => QG.out.2.2.out k (by omega))) (by omega) (by omega) CE.out.x
                exact ⟨QG.out.1, this.1, CE.out.rl.trans this.2⟩
              go_wp2_with fail
              all_goals (go_end0; exact ⟨rfl, G, QK.out⟩)
  · have hgt2 : ¬ (md : Int) < (m : Int) := by omega
    go_enter Tryd.func76, Tryd.ntmps76
    go_wp2_with fail
    go_loopw [20, 21] (fun v20 v21 wr => ∃ (st r : Nat) (wk : World), v20 = .int .i64 st ∧ v21 = .int .i64 r ∧ wk = wr ∧ a ≤ st ∧ st ≤ r ∧ r ≤ m ∧ Hid (SD cap N w0 wk g n D ∧ (a < st → NL (c (gD D (pp + 1 - st)) (gD D (st - 1)))) ∧ (r < m → c (gD D (pp - r)) (gD D r) < 0))) (fun v20 v21 _ => (intOf v21).toNat - (intOf v20).toNat)
    case atStart => have := HM.out; exact ⟨a, m, _, by go_num, rfl, rfl, by omega, by omega, by omega, ⟨H0.out, fun h => by omega, fun h => by omega⟩⟩
    case round =>
      obtain ⟨st, r, wr, rfl, rfl, rfl, hl1, hl2, hl3, HS⟩ := hrel
      clear H0
      by_cases hlt : st < r
      · obtain ⟨s1, s2, s3⟩ := HS.out
        obtain ⟨q, hq⟩ : ∃ q, q = (st + r) / 2 := ⟨_, rfl⟩
        have hq1 : st ≤ q := by omega
        have hq2 : q < r := by omega
        have hq3 : ((st : Int) + (r : Int)) / 2 = (q : Int) := by omega
        obtain ⟨pq, hpq⟩ : ∃ pq, pq = pp - q := ⟨_, rfl⟩
        have hpq1 : (pp : Int) - (q : Int) = (pq : Int) := by have := HM.out; omega
        have hpq2 : IntKind.i64.wrap (pq : Int) = (pq : Int) := by rw [IntKind.wrap_i64]; have := HM.out; omega
        have hpqn : pq < n := by have := HM.out; omega
        have hqn : q < n := by omega
        obtain ⟨x1, f1⟩ := s1.at (k := pq) hpqn
        obtain ⟨x2, f2⟩ := s1.at (k := q) hqn
        have CL : Hid (∀ W, Below wr.heap.size wr W → Calls Tryd.prog fn (#[.int .i64 (gD D pq), .int .i64 (gD D q)] ++ cp) W fun e w' => e = .returned (.int .i64 (c (gD D pq) (gD D q))) ∧ SD cap N w0 w' g n D) := fun W b => (s1.below b).cmp HC.out hpqn hqn
        have AT : Hid (∀ W, SD cap N w0 W g n D → (W.cell? ⟨g, pq, none⟩ = some (.int .i64 (gD D pq)) ∧ W.frozen? ⟨g, pq, none⟩ = false) ∧ (W.cell? ⟨g, q, none⟩ = some (.int .i64 (gD D q)) ∧ W.frozen? ⟨g, q, none⟩ = false)) := fun W hs => ⟨hs.at hpqn, hs.at hqn⟩
        have hcb := HC.out.bd (gD D pq) (gD D q)
        have k1 : (0 : Int) ≤ (pq : Int) := by omega
        have k2 : (pq : Int) < (n : Int) := by omega
        have k3 : (0 : Int) ≤ (q : Int) := by omega
        have k4 : (q : Int) < (n : Int) := by omega
        have U1 : Hid (NL (c (gD D pq) (gD D q)) → (a < q + 1 → NL (c (gD D (pp + 1 - (q + 1))) (gD D (q + 1 - 1)))) ∧ (r < m → c (gD D (pp - r)) (gD D r) < 0)) := fun hc => ⟨fun _ => by rw [Nat.add_sub_cancel, show pp + 1 - (q + 1) = pq by omega]; exact hc, s3⟩
        have U2 : Hid (c (gD D pq) (gD D q) < 0 → (a < st → NL (c (gD D (pp + 1 - st)) (gD D (st - 1)))) ∧ (q < m → c (gD D (pp - q)) (gD D q) < 0)) := fun hc => ⟨s2, fun _ => by rw [← hpq]; exact hc⟩
        obtain ⟨vx, hvx⟩ : ∃ vx, vx = gD D pq := ⟨_, rfl⟩
        obtain ⟨vy, hvy⟩ : ∃ vy, vy = gD D q := ⟨_, rfl⟩
        obtain ⟨cc, hcc⟩ : ∃ cc, cc = c vx vy := ⟨_, rfl⟩
        rw [← hvx] at x1
        rw [← hvy] at x2
        rw [← hvx, ← hvy, ← hcc] at hcb
        simp only [← hvx, ← hvy, ← hcc] at CL AT
        have HV : Hid (cc = c (gD D pq) (gD D q)) := by show _ = _; rw [hcc, hvx, hvy]
        clear s1 s2 s3 HS hq hvx hvy hcc hpq HI
        by_cases hc : cc < 0
        · have V1 : Hid ((a < st → NL (c (gD D (pp + 1 - st)) (gD D (st - 1)))) ∧ (q < m → c (gD D (pp - q)) (gD D q) < 0)) := U2.out (by rw [← HV.out]; exact hc)
          go_wp2_with fail
          go_region_held3 (fun w' => w'.cell? ⟨g, pq, none⟩ = some (.int .i64 vx) ∧ w'.cell? ⟨g, q, none⟩ = some (.int .i64 vy)) (go_keep) ((refine (CL.out _ (by first | exact (Below.refl _ _).drew | exact Below.refl _ _)).mono ?_; rintro e w1 ⟨rfl, q1⟩; have Q1 : Hid _ := q1; obtain ⟨⟨u1, u2⟩, u3, u4⟩ := AT.out _ q1; clear q1))
          go_wp2_with fail
          go_roundw
          case rel => exact ⟨st, q, _, rfl, rfl, rfl, by omega, by omega, by omega, ⟨Q1.out, V1.out⟩⟩
          case measure => simp [intOf]; omega
        · have hc2 : (0 : Int) ≤ cc := by omega
          have hc3 : decide (cc < 0) = false := by simpa using hc
          have V1 : Hid ((a < q + 1 → NL (c (gD D (pp + 1 - (q + 1))) (gD D (q + 1 - 1)))) ∧ (r < m → c (gD D (pp - r)) (gD D r) < 0)) := U1.out (by rw [← HV.out]; exact hc)
          go_wp2_with fail
          go_region_held3 (fun w' => w'.cell? ⟨g, pq, none⟩ = some (.int .i64 vx) ∧ w'.cell? ⟨g, q, none⟩ = some (.int .i64 vy)) (go_keep) ((refine (CL.out _ (by first | exact (Below.refl _ _).drew | exact Below.refl _ _)).mono ?_; rintro e w1 ⟨rfl, q1⟩; have Q1 : Hid _ := q1; obtain ⟨⟨u1, u2⟩, u3, u4⟩ := AT.out _ q1; clear q1))
          go_wp2_with fail
          go_roundw
          case rel => exact ⟨q + 1, r, _, by go_num, rfl, rfl, by omega, by omega, by omega, ⟨Q1.out, V1.out⟩⟩
          case measure => simp [intOf]; omega
      · obtain rfl : r = st := by omega
        obtain ⟨en, hen'⟩ : ∃ en, en = nn - r := ⟨_, rfl⟩
        have hen1 : (nn : Int) - (r : Int) = (en : Int) := by have := HM.out; omega
        have hb1 : a ≤ r := by have := HM.out; omega
        have hb2 : r ≤ m := by have := HM.out; omega
        have hb3 : m ≤ en := by have := HM.out; omega
        have hb4 : en ≤ b := by have := HM.out; omega
        have hb5 : r ≤ md := by have := HM.out; omega
        have hb6 : md ≤ en := by have := HM.out; omega
        have G0 : Hid (∀ E, (∀ k, gD E k = rotV D r m en k) → Rel a b D E → CR c D E a b r md en) := fun E h1 h2 => by
          obtain ⟨s1, s2, s3⟩ := HS.out
          have hM := HM.out
          refine CR.of HC.out.od HR1.out HR2.out hb1 hb2 hb3 hb4 (by omega) (fun q1 q2 => ?_) (fun q1 q2 => ?_) h1 h2 (by omega)
          · have := HC.out.od.le (s2 (by omega))
            rw [show pp + 1 - r = en by omega] at this
            exact this
          · have := s3 (by omega)
            rw [show pp - r = en - 1 by omega] at this
            omega
        have S0 : Hid (SD cap N w0 wr g n D) := HS.out.1
        have RT : Hid (∀ (W : World), SD cap N w0 W g n D → r < m → m < en → Calls Tryd.prog 81 #[.slice (some ⟨g, 0, none⟩) n cap, .int .i64 r, .int .i64 m, .int .i64 en, .func (.func fn) #[] cp] W fun e w' => e = .returned (.tuple #[]) ∧ ∃ E, SD cap N w0 w' g n E ∧ (∀ k, gD E k = rotV D r m en k) ∧ Rel r en D E) := fun W h1 h2 h3 => rotate_any N w0 W g n fn cp D r m en h1 h2 h3 (by omega) hn
        clear HS hen'
        have X1 : ∀ E, CR c D E a b r md en → (¬ (a < r ∧ r < md) → Run c E a md) ∧ (¬ (md < en ∧ en < b) → Run c E md b) := fun E hE => ⟨fun hno => by
            by_cases e1 : a = r
            · rw [e1]; exact hE.r2
            · have : r = md := by omega
              rw [← this]; exact hE.r1, fun hno => by
            by_cases e1 : en = b
            · rw [← e1]; exact hE.r3
            · have : md = en := by omega
              rw [this]; exact hE.r4⟩
        have HX1 : Hid (∀ E, CR c D E a b r md en → (¬ (a < r ∧ r < md) → Run c E a md) ∧ (¬ (md < en ∧ en < b) → Run c E md b)) := X1
        clear X1
        by_cases hrot : r < m ∧ m < en
        · obtain ⟨hr1, hr2⟩ := hrot
          go_upto_region 41 with (go_at_call 81; refine (RT.out _ S0.out hr1 hr2).mono ?_; rintro e w1 ⟨rfl, E, q1, q2, q3⟩; have QE : Hid (SD cap N w0 w1 g n E ∧ CR c D E a b r md en) := ⟨q1, G0.out E q2 (q3.wide hb1 hb4)⟩; clear q1 q2 q3 RT S0 G0)
          by_cases hL : a < r ∧ r < md
          · obtain ⟨hL1, hL2⟩ := hL
            have CL : Hid (Calls Tryd.prog 76 #[.slice (some ⟨g, 0, none⟩) n cap, .int .i64 (a : Nat), .int .i64 (r : Nat), .int .i64 (md : Nat), .func (.func fn) #[] cp] w1 fun e w' => e = .returned (.tuple #[]) ∧ ∃ G, SD cap N w0 w' g n G ∧ Run c G a md ∧ RelT c a md E G) := HI.out w1 E a r md (by omega) hL1 hL2 (by omega) QE.out.1 QE.out.2.r1 QE.out.2.r2
            have CE : Hid (CR c D E a b r md en) := QE.out.2
            clear QE
            go_upto_region 43 with (go_at_call 76; refine CL.out.mono ?_; rintro e w2 ⟨rfl, G, q1, q2, q3⟩; have QG : Hid (SD cap N w0 w2 g n G ∧ Run c G a md ∧ RelT c a md E G) := ⟨q1, q2, q3⟩; clear q1 q2 q3 CL)
            by_cases hR : md < en ∧ en < b
            · obtain ⟨hR1, hR2⟩ := hR
              have CL : Hid (Calls Tryd.prog 76 #[.slice (some ⟨g, 0, none⟩) n cap, .int .i64 (md : Nat), .int .i64 (en : Nat), .int .i64 (b : Nat), .func (.func fn) #[] cp] w2 fun e w' => e = .returned (.tuple #[]) ∧ ∃ K, SD cap N w0 w' g n K ∧ Run c K md b ∧ RelT c md b G K) := HI.out w2 G md en b (by omega) hR1 hR2 hb QG.out.1 (CE.out.r3.same (fun k h1 h2 => QG.out.2.2.out k (by omega))) (CE.out.r4.same (fun k h1 h2 => QG.out.2.2.out k (by omega)))
              go_wp2_with (go_at_call 76; refine CL.out.mono ?_; rintro e w3 ⟨rfl, K, q1, q2, q3⟩; have QK : Hid (SD cap N w0 w3 g n K ∧ Run c K a b ∧ RelT c a b D K) := (by have := joinT QG.out.2.2 QG.out.2.1 q3 q2 (by omega) (by omega) CE.out.x; exact ⟨q1, this.1, CE.out.rl.trans this.2⟩); clear q1 q2 q3 CL)
              all_goals (go_end0; exact ⟨rfl, K, QK.out⟩)
            · have QK : Hid (SD cap N w0 w2 g n G ∧ Run c G a b ∧ RelT c a b D G) := by
                have := joinT QG.out.2.2 QG.out.2.1 (RelT.refl c md b G) (((HX1.out E CE.out).2 hR).same (fun k h1 h2 => QG.out.2.2.out k (by omega))) (by omega) (by omega) CE.out.x
                exact ⟨QG.out.1, this.1, CE.out.rl.trans this.2⟩
              go_wp2_with fail
              all_goals (go_end0; exact ⟨rfl, G, QK.out⟩)
          · obtain ⟨G, QG⟩ : ∃ G, Hid (SD cap N w0 w1 g n G ∧ Run c G a md ∧ RelT c a md E G) := ⟨E, QE.out.1, (HX1.out E QE.out.2).1 hL, RelT.refl _ _ _ _⟩
            have CE : Hid (CR c D E a b r md en) := QE.out.2
            clear QE
            go_upto_region 43 with fail
            generalize w1 = w2 at *
            by_cases hR : md < en ∧ en < b
            · obtain ⟨hR1, hR2⟩ := hR
              have CL : Hid (Calls Tryd.prog 76 #[.slice (some ⟨g, 0, none⟩) n cap, .int .i64 (md : Nat), .int .i64 (en : Nat), .int .i64 (b : Nat), .func (.func fn) #[] cp] w2 fun e w' => e = .returned (.tuple #[]) ∧ ∃ K, SD cap N w0 w' g n K ∧ Run c K md b ∧ RelT c md b G K) := HI.out w2 G md en b (by omega) hR1 hR2 hb QG.out.1 (CE.out.r3.same (fun k h1 h2 => QG.out.2.2.out k (by omega))) (CE.out.r4.same (fun k h1 h2 => QG.out.2.2.out k (by omega)))
              go_wp2_with (go_at_call 76; refine CL.out.mono ?_; rintro e w3 ⟨rfl, K, q1, q2, q3⟩; have QK : Hid (SD cap N w0 w3 g n K ∧ Run c K a b ∧ RelT c a b D K) := (by have := joinT QG.out.2.2 QG.out.2.1 q3 q2 (by omega) (by omega) CE.out.x; exact ⟨q1, this.1, CE.out.rl.trans this.2⟩); clear q1 q2 q3 CL)
              all_goals (go_end0; exact ⟨rfl, K, QK.out⟩)
            · have QK : Hid (SD cap N w0 w2 g n G ∧ Run c G a b ∧ RelT c a b D G) := by
                have := joinT QG.out.2.2 QG.out.2.1 (RelT.refl c md b G) (((HX1.out E CE.out).2 hR).same (fun k h1 h2 => QG.out.2.2.out k (by omega))) (by omega) (by omega) CE.out.x
                exact ⟨QG.out.1, this.1, CE.out.rl.trans this.2⟩
              go_wp2_with fail
              all_goals (go_end0; exact ⟨rfl, G, QK.out⟩)
        · obtain ⟨E, QE⟩ : ∃ E, Hid (SD cap N w0 wr g n E ∧ CR c D E a b r md en) := ⟨D, S0.out, G0.out D (rot_none (by omega)) (Rel.refl _ _ _)⟩
          clear RT S0 G0
          go_upto_region 41 with fail
          generalize wr = w1 at *
          by_cases hL : a < r ∧ r < md
          · obtain ⟨hL1, hL2⟩ := hL
            have CL : Hid (Calls Tryd.prog 76 #[.slice (some ⟨g, 0, none⟩) n cap, .int .i64 (a : Nat), .int .i64 (r : Nat), .int .i64 (md : Nat), .func (.func fn) #[] cp] w1 fun e w' => e = .returned (.tuple #[]) ∧ ∃ G, SD cap N w0 w' g n G ∧ Run c G a md ∧ RelT c a md E G) := HI.out w1 E a r md (by omega) hL1 hL2 (by omega) QE.out.1 QE.out.2.r1 QE.out.2.r2
            have CE : Hid (CR c D E a b r md en) := QE.out.2
            clear QE
            go_upto_region 43 with (go_at_call 76; refine CL.out.mono ?_; rintro e w2 ⟨rfl, G, q1, q2, q3⟩; have QG : Hid (SD cap N w0 w2 g n G ∧ Run c G a md ∧ RelT c a md E G) := ⟨q1, q2, q3⟩; clear q1 q2 q3 CL)
            by_cases hR : md < en ∧ en < b
            · obtain ⟨hR1, hR2⟩ := hR
              have CL : Hid (Calls Tryd.prog 76 #[.slice (some ⟨g, 0, none⟩) n cap, .int .i64 (md : Nat), .int .i64 (en : Nat), .int .i64 (b : Nat), .func (.func fn) #[] cp] w2 fun e w' => e = .returned (.tuple #[]) ∧ ∃ K, SD cap N w0 w' g n K ∧ Run c K md b ∧ RelT c md b G K) := HI.out w2 G md en b (by omega) hR1 hR2 hb QG.out.1 (CE.out.r3.same (fun k h1 h2 => QG.out.2.2.out k (by omega))) (CE.out.r4.same (fun k h1 h2 => QG.out.2.2.out k (by omega)))
              go_wp2_with (go_at_call 76; refine CL.out.mono ?_; rintro e w3 ⟨rfl, K, q1, q2, q3⟩; have QK : Hid (SD cap N w0 w3 g n K ∧ Run c K a b ∧ RelT c a b D K) := (by have := joinT QG.out.2.2 QG.out.2.1 q3 q2 (by omega) (by omega) CE.out.x; exact ⟨q1, this.1, CE.out.rl.trans this.2⟩); clear q1 q2 q3 CL)
              all_goals (go_end0; exact ⟨rfl, K, QK.out⟩)
            · have QK : Hid (SD cap N w0 w2 g n G ∧ Run c G a b ∧ RelT c a b D G) := by
                have := joinT QG.out.2.2 QG.out.2.1 (RelT.refl c md b G) (((HX1.out E CE.out).2 hR).same (fun k h1 h2 => QG.out.2.2.out k (by omega))) (by omega) (by omega) CE.out.x
                exact ⟨QG.out.1, this.1, CE.out.rl.trans this.2⟩
              go_wp2_with fail
              all_goals (go_end0; exact ⟨rfl, G, QK.out⟩)
          · obtain ⟨G, QG⟩ : ∃ G, Hid (SD cap N w0 w1 g n G ∧ Run c G a md ∧ RelT c a md E G) := ⟨E, QE.out.1, (HX1.out E QE.out.2).1 hL, RelT.refl _ _ _ _⟩
            have CE : Hid (CR c D E a b r md en) := QE.out.2
            clear QE
            go_upto_region 43 with fail
            generalize w1 = w2 at *
            by_cases hR : md < en ∧ en < b
            · obtain ⟨hR1, hR2⟩ := hR
              have CL : Hid (Calls Tryd.prog 76 #[.slice (some ⟨g, 0, none⟩) n cap, .int .i64 (md : Nat), .int .i64 (en : Nat), .int .i64 (b : Nat), .func (.func fn) #[] cp] w2 fun e w' => e = .returned (.tuple #[]) ∧ ∃ K, SD cap N w0 w' g n K ∧ Run c K md b ∧ RelT c md b G K) := HI.out w2 G md en b (by omega) hR1 hR2 hb QG.out.1 (CE.out.r3.same (fun k h1 h2 => QG.out.2.2.out k (by omega))) (CE.out.r4.same (fun k h1 h2 => QG.out.2.2.out k (by omega)))
              go_wp2_with (go_at_call 76; refine CL.out.mono ?_; rintro e w3 ⟨rfl, K, q1, q2, q3⟩; have QK : Hid (SD cap N w0 w3 g n K ∧ Run c K a b ∧ RelT c a b D K) := (by have := joinT QG.out.2.2 QG.out.2.1 q3 q2 (by omega) (by omega) CE.out.x; exact ⟨q1, this.1, CE.out.rl.trans this.2⟩); clear q1 q2 q3 CL)
              all_goals (go_end0; exact ⟨rfl, K, QK.out⟩)
            · have QK : Hid (SD cap N w0 w2 g n G ∧ Run c G a b ∧ RelT c a b D G) := by
                have := joinT QG.out.2.2 QG.out.2.1 (RelT.refl c md b G) (((HX1.out E CE.out).2 hR).same (fun k h1 h2 => QG.out.2.2.out k (by omega))) (by omega) (by omega) CE.out.x
                exact ⟨QG.out.1, this.1, CE.out.rl.trans this.2⟩
              go_wp2_with fail
              all_goals (go_end0; exact ⟨rfl, G, QK.out⟩)
end Go.Proofs.YtkebflllbphkkaaDoor
