/- Sorting: merges of any runs; blocks, plain. -/
import Derived.Test.YtkebflllbphkkaaDoorSp7
namespace Go.Proofs.YtkebflllbphkkaaDoor
open Go.RowKit

theorem smc_all {cap N : Nat} {w0 : World} {g n fn : Nat} {cp : Array Value} {c : Int → Int → Int} (C : CmpOk N w0 g fn cp c) (hn : n ≤ 100000) : ∀ L, SMC cap N w0 g n fn cp c L
  | 0 => fun W E x y z h => by omega
  | L + 1 => fun W E x y z h hxy hyz hz hs r1 r2 => by
    by_cases e1 : y = x + 1
    · exact symA_any N w0 W g n fn cp c E x y z C hs e1 hyz hz hn r2
    · by_cases e2 : z = y + 1
      · exact symB_any N w0 W g n fn cp c E x y z C hs (by omega) e2 hz hn r1
      · refine symC_any N w0 W g n fn cp c E x y z C hs (by omega) (by omega) hz hn r1 r2 ?_
        intro W' E' x' y' z' h' a1 a2 a3 a4 a5 a6
        exact smc_all C hn L W' E' x' y' z' (by omega) a1 a2 a3 a4 a5 a6
theorem symMerge_any {cap : Nat} (N : Nat) (w0 w : World) (g n fn : Nat) (cp : Array Value) (c : Int → Int → Int) (D : List Int) (a m b : Nat) (C : CmpOk N w0 g fn cp c) (h : SD cap N w0 w g n D) (ham : a < m) (hmb : m < b) (hb : b ≤ n) (hn : n ≤ 100000) (hr1 : Run c D a m) (hr2 : Run c D m b) :
    Calls Tryd.prog 76 #[.slice (some ⟨g, 0, none⟩) n cap, .int .i64 a, .int .i64 m, .int .i64 b, .func (.func fn) #[] cp] w fun e w' => e = .returned (.tuple #[]) ∧ ∃ E, SD cap N w0 w' g n E ∧ Run c E a b ∧ RelT c a b D E :=
  smc_all C hn (b - a + 1) w D a m b (by omega) ham hmb hb h hr1 hr2
/-- A block's beginning. -/
def IsB (bs u : Nat) : Prop := ∃ t, u = t * bs
theorem IsB.zero (bs : Nat) : IsB bs 0 := ⟨0, by simp⟩
theorem IsB.next {bs u : Nat} (h : IsB bs u) : IsB bs (u + bs) := by
  obtain ⟨t, rfl⟩ := h
  exact ⟨t + 1, by rw [Nat.add_mul, Nat.one_mul]⟩
theorem IsB.gap {bs u v : Nat} (h : IsB bs u) (k : IsB bs v) (hlt : u < v) : u + bs ≤ v := by
  obtain ⟨t, rfl⟩ := h
  obtain ⟨s, rfl⟩ := k
  have : t < s := by
    rcases Nat.lt_or_ge t s with hh | hh
    · exact hh
    · have := Nat.mul_le_mul_right bs hh; omega
  have := Nat.mul_le_mul_right bs this
  rw [Nat.succ_mul] at this
  exact this
theorem IsB.half {bs u : Nat} (h : IsB (2 * bs) u) : IsB bs u ∧ IsB bs (u + bs) := by
  obtain ⟨t, rfl⟩ := h
  have e : t * (2 * bs) = (2 * t) * bs := by rw [← Nat.mul_assoc, Nat.mul_comm t 2]
  have h1 : IsB bs (t * (2 * bs)) := ⟨2 * t, e⟩
  exact ⟨h1, h1.next⟩
def Blk (c : Int → Int → Int) (E : List Int) (bs n : Nat) : Prop := ∀ u, IsB bs u → Run c E u (min (u + bs) n)
def LoB (c : Int → Int → Int) (E : List Int) (bs a : Nat) : Prop := ∀ u, IsB bs u → u + bs ≤ a → Run c E u (u + bs)
def HiB (c : Int → Int → Int) (E : List Int) (bs n a : Nat) : Prop := ∀ u, IsB bs u → a ≤ u → Run c E u (min (u + bs) n)
theorem LoB.zero (c : Int → Int → Int) (E : List Int) {bs : Nat} (h : 0 < bs) : LoB c E bs 0 := fun u _ hu => by omega
theorem LoB.step {c : Int → Int → Int} {E F : List Int} {bs a : Nat} (h : LoB c E bs a) (ha : IsB bs a) (hr : Run c F a (a + bs)) (hl : RelT c a (a + bs) E F) : LoB c F bs (a + bs) := fun u hu hub => by
  by_cases h1 : u + bs ≤ a
  · exact (h u hu h1).same (fun k k1 k2 => hl.out k (by omega))
  · have : u = a := by
      rcases Nat.lt_trichotomy u a with h2 | h2 | h2
      · have := hu.gap ha h2; omega
      · exact h2
      · omega
    subst this; exact hr
theorem LoB.fin {c : Int → Int → Int} {E F : List Int} {bs a n : Nat} (h : LoB c E bs a) (ha : IsB bs a) (hr : Run c F a n) (hl : RelT c a n E F) (han : a ≤ n) (hn : n < a + bs) : Blk c F bs n := fun u hu => by
  rcases Nat.lt_trichotomy u a with h2 | h2 | h2
  · have := hu.gap ha h2
    rw [Nat.min_eq_left (by omega)]
    exact (h u hu this).same (fun k k1 k2 => hl.out k (by omega))
  · subst h2
    rw [Nat.min_eq_right (by omega)]; exact hr
  · have := ha.gap hu h2
    exact Run.short c F (by omega)
theorem Blk.hi {c : Int → Int → Int} {E : List Int} {bs n : Nat} (h : Blk c E bs n) : HiB c E bs n 0 := fun u hu _ => h u hu
theorem HiB.step {c : Int → Int → Int} {E F : List Int} {bs n a b : Nat} (h : HiB c E bs n a) (hb : a ≤ b) (hl : RelT c a b E F) : HiB c F bs n b := fun u hu hbu => (h u hu (by omega)).same (fun k k1 k2 => hl.out k (by omega))
theorem HiB.two {c : Int → Int → Int} {E : List Int} {bs n a : Nat} (h : HiB c E bs n a) (ha : IsB (2 * bs) a) : Run c E a (min (a + bs) n) ∧ Run c E (a + bs) (min (a + 2 * bs) n) := by
  refine ⟨h a ha.half.1 (Nat.le_refl _), ?_⟩
  have := h (a + bs) ha.half.2 (by omega)
  rw [show a + bs + bs = a + 2 * bs by omega] at this
  exact this
theorem Blk.all {c : Int → Int → Int} {E : List Int} {bs n : Nat} (h : Blk c E bs n) (hn : n ≤ bs) : Run c E 0 n := by
  have := h 0 (IsB.zero bs)
  rw [Nat.min_eq_right (by omega)] at this
  exact this
set_option maxHeartbeats 16000000 in
set_option maxRecDepth 100000 in
theorem stable_any {cap : Nat} (N : Nat) (w0 w : World) (g n fn : Nat) (cp : Array Value) (c : Int → Int → Int) (D : List Int) (C : CmpOk N w0 g fn cp c) (h : SD cap N w0 w g n D) (hn : n ≤ 100000) :
    Calls Tryd.prog 69 #[.slice (some ⟨g, 0, none⟩) n cap, .int .i64 n, .func (.func fn) #[] cp] w fun e w' => e = .returned (.tuple #[]) ∧ ∃ E, SD cap N w0 w' g n E ∧ Run c E 0 n ∧ RelT c 0 n D E := by
  have hln := h.ln
  have IS : Hid (∀ (W : World) (E : List Int) (a b : Nat), SD cap N w0 W g n E → a ≤ b → b ≤ n → Calls Tryd.prog 75 #[.slice (some ⟨g, 0, none⟩) n cap, .int .i64 a, .int .i64 b, .func (.func fn) #[] cp] W fun e w' => e = .returned (.tuple #[]) ∧ ∃ F, SD cap N w0 w' g n F ∧ Run c F a b ∧ RelT c a b E F) := fun W E a b h1 h2 h3 => insertion_any N w0 W g n fn cp c E a b C h1 h2 h3 hn
  have SM : Hid (∀ (W : World) (E : List Int) (a m b : Nat), SD cap N w0 W g n E → a < m → m < b → b ≤ n → Run c E a m → Run c E m b → Calls Tryd.prog 76 #[.slice (some ⟨g, 0, none⟩) n cap, .int .i64 a, .int .i64 m, .int .i64 b, .func (.func fn) #[] cp] W fun e w' => e = .returned (.tuple #[]) ∧ ∃ F, SD cap N w0 w' g n F ∧ Run c F a b ∧ RelT c a b E F) := fun W E a m b h1 h2 h3 h4 h5 h6 => symMerge_any N w0 W g n fn cp c E a m b C h1 h2 h3 h4 hn h5 h6
  have H0 : Hid (SD cap N w0 w g n D ∧ LoB c D 20 0 ∧ IsB 20 0 ∧ RelT c 0 n D D) := ⟨h, LoB.zero c D (by omega), IsB.zero _, RelT.refl _ _ _ _⟩
  clear h C
  go_enter Tryd.func69, Tryd.ntmps69
  go_wp2_with fail
  go_loopw [7, 8] (fun v7 v8 wr => ∃ (a b : Nat) (E : List Int) (wk : World), v7 = .int .i64 a ∧ v8 = .int .i64 b ∧ wk = wr ∧ a ≤ n ∧ Hid (b = a + 20) ∧ b ≤ 100020 ∧ Hid (SD cap N w0 wk g n E ∧ LoB c E 20 a ∧ IsB 20 a ∧ RelT c 0 n D E)) (fun v7 v8 _ => n + 20 - (intOf v8).toNat)
  case atStart => exact ⟨0, 20, D, _, rfl, rfl, rfl, by omega, rfl, by omega, H0⟩
  case round =>
    obtain ⟨a, b, E, wr, rfl, rfl, rfl, han, HAB, hb2, HS⟩ := hrel
    clear H0
    by_cases hlt : b ≤ n
    · obtain ⟨s1, s2, s3, s4⟩ := HS.out
      have C1 : Hid (Calls Tryd.prog 75 #[.slice (some ⟨g, 0, none⟩) n cap, .int .i64 a, .int .i64 b, .func (.func fn) #[] cp] wr fun e w' => e = .returned (.tuple #[]) ∧ ∃ F, SD cap N w0 w' g n F ∧ Run c F a b ∧ RelT c a b E F) := IS.out wr E a b s1 (by have := HAB.out; omega) hlt
      have N1 : Hid (∀ F, Run c F a b → RelT c a b E F → LoB c F 20 b ∧ IsB 20 b ∧ RelT c 0 n D F) := fun F q1 q2 => by
        have e := HAB.out
        rw [e] at q1 q2 ⊢
        exact ⟨s2.step s3 q1 q2, s3.next, s4.trans (q2.wide (by omega) (by omega))⟩
      clear s1 s2 s3 s4 HS SM
      go_wp2_with (go_at_call 75; refine C1.out.mono ?_; rintro e w1 ⟨rfl, F, q1, q2, q3⟩; have Q1 : Hid (SD cap N w0 w1 g n F) := q1; have Q2 : Hid _ := N1.out F q2 q3; clear q1 q2 q3 C1)
      go_roundw
      case rel => exact ⟨b, b + 20, F, _, rfl, by go_num, rfl, hlt, rfl, by omega, ⟨Q1.out, Q2.out⟩⟩
      case measure => simp [intOf]; omega
    · obtain ⟨s1, s2, s3, s4⟩ := HS.out
      have C1 : Hid (Calls Tryd.prog 75 #[.slice (some ⟨g, 0, none⟩) n cap, .int .i64 a, .int .i64 n, .func (.func fn) #[] cp] wr fun e w' => e = .returned (.tuple #[]) ∧ ∃ F, SD cap N w0 w' g n F ∧ Run c F a n ∧ RelT c a n E F) := IS.out wr E a n s1 han (Nat.le_refl _)
      have N1 : Hid (∀ F, Run c F a n → RelT c a n E F → Blk c F 20 n ∧ RelT c 0 n D F) := fun F q1 q2 => ⟨s2.fin s3 q1 q2 han (by have := HAB.out; omega), s4.trans (q2.wide (by omega) (by omega))⟩
      clear s1 s2 s3 s4 HS IS
      go_wp2_with (go_at_call 75; refine C1.out.mono ?_; rintro e w1 ⟨rfl, F, q1, q2, q3⟩; have Q1 : Hid (SD cap N w0 w1 g n F ∧ Blk c F 20 n ∧ RelT c 0 n D F) := ⟨q1, N1.out F q2 q3⟩; clear q1 q2 q3 C1)
      clear N1 HAB
      go_loopw [6] (fun v6 wr => ∃ (bs : Nat) (E : List Int) (wk : World), v6 = .int .i64 bs ∧ wk = wr ∧ 20 ≤ bs ∧ bs ≤ 400000 ∧ Hid (SD cap N w0 wk g n E ∧ Blk c E bs n ∧ RelT c 0 n D E)) (fun v6 _ => n - (intOf v6).toNat)
      case atStart => exact ⟨20, F, _, rfl, rfl, by omega, by omega, Q1⟩
      case round =>
        obtain ⟨bs, E, wr, rfl, rfl, hbs1, hbs2, HS⟩ := hrel
        clear Q1
        by_cases hlt : bs < n
        · have I0 : Hid (SD cap N w0 wr g n E ∧ LoB c E (2 * bs) 0 ∧ HiB c E bs n 0 ∧ IsB (2 * bs) 0 ∧ RelT c 0 n D E) := ⟨HS.out.1, LoB.zero c E (by omega), HS.out.2.1.hi, IsB.zero _, HS.out.2.2⟩
          clear HS
          go_wp2_with fail
          go_loopw [7, 8] (fun v7 v8 wr => ∃ (x y : Nat) (E : List Int) (wk : World), v7 = .int .i64 x ∧ v8 = .int .i64 y ∧ wk = wr ∧ x ≤ n ∧ Hid (y = x + 2 * bs) ∧ y ≤ 1000000 ∧ Hid (SD cap N w0 wk g n E ∧ LoB c E (2 * bs) x ∧ HiB c E bs n x ∧ IsB (2 * bs) x ∧ RelT c 0 n D E)) (fun v7 v8 _ => n + 1000000 - (intOf v8).toNat)
          case atStart => exact ⟨0, 2 * bs, E, _, rfl, by go_num, rfl, by omega, by show _ = _; omega, by omega, I0⟩
          case round =>
            obtain ⟨x, y, G, wq, rfl, rfl, rfl, hxn, HXY, hy2, HG⟩ := hrel
            clear I0
            obtain ⟨mm, hmm⟩ : ∃ mm, mm = x + bs := ⟨_, rfl⟩
            have hmm1 : (x : Int) + (bs : Int) = (mm : Int) := by omega
            have HMM : Hid (mm = x + bs) := hmm
            have hmm2 : mm ≤ 1000000 := by omega
            by_cases hyn : y ≤ n
            · obtain ⟨s1, s2, s3, s4, s5⟩ := HG.out
              have hxy := HXY.out
              obtain ⟨t1, t2⟩ := s3.two s4
              rw [Nat.min_eq_left (by omega)] at t1 t2
              rw [← hmm] at t1 t2
              rw [← hxy] at t2
              have C1 : Hid (Calls Tryd.prog 76 #[.slice (some ⟨g, 0, none⟩) n cap, .int .i64 (x : Nat), .int .i64 (mm : Nat), .int .i64 (y : Nat), .func (.func fn) #[] cp] wq fun e w' => e = .returned (.tuple #[]) ∧ ∃ F, SD cap N w0 w' g n F ∧ Run c F x y ∧ RelT c x y G F) := SM.out wq G x mm y s1 (by omega) (by omega) hyn t1 t2
              have N1 : Hid (∀ F, Run c F x y → RelT c x y G F → LoB c F (2 * bs) y ∧ HiB c F bs n y ∧ IsB (2 * bs) y ∧ RelT c 0 n D F) := fun F q1 q2 => by
                refine ⟨?_, s3.step (by omega) q2, ?_, s5.trans (q2.wide (by omega) (by omega))⟩
                · rw [hxy] at q1 q2 ⊢; exact s2.step s4 q1 q2
                · rw [hxy]; exact s4.next
              have hyx : x < y := by omega
              have HB2 : Hid (y + 2 * bs ≤ 1000000) := by show _ ≤ _; omega
              clear s1 s2 s3 s4 s5 HG t1 t2 hmm hxy
              go_wp2_with (go_at_call 76; refine C1.out.mono ?_; rintro e w1 ⟨rfl, F, q1, q2, q3⟩; have Q1 : Hid (SD cap N w0 w1 g n F) := q1; have Q2 : Hid _ := N1.out F q2 q3; clear q1 q2 q3 C1)
              go_roundw
              case rel => have := HB2.out; exact ⟨y, y + 2 * bs, F, _, rfl, by go_num, rfl, hyn, rfl, by omega, ⟨Q1.out, Q2.out⟩⟩
              case measure => have := HB2.out; simp [intOf]; omega
            · obtain ⟨s1, s2, s3, s4, s5⟩ := HG.out
              have hxy := HXY.out
              obtain ⟨t1, t2⟩ := s3.two s4
              rw [Nat.min_eq_right (show n ≤ x + 2 * bs by omega)] at t2
              rw [← hmm] at t1 t2
              have FIN : Hid (∀ F, Run c F x n → RelT c x n G F → Blk c F (2 * bs) n ∧ RelT c 0 n D F) := fun F q1 q2 => ⟨s2.fin s4 q1 q2 hxn (by omega), s5.trans (q2.wide (by omega) (by omega))⟩
              by_cases hmn : mm < n
              · rw [Nat.min_eq_left (by omega)] at t1
                have C1 : Hid (Calls Tryd.prog 76 #[.slice (some ⟨g, 0, none⟩) n cap, .int .i64 (x : Nat), .int .i64 (mm : Nat), .int .i64 (n : Nat), .func (.func fn) #[] cp] wq fun e w' => e = .returned (.tuple #[]) ∧ ∃ F, SD cap N w0 w' g n F ∧ Run c F x n ∧ RelT c x n G F) := SM.out wq G x mm n s1 (by omega) hmn (Nat.le_refl _) t1 t2
                clear s1 s2 s3 s4 s5 HG t1 t2 hmm hxy
                go_wp2_with (go_at_call 76; refine C1.out.mono ?_; rintro e w1 ⟨rfl, F, q1, q2, q3⟩; have Q1 : Hid (SD cap N w0 w1 g n F ∧ Blk c F (2 * bs) n ∧ RelT c 0 n D F) := ⟨q1, FIN.out F q2 q3⟩; clear q1 q2 q3 C1)
                go_roundw
                case rel => exact ⟨2 * bs, F, _, by go_num, rfl, by omega, by omega, Q1⟩
                case measure => simp [intOf]; omega
              · rw [Nat.min_eq_right (by omega)] at t1
                have Q1 : Hid (SD cap N w0 wq g n G ∧ Blk c G (2 * bs) n ∧ RelT c 0 n D G) := ⟨s1, FIN.out G t1 (RelT.refl _ _ _ _)⟩
                clear s1 s2 s3 s4 s5 HG t1 t2 hmm hxy FIN
                go_wp2_with fail
                go_roundw
                case rel => exact ⟨2 * bs, G, _, by go_num, rfl, by omega, by omega, Q1⟩
                case measure => simp [intOf]; omega
        · have Q1 : Hid (SD cap N w0 wr g n E ∧ Run c E 0 n ∧ RelT c 0 n D E) := ⟨HS.out.1, HS.out.2.1.all (by omega), HS.out.2.2⟩
          clear HS
          go_wp2_with fail
          go_end0
          exact ⟨rfl, E, Q1.out⟩
set_option maxHeartbeats 4000000 in
theorem sortStable_any {cap : Nat} (N : Nat) (w : World) (g n fn : Nat) (cp : Array Value) (c : Int → Int → Int) (D : List Int) (C : CmpOk N w g fn cp c) (h : SD cap N w w g n D) (hn : n ≤ 100000) :
    Calls Tryd.prog 62 #[.slice (some ⟨g, 0, none⟩) n cap, .func (.func fn) #[] cp] w fun e w' => e = .returned (.tuple #[]) ∧ ∃ E, SD cap N w w' g n E ∧ Run c E 0 n ∧ RelT c 0 n D E := by
  have ST : Hid (Calls Tryd.prog 69 #[.slice (some ⟨g, 0, none⟩) n cap, .int .i64 n, .func (.func fn) #[] cp] w fun e w' => e = .returned (.tuple #[]) ∧ ∃ E, SD cap N w w' g n E ∧ Run c E 0 n ∧ RelT c 0 n D E) := stable_any N w w g n fn cp c D C h hn
  clear C h
  go_enter Tryd.func62, Tryd.ntmps62
  go_wp2_with (go_at_call 69; refine ST.out.mono ?_; rintro e w1 ⟨rfl, E, q⟩; have Q : Hid _ := q; clear q)
  go_end0
  exact ⟨rfl, E, Q.out⟩
end Go.Proofs.YtkebflllbphkkaaDoor
