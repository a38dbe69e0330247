/- The law ClockNext, walked. -/
import Derived.Test.YteiadigafkollaaLw7
namespace Go.Proofs.Yteiadigafkollaa
open Go.RowKit Go.Sort Go.Shelf

theorem fir_head {now given u : Int} {t : Tm} {r : List Tm} (h : Ok now given (t :: r)) (hu : t.tm ≤ u) : 1 ≤ dueL u (t :: r) := by
  rw [due_cons]
  have h1 := fir_pos u t (h.rng t (List.mem_cons_self ..)).2.2.2.2.1 hu
  have h2 := due_nn u r (fun x hx => (h.rng x (List.mem_cons_of_mem _ hx)).2.2.2.2.1)
  omega
theorem TS.head {w : World} {p : Option Addr} {n cap : Nat} {t : Tm} {r : List Tm} (h : TS w (.slice p n cap) (t :: r)) : ∃ X, p = some ⟨X, 0, none⟩ ∧ w.cell? ⟨X, 0, none⟩ = some (.int .i64 t.num) ∧ w.cell? ⟨X, 1, none⟩ = some (.int .i64 t.tm) := by
  obtain ⟨p1, cap1, hv, hc⟩ := h
  injection hv with e1 e2 e3
  subst e1
  obtain ⟨X, hp, x1, x2, x3⟩ := hc 0 (by simp)
  exact ⟨X, hp, by simpa using x1, by simpa using x2⟩
theorem FS.head {w : World} {p : Option Addr} {n cap : Nat} {f : Int × Int} {r : List (Int × Int)} (h : FS w (.slice p n cap) (f :: r)) : ∃ X, p = some ⟨X, 0, none⟩ ∧ w.cell? ⟨X, 0, none⟩ = some (.int .i64 f.1) ∧ w.cell? ⟨X, 1, none⟩ = some (.int .i64 f.2) := by
  obtain ⟨p1, cap1, hv, hc⟩ := h
  injection hv with e1 e2 e3
  subst e1
  obtain ⟨X, hp, x1, x2⟩ := hc 0 (by simp)
  exact ⟨X, hp, by simpa using x1, by simpa using x2⟩
theorem TS.head1 {w : World} {X n cap : Nat} {t : Tm} {L r : List Tm} (h : TS w (.slice (some ⟨X, 0, none⟩) n cap) L) (e : L = t :: r) : w.cell? ⟨X, 0, none⟩ = some (.int .i64 t.num) ∧ w.cell? ⟨X, 1, none⟩ = some (.int .i64 t.tm) := by
  subst e
  obtain ⟨Y, e, x1, x2⟩ := h.head
  injection e with e
  injection e with e
  subst e
  exact ⟨x1, x2⟩
theorem PL.kc {w w' : World} {base b : Nat} {xo : Option Nat} {v : Value} {L : List Tm} (h : PL w base v L) (hb : b < base) (hx : ∀ X, xo = some X → X < base) (k : KC b xo w w') : PL w' base v L := by
  rcases h with h | ⟨g, c, d, hv, hg, hr, hd⟩
  · exact Or.inl h
  · exact Or.inr ⟨g, c, d, hv, hg, hr.keep (k.block g hr.lt (by omega) (fun e => by have := hx g e.symm; omega)), hd⟩
theorem ST.lt {w0 w : World} {b : Nat} {xo : Option Nat} {now given : Int} {L : List Tm} (h : ST w0 w b xo now given L) : b < w.heap.size ∧ ∀ X, xo = some X → X < w.heap.size :=
  ⟨h.cl.lt, fun X e => by subst e; exact h.cl.xlt.1⟩
theorem pending_pl {w0 w : World} {b : Nat} {xo : Option Nat} {now given : Int} {L : List Tm} (h : ST w0 w b xo now given L) : Calls Try.prog 19 #[.pointer (some ⟨b, 0, none⟩)] w fun e w' => ∃ p cap, e = .returned (.slice p L.length cap) ∧ PL w' w.heap.size (.slice p L.length cap) L ∧ Below w.heap.size w w' :=
  (pending_any w b xo now given L h.cl).mono fun e w' ⟨v, he, hp, hb⟩ => by
    have ht := hp.ts
    obtain ⟨p, cap, hv, _⟩ := ht
    subst hv
    exact ⟨p, cap, he, hp, hb⟩
/-- To the time of the first one: too much, or that one first. -/
def NextR (w0 w' : World) (t : Tm) (e : Ending) : Prop :=
  (e = .returned (.tuple #[.slice none 0 0, .int .i64 3]) ∧ Below w0.heap.size w0 w') ∨ ∃ X n cap, e = .returned (.tuple #[.slice (some ⟨X, 0, none⟩) n cap, .int .i64 0]) ∧ 1 ≤ n ∧ n ≤ 4096 ∧ w'.cell? ⟨X, 0, none⟩ = some (.int .i64 t.num) ∧ w'.cell? ⟨X, 1, none⟩ = some (.int .i64 t.tm) ∧ Below w0.heap.size w0 w'
theorem adv_next {w0 w : World} {b : Nat} {xo : Option Nat} {now given : Int} {t : Tm} {r : List Tm} (h : ST w0 w b xo now given (t :: r)) :
    Calls Try.prog 15 #[.pointer (some ⟨b, 0, none⟩), .int .i64 (t.tm - now)] w fun e w' => NextR w0 w' t e ∧ KC b xo w w' := by
  have R := h.ok.rng t (List.mem_cons_self ..)
  have h1 := fir_head h.ok (u := t.tm) (Int.le_refl _)
  have e1 : now + (t.tm - now) = t.tm := by omega
  by_cases hd : 4096 < dueL t.tm (t :: r)
  · exact (adv_long h (t.tm - now) (by omega) (by rw [e1]; exact hd)).mono fun e w' ⟨he, hs, k⟩ => ⟨Or.inl ⟨he, hs.bl⟩, k⟩
  · obtain ⟨n, hn⟩ : ∃ n : Nat, ((n + 1 : Nat) : Int) = dueL t.tm (t :: r) := ⟨(dueL t.tm (t :: r)).toNat - 1, by omega⟩
    refine (adv_ok h (t.tm - now) (by omega) (n + 1) (by rw [e1]; exact hn) (by omega)).mono fun e w' ⟨p, cap, he, hf, _, hs, k⟩ => ⟨?_, k⟩
    rw [told_cons] at hf
    obtain ⟨X, rfl, x1, x2⟩ := hf.head
    exact Or.inr ⟨X, n + 1, cap, he, by omega, by omega, x1, x2, hs.bl⟩
/-- Up to just ahead of the first one. -/
theorem adv_ahead {w0 w : World} {b : Nat} {xo : Option Nat} {now given : Int} {t : Tm} {r : List Tm} (h : ST w0 w b xo now given (t :: r)) (hlt : now < t.tm) :
    Calls Try.prog 15 #[.pointer (some ⟨b, 0, none⟩), .int .i64 (t.tm - 1 - now)] w fun e w' => ∃ p cap, e = .returned (.tuple #[.slice p 0 cap, .int .i64 0]) ∧ ST w0 w' b xo (t.tm - 1) given (t :: r) ∧ KC b xo w w' := by
  have R := h.ok.rng t (List.mem_cons_self ..)
  have e1 : now + (t.tm - 1 - now) = t.tm - 1 := by omega
  have hd := due_before h.ok (u := t.tm - 1) (by omega)
  refine (adv_ok h (t.tm - 1 - now) (by omega) 0 (by rw [e1, hd]; rfl) (by omega)).mono fun e w' ⟨p, cap, he, hf, _, hs, k⟩ => ⟨p, cap, he, ?_, k⟩
  rw [e1] at hs
  exact hs
set_option maxHeartbeats 16000000 in
set_option maxRecDepth 100000 in
theorem clockNext_any (w : World) (p : Option Addr) (cap : Nat) (cs : List (Int × Int × Int)) (h : ArgC w p cs) (hl : cs.length ≤ 100000000000000000) :
    Calls Try.prog 6 #[.slice p cs.length cap] w fun e w' => e = .returned (.bool true) ∧ Below w.heap.size w w' := by
  have HA : Hid (ArgC w p cs) := h
  have WK := works_any w
  clear h
  go_enter Try.func6, Try.ntmps6
  go_wp2_with (first | (go_at_call 8; refine WK.mono ?_; rintro e w1 ⟨rfl, hb1⟩; have HB1 : Hid (Below w.heap.size w w1) := hb1; clear hb1) | (go_at_call 12; refine (played_any _ _ _ _ (HA.out.below HB1.out) hl).mono ?_; rintro e w2 ⟨b, rfl, hpr⟩; obtain ⟨xo, now, given, L, hst, hgm⟩ := hpr.st HB1.out; have HS : Hid (ST w w2 b xo now given L) := hst; have hg0 := hst.ok.giv; have hn0 := hst.ok.now0.1; have hn1 := hst.ok.now0.2; clear hst hpr))
  clear WK HB1
  cases L with
  | nil =>
    refine (next_st HS.out).mono ?_
    rintro e w3 ⟨rfl, rfl⟩
    unfold nextV
    go_wp2_with (go_at_call 19; refine (pending_st HS.out).mono ?_; rintro e w8 ⟨p8, c8, rfl, ht8, hb8⟩; have HB8 : Hid (Below w.heap.size w w8) := below_then HS.out.bl hb8; clear ht8 hb8)
    go_ret
    exact ⟨rfl, HB8.out⟩
  | cons t r =>
    refine (next_st HS.out).mono ?_
    rintro e w3 ⟨rfl, rfl⟩
    unfold nextV
    have R := HS.out.ok.rng t (List.mem_cons_self ..)
    obtain ⟨r1, r2, r3, r4, r5, r6⟩ := R
    have hlen : (t :: r).length ≤ 1024 := HS.out.ok.len
    have hne : (((t :: r).length : Int) == 0) = false := by simp; omega
    have hpos : 0 < (t :: r).length := by simp
    obtain ⟨L, hL⟩ : ∃ L, L = t :: r := ⟨_, rfl⟩
    have HL : Hid (L = t :: r) := hL
    rw [← hL] at hlen hne HS hpos
    clear hL
    have PP := pending_pl HS.out
    have LT : Hid (b < w3.heap.size ∧ ∀ X, xo = some X → X < w3.heap.size) := HS.out.lt
    by_cases hgt : now < t.tm
    · go_wp2_with (first | (go_at_call 19; refine PP.mono ?_; rintro e w8 ⟨p8, c8, rfl, ht8, hb8⟩; have HS8 : Hid (ST w w8 b xo now given L) := HS.out.below hb8; have HT8 : Hid (PL w8 w3.heap.size (.slice p8 L.length c8) L) := ht8; have HH : ∃ X, p8 = some ⟨X, 0, none⟩ ∧ w8.cell? ⟨X, 0, none⟩ = some (.int .i64 t.num) ∧ w8.cell? ⟨X, 1, none⟩ = some (.int .i64 t.tm) := TS.head (HL.out ▸ ht8.ts); obtain ⟨X, rfl, x1, x2⟩ := HH; clear ht8 hb8) | (go_at_call 17; refine (now_st HS8.out).mono ?_; rintro e w9 ⟨rfl, rfl⟩))
      refine (adv_ahead (HL.out ▸ HS8.out) hgt).mono ?_
      rintro e w10 ⟨p10, c10, rfl, hs10, hk10⟩
      have HP10 : Hid (PL w10 w3.heap.size (.slice (some ⟨X, 0, none⟩) L.length c8) L) := HT8.out.kc LT.out.1 LT.out.2 hk10
      obtain ⟨N, hN⟩ : ∃ N, N = t.tm - 1 := ⟨_, rfl⟩
      have HS10 : Hid (ST w w10 b xo N given L) := by show ST w w10 b xo N given L; rw [hN, HL.out]; exact hs10
      have hN1 : N < t.tm := by omega
      have hN2 : 0 ≤ N := by omega
      clear hN hs10 hk10 HS8 HT8 x1 x2 PP HS
      go_wp2_with (go_at_call 19; refine (pending_pl HS10.out).mono ?_; rintro e w11 ⟨p11, c11, rfl, ht11, hb11⟩; have HS11 : Hid (ST w w11 b xo N given L) := HS10.out.below hb11; have HT11 : Hid (TS w11 (.slice p11 L.length c11) L) := ht11.ts; have HP11 : Hid (PL w11 w3.heap.size (.slice (some ⟨X, 0, none⟩) L.length c8) L) := HP10.out.below hb11; clear ht11 hb11)
      refine (timersEq_same _ _ _ L HT11.out HP11.out.ts (by omega)).mono ?_
      rintro e w12 ⟨rfl, n, rfl⟩
      have HD : Hid (Below w11.heap.size w11 (w11.drewN n)) := below_drewN' (Below.refl _ _) n
      have HS12 : Hid (ST w (w11.drewN n) b xo N given L) := HS11.out.below HD.out
      have HP12 : Hid (PL (w11.drewN n) w3.heap.size (.slice (some ⟨X, 0, none⟩) L.length c8) L) := HP11.out.below HD.out
      clear HS10 HS11 HP10 HP11 HT11
      go_wp2_with (go_at_call 17; refine (now_st HS12.out).mono ?_; rintro e w9 ⟨rfl, rfl⟩)
      refine (adv_next (HL.out ▸ HS12.out)).mono ?_
      rintro e w13 ⟨⟨rfl, hb13⟩ | ⟨X2, n2, c2, rfl, hm1, hm2, y1, y2, hb13⟩, hk13⟩
      · have HB : Hid (Below w.heap.size w w13) := hb13
        clear hb13 hk13
        go_wp2
        go_quiet (fail)
        go_wp2
        go_ret
        exact ⟨rfl, below_drewN' HB.out _⟩
      · have HB : Hid (Below w.heap.size w w13) := hb13
        obtain ⟨x1, x2⟩ := (HP12.out.kc LT.out.1 LT.out.2 hk13).ts.head1 HL.out
        have hm3 : 0 < n2 := by omega
        clear hb13 hk13
        go_wp2
        go_quiet (fail)
        go_wp2
        go_ret
        exact ⟨rfl, below_drewN' HB.out _⟩
    · go_wp2_with (first | (go_at_call 19; refine PP.mono ?_; rintro e w8 ⟨p8, c8, rfl, ht8, hb8⟩; have HS12 : Hid (ST w w8 b xo now given L) := HS.out.below hb8; have HP12 : Hid (PL w8 w3.heap.size (.slice p8 L.length c8) L) := ht8; have HH : ∃ X, p8 = some ⟨X, 0, none⟩ ∧ w8.cell? ⟨X, 0, none⟩ = some (.int .i64 t.num) ∧ w8.cell? ⟨X, 1, none⟩ = some (.int .i64 t.tm) := TS.head (HL.out ▸ ht8.ts); obtain ⟨X, rfl, x1, x2⟩ := HH; clear ht8 hb8) | (go_at_call 17; refine (now_st HS12.out).mono ?_; rintro e w9 ⟨rfl, rfl⟩))
      clear PP HS x1 x2
      refine (adv_next (HL.out ▸ HS12.out)).mono ?_
      rintro e w13 ⟨⟨rfl, hb13⟩ | ⟨X2, n2, c2, rfl, hm1, hm2, y1, y2, hb13⟩, hk13⟩
      · have HB : Hid (Below w.heap.size w w13) := hb13
        clear hb13 hk13
        go_wp2
        go_quiet (fail)
        go_wp2
        go_ret
        exact ⟨rfl, below_drewN' HB.out _⟩
      · have HB : Hid (Below w.heap.size w w13) := hb13
        obtain ⟨x1, x2⟩ := (HP12.out.kc LT.out.1 LT.out.2 hk13).ts.head1 HL.out
        have hm3 : 0 < n2 := by omega
        clear hb13 hk13
        go_wp2
        go_quiet (fail)
        go_wp2
        go_ret
        exact ⟨rfl, below_drewN' HB.out _⟩
end Go.Proofs.Yteiadigafkollaa
