/- The law ClockSplits, walked. -/
import Derived.Test.YteiadigafkollaaLw8
import Derived.Laws.AppendOwnNone
namespace Go.Proofs.Yteiadigafkollaa
open Go.RowKit Go.Sort Go.Shelf

theorem append_fis {P : Program} {ops : Array Oper} {rest : List Oper} {o : Oper} {a : Act} {Q : Exit → Act → World → Prop} (hgd : o.guard = none) (s x : Operand) (t : TypeId)
    (ho : o.op = .call { callee := .builtin .append, args := #[s, x], argTypes := #[t, t] })
    (base : Nat) (ht : P.underlying t = some (.slice 49)) (hi : (P.info? 49).map (fun i => (i.zero, i.size, i.bytes)) = some (some (.agg #[.int .i64 0, .int .i64 0]), 2, 16))
    (w : World) (base2 : Nat) (v vx : Value) (l m : List (Int × Int)) (hs : a.eval s = v) (hx : a.eval x = vx) (hown : OwnF w base v l) (hm : OwnF w base2 vx m)
    (hlen : l.length + m.length ≤ 100000) (hbase : base ≤ w.heap.size)
    (h : ∀ v' w', OwnF w' base v' (l ++ m) → Below base w w' → wpList P ops Q rest (a.put o.dst v') w') : wpList P ops Q (o :: rest) a w := by
  obtain ⟨i0, hi0, hz0, hz1, hz2⟩ := info_parts hi
  have hm0 := hm
  rcases hm.2 with ⟨rfl, e⟩ | ⟨g, cap, cur, rfl, _⟩
  · have hmn : m = [] := List.length_eq_zero_iff.1 e
    subst hmn
    refine wpList_append_own_none hgd s x t ho base 49 i0 2 ht hi0 v l.length (l.flatMap fC) hs hown hx ?_
    exact h v w (by rw [List.append_nil]; exact hown) (Below.refl _ _)
  · have one : ∀ u ∈ m.flatMap fC, u.oneCell' = true := fun u hu => by
      obtain ⟨f, _, hf⟩ := List.mem_flatMap.1 hu
      simp [fC] at hf; rcases hf with rfl | rfl <;> rfl
    refine wpList_append_own _ hgd s x t ho base 49 i0 (.agg #[.int .i64 0, .int .i64 0]) 2 16 ht hi0 hz0 hz1 hz2 rfl (by decide) v l.length (l.flatMap fC) hs hown ⟨g, 0, none⟩ m.length cap (m.flatMap fC) hx (fC_len m) ?_ one
      (by unfold maxLen; omega) (by omega) hbase ?_
    · intro j u hj
      have hadd : (⟨g, 0, none⟩ : Addr).add j = ⟨g, j, none⟩ := by unfold Addr.add; split <;> simp_all
      have hjl : j < (m.flatMap fC).length := by
        by_cases hlt : j < (m.flatMap fC).length
        · exact hlt
        · rw [List.getElem?_eq_none (by omega)] at hj; cases hj
      rw [fC_len] at hjl
      rw [hadd, World.ownsRow.cellAt hm0 j hjl]; exact hj
    · intro v' w' ho' hg _
      refine h v' w' ?_ ((Below.refl base w).grown hg hbase (fun q hq => (World.ownsRow.lt hown q hq).1))
      unfold OwnF
      rw [List.length_append, List.flatMap_append]
      exact ho'
theorem own_empty (w : World) : OwnF (w.alloc (.cells #[] 49)) w.heap.size (.slice (some ⟨w.heap.size, 0, none⟩) 0 0) [] :=
  ⟨rfl, Or.inr ⟨w.heap.size, 0, #[], rfl, Nat.le_refl _, heap_alloc_new w _, Nat.le_refl _, Nat.zero_le _, rfl, rfl⟩⟩
theorem OwnF.lt {w : World} {base : Nat} {v : Value} {l : List (Int × Int)} (h : OwnF w base v l) {w' : World} (k : Below w.heap.size w w') : OwnF w' base v l := by
  obtain ⟨h1, h2⟩ := h
  refine ⟨h1, ?_⟩
  rcases h2 with h2 | ⟨g, cap, cur, e1, e2, e3, e4⟩
  · exact Or.inl h2
  · refine Or.inr ⟨g, cap, cur, e1, e2, ?_, e4⟩
    have hg : g < w.heap.size := by
      by_cases hlt : g < w.heap.size
      · exact hlt
      · rw [Array.getElem?_eq_none (by omega)] at e3; cases e3
    rw [k.block g hg]; exact e3
theorem OwnF.base {w : World} {base : Nat} {v : Value} {l : List (Int × Int)} (h : OwnF w base v l) {w' : World} (k : Below w.heap.size w w') : OwnF w' base v l := h.lt k
/-- Another clock stays as it is. -/
theorem ST.other {w0 w w1 : World} {b b' : Nat} {xo xo' : Option Nat} {now given : Int} {L : List Tm} (h : ST w0 w b' xo' now given L) (k : KC b xo w w1) (hB : Below w0.heap.size w0 w1) (hd : b' ≠ b ∧ some b' ≠ xo ∧ xo' ≠ some b ∧ ∀ X, xo' = some X → some X ≠ xo) : ST w0 w1 b' xo' now given L := by
  obtain ⟨h1, h2, h3, h4⟩ := hd
  refine ⟨h.cl.keep k.size (k.block b' h.lt.1 h1 h2) (fun X e => ?_), h.hb, h.hx, hB⟩
  refine k.block X (h.lt.2 X e) ?_ (h4 X e)
  intro e2; subst e2; exact h3 e
theorem cclone_st {w0 w : World} {b : Nat} {xo : Option Nat} {now given : Int} {L : List Tm} (h : ST w0 w b xo now given L) :
    Calls Try.prog 14 #[.pointer (some ⟨b, 0, none⟩)] w fun e w' => ∃ b' xo', e = .returned (.pointer (some ⟨b', 0, none⟩)) ∧ ST w0 w' b' xo' now given L ∧ ST w0 w' b xo now given L ∧ (b' ≠ b ∧ some b' ≠ xo ∧ xo' ≠ some b ∧ ∀ X, xo' = some X → some X ≠ xo) :=
  (cclone_any w b xo now given L h.cl).mono fun e w' ⟨b', xo', he, hc, hb, hx, hB⟩ => by
    have h2 := h.below hB
    have hs := h.bl.size
    have hl := h.lt
    refine ⟨b', xo', he, ⟨hc, by omega, fun X e => by have := hx X e; omega, h2.bl⟩, h2, by omega, ?_, ?_, ?_⟩
    · intro e; have := hl.2 b' e.symm; omega
    · intro e; have := hx b e; omega
    · intro X e e2; have := hx X e; have := hl.2 X e2.symm; omega
/-- Advance, of two kinds: refused, or told. -/
theorem adv_two {w0 w : World} {b : Nat} {xo : Option Nat} {now given : Int} {L : List Tm} (h : ST w0 w b xo now given L) (x : Int) :
    Calls Try.prog 15 #[.pointer (some ⟨b, 0, none⟩), .int .i64 x] w fun e w' => KC b xo w w' ∧ ((∃ c : Int, 1 ≤ c ∧ e = .returned (.tuple #[.slice none 0 0, .int .i64 c]) ∧ ST w0 w' b xo now given L) ∨ ∃ (n : Nat) (p : Option Addr) (cap : Nat), (n : Int) = dueL (now + x) L ∧ n ≤ 4096 ∧ (0 ≤ x ∧ x ≤ 1099511627776 - now) ∧ e = .returned (.tuple #[.slice p n cap, .int .i64 0]) ∧ OwnF w' w.heap.size (.slice p n cap) (told n L) ∧ ST w0 w' b xo (now + x) given (it n L)) := by
  by_cases hx : 0 ≤ x ∧ x ≤ 1099511627776 - now
  · have hnn := due_nn (now + x) L (fun t ht => (h.ok.rng t ht).2.2.2.2.1)
    by_cases hd : 4096 < dueL (now + x) L
    · exact (adv_long h x hx hd).mono fun e w' ⟨he, hs, k⟩ => ⟨k, Or.inl ⟨3, by omega, he, hs⟩⟩
    · have hn : ((dueL (now + x) L).toNat : Int) = dueL (now + x) L := by omega
      exact (adv_ok h x hx _ hn (by omega)).mono fun e w' ⟨p, cap, he, hf, ho, hs, k⟩ => ⟨k, Or.inr ⟨_, p, cap, hn, by omega, hx, he, ho, hs⟩⟩
  · exact (adv_range h x hx).mono fun e w' ⟨he, hs, k⟩ => ⟨k, Or.inl ⟨1, by omega, he, hs⟩⟩
set_option maxHeartbeats 16000000 in
set_option maxRecDepth 100000 in
theorem clockSplits_any (w : World) (p : Option Addr) (cap : Nat) (cs : List (Int × Int × Int)) (x y : Int) (h : ArgC w p cs) (hl : cs.length ≤ 100000000000000000) :
    Calls Try.prog 4 #[.slice p cs.length cap, .int .i64 x, .int .i64 y] w fun e w' => e = .returned (.bool true) ∧ Below w.heap.size w w' := by
  have HA : Hid (ArgC w p cs) := h
  have WK := works_any w
  have ax := amg_bd (x := x) (n := 1048576) (by omega)
  have ay := amg_bd (x := y) (n := 1048576) (by omega)
  have AX := fun w' => among_any w' x 1048576 (by omega) (by omega)
  have AY := fun w' => among_any w' y 1048576 (by omega) (by omega)
  generalize amg x 1048576 = xx at *
  generalize amg y 1048576 = yy at *
  obtain ⟨ax1, ax2⟩ := ax
  obtain ⟨ay1, ay2⟩ := ay
  clear h
  go_enter Try.func4, Try.ntmps4
  go_wp2_with (first | (go_at_call 8; refine WK.mono ?_; rintro e w1 ⟨rfl, hb1⟩; have HB1 : Hid (Below w.heap.size w w1) := hb1; clear hb1) | (go_at_call 12; refine (played_any _ _ _ _ (HA.out.below HB1.out) hl).mono ?_; rintro e w2 ⟨b, rfl, hpr⟩; obtain ⟨xo, now, given, L, hst, hgm⟩ := hpr.st HB1.out; have HS : Hid (ST w w2 b xo now given L) := hst; have hg0 := hst.ok.giv; have hn0 := hst.ok.now0.1; have hn1 := hst.ok.now0.2; clear hst hpr))
  refine (AX _).mono ?_
  rintro e w0 ⟨rfl, rfl⟩
  go_wp2_with fail
  refine (AY _).mono ?_
  rintro e w0 ⟨rfl, rfl⟩
  go_wp2_with (go_at_call 14; refine (cclone_st HS.out).mono ?_; rintro e w3 ⟨b', xo', rfl, hs3, hd3, hne⟩; have HD : Hid (ST w w3 b' xo' now given L) := hs3; have HC : Hid (ST w w3 b xo now given L) := hd3; have HNE : Hid (b' ≠ b ∧ some b' ≠ xo ∧ xo' ≠ some b ∧ ∀ X, xo' = some X → some X ≠ xo) := hne; clear hs3 hd3 hne)
  clear WK AX AY HS HA HB1
  refine (adv_two HC.out xx).mono ?_
  rintro e w4 ⟨hk4, ⟨c4, hc4, rfl, hs4⟩ | ⟨n, p4, cap4, hn4, hn4', hr4, rfl, ho4, hs4⟩⟩
  · have e4 : (c4 == 0) = false := by rw [beq_eq_false_iff_ne]; omega
    have f4 : (c4 != 0) = true := by rw [bne_iff_ne]; omega
    have D4 : Hid (ST w w4 b' xo' now given L) := HD.out.other hk4 hs4.bl HNE.out
    have C4 : Hid (ST w w4 b xo now given L) := hs4
    clear hk4 hs4 HD HC hc4
    go_wp2_with fail
    refine (adv_two C4.out yy).mono ?_
    rintro e w5 ⟨hk5, ⟨c5, hc5, rfl, hs5⟩ | ⟨m, p5, cap5, hn5, hn5', hr5, rfl, ho5, hs5⟩⟩
    · have e5 : (c5 == 0) = false := by rw [beq_eq_false_iff_ne]; omega
      have f5 : (c5 != 0) = true := by rw [bne_iff_ne]; omega
      have D5 : Hid (ST w w5 b' xo' now given L) := D4.out.other hk5 hs5.bl HNE.out
      clear hk5 hs5 hc5
      go_wp2_with fail
      refine (adv_two D5.out (xx + yy)).mono ?_
      rintro e w6 ⟨hk6, ⟨c6, hc6, rfl, hs6⟩ | ⟨k, p6, cap6, hn6, hn6', hr6, rfl, ho6, hs6⟩⟩
      · have e6 : (c6 == 0) = false := by rw [beq_eq_false_iff_ne]; omega
        have f6 : (c6 != 0) = true := by rw [bne_iff_ne]; omega
        have HB : Hid (Below w.heap.size w w6) := hs6.bl
        clear hs6 hk6 hc6
        go_wp2
        go_ret
        exact ⟨rfl, HB.out⟩
      · have HB : Hid (Below w.heap.size w w6) := hs6.bl
        clear hs6 hk6 ho6 hn6 hr6
        go_wp2
        go_ret
        exact ⟨rfl, HB.out⟩
    · have D5 : Hid (ST w w5 b' xo' now given L) := D4.out.other hk5 hs5.bl HNE.out
      clear hk5 hs5 ho5 hn5 hr5
      go_wp2_with fail
      refine (adv_two D5.out (xx + yy)).mono ?_
      rintro e w6 ⟨hk6, ⟨c6, hc6, rfl, hs6⟩ | ⟨k, p6, cap6, hn6, hn6', hr6, rfl, ho6, hs6⟩⟩
      · have e6 : (c6 == 0) = false := by rw [beq_eq_false_iff_ne]; omega
        have f6 : (c6 != 0) = true := by rw [bne_iff_ne]; omega
        have HB : Hid (Below w.heap.size w w6) := hs6.bl
        clear hs6 hk6 hc6
        go_wp2
        go_ret
        exact ⟨rfl, HB.out⟩
      · have HB : Hid (Below w.heap.size w w6) := hs6.bl
        clear hs6 hk6 ho6 hn6 hr6
        go_wp2
        go_ret
        exact ⟨rfl, HB.out⟩
  · have D4 : Hid (ST w w4 b' xo' now given L) := HD.out.other hk4 hs4.bl HNE.out
    have C4 : Hid (ST w w4 b xo (now + xx) given (it n L)) := hs4
    have N4 : Hid ((n : Int) = dueL (now + xx) L) := hn4
    have O4 : Hid (OwnF w4 w3.heap.size (.slice p4 n cap4) (told n L)) := ho4
    have LC : Hid (b < w3.heap.size ∧ ∀ X, xo = some X → X < w3.heap.size) := HC.out.lt
    have LD : Hid (b' < w3.heap.size ∧ ∀ X, xo' = some X → X < w3.heap.size) := HD.out.lt
    have LO : Hid (Ok now given L) := HC.out.ok
    have hs43 : w3.heap.size ≤ w4.heap.size := hk4.size
    obtain ⟨r41, r42⟩ := hr4
    clear hk4 hs4 HD HC hn4 ho4
    go_wp2_with fail
    refine (adv_two C4.out yy).mono ?_
    rintro e w5 ⟨hk5, ⟨c5, hc5, rfl, hs5⟩ | ⟨m, p5, cap5, hn5, hn5', hr5, rfl, ho5, hs5⟩⟩
    · have e5 : (c5 == 0) = false := by rw [beq_eq_false_iff_ne]; omega
      have f5 : (c5 != 0) = true := by rw [bne_iff_ne]; omega
      have D5 : Hid (ST w w5 b' xo' now given L) := D4.out.other hk5 hs5.bl HNE.out
      clear hk5 hs5 hc5
      go_wp2_with fail
      refine (adv_two D5.out (xx + yy)).mono ?_
      rintro e w6 ⟨hk6, ⟨c6, hc6, rfl, hs6⟩ | ⟨k, p6, cap6, hn6, hn6', hr6, rfl, ho6, hs6⟩⟩
      · have e6 : (c6 == 0) = false := by rw [beq_eq_false_iff_ne]; omega
        have f6 : (c6 != 0) = true := by rw [bne_iff_ne]; omega
        have HB : Hid (Below w.heap.size w w6) := hs6.bl
        clear hs6 hk6 hc6
        go_wp2
        go_ret
        exact ⟨rfl, HB.out⟩
      · have HB : Hid (Below w.heap.size w w6) := hs6.bl
        clear hs6 hk6 ho6 hn6 hr6
        go_wp2
        go_ret
        exact ⟨rfl, HB.out⟩
    · have D5 : Hid (ST w w5 b' xo' now given L) := D4.out.other hk5 hs5.bl HNE.out
      have C5 : Hid (ST w w5 b xo (now + xx + yy) given (it m (it n L))) := hs5
      have N5 : Hid ((m : Int) = dueL (now + xx + yy) (it n L)) := hn5
      have O45 : Hid (OwnF w5 w3.heap.size (.slice p4 n cap4) (told n L)) := O4.out.kc LC.out.1 LC.out.2 hk5
      have O5 : Hid (OwnF w5 w4.heap.size (.slice p5 m cap5) (told m (it n L))) := ho5
      have hs54 : w4.heap.size ≤ w5.heap.size := hk5.size
      obtain ⟨r51, r52⟩ := hr5
      clear hk5 hs5 ho5 hn5 O4 D4 C4
      go_wp2_with fail
      refine (adv_two D5.out (xx + yy)).mono ?_
      rintro e w6 ⟨hk6, ⟨c6, hc6, rfl, hs6⟩ | ⟨k, p6, cap6, hn6, hn6', hr6, rfl, ho6, hs6⟩⟩
      · have e6 : (c6 == 0) = false := by rw [beq_eq_false_iff_ne]; omega
        have f6 : (c6 != 0) = true := by rw [bne_iff_ne]; omega
        have HB : Hid (Below w.heap.size w w6) := hs6.bl
        clear hs6 hk6 hc6
        go_wp2
        go_ret
        exact ⟨rfl, HB.out⟩
      · obtain ⟨s1, s2, s3⟩ := split_ok LO.out (show now + xx ≤ now + xx + yy by omega) (by omega) N4.out N5.out
        have hk : k = n + m := by
          have e : now + (xx + yy) = now + xx + yy := by omega
          rw [e] at hn6; omega
        subst hk
        have C6 : Hid (ST w w6 b xo (now + xx + yy) given (it m (it n L))) := C5.out.other hk6 hs6.bl ⟨HNE.out.1.symm, fun e => HNE.out.2.2.1 e.symm, fun e => HNE.out.2.1 e.symm, fun X e e2 => HNE.out.2.2.2 X e2.symm e.symm⟩
        have D6 : Hid (ST w w6 b' xo' (now + (xx + yy)) given (it m (it n L))) := s3 ▸ hs6
        have O46 : Hid (OwnF w6 w3.heap.size (.slice p4 n cap4) (told n L)) := O45.out.kc LD.out.1 LD.out.2 hk6
        have O56 : Hid (OwnF w6 w4.heap.size (.slice p5 m cap5) (told m (it n L))) := O5.out.kc (by have := LD.out.1; omega) (fun X e => by have := LD.out.2 X e; omega) hk6
        have F6 : Hid (FS w6 (.slice p6 (n + m) cap6) (told n L ++ told m (it n L))) := s2 ▸ ho6.fs
        have ET : Hid (now + (xx + yy) = now + xx + yy) := by show _ = _; omega
        have hs65 : w5.heap.size ≤ w6.heap.size := hk6.size
        clear s1 s2 s3 hn6 hr6 ho6 hs6 hk6 O45 O5 D5 C5
        have T1 : Hid ((told n L).length = n) := told_len _ _
        have T2 : Hid ((told m (it n L)).length = m) := told_len _ _
        have hA1 : (([] : List (Int × Int))).length + (told n L).length ≤ 100000 := by rw [T1.out]; simp; omega
        have hA2 : (([] : List (Int × Int)) ++ told n L).length + (told m (it n L)).length ≤ 100000 := by rw [List.nil_append, T1.out, T2.out]; omega
        have HA1 : Hid _ := hA1
        have HA2 : Hid _ := hA2
        clear hA1 hA2
        go_wp2_with (first | (at_builtin; refine append_fis rfl (.tmp 84) (.tmp 85) 37 rfl w6.heap.size Try.underlying37 info_fi _ w3.heap.size _ _ [] (told n L) rfl rfl (own_empty w6) (World.ownsRow.alloc O46.out _) HA1.out (by simp) ?_; intro v7 w7 ho7 hb7; have O7 : Hid (OwnF w7 w6.heap.size v7 ([] ++ told n L)) := ho7; have B7 : Hid (Below w6.heap.size w6 w7) := ((Below.refl _ _).alloc (Nat.le_refl _) _).trans hb7; have O57 : Hid (OwnF w7 w4.heap.size (.slice p5 m cap5) (told m (it n L))) := O56.out.base B7.out; have hz7 : w6.heap.size ≤ w7.heap.size := B7.out.size; clear ho7 hb7) | (at_builtin; refine append_fis rfl (.tmp 86) (.tmp 87) 37 rfl w6.heap.size Try.underlying37 info_fi _ w4.heap.size _ _ ([] ++ told n L) (told m (it n L)) rfl rfl O7.out O57.out HA2.out hz7 ?_; intro v8 w8 ho8 hb8; have O8 : Hid (OwnF w8 w6.heap.size v8 ([] ++ told n L ++ told m (it n L))) := ho8; have B8 : Hid (Below w6.heap.size w6 w8) := B7.out.trans hb8; clear ho8 hb8))
        refine (firingsEq_same _ _ _ (told n L ++ told m (it n L)) (by have := O8.out; rw [List.nil_append] at this; exact this.fs) (F6.out.below B8.out) (by rw [List.length_append, T1.out, T2.out]; omega)).mono ?_
        rintro e w9 ⟨rfl, q, rfl⟩
        have B9 : Hid (Below w6.heap.size w6 (w8.drewN q)) := below_drewN' B8.out q
        have C9 : Hid (ST w (w8.drewN q) b xo (now + xx + yy) given (it m (it n L))) := C6.out.below B9.out
        have D9 : Hid (ST w (w8.drewN q) b' xo' (now + xx + yy) given (it m (it n L))) := ET.out ▸ D6.out.below B9.out
        have hlen : (it m (it n L)).length ≤ 1024 := C9.out.ok.len
        clear C6 D6 O8 O57 O7 O46 O56 F6 B7 B8 N4 N5
        obtain ⟨LL, hLL⟩ : ∃ LL, LL = it m (it n L) := ⟨_, rfl⟩
        rw [← hLL] at C9 D9 hlen
        obtain ⟨NN, hNN⟩ : ∃ NN, NN = now + xx + yy := ⟨_, rfl⟩
        rw [← hNN] at C9 D9
        clear hLL hNN ET
        go_wp2_with (first | (go_at_call 17; refine (now_st C9.out).mono ?_; rintro e w10 ⟨rfl, rfl⟩) | (go_at_call 17; refine (now_st D9.out).mono ?_; rintro e w10 ⟨rfl, rfl⟩))
        refine (pending_st C9.out).mono ?_
        rintro e w11 ⟨p11, c11, rfl, ht11, hb11⟩
        have HT11 : Hid (TS w11 (.slice p11 LL.length c11) LL) := ht11
        have D11 : Hid (ST w w11 b' xo' NN given LL) := D9.out.below hb11
        clear ht11 hb11 C9 D9
        go_wp2_with (go_at_call 19; refine (pending_st D11.out).mono ?_; rintro e w12 ⟨p12, c12, rfl, ht12, hb12⟩; have HT12 : Hid (TS w12 (.slice p12 LL.length c12) LL) := ht12; have HT13 : Hid (TS w12 (.slice p11 LL.length c11) LL) := HT11.out.below hb12; have HB : Hid (Below w.heap.size w w12) := below_then D11.out.bl hb12; clear ht12 hb12)
        refine (timersEq_same _ _ _ LL HT13.out HT12.out (by omega)).mono ?_
        rintro e w13 ⟨rfl, q2, rfl⟩
        go_wp2
        go_ret
        exact ⟨rfl, below_drewN' HB.out _⟩
end Go.Proofs.Yteiadigafkollaa
