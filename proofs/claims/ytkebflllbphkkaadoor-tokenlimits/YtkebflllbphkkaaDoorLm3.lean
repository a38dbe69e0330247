/- Tokens: the law TokenLimits. -/
import Derived.Test.YtkebflllbphkkaaDoorLm2
namespace Go.Proofs.YtkebflllbphkkaaDoor
open Go.RowKit

theorem adv_lim {w0 W : World} {base b : Nat} {F : Nat → Prop} {T : Tr} (h1 : TV W base b F T) (h2 : Below base w0 W) (x : Int) :
    Calls Tryd.prog 15 #[.pointer (some ⟨b, 0, none⟩), .int .i64 x] W fun e w' => ∃ (u : Value) (err : Int) (U : Tr), e = .returned (.tuple #[u, .int .i64 err]) ∧ (err = 0 ∨ err = 1) ∧ PS w0 w' base b U ∧ But F W w' ∧ U.ns.length = T.ns.length ∧ (∀ a, (U.n a).name = (T.n a).name) ∧ ∀ p, p < T.ns.length → p ∉ T.od → (err = 0 → (p ∈ U.od ↔ limT T p p ≤ U.now)) ∧ (err = 1 → p ∉ U.od) := by
  refine (advance_any W base b F T h1 x).mono ?_
  rintro e w' (⟨hm, E, hE, ⟨u, rfl, _⟩, q⟩ | ⟨hm, ⟨u, rfl, _⟩, q⟩)
  · have hb : 0 ≤ T.now + x ∧ T.now + x ≤ 1099511627776 := by
      have := h1.inv.tm
      unfold mayB at hm
      have := of_decide_eq_true hm
      omega
    obtain ⟨cn, iv, _⟩ := expT_all E (nowT T (T.now + x)) (nowT_inv h1.inv hb.1 hb.2) hE.lt
    refine ⟨u, 0, _, rfl, Or.inl rfl, PS.to h1 h2 q, ?_, cn.len, fun a => cn.name a, fun p hp hd => ⟨fun _ => ?_, fun h => by cases h⟩⟩
    · obtain ⟨_, _, k, _⟩ := q; exact k
    · rw [lim_adv h1.inv hb hE hp hd, cn.now]
      exact Iff.rfl
  · refine ⟨u, 1, T, rfl, Or.inr rfl, PS.to h1 h2 q, ?_, rfl, fun _ => rfl, fun p hp hd => ⟨(fun h => by cases h), fun _ => hd⟩⟩
    obtain ⟨_, _, k, _⟩ := q; exact k
theorem ki_cell {w : World} {base g n c : Nat} {l : List Int} (h : OwnG KI w base (.slice (some ⟨g, 0, none⟩) n c) l) {k : Nat} {s : Int} (hk : l[k]? = some s) : w.cell? ⟨g, k, none⟩ = some (.int .i64 s) := by
  obtain ⟨hkl, hs⟩ := List.getElem?_eq_some_iff.1 hk
  obtain ⟨X', o', e', _, hc'⟩ := (h.gs KI_ok.len).at hkl
  injection e' with e'
  injection e' with e1 e2 _
  subst e1 e2
  have := hc' 0 _ rfl
  rw [show KI.W = 1 from rfl, Nat.mul_one, Nat.zero_add, Nat.add_zero] at this
  rw [this, hs]
theorem own_at {α : Type} {K : RK α} {w : World} {base n c : Nat} {p : Option Addr} {l : List α} (h : OwnG K w base (.slice p n c) l) (hl : 0 < l.length) : ∃ g, p = some ⟨g, 0, none⟩ := by
  obtain ⟨g, _, hpl, _⟩ := h.place (by
    intro hn
    rcases h.2 with ⟨_, e0⟩ | ⟨g, c, cur, e0, _⟩
    · omega
    · rw [e0] at hn; cases hn)
  exact ⟨g, by injection hpl⟩
/-- Those that live, and their limits, so far. -/
structure LV (w : World) (base : Nat) (v7 v8 : Value) (T : Tr) (k : Nat) (Q : List Nat) : Prop where
  o7 : OwnG KS w base v7 (Q.map fun p => (T.n p).name)
  o8 : OwnG KI w base v8 (Q.map fun p => limT T p p)
  ok : ∀ p ∈ Q, p < T.ns.length ∧ p ∉ T.od
  ln : Q.length ≤ k
theorem LV.below {w w' : World} {base k : Nat} {v7 v8 : Value} {T : Tr} {Q : List Nat} (h : LV w base v7 v8 T k Q) (q : Below w.heap.size w w') : LV w' base v7 v8 T k Q := ⟨h.o7.below q, h.o8.below q, h.ok, h.ln⟩
set_option maxHeartbeats 32000000 in
set_option maxRecDepth 100000 in
theorem limits_any (w0 : World) (va : Value) (la : List Cx) (tk : Int) (hA : ARG w0 va la) (hfb : FB w0 w0.heap.size) :
    Calls Tryd.prog 6 #[va, .int .i64 tk] w0 fun e w' => e = .returned (.bool true) ∧ Below w0.heap.size w0 w' := by
  obtain ⟨pa, ca, rfl⟩ := hA.gs.form
  obtain ⟨base, hbase⟩ : ∃ base, base = w0.heap.size := ⟨_, rfl⟩
  have WK : Hid (Calls Tryd.prog 7 #[] w0 fun e w' => e = .returned (.bool true) ∧ Below base w0 w') := works_any w0 base (by omega) (by rw [hbase]; exact hfb)
  have PL : Hid (∀ w, Below base w0 w → Calls Tryd.prog 8 #[.slice pa la.length ca] w fun e w' => PlR w0 base w' e) := fun w hb => played_any w0 w base _ la hA hbase hb ((by rw [hbase] at hb ⊢; exact hfb.below hb))
  rw [← hbase]
  clear hA hfb hbase
  go_enter Tryd.func6, Tryd.ntmps6
  go_upto_region 6 with (first | (go_at_call 7; refine WK.out.mono ?_; rintro e w1 ⟨rfl, q⟩; have B1 := hid q; clear q) | (go_at_call 8; refine (PL.out w1 B1.out).mono ?_; rintro e w2 ⟨b, T, rfl, q⟩; have P2 := hid q; clear q))
  have OR := hid (names_ps P2.out)
  clear WK PL B1
  go_upto_region 9 with (go_at_call 19; refine OR.out.mono ?_; rintro e w3 ⟨g, rfl, q1, q2, q3⟩; have O3 := hid q1; have P3 := hid q2; clear q1 q2 q3)
  clear OR P2
  have HI := hid P3.out.inv
  have hlen := HI.out.len
  obtain ⟨n, hn⟩ : ∃ n, n = T.ns.length := ⟨_, rfl⟩
  rw [← hn] at O3 hlen ⊢
  have HN := hid hn
  clear hn
  have S0 : Hid (LV w3 w3.heap.size (.slice none 0 0) (.slice none 0 0) T 0 [] ∧ Below w3.heap.size w3 w3) := ⟨⟨OwnG.nil _ _ _, OwnG.nil _ _ _, (fun _ h => by cases h), Nat.le_refl _⟩, Below.refl _ _⟩
  go_wp2_with fail
  go_loopw [7, 8, 32] (fun v7 v8 v32 wr => ∃ (k : Nat) (Q : List Nat) (x7 x8 : Value) (wk : World), v32 = .int .i64 k ∧ x7 = v7 ∧ x8 = v8 ∧ wk = wr ∧ k ≤ n ∧ Hid (LV wk w3.heap.size x7 x8 T k Q ∧ Below w3.heap.size w3 wk)) (fun _ _ v32 _ => n - (intOf v32).toNat)
  case atStart => exact ⟨0, [], _, _, _, rfl, rfl, rfl, rfl, Nat.zero_le _, S0⟩
  case round =>
    obtain ⟨k, Q, x7, x8, wr, rfl, rfl, rfl, rfl, hk, HS⟩ := hrel
    clear S0
    by_cases hlt : k < n
    · have hkT : k < T.ns.length := by rw [← HN.out]; exact hlt
      have e1 := nms_cell (O3.out.below HS.out.2) (p := k) hkT
      obtain ⟨hnp, hns⟩ := P3.out.nm hkT
      have DN := hid (done_ps (P3.out.below HS.out.2) _ hns hnp)
      have LM := hid (limit_ps (P3.out.below HS.out.2) _ hns hnp)
      obtain ⟨nm, hnm⟩ : ∃ nm, nm = (T.n k).name := ⟨_, rfl⟩
      obtain ⟨lm, hlm⟩ : ∃ lm, lm = limT T k k := ⟨_, rfl⟩
      rw [← hnm] at e1 DN LM
      rw [← hlm] at LM
      have HQ := hid HS.out.1.ln
      have hQ : Q.length ≤ 256 := by have := HQ.out; omega
      by_cases hd : k ∈ T.od
      · rw [decide_eq_true hd] at DN
        have NX : Hid (∀ w', Below wr.heap.size wr w' → LV w' w3.heap.size x7 x8 T (k + 1) Q ∧ Below w3.heap.size w3 w') := fun w' hb => ⟨⟨(HS.out.1.below hb).o7, (HS.out.1.below hb).o8, HS.out.1.ok, by have := HQ.out; omega⟩, HS.out.2.trans (hb.mono HS.out.2.size)⟩
        clear HS hnp hd hnm hlm
        by_cases hl : lm = 1099511627777
        · subst hl
          have LM2 : Hid (Calls Tryd.prog 22 #[.pointer (some ⟨b, 0, none⟩), .string nm] wr fun e w' => e = .returned (.tuple #[.int .i64 0, .bool false, .int .i64 0]) ∧ Below wr.heap.size wr w') := LM
          clear LM
          go_wp2_with (first | (go_at_call 17; refine DN.out.mono ?_; rintro e w4 ⟨rfl, hw4⟩; subst w4) | (go_at_call 22; refine LM2.out.mono ?_; rintro e w5 ⟨rfl, q⟩; have N5 := hid (NX.out w5 q); clear q))
          go_roundw
          case rel => exact ⟨k + 1, Q, _, _, _, by go_num, rfl, rfl, rfl, by omega, N5⟩
          case measure => simp [intOf]; omega
        · have LM2 : Hid (Calls Tryd.prog 22 #[.pointer (some ⟨b, 0, none⟩), .string nm] wr fun e w' => e = .returned (.tuple #[.int .i64 lm, .bool true, .int .i64 0]) ∧ Below wr.heap.size wr w') := by
            have := LM.out
            unfold limA at this
            rw [if_neg hl] at this
            exact this
          clear LM
          go_wp2_with (first | (go_at_call 17; refine DN.out.mono ?_; rintro e w4 ⟨rfl, hw4⟩; subst w4) | (go_at_call 22; refine LM2.out.mono ?_; rintro e w5 ⟨rfl, q⟩; have N5 := hid (NX.out w5 q); clear q))
          go_roundw
          case rel => exact ⟨k + 1, Q, _, _, _, by go_num, rfl, rfl, rfl, by omega, N5⟩
          case measure => simp [intOf]; omega
      · rw [decide_eq_false hd] at DN
        have A7 : Hid (∀ w5, Below wr.heap.size wr w5 → OwnG KS w5 w3.heap.size x7 (Q.map fun p => (T.n p).name)) := fun w5 hb => HS.out.1.o7.below hb
        have A8 : Hid (∀ w5, Below wr.heap.size wr w5 → ∀ w8, (∀ j, j < w5.heap.size → some j ≠ x7.ownBlock → w8.heap[j]? = w5.heap[j]?) → OwnG KI w8 w3.heap.size x8 (Q.map fun p => limT T p p)) := fun w5 hb w8 k8 => by
          have o7 := HS.out.1.o7.below hb
          have o8 := HS.out.1.o8.below hb
          exact o8.far (fun gx hgx => k8 gx (o8.lt hgx).2 (fun e => (o8.apart o7 (by decide) e.symm) hgx))
        have A9 : Hid (∀ w5, Below wr.heap.size wr w5 → ∀ w8 w9 g8 c8 g9 c9, OwnG KS w8 w3.heap.size (.slice (some ⟨g8, 0, none⟩) ((Q.map fun p => (T.n p).name).length + 1) c8) ((Q.map fun p => (T.n p).name) ++ [nm]) → Below w3.heap.size w5 w8 → OwnG KI w8 w3.heap.size x8 (Q.map fun p => limT T p p) → OwnG KI w9 w3.heap.size (.slice (some ⟨g9, 0, none⟩) ((Q.map fun p => limT T p p).length + 1) c9) ((Q.map fun p => limT T p p) ++ [lm]) → Below w3.heap.size w8 w9 → (∀ j, j < w8.heap.size → some j ≠ x8.ownBlock → w9.heap[j]? = w8.heap[j]?) → LV w9 w3.heap.size (.slice (some ⟨g8, 0, none⟩) ((Q.map fun p => (T.n p).name).length + 1) c8) (.slice (some ⟨g9, 0, none⟩) ((Q.map fun p => limT T p p).length + 1) c9) T (k + 1) (Q ++ [k]) ∧ Below w3.heap.size w3 w9) := fun w5 hb w8 w9 g8 c8 g9 c9 o7 b8 o8 o9 b9 k9 => by
          refine ⟨⟨?_, ?_, fun p hp => ?_, by have := HQ.out; simp; omega⟩, ((HS.out.2.trans (hb.mono HS.out.2.size)).trans b8).trans b9⟩
          · rw [List.map_append]
            show OwnG KS _ _ _ (_ ++ [(T.n k).name])
            rw [← hnm]
            exact o7.far (fun gx hgx => k9 gx (o7.lt hgx).2 (fun e => (o7.apart o8 (by decide) e.symm) hgx))
          · rw [List.map_append]
            show OwnG KI _ _ _ (_ ++ [limT T k k])
            rw [← hlm]
            exact o9
          · rcases List.mem_append.1 hp with q | q
            · exact HS.out.1.ok p q
            · have : p = k := by simpa using q
              subst this
              exact ⟨hkT, hd⟩
        have ZR : Hid (w3.heap.size ≤ wr.heap.size) := HS.out.2.size
        have hq7 : ((Q.map fun p => (T.n p).name).length + 1) * 16 ≤ 140737488355328 := by rw [List.length_map]; omega
        have hq8 : ((Q.map fun p => limT T p p).length + 1) * 8 ≤ 140737488355328 := by rw [List.length_map]; omega
        clear HS hnp hd hnm hlm
        generalize (Q.map fun p => (T.n p).name) = L7 at *
        generalize (Q.map fun p => limT T p p) = L8 at *
        by_cases hl : lm = 1099511627777
        · subst hl
          have LM2 : Hid (Calls Tryd.prog 22 #[.pointer (some ⟨b, 0, none⟩), .string nm] wr fun e w' => e = .returned (.tuple #[.int .i64 0, .bool false, .int .i64 0]) ∧ Below wr.heap.size wr w') := LM
          clear LM
          go_upto_region 19 with (first | (go_at_call 17; refine DN.out.mono ?_; rintro e w4 ⟨rfl, hw4⟩; subst w4) | (go_at_call 22; refine LM2.out.mono ?_; rintro e w5 ⟨rfl, q⟩; have B5 := hid q; clear q))
          go_wp2_with (first | (at_builtin; refine append_g KS KS_ok rfl _ _ 26 rfl w3.heap.size Tryd.underlying26 w5 _ _ x7 L7 nm _ rfl (A7.out w5 B5.out) w5.heap.size rfl rfl rfl hq7 (Nat.le_trans ZR.out B5.out.size) ?_; intro g8 c8 w8 o8 b8 k8 q8; have O8 := hid o8; have B8 := hid b8; have I8 := hid (A8.out w5 B5.out w8 k8); clear o8 b8 k8 q8) | (at_builtin; refine append_g KI KI_ok rfl _ _ 51 rfl w3.heap.size Tryd.underlying51 w8 _ _ x8 L8 1099511627777 _ rfl I8.out w8.heap.size rfl rfl rfl hq8 (Nat.le_trans (Nat.le_trans ZR.out B5.out.size) B8.out.size) ?_; intro g9 c9 w9 o9 b9 k9 q9; have N9 := hid (A9.out w5 B5.out w8 w9 g8 c8 g9 c9 O8.out B8.out I8.out o9 b9 k9); clear o9 b9 k9 q9))
          go_roundw
          case rel => exact ⟨k + 1, Q ++ [k], _, _, _, by go_num, rfl, rfl, rfl, by omega, N9⟩
          case measure => simp [intOf]; omega
        · have LM2 : Hid (Calls Tryd.prog 22 #[.pointer (some ⟨b, 0, none⟩), .string nm] wr fun e w' => e = .returned (.tuple #[.int .i64 lm, .bool true, .int .i64 0]) ∧ Below wr.heap.size wr w') := by
            have := LM.out
            unfold limA at this
            rw [if_neg hl] at this
            exact this
          clear LM
          go_upto_region 19 with (first | (go_at_call 17; refine DN.out.mono ?_; rintro e w4 ⟨rfl, hw4⟩; subst w4) | (go_at_call 22; refine LM2.out.mono ?_; rintro e w5 ⟨rfl, q⟩; have B5 := hid q; clear q))
          go_wp2_with (first | (at_builtin; refine append_g KS KS_ok rfl _ _ 26 rfl w3.heap.size Tryd.underlying26 w5 _ _ x7 L7 nm _ rfl (A7.out w5 B5.out) w5.heap.size rfl rfl rfl hq7 (Nat.le_trans ZR.out B5.out.size) ?_; intro g8 c8 w8 o8 b8 k8 q8; have O8 := hid o8; have B8 := hid b8; have I8 := hid (A8.out w5 B5.out w8 k8); clear o8 b8 k8 q8) | (at_builtin; refine append_g KI KI_ok rfl _ _ 51 rfl w3.heap.size Tryd.underlying51 w8 _ _ x8 L8 lm _ rfl I8.out w8.heap.size rfl rfl rfl hq8 (Nat.le_trans (Nat.le_trans ZR.out B5.out.size) B8.out.size) ?_; intro g9 c9 w9 o9 b9 k9 q9; have N9 := hid (A9.out w5 B5.out w8 w9 g8 c8 g9 c9 O8.out B8.out I8.out o9 b9 k9); clear o9 b9 k9 q9))
          go_roundw
          case rel => exact ⟨k + 1, Q ++ [k], _, _, _, by go_num, rfl, rfl, rfl, by omega, N9⟩
          case measure => simp [intOf]; omega
    · have hkn : k = n := by omega
      subst hkn
      obtain ⟨F, h1, h2⟩ := P3.out
      have tv := h1.below HS.out.2
      have bl := h2.trans (HS.out.2.mono h1.sz)
      have AD := hid (adv_lim tv bl tk)
      have KP5 : Hid (∀ w5, But F wr w5 → LV w5 w3.heap.size x7 x8 T k Q) := fun w5 q => by
        refine ⟨HS.out.1.o7.far (fun gx hgx => q.block gx (HS.out.1.o7.lt hgx).2 (fun hx => ?_)), HS.out.1.o8.far (fun gx hgx => q.block gx (HS.out.1.o8.lt hgx).2 (fun hx => ?_)), HS.out.1.ok, HS.out.1.ln⟩
        · have := h1.ok.lt hx
          have := (HS.out.1.o7.lt hgx).1
          omega
        · have := h1.ok.lt hx
          have := (HS.out.1.o8.lt hgx).1
          omega
      obtain ⟨p7, c7, e7, _⟩ := HS.out.1.o7.form
      obtain ⟨p8, c8, e8, _⟩ := HS.out.1.o8.form
      rw [List.length_map] at e7 e8
      have hQ : Q.length ≤ 256 := by have := HS.out.1.ln; omega
      subst e7 e8
      obtain ⟨m, hm⟩ : ∃ m, m = Q.length := ⟨_, rfl⟩
      rw [← hm] at hQ KP5 ⊢
      have HM := hid hm
      clear hm tv bl h1 h2 HS O3 P3
      go_upto_region 22 with (go_at_call 15; refine AD.out.mono ?_; rintro e w5 ⟨u, err, U, rfl, herr, q1, q2, q3, q4, q5⟩; have L5 := hid (And.intro (KP5.out w5 q2) q1); have U3 := hid q3; have U4 := hid q4; have U5 := hid q5; clear q1 q2 q3 q4 q5)
      clear AD KP5
      rcases herr with rfl | rfl
      · go_wp2_with fail
        go_loopw [76] (fun v76 wr => ∃ (i : Nat) (wk : World), v76 = .int .i64 i ∧ wk = wr ∧ i ≤ m ∧ Hid (LV wk w3.heap.size (.slice p7 m c7) (.slice p8 m c8) T k Q ∧ PS w0 wk base b U)) (fun v76 _ => m - (intOf v76).toNat)
        case atStart => exact ⟨0, _, rfl, rfl, Nat.zero_le _, L5⟩
        case round =>
          obtain ⟨i, wr, rfl, rfl, hi, HS⟩ := hrel
          clear L5
          by_cases hlt : i < m
          · have hiQ : i < Q.length := by rw [← HM.out]; exact hlt
            obtain ⟨hqT, hqd⟩ := HS.out.1.ok _ (List.getElem_mem hiQ)
            obtain ⟨q, hq⟩ : ∃ q, q = Q[i] := ⟨_, rfl⟩
            rw [← hq] at hqT hqd
            obtain ⟨g7, rfl⟩ := own_at HS.out.1.o7 (by rw [List.length_map]; omega)
            obtain ⟨g8, rfl⟩ := own_at HS.out.1.o8 (by rw [List.length_map]; omega)
            have e7 := ks_cell HS.out.1.o7 (k := i) (s := (T.n q).name) (by simp [hiQ, hq])
            have e8 := ki_cell HS.out.1.o8 (k := i) (s := limT T q q) (by simp [hiQ, hq])
            have hqU : q < U.ns.length := by rw [U3.out]; exact hqT
            obtain ⟨hnp, hns⟩ := HS.out.2.nm hqU
            rw [U4.out] at hnp hns
            have DN := done_ps HS.out.2 _ hns hnp
            have NW : Hid (∀ n, Calls Tryd.prog 21 #[.pointer (some ⟨b, 0, none⟩)] (wr.drewN n) fun e w' => e = .returned (.int .i64 U.now) ∧ w' = wr.drewN n) := fun n => now_ps (HS.out.2.below ⟨rfl, rfl, rfl, Nat.le_refl _, fun _ _ => rfl⟩)
            have iff := (U5.out q hqT hqd).1 (by simp)
            have DR : Hid (∀ n, LV (wr.drewN n) w3.heap.size (.slice (some ⟨g7, 0, none⟩) m c7) (.slice (some ⟨g8, 0, none⟩) m c8) T k Q ∧ PS w0 (wr.drewN n) base b U) := fun n => ⟨HS.out.1.below ⟨rfl, rfl, rfl, Nat.le_refl _, fun _ _ => rfl⟩, HS.out.2.below ⟨rfl, rfl, rfl, Nat.le_refl _, fun _ _ => rfl⟩⟩
            clear HS hnp hq hqT hqd
            generalize (T.n q).name = nm at *
            generalize limT T q q = lm at *
            generalize hnow : U.now = nw at *
            by_cases hdd : q ∈ U.od
            · rw [decide_eq_true hdd] at DN
              have hle := iff.1 hdd
              have DN2 := hid DN
              clear DN iff hdd
              go_wp2_with (go_at_call 17; refine DN2.out.mono ?_; rintro e w6 ⟨rfl, hw6⟩; subst w6)
              go_quiet ((go_at_call 21; exact Calls.quiet_of_same (NW.out _)))
              go_wp2_with fail
              go_roundw
              case rel => exact ⟨i + 1, _, by go_num, rfl, by omega, DR.out _⟩
              case measure => simp [intOf]; omega
            · rw [decide_eq_false hdd] at DN
              have hle : ¬ lm ≤ nw := fun z => hdd (iff.2 z)
              have DN2 := hid DN
              clear DN iff hdd
              go_wp2_with (go_at_call 17; refine DN2.out.mono ?_; rintro e w6 ⟨rfl, hw6⟩; subst w6)
              go_quiet ((go_at_call 21; exact Calls.quiet_of_same (NW.out _)))
              go_wp2_with fail
              go_roundw
              case rel => exact ⟨i + 1, _, by go_num, rfl, by omega, DR.out _⟩
              case measure => simp [intOf]; omega
          · have FF := hid HS.out.2.bl
            clear HS
            go_wp2_with fail
            go_ret
            exact ⟨rfl, FF.out⟩
      · go_wp2_with fail
        go_loopw [76] (fun v76 wr => ∃ (i : Nat) (wk : World), v76 = .int .i64 i ∧ wk = wr ∧ i ≤ m ∧ Hid (LV wk w3.heap.size (.slice p7 m c7) (.slice p8 m c8) T k Q ∧ PS w0 wk base b U)) (fun v76 _ => m - (intOf v76).toNat)
        case atStart => exact ⟨0, _, rfl, rfl, Nat.zero_le _, L5⟩
        case round =>
          obtain ⟨i, wr, rfl, rfl, hi, HS⟩ := hrel
          clear L5
          by_cases hlt : i < m
          · have hiQ : i < Q.length := by rw [← HM.out]; exact hlt
            obtain ⟨hqT, hqd⟩ := HS.out.1.ok _ (List.getElem_mem hiQ)
            obtain ⟨q, hq⟩ : ∃ q, q = Q[i] := ⟨_, rfl⟩
            rw [← hq] at hqT hqd
            obtain ⟨g7, rfl⟩ := own_at HS.out.1.o7 (by rw [List.length_map]; omega)
            have e7 := ks_cell HS.out.1.o7 (k := i) (s := (T.n q).name) (by simp [hiQ, hq])
            have hqU : q < U.ns.length := by rw [U3.out]; exact hqT
            obtain ⟨hnp, hns⟩ := HS.out.2.nm hqU
            rw [U4.out] at hnp hns
            have DN := done_ps HS.out.2 _ hns hnp
            rw [decide_eq_false ((U5.out q hqT hqd).2 (by simp))] at DN
            have DN2 := hid DN
            have DR : Hid (∀ n, LV (wr.drewN n) w3.heap.size (.slice (some ⟨g7, 0, none⟩) m c7) (.slice p8 m c8) T k Q ∧ PS w0 (wr.drewN n) base b U) := fun n => ⟨HS.out.1.below ⟨rfl, rfl, rfl, Nat.le_refl _, fun _ _ => rfl⟩, HS.out.2.below ⟨rfl, rfl, rfl, Nat.le_refl _, fun _ _ => rfl⟩⟩
            clear HS hnp hq hqT hqd DN
            generalize (T.n q).name = nm at *
            go_wp2_with (go_at_call 17; refine DN2.out.mono ?_; rintro e w6 ⟨rfl, hw6⟩; subst w6)
            go_quiet (fail)
            go_wp2_with fail
            go_roundw
            case rel => exact ⟨i + 1, _, by go_num, rfl, by omega, DR.out _⟩
            case measure => simp [intOf]; omega
          · have FF := hid HS.out.2.bl
            clear HS
            go_wp2_with fail
            go_ret
            exact ⟨rfl, FF.out⟩
end Go.Proofs.YtkebflllbphkkaaDoor
