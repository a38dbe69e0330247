/- Retry, the document's breakers: Tell. -/
import Derived.Test.YtddnagoljdhnlaaXr4
namespace Go.Proofs.Ytddnagoljdhnlaa
open Go.RowKit

theorem lkp_snoc (l : List (Int × Int)) (x : Int × Int) (t : Int) (h : lkp l t = none ∨ x.1 ≠ t) : lkp (l ++ [x]) t = if x.1 = t then some x.2 else lkp l t := by
  induction l with
  | nil => simp [lkp]
  | cons y r ih =>
    rw [List.cons_append, lkp, lkp]
    by_cases e : y.1 = t
    · rw [if_pos e, if_pos e]
      rcases h with h | h
      · rw [lkp, if_pos e] at h; cases h
      · rw [if_neg h]
    · rw [if_neg e, if_neg e]
      refine ih (h.imp (fun h => ?_) id)
      rw [lkp, if_neg e] at h; exact h
theorem lkp_take {l : List (Int × Int)} (hd : DK l) (t : Int) {j : Nat} (hj : j < l.length) : lkp (l.take (j + 1)) t = if l[j].1 = t then some l[j].2 else lkp (l.take j) t := by
  rw [List.take_succ_eq_append_getElem hj]
  refine lkp_snoc _ _ _ ?_
  by_cases e : l[j].1 = t
  · refine Or.inl (lkp_none (fun x hx q => ?_))
    obtain ⟨i, hi, rfl⟩ := List.getElem_of_mem hx
    have hij : i < j := by simp at hi; omega
    have := List.pairwise_iff_getElem.1 hd i j (by omega) hj hij
    simp at q
    exact this (q.trans e.symm)
  · exact Or.inr e
theorem rmv_take (l : List (Int × Int)) (t : Int) {j : Nat} (hj : j < l.length) : rmv (l.take (j + 1)) t = rmv (l.take j) t ++ (if l[j].1 = t then [] else [l[j]]) := by
  unfold rmv
  rw [List.take_succ_eq_append_getElem hj, List.filter_append]
  congr 1
  by_cases e : l[j].1 = t <;> simp [e]
theorem GS.atK {w : World} {p : Option Addr} {n cap k : Nat} {l : List (Int × Int)} (h : GS KW w (.slice p n cap) l) (hk : k < l.length) : ∃ X o, p = some ⟨X, o, none⟩ ∧ X < w.heap.size ∧ w.cell? ⟨X, o + k * 2, none⟩ = some (.int .i64 l[k].1) ∧ w.cell? ⟨X, o + k * 2 + 1, none⟩ = some (.int .i64 l[k].2) := by
  obtain ⟨X, o, h1, h3, h2⟩ := GS.at h hk
  exact ⟨X, o, h1, h3, h2 0 _ rfl, h2 1 _ rfl⟩
/-- What the document's Tell leaves. -/
def RtR (w : World) (k : Bk) (p : Option Addr) (ln cp : Nat) (t : Int) (f : Bool) (a : Int) (e : Ending) (w' : World) : Prop := ∃ p' n' c', e = .returned (.tuple #[rbV (telX k t f a) (.slice p' n' c'), .int .i64 (telE k t a)]) ∧ n' = (telX k t f a).ways.length ∧ (GS KW w' (.slice p' n' c') (telX k t f a).ways ∧ ((.slice p' n' c') = Value.slice p ln cp ∨ OwnG KW w' (w.heap.size + 2) (.slice p' n' c') (telX k t f a).ways)) ∧ Below w.heap.size w w'
set_option maxHeartbeats 16000000 in
set_option maxRecDepth 100000 in
theorem rtell_any (w : World) (k : Bk) (C : Int) (hi : KI2 C k) (hC : C ≤ 1000000000000000000) (p : Option Addr) (ln cp : Nat) (hln : ln = k.ways.length) (hv : GS KW w (.slice p ln cp) k.ways) (t : Int) (f : Bool) (a : Int) : Calls Try.prog 11 #[rbV k (.slice p ln cp), .int .i64 t, .bool f, .int .i64 a] w fun e w' => RtR w k p ln cp t f a e w' := by
  have TD := hid (fun w' => rtimed_any w' k (.slice p ln cp) a)
  have R0 := hid (R2.new w (rbA k (.slice p ln cp)))
  have RX : Hid (∀ e w', RtR w k p ln cp t f a e w' = ∃ p' n' c', e = .returned (.tuple #[rbV (telX k t f a) (.slice p' n' c'), .int .i64 (telE k t a)]) ∧ n' = (telX k t f a).ways.length ∧ (GS KW w' (.slice p' n' c') (telX k t f a).ways ∧ ((.slice p' n' c') = Value.slice p ln cp ∨ OwnG KW w' (w.heap.size + 2) (.slice p' n' c') (telX k t f a).ways)) ∧ Below w.heap.size w w') := fun _ _ => rfl
  have HI := hid hi
  have HV := hid hv
  have HLN := hid hln
  have hlen : ln ≤ 1024 := by have := hi.len; omega
  have NX := hid (fun j (hj : j < k.ways.length) => lkp_take hi.dk t hj)
  have NR := hid (fun j (hj : j < k.ways.length) => rmv_take k.ways t hj)
  generalize hRR : RtR w k p ln cp t f a = RR at *
  clear hRR hv hi hln
  have RS0 : Hid (R2 w (rbA k (.slice p ln cp)) (((w.alloc (.cells (rbA k (.slice p ln cp)) 30)).alloc (.cells zB 30)).alloc (.cells #[] 63))) := R0.out.call (bal _ _)
  have OE0 : Hid (OwnG KW (((w.alloc (.cells (rbA k (.slice p ln cp)) 30)).alloc (.cells zB 30)).alloc (.cells #[] 63)) (w.heap.size + 2) (.slice (some ⟨w.heap.size + 1 + 1, 0, none⟩) 0 0) (rmv (k.ways.take 0) t)) := by
    have h := OwnG.empty KW ((w.alloc (.cells (rbA k (.slice p ln cp)) 30)).alloc (.cells zB 30))
    rw [show ((w.alloc (.cells (rbA k (.slice p ln cp)) 30)).alloc (.cells zB 30)).heap.size = w.heap.size + 1 + 1 by simp] at h
    exact h
  have K0 : Hid (lkp (k.ways.take 0) t = none) := by show _ = _; simp [lkp]
  obtain ⟨kl, kr, ks, ko, ku, kn, kt, km, kw⟩ := k
  simp only [rbV, rbA, zB] at *
  go_enter Try.func11, Try.ntmps11
  go_wp2_with fail
  go_loopw [10, 11, 12, 13] (fun v10 v11 v12 v13 wr => ∃ (j : Nat) (q : Option Int) (vl : Value) (wk : World), v13 = .int .i64 j ∧ v10 = .int .i64 (q.getD 0) ∧ v11 = .bool q.isSome ∧ vl = v12 ∧ wk = wr ∧ j ≤ ln ∧ Hid (lkp (kw.take j) t = q) ∧ Hid (R2 w #[.int .i64 kl, .int .i64 kr, .int .i64 ks, .int .i64 kn, .int .i64 ko, .int .i64 ku, .int .i64 kt, .int .i64 km, .slice p ln cp] wk) ∧ Hid (OwnG KW wk (w.heap.size + 2) vl (rmv (kw.take j) t))) (fun _ _ _ v13 _ => ln - (intOf v13).toNat)
  case atStart => exact ⟨0, none, _, _, rfl, rfl, rfl, rfl, rfl, Nat.zero_le _, K0, RS0, OE0⟩
  case round =>
    obtain ⟨j, q, vl, wr, rfl, rfl, rfl, rfl, rfl, hj, HQ, HR, HO⟩ := hrel
    clear K0 RS0 OE0 R0
    obtain ⟨g0, g1, g2, g3, g4, g5, g6, g7, g8⟩ := cells9 HR.out.p
    by_cases hlt : j < ln
    · have hjl : j < kw.length := by rw [← HLN.out]; exact hlt
      obtain ⟨X, o, e1, zx, x0, x1⟩ := (HV.out.below HR.out.bel).atK hjl
      obtain rfl : p = some ⟨X, o, none⟩ := e1
      have NQ := hid (NX.out j hjl)
      have NN := hid (NR.out j hjl)
      have LS : Hid (((rmv (kw.take j) t).length + 1) * KW.B ≤ 140737488355328) := by
        have h1 : (rmv (kw.take j) t).length ≤ (kw.take j).length := List.length_filter_le _ _
        have h2 : (kw.take j).length ≤ j := by simp; omega
        show ((rmv (kw.take j) t).length + 1) * 16 ≤ _
        omega
      have ZW : Hid (w.heap.size + 2 ≤ wr.heap.size) := HR.out.lt
      generalize kw[j] = x at *
      obtain ⟨xn, xo⟩ := x
      simp only at *
      by_cases he : xn = t
      · rw [if_pos he] at NQ NN
        rw [List.append_nil] at NN
        subst he
        have HQ2 := NQ
        have HO2 : Hid (OwnG KW wr (w.heap.size + 2) vl (rmv (kw.take (j + 1)) xn)) := by show OwnG _ _ _ _ _; rw [NN.out]; exact HO.out
        clear NQ NN LS
        go_wp2_with fail
        go_roundw
        case rel => exact ⟨j + 1, some xo, _, _, by go_num, rfl, rfl, rfl, rfl, by omega, HQ2, HR, HO2⟩
        case measure => simp [intOf]; omega
      · rw [if_neg he] at NQ NN
        have b1 : (xn == t) = false := by simpa using he
        have HQ2 : Hid (lkp (kw.take (j + 1)) t = q) := by show _ = _; rw [NQ.out]; exact HQ.out
        generalize hrl : rmv (kw.take j) t = rl at *
        clear he NQ hrl
        go_wp2_with (at_builtin; refine append_g KW KW_ok rfl (.tmp 37) (.tmp 43) 28 rfl (w.heap.size + 2) Try.underlying28 _ _ _ vl rl (xn, xo) _ rfl HO.out _ rfl rfl rfl LS.out ZW.out ?_; intro g4 c4 w4 ho4 hb4 hk4 hg4)
        have HR2 := hid (HR.out.grow hb4)
        have HO2 : Hid (OwnG KW w4 (w.heap.size + 2) (.slice (some ⟨g4, 0, none⟩) (rl.length + 1) c4) (rmv (kw.take (j + 1)) t)) := by show OwnG _ _ _ _ _; rw [NN.out]; exact ho4
        clear ho4 hb4 hk4 hg4 NN
        go_roundw
        case rel => exact ⟨j + 1, q, _, _, by go_num, rfl, rfl, rfl, rfl, by omega, HQ2, HR2, HO2⟩
        case measure => simp [intOf]; omega
    · obtain rfl : j = ln := by omega
      rw [List.take_of_length_le (by have := HLN.out; omega)] at HQ HO
      obtain ⟨pv, cv, hvl, _⟩ := HO.out.form
      subst hvl
      obtain ⟨nv, hnv⟩ : ∃ nv, nv = (rmv kw t).length := ⟨_, rfl⟩
      have NV := hid hnv
      rw [← hnv] at HO
      rw [← hnv]
      clear hnv NX NR
      cases q with
      | none =>
        have E := hid (tel_no (k := ({ lim := kl, rst := kr, st := ks, row := ko, unt := ku, trn := kn, lst := kt, trs := km, ways := kw } : Bk)) HQ.out f a)
        have FI : Hid (∀ w', Below w.heap.size w w' → OwnG KW w' (w.heap.size + 2) (.slice pv nv cv) (rmv kw t) → RR (.returned (.tuple #[.agg #[.int .i64 kl, .int .i64 kr, .int .i64 ks, .int .i64 kn, .int .i64 ko, .int .i64 ku, .int .i64 kt, .int .i64 km, .slice p j cp], .int .i64 4])) w') := fun w' hb _ => by
          rw [RX.out]
          refine ⟨p, j, cp, ?_, ?_, ?_, hb⟩
          · rw [E.out.1, E.out.2]
          · rw [E.out.2]; exact HLN.out
          · rw [E.out.2]; exact ⟨HV.out.below hb, Or.inl rfl⟩
        clear E RX g0 g1 g2 g3 g4 g5 g6 g7 g8
        have h9 := set9 HR.out.q (.int .i64 kl) (.int .i64 kr) (.int .i64 ks) (.int .i64 kn) (.int .i64 ko) (.int .i64 ku) (.int .i64 kt) (.int .i64 km) (.slice p j cp)
        have hB9 := below9 HR.out.bel (Nat.le_succ _) (.int .i64 kl) (.int .i64 kr) (.int .i64 ks) (.int .i64 kn) (.int .i64 ko) (.int .i64 ku) (.int .i64 kt) (.int .i64 km) (.slice p j cp)
        have hO9 := own9 HO.out (show w.heap.size + 1 < w.heap.size + 2 by omega) (.int .i64 kl) (.int .i64 kr) (.int .i64 ks) (.int .i64 kn) (.int .i64 ko) (.int .i64 ku) (.int .i64 kt) (.int .i64 km) (.slice p j cp)
        obtain ⟨g0, g1, g2, g3, g4, g5, g6, g7, g8⟩ := cells9 HR.out.p
        obtain ⟨z0, z1, z2, z3, z4, z5, z6, z7, z8⟩ := cells9 HR.out.q
        have fq := frz HR.out.p
        have fr := frz HR.out.q
        go_wp2_with fail
        generalize hVV : World.setCell _ ⟨_, 8, none⟩ _ = VV at h9 hB9 hO9 ⊢
        clear hVV
        obtain ⟨y0, y1, y2, y3, y4, y5, y6, y7, y8⟩ := cells9 h9
        refine bodyPost_ret (v := .tuple #[.agg #[.int .i64 kl, .int .i64 kr, .int .i64 ks, .int .i64 kn, .int .i64 ko, .int .i64 ku, .int .i64 kt, .int .i64 km, .slice p j cp], .int .i64 4]) (by simp [results, Try.results11, go_sem, y0, y1, y2, y3, y4, y5, y6, y7, y8]) rfl ?_
        exact FI.out _ hB9 hO9
      | some of =>
        by_cases htd : tdE ({ lim := kl, rst := kr, st := ks, row := ko, unt := ku, trn := kn, lst := kt, trs := km, ways := kw } : Bk) a = 0
        · have E := hid (tel_ok (k := ({ lim := kl, rst := kr, st := ks, row := ko, unt := ku, trn := kn, lst := kt, trs := km, ways := kw } : Bk)) (t := t) (by show lkp kw t ≠ none; rw [HQ.out]; simp) f htd)
          rw [htd] at TD
          have TB : 0 ≤ a ∧ a ≤ 1099511627776 := by
            unfold tdE at htd
            by_cases hq : timB a = false
            · rw [if_pos hq] at htd; cases htd
            · simp only [timB] at hq; simpa using hq
          clear htd
          simp only at E
          go_upto_region 16 with (go_at_call 20; refine (TD.out _).mono ?_; rintro e w1 ⟨rfl, hb⟩; have R1 := hid (HR.out.call hb); have O1 := hid (HO.out.below hb); obtain ⟨g0, g1, g2, g3, g4, g5, g6, g7, g8⟩ := cells9 R1.out.p; have fq := frz R1.out.p; clear hb)
          generalize hS : World.setCell (World.setCell _ ⟨_, 8, none⟩ _) ⟨_, 6, none⟩ _ = w4
          have R4 : Hid (R2 w #[.int .i64 kl, .int .i64 kr, .int .i64 ks, .int .i64 kn, .int .i64 ko, .int .i64 ku, .int .i64 a, .int .i64 km, .slice pv nv cv] w4) := by rw [← hS]; exact (R1.out.set 8 _).set 6 _
          have O4 : Hid (OwnG KW w4 (w.heap.size + 2) (.slice pv nv cv) (rmv kw t)) := by rw [← hS]; exact (O1.out.setB (by omega)).setB (by omega)
          have FI : Hid (∀ w', Below w.heap.size w w' → OwnG KW w' (w.heap.size + 2) (.slice pv nv cv) (rmv kw t) → ∀ K', telX ({ lim := kl, rst := kr, st := ks, row := ko, unt := ku, trn := kn, lst := kt, trs := km, ways := kw } : Bk) t f a = K' → K'.ways = rmv kw t → RR (.returned (.tuple #[rbV K' (.slice pv nv cv), .int .i64 0])) w') := fun w' hb ho K' hK' hw => by
            rw [RX.out, E.out.1, hK', hw]
            exact ⟨pv, nv, cv, rfl, NV.out, ⟨ho.gs KW_ok.len, Or.inr ho⟩, hb⟩
          clear hS g0 g1 g2 g3 g4 g5 g6 g7 g8 fq R1 O1 TD HR HO RX HV HLN NV
          have hst := HI.out.st
          have hrow := HI.out.row
          have hlim := HI.out.lim
          have hrst := HI.out.rst
          have htrn := HI.out.trn
          simp only at hst hrow hlim hrst htrn
          by_cases hof : of = kn
          · have hs2 : ks ≠ 2 := fun q => by
              have h1 := HI.out.opn q _ (lkp_mem HQ.out)
              simp only at h1
              omega
            have EX0 : Hid (telX ({ lim := kl, rst := kr, st := ks, row := ko, unt := ku, trn := kn, lst := kt, trs := km, ways := kw } : Bk) t f a = hdX ({ lim := kl, rst := kr, st := ks, row := ko, unt := ku, trn := kn, lst := a, trs := km, ways := rmv kw t } : Bk) f) := by show telX _ _ _ _ = _; rw [E.out.2, if_pos (by rw [HQ.out, hof])]
            have b1 : (of == kn) = true := by simpa using hof
            have b2 : (of != kn) = false := by simpa using hof
            clear E HI HQ hof
            have TU := hid (fun w' s u => rturned_any w' ({ lim := kl, rst := kr, st := ks, row := ko, unt := ku, trn := kn, lst := a, trs := km, ways := rmv kw t } : Bk) pv nv cv (by show 0 ≤ kn ∧ kn ≤ _; omega) s u)
            have TU1 := hid (fun w' s u => rturned_any w' ({ lim := kl, rst := kr, st := ks, row := (ko + 1), unt := ku, trn := kn, lst := a, trs := km, ways := rmv kw t } : Bk) pv nv cv (by show 0 ≤ kn ∧ kn ≤ _; omega) s u)
            simp only [rbV, rbA, Bk.turn] at TU TU1
            by_cases h3 : ks = 3
            · subst h3
              cases f with
              | true =>
                have EX : Hid (telX ({ lim := kl, rst := kr, st := 3, row := ko, unt := ku, trn := kn, lst := kt, trs := km, ways := kw } : Bk) t true a = ({ lim := kl, rst := kr, st := 1, row := 0, unt := 0, trn := kn + 1, lst := a, trs := km, ways := rmv kw t } : Bk)) := by show telX _ _ _ _ = _; rw [EX0.out, hd_f2 (show (3 : Int) ≠ 1 by decide)]; rfl
                clear TU1 EX0
                obtain ⟨g0, g1, g2, g3, g4, g5, g6, g7, g8⟩ := cells9 R4.out.p
                obtain ⟨z0, z1, z2, z3, z4, z5, z6, z7, z8⟩ := cells9 R4.out.q
                have fq := frz R4.out.p
                have fr := frz R4.out.q
                go_wp2_with (go_at_call 21; refine (TU.out _ _ _).mono ?_; rintro e w5 ⟨rfl, hb⟩; have R5 := hid (R4.out.call hb); have O5 := hid (O4.out.below hb); clear hb g0 g1 g2 g3 g4 g5 g6 g7 g8 z0 z1 z2 z3 z4 z5 z6 z7 z8 fq fr; obtain ⟨g0, g1, g2, g3, g4, g5, g6, g7, g8⟩ := cells9 R5.out.p; obtain ⟨z0, z1, z2, z3, z4, z5, z6, z7, z8⟩ := cells9 R5.out.q; have fq := frz R5.out.p; have fr := frz R5.out.q; have h9 := set9 R5.out.q (.int .i64 kl) (.int .i64 kr) (.int .i64 1) (.int .i64 (kn + 1)) (.int .i64 0) (.int .i64 0) (.int .i64 a) (.int .i64 km) (.slice pv nv cv); have hB9 := below9 R5.out.bel (Nat.le_succ _) (.int .i64 kl) (.int .i64 kr) (.int .i64 1) (.int .i64 (kn + 1)) (.int .i64 0) (.int .i64 0) (.int .i64 a) (.int .i64 km) (.slice pv nv cv); have hO9 := own9 O5.out (show w.heap.size + 1 < w.heap.size + 2 by omega) (.int .i64 kl) (.int .i64 kr) (.int .i64 1) (.int .i64 (kn + 1)) (.int .i64 0) (.int .i64 0) (.int .i64 a) (.int .i64 km) (.slice pv nv cv))
                generalize hVV : World.setCell _ ⟨_, 8, none⟩ _ = VV at h9 hB9 hO9 ⊢
                clear hVV
                obtain ⟨y0, y1, y2, y3, y4, y5, y6, y7, y8⟩ := cells9 h9
                refine bodyPost_ret (v := .tuple #[.agg #[.int .i64 kl, .int .i64 kr, .int .i64 1, .int .i64 (kn + 1), .int .i64 0, .int .i64 0, .int .i64 a, .int .i64 km, .slice pv nv cv], .int .i64 0]) (by simp [results, Try.results11, go_sem, y0, y1, y2, y3, y4, y5, y6, y7, y8]) rfl ?_
                exact FI.out _ hB9 hO9 _ EX.out rfl
              | false =>
                have EX : Hid (telX ({ lim := kl, rst := kr, st := 3, row := ko, unt := ku, trn := kn, lst := kt, trs := km, ways := kw } : Bk) t false a = ({ lim := kl, rst := kr, st := 2, row := 0, unt := min (a + kr) 1099511627776, trn := kn + 1, lst := a, trs := km, ways := rmv kw t } : Bk)) := by show telX _ _ _ _ = _; rw [EX0.out, hd_n2 (fun q => absurd q.1 (show (3 : Int) ≠ 1 by decide))]; rfl
                clear TU1 EX0
                by_cases hm : 1099511627776 < a + kr
                · have hm2 : ¬ a + kr ≤ 1099511627776 := by omega
                  rw [show min (a + kr) 1099511627776 = 1099511627776 by omega] at EX
                  obtain ⟨g0, g1, g2, g3, g4, g5, g6, g7, g8⟩ := cells9 R4.out.p
                  obtain ⟨z0, z1, z2, z3, z4, z5, z6, z7, z8⟩ := cells9 R4.out.q
                  have fq := frz R4.out.p
                  have fr := frz R4.out.q
                  go_wp2_with (go_at_call 21; refine (TU.out _ _ _).mono ?_; rintro e w5 ⟨rfl, hb⟩; have R5 := hid (R4.out.call hb); have O5 := hid (O4.out.below hb); clear hb g0 g1 g2 g3 g4 g5 g6 g7 g8 z0 z1 z2 z3 z4 z5 z6 z7 z8 fq fr; obtain ⟨g0, g1, g2, g3, g4, g5, g6, g7, g8⟩ := cells9 R5.out.p; obtain ⟨z0, z1, z2, z3, z4, z5, z6, z7, z8⟩ := cells9 R5.out.q; have fq := frz R5.out.p; have fr := frz R5.out.q; have h9 := set9 R5.out.q (.int .i64 kl) (.int .i64 kr) (.int .i64 2) (.int .i64 (kn + 1)) (.int .i64 0) (.int .i64 1099511627776) (.int .i64 a) (.int .i64 km) (.slice pv nv cv); have hB9 := below9 R5.out.bel (Nat.le_succ _) (.int .i64 kl) (.int .i64 kr) (.int .i64 2) (.int .i64 (kn + 1)) (.int .i64 0) (.int .i64 1099511627776) (.int .i64 a) (.int .i64 km) (.slice pv nv cv); have hO9 := own9 O5.out (show w.heap.size + 1 < w.heap.size + 2 by omega) (.int .i64 kl) (.int .i64 kr) (.int .i64 2) (.int .i64 (kn + 1)) (.int .i64 0) (.int .i64 1099511627776) (.int .i64 a) (.int .i64 km) (.slice pv nv cv))
                  generalize hVV : World.setCell _ ⟨_, 8, none⟩ _ = VV at h9 hB9 hO9 ⊢
                  clear hVV
                  obtain ⟨y0, y1, y2, y3, y4, y5, y6, y7, y8⟩ := cells9 h9
                  refine bodyPost_ret (v := .tuple #[.agg #[.int .i64 kl, .int .i64 kr, .int .i64 2, .int .i64 (kn + 1), .int .i64 0, .int .i64 1099511627776, .int .i64 a, .int .i64 km, .slice pv nv cv], .int .i64 0]) (by simp [results, Try.results11, go_sem, y0, y1, y2, y3, y4, y5, y6, y7, y8]) rfl ?_
                  exact FI.out _ hB9 hO9 _ EX.out rfl
                · have hm2 : a + kr ≤ 1099511627776 := by omega
                  rw [show min (a + kr) 1099511627776 = (a + kr) by omega] at EX
                  obtain ⟨g0, g1, g2, g3, g4, g5, g6, g7, g8⟩ := cells9 R4.out.p
                  obtain ⟨z0, z1, z2, z3, z4, z5, z6, z7, z8⟩ := cells9 R4.out.q
                  have fq := frz R4.out.p
                  have fr := frz R4.out.q
                  go_wp2_with (go_at_call 21; refine (TU.out _ _ _).mono ?_; rintro e w5 ⟨rfl, hb⟩; have R5 := hid (R4.out.call hb); have O5 := hid (O4.out.below hb); clear hb g0 g1 g2 g3 g4 g5 g6 g7 g8 z0 z1 z2 z3 z4 z5 z6 z7 z8 fq fr; obtain ⟨g0, g1, g2, g3, g4, g5, g6, g7, g8⟩ := cells9 R5.out.p; obtain ⟨z0, z1, z2, z3, z4, z5, z6, z7, z8⟩ := cells9 R5.out.q; have fq := frz R5.out.p; have fr := frz R5.out.q; have h9 := set9 R5.out.q (.int .i64 kl) (.int .i64 kr) (.int .i64 2) (.int .i64 (kn + 1)) (.int .i64 0) (.int .i64 (a + kr)) (.int .i64 a) (.int .i64 km) (.slice pv nv cv); have hB9 := below9 R5.out.bel (Nat.le_succ _) (.int .i64 kl) (.int .i64 kr) (.int .i64 2) (.int .i64 (kn + 1)) (.int .i64 0) (.int .i64 (a + kr)) (.int .i64 a) (.int .i64 km) (.slice pv nv cv); have hO9 := own9 O5.out (show w.heap.size + 1 < w.heap.size + 2 by omega) (.int .i64 kl) (.int .i64 kr) (.int .i64 2) (.int .i64 (kn + 1)) (.int .i64 0) (.int .i64 (a + kr)) (.int .i64 a) (.int .i64 km) (.slice pv nv cv))
                  generalize hVV : World.setCell _ ⟨_, 8, none⟩ _ = VV at h9 hB9 hO9 ⊢
                  clear hVV
                  obtain ⟨y0, y1, y2, y3, y4, y5, y6, y7, y8⟩ := cells9 h9
                  refine bodyPost_ret (v := .tuple #[.agg #[.int .i64 kl, .int .i64 kr, .int .i64 2, .int .i64 (kn + 1), .int .i64 0, .int .i64 (a + kr), .int .i64 a, .int .i64 km, .slice pv nv cv], .int .i64 0]) (by simp [results, Try.results11, go_sem, y0, y1, y2, y3, y4, y5, y6, y7, y8]) rfl ?_
                  exact FI.out _ hB9 hO9 _ EX.out rfl
            · have hs1 : ks = 1 := by omega
              subst hs1
              cases f with
              | true =>
                have EX : Hid (telX ({ lim := kl, rst := kr, st := 1, row := ko, unt := ku, trn := kn, lst := kt, trs := km, ways := kw } : Bk) t true a = ({ lim := kl, rst := kr, st := 1, row := 0, unt := ku, trn := kn, lst := a, trs := km, ways := rmv kw t } : Bk)) := by show telX _ _ _ _ = _; rw [EX0.out, hd_f1 rfl]
                clear TU TU1 EX0
                obtain ⟨g0, g1, g2, g3, g4, g5, g6, g7, g8⟩ := cells9 R4.out.p
                obtain ⟨z0, z1, z2, z3, z4, z5, z6, z7, z8⟩ := cells9 R4.out.q
                have fq := frz R4.out.p
                have fr := frz R4.out.q
                go_upto_region 24 with fail
                generalize hS : World.setCell _ ⟨_, 4, none⟩ _ = w5
                have R5 : Hid (R2 w #[.int .i64 kl, .int .i64 kr, .int .i64 1, .int .i64 kn, .int .i64 0, .int .i64 ku, .int .i64 a, .int .i64 km, .slice pv nv cv] w5) := by rw [← hS]; exact R4.out.set 4 _
                have O5 : Hid (OwnG KW w5 (w.heap.size + 2) (.slice pv nv cv) (rmv kw t)) := by rw [← hS]; exact O4.out.setB (by omega)
                clear hS R4 O4 g0 g1 g2 g3 g4 g5 g6 g7 g8 z0 z1 z2 z3 z4 z5 z6 z7 z8 fq fr
                obtain ⟨g0, g1, g2, g3, g4, g5, g6, g7, g8⟩ := cells9 R5.out.p
                obtain ⟨z0, z1, z2, z3, z4, z5, z6, z7, z8⟩ := cells9 R5.out.q
                have fq := frz R5.out.p
                have fr := frz R5.out.q
                have h9 := set9 R5.out.q (.int .i64 kl) (.int .i64 kr) (.int .i64 1) (.int .i64 kn) (.int .i64 0) (.int .i64 ku) (.int .i64 a) (.int .i64 km) (.slice pv nv cv)
                have hB9 := below9 R5.out.bel (Nat.le_succ _) (.int .i64 kl) (.int .i64 kr) (.int .i64 1) (.int .i64 kn) (.int .i64 0) (.int .i64 ku) (.int .i64 a) (.int .i64 km) (.slice pv nv cv)
                have hO9 := own9 O5.out (show w.heap.size + 1 < w.heap.size + 2 by omega) (.int .i64 kl) (.int .i64 kr) (.int .i64 1) (.int .i64 kn) (.int .i64 0) (.int .i64 ku) (.int .i64 a) (.int .i64 km) (.slice pv nv cv)
                go_wp2_with fail
                generalize hVV : World.setCell _ ⟨_, 8, none⟩ _ = VV at h9 hB9 hO9 ⊢
                clear hVV
                obtain ⟨y0, y1, y2, y3, y4, y5, y6, y7, y8⟩ := cells9 h9
                refine bodyPost_ret (v := .tuple #[.agg #[.int .i64 kl, .int .i64 kr, .int .i64 1, .int .i64 kn, .int .i64 0, .int .i64 ku, .int .i64 a, .int .i64 km, .slice pv nv cv], .int .i64 0]) (by simp [results, Try.results11, go_sem, y0, y1, y2, y3, y4, y5, y6, y7, y8]) rfl ?_
                exact FI.out _ hB9 hO9 _ EX.out rfl
              | false =>
                obtain ⟨g0, g1, g2, g3, g4, g5, g6, g7, g8⟩ := cells9 R4.out.p
                obtain ⟨z0, z1, z2, z3, z4, z5, z6, z7, z8⟩ := cells9 R4.out.q
                have fq := frz R4.out.p
                have fr := frz R4.out.q
                go_upto_region 26 with fail
                generalize hS : World.setCell _ ⟨_, 4, none⟩ _ = w5
                have R6 : Hid (R2 w #[.int .i64 kl, .int .i64 kr, .int .i64 1, .int .i64 kn, .int .i64 (ko + 1), .int .i64 ku, .int .i64 a, .int .i64 km, .slice pv nv cv] w5) := by rw [← hS]; exact R4.out.set 4 _
                have O6 : Hid (OwnG KW w5 (w.heap.size + 2) (.slice pv nv cv) (rmv kw t)) := by rw [← hS]; exact O4.out.setB (by omega)
                clear hS R4 O4 g0 g1 g2 g3 g4 g5 g6 g7 g8 z0 z1 z2 z3 z4 z5 z6 z7 z8 fq fr
                by_cases hrl : ko + 1 = kl
                · have EX : Hid (telX ({ lim := kl, rst := kr, st := 1, row := ko, unt := ku, trn := kn, lst := kt, trs := km, ways := kw } : Bk) t false a = ({ lim := kl, rst := kr, st := 2, row := 0, unt := min (a + kr) 1099511627776, trn := kn + 1, lst := a, trs := km, ways := rmv kw t } : Bk)) := by show telX _ _ _ _ = _; rw [EX0.out, hd_n2 (fun q => absurd q.2 (show ¬ ko + 1 < kl by omega))]; rfl
                  have b3 : (ko + 1 == kl) = true := by simpa using hrl
                  clear TU EX0
                  have TU := TU1
                  clear TU1 hrl hrow
                  generalize ko + 1 = ro at *
                  by_cases hm : 1099511627776 < a + kr
                  · have hm2 : ¬ a + kr ≤ 1099511627776 := by omega
                    rw [show min (a + kr) 1099511627776 = 1099511627776 by omega] at EX
                    obtain ⟨g0, g1, g2, g3, g4, g5, g6, g7, g8⟩ := cells9 R6.out.p
                    obtain ⟨z0, z1, z2, z3, z4, z5, z6, z7, z8⟩ := cells9 R6.out.q
                    have fq := frz R6.out.p
                    have fr := frz R6.out.q
                    go_wp2_with (go_at_call 21; refine (TU.out _ _ _).mono ?_; rintro e w5 ⟨rfl, hb⟩; have R5 := hid (R6.out.call hb); have O5 := hid (O6.out.below hb); clear hb g0 g1 g2 g3 g4 g5 g6 g7 g8 z0 z1 z2 z3 z4 z5 z6 z7 z8 fq fr; obtain ⟨g0, g1, g2, g3, g4, g5, g6, g7, g8⟩ := cells9 R5.out.p; obtain ⟨z0, z1, z2, z3, z4, z5, z6, z7, z8⟩ := cells9 R5.out.q; have fq := frz R5.out.p; have fr := frz R5.out.q; have h9 := set9 R5.out.q (.int .i64 kl) (.int .i64 kr) (.int .i64 2) (.int .i64 (kn + 1)) (.int .i64 0) (.int .i64 1099511627776) (.int .i64 a) (.int .i64 km) (.slice pv nv cv); have hB9 := below9 R5.out.bel (Nat.le_succ _) (.int .i64 kl) (.int .i64 kr) (.int .i64 2) (.int .i64 (kn + 1)) (.int .i64 0) (.int .i64 1099511627776) (.int .i64 a) (.int .i64 km) (.slice pv nv cv); have hO9 := own9 O5.out (show w.heap.size + 1 < w.heap.size + 2 by omega) (.int .i64 kl) (.int .i64 kr) (.int .i64 2) (.int .i64 (kn + 1)) (.int .i64 0) (.int .i64 1099511627776) (.int .i64 a) (.int .i64 km) (.slice pv nv cv))
                    generalize hVV : World.setCell _ ⟨_, 8, none⟩ _ = VV at h9 hB9 hO9 ⊢
                    clear hVV
                    obtain ⟨y0, y1, y2, y3, y4, y5, y6, y7, y8⟩ := cells9 h9
                    refine bodyPost_ret (v := .tuple #[.agg #[.int .i64 kl, .int .i64 kr, .int .i64 2, .int .i64 (kn + 1), .int .i64 0, .int .i64 1099511627776, .int .i64 a, .int .i64 km, .slice pv nv cv], .int .i64 0]) (by simp [results, Try.results11, go_sem, y0, y1, y2, y3, y4, y5, y6, y7, y8]) rfl ?_
                    exact FI.out _ hB9 hO9 _ EX.out rfl
                  · have hm2 : a + kr ≤ 1099511627776 := by omega
                    rw [show min (a + kr) 1099511627776 = (a + kr) by omega] at EX
                    obtain ⟨g0, g1, g2, g3, g4, g5, g6, g7, g8⟩ := cells9 R6.out.p
                    obtain ⟨z0, z1, z2, z3, z4, z5, z6, z7, z8⟩ := cells9 R6.out.q
                    have fq := frz R6.out.p
                    have fr := frz R6.out.q
                    go_wp2_with (go_at_call 21; refine (TU.out _ _ _).mono ?_; rintro e w5 ⟨rfl, hb⟩; have R5 := hid (R6.out.call hb); have O5 := hid (O6.out.below hb); clear hb g0 g1 g2 g3 g4 g5 g6 g7 g8 z0 z1 z2 z3 z4 z5 z6 z7 z8 fq fr; obtain ⟨g0, g1, g2, g3, g4, g5, g6, g7, g8⟩ := cells9 R5.out.p; obtain ⟨z0, z1, z2, z3, z4, z5, z6, z7, z8⟩ := cells9 R5.out.q; have fq := frz R5.out.p; have fr := frz R5.out.q; have h9 := set9 R5.out.q (.int .i64 kl) (.int .i64 kr) (.int .i64 2) (.int .i64 (kn + 1)) (.int .i64 0) (.int .i64 (a + kr)) (.int .i64 a) (.int .i64 km) (.slice pv nv cv); have hB9 := below9 R5.out.bel (Nat.le_succ _) (.int .i64 kl) (.int .i64 kr) (.int .i64 2) (.int .i64 (kn + 1)) (.int .i64 0) (.int .i64 (a + kr)) (.int .i64 a) (.int .i64 km) (.slice pv nv cv); have hO9 := own9 O5.out (show w.heap.size + 1 < w.heap.size + 2 by omega) (.int .i64 kl) (.int .i64 kr) (.int .i64 2) (.int .i64 (kn + 1)) (.int .i64 0) (.int .i64 (a + kr)) (.int .i64 a) (.int .i64 km) (.slice pv nv cv))
                    generalize hVV : World.setCell _ ⟨_, 8, none⟩ _ = VV at h9 hB9 hO9 ⊢
                    clear hVV
                    obtain ⟨y0, y1, y2, y3, y4, y5, y6, y7, y8⟩ := cells9 h9
                    refine bodyPost_ret (v := .tuple #[.agg #[.int .i64 kl, .int .i64 kr, .int .i64 2, .int .i64 (kn + 1), .int .i64 0, .int .i64 (a + kr), .int .i64 a, .int .i64 km, .slice pv nv cv], .int .i64 0]) (by simp [results, Try.results11, go_sem, y0, y1, y2, y3, y4, y5, y6, y7, y8]) rfl ?_
                    exact FI.out _ hB9 hO9 _ EX.out rfl
                · have EX : Hid (telX ({ lim := kl, rst := kr, st := 1, row := ko, unt := ku, trn := kn, lst := kt, trs := km, ways := kw } : Bk) t false a = ({ lim := kl, rst := kr, st := 1, row := ko + 1, unt := ku, trn := kn, lst := a, trs := km, ways := rmv kw t } : Bk)) := by show telX _ _ _ _ = _; rw [EX0.out, hd_n1 rfl (show ko + 1 < kl by omega)]
                  have b3 : (ko + 1 == kl) = false := by simpa using hrl
                  clear TU TU1 EX0
                  obtain ⟨g0, g1, g2, g3, g4, g5, g6, g7, g8⟩ := cells9 R6.out.p
                  obtain ⟨z0, z1, z2, z3, z4, z5, z6, z7, z8⟩ := cells9 R6.out.q
                  have fq := frz R6.out.p
                  have fr := frz R6.out.q
                  have h9 := set9 R6.out.q (.int .i64 kl) (.int .i64 kr) (.int .i64 1) (.int .i64 kn) (.int .i64 (ko + 1)) (.int .i64 ku) (.int .i64 a) (.int .i64 km) (.slice pv nv cv)
                  have hB9 := below9 R6.out.bel (Nat.le_succ _) (.int .i64 kl) (.int .i64 kr) (.int .i64 1) (.int .i64 kn) (.int .i64 (ko + 1)) (.int .i64 ku) (.int .i64 a) (.int .i64 km) (.slice pv nv cv)
                  have hO9 := own9 O6.out (show w.heap.size + 1 < w.heap.size + 2 by omega) (.int .i64 kl) (.int .i64 kr) (.int .i64 1) (.int .i64 kn) (.int .i64 (ko + 1)) (.int .i64 ku) (.int .i64 a) (.int .i64 km) (.slice pv nv cv)
                  go_wp2_with fail
                  generalize hVV : World.setCell _ ⟨_, 8, none⟩ _ = VV at h9 hB9 hO9 ⊢
                  clear hVV
                  obtain ⟨y0, y1, y2, y3, y4, y5, y6, y7, y8⟩ := cells9 h9
                  refine bodyPost_ret (v := .tuple #[.agg #[.int .i64 kl, .int .i64 kr, .int .i64 1, .int .i64 kn, .int .i64 (ko + 1), .int .i64 ku, .int .i64 a, .int .i64 km, .slice pv nv cv], .int .i64 0]) (by simp [results, Try.results11, go_sem, y0, y1, y2, y3, y4, y5, y6, y7, y8]) rfl ?_
                  exact FI.out _ hB9 hO9 _ EX.out rfl
          · have EX : Hid (telX ({ lim := kl, rst := kr, st := ks, row := ko, unt := ku, trn := kn, lst := kt, trs := km, ways := kw } : Bk) t f a = ({ lim := kl, rst := kr, st := ks, row := ko, unt := ku, trn := kn, lst := a, trs := km, ways := rmv kw t } : Bk)) := by show telX _ _ _ _ = _; rw [E.out.2, if_neg (by rw [HQ.out]; intro q; injection q with q; exact hof q)]
            have b1 : (of == kn) = false := by simpa using hof
            have b2 : (of != kn) = true := by simpa using hof
            clear E HI HQ
            obtain ⟨g0, g1, g2, g3, g4, g5, g6, g7, g8⟩ := cells9 R4.out.p
            obtain ⟨z0, z1, z2, z3, z4, z5, z6, z7, z8⟩ := cells9 R4.out.q
            have fq := frz R4.out.p
            have fr := frz R4.out.q
            have h9 := set9 R4.out.q (.int .i64 kl) (.int .i64 kr) (.int .i64 ks) (.int .i64 kn) (.int .i64 ko) (.int .i64 ku) (.int .i64 a) (.int .i64 km) (.slice pv nv cv)
            have hB9 := below9 R4.out.bel (Nat.le_succ _) (.int .i64 kl) (.int .i64 kr) (.int .i64 ks) (.int .i64 kn) (.int .i64 ko) (.int .i64 ku) (.int .i64 a) (.int .i64 km) (.slice pv nv cv)
            have hO9 := own9 O4.out (show w.heap.size + 1 < w.heap.size + 2 by omega) (.int .i64 kl) (.int .i64 kr) (.int .i64 ks) (.int .i64 kn) (.int .i64 ko) (.int .i64 ku) (.int .i64 a) (.int .i64 km) (.slice pv nv cv)
            go_wp2_with fail
            generalize hVV : World.setCell _ ⟨_, 8, none⟩ _ = VV at h9 hB9 hO9 ⊢
            clear hVV
            obtain ⟨y0, y1, y2, y3, y4, y5, y6, y7, y8⟩ := cells9 h9
            refine bodyPost_ret (v := .tuple #[.agg #[.int .i64 kl, .int .i64 kr, .int .i64 ks, .int .i64 kn, .int .i64 ko, .int .i64 ku, .int .i64 a, .int .i64 km, .slice pv nv cv], .int .i64 0]) (by simp [results, Try.results11, go_sem, y0, y1, y2, y3, y4, y5, y6, y7, y8]) rfl ?_
            exact FI.out _ hB9 hO9 _ EX.out rfl
        · have E := hid (tel_t (k := ({ lim := kl, rst := kr, st := ks, row := ko, unt := ku, trn := kn, lst := kt, trs := km, ways := kw } : Bk)) (t := t) (by show lkp kw t ≠ none; rw [HQ.out]; simp) f htd)
          generalize tdE ({ lim := kl, rst := kr, st := ks, row := ko, unt := ku, trn := kn, lst := kt, trs := km, ways := kw } : Bk) a = er at *
          have b1 : (er == 0) = false := by simpa using htd
          have b2 : (er != 0) = true := by simpa using htd
          have FI : Hid (∀ w', Below w.heap.size w w' → OwnG KW w' (w.heap.size + 2) (.slice pv nv cv) (rmv kw t) → RR (.returned (.tuple #[.agg #[.int .i64 kl, .int .i64 kr, .int .i64 ks, .int .i64 kn, .int .i64 ko, .int .i64 ku, .int .i64 kt, .int .i64 km, .slice p j cp], .int .i64 er])) w') := fun w' hb _ => by
            rw [RX.out]
            refine ⟨p, j, cp, ?_, ?_, ?_, hb⟩
            · rw [E.out.1, E.out.2]
            · rw [E.out.2]; exact HLN.out
            · rw [E.out.2]; exact ⟨HV.out.below hb, Or.inl rfl⟩
          clear E RX htd
          go_upto_region 13 with (go_at_call 20; refine (TD.out _).mono ?_; rintro e w1 ⟨rfl, hb⟩; have R1 := hid (HR.out.call hb); have O1 := hid (HO.out.below hb); obtain ⟨g0, g1, g2, g3, g4, g5, g6, g7, g8⟩ := cells9 R1.out.p; have fq := frz R1.out.p; clear hb)
          clear g0 g1 g2 g3 g4 g5 g6 g7 g8 fq
          have h9 := set9 R1.out.q (.int .i64 kl) (.int .i64 kr) (.int .i64 ks) (.int .i64 kn) (.int .i64 ko) (.int .i64 ku) (.int .i64 kt) (.int .i64 km) (.slice p j cp)
          have hB9 := below9 R1.out.bel (Nat.le_succ _) (.int .i64 kl) (.int .i64 kr) (.int .i64 ks) (.int .i64 kn) (.int .i64 ko) (.int .i64 ku) (.int .i64 kt) (.int .i64 km) (.slice p j cp)
          have hO9 := own9 O1.out (show w.heap.size + 1 < w.heap.size + 2 by omega) (.int .i64 kl) (.int .i64 kr) (.int .i64 ks) (.int .i64 kn) (.int .i64 ko) (.int .i64 ku) (.int .i64 kt) (.int .i64 km) (.slice p j cp)
          obtain ⟨g0, g1, g2, g3, g4, g5, g6, g7, g8⟩ := cells9 R1.out.p
          obtain ⟨z0, z1, z2, z3, z4, z5, z6, z7, z8⟩ := cells9 R1.out.q
          have fq := frz R1.out.p
          have fr := frz R1.out.q
          go_wp2_with fail
          generalize hVV : World.setCell _ ⟨_, 8, none⟩ _ = VV at h9 hB9 hO9 ⊢
          clear hVV
          obtain ⟨y0, y1, y2, y3, y4, y5, y6, y7, y8⟩ := cells9 h9
          refine bodyPost_ret (v := .tuple #[.agg #[.int .i64 kl, .int .i64 kr, .int .i64 ks, .int .i64 kn, .int .i64 ko, .int .i64 ku, .int .i64 kt, .int .i64 km, .slice p j cp], .int .i64 er]) (by simp [results, Try.results11, go_sem, y0, y1, y2, y3, y4, y5, y6, y7, y8]) rfl ?_
          exact FI.out _ hB9 hO9
end Go.Proofs.Ytddnagoljdhnlaa
