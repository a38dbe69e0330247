/- Failures: the reference's First. -/
import Derived.Test.YtaleagkhblokgaaDoorIx5
namespace Go.Proofs.YtaleagkhblokgaaDoor
open Go.RowKit

def AnsQ (w w' : World) (e : Ending) (l : List Cr) (x : Int) : Prop := ∃ p cap, e = .returned (.tuple #[.slice p l.length cap, .int .i64 x]) ∧ CS w' (.slice p l.length cap) l ∧ Below w.heap.size w w'
theorem ansQ_nil {w w' : World} {l : List Cr} {x : Int} (hl : l = []) (b : Below w.heap.size w w') : AnsQ w w' (.returned (.tuple #[.slice none 0 0, .int .i64 x])) l x := by
  subst hl; exact ⟨none, 0, rfl, Or.inl ⟨Or.inl rfl, rfl⟩, b⟩
theorem desc_len : ∀ (T : List Int) (n : Int), 0 ≤ n → (∀ t ∈ T, 0 ≤ t ∧ t < n) → T.Pairwise (fun a b => b < a) → (T.length : Int) ≤ n
  | [], n, h, _, _ => by simpa using h
  | a :: r, n, h, hm, hp => by
    rw [List.pairwise_cons] at hp
    have ha := hm a (by simp)
    have := desc_len r a ha.1 (fun t ht => ⟨(hm t (by simp [ht])).1, hp.1 t ht⟩) hp.2
    simp; omega
theorem DF.len {n : Nat} {f : Int → Int} {D : Int → List Int} {F : Int} {T : List Int} (h : TR n f D) (d : DF n f F T) : T.length ≤ n := by
  have := desc_len T n (by omega) d.m (List.Pairwise.imp_of_mem (fun ha hb hlt => by
    have := d.m _ ha
    have := (h.b _ this.1 this.2).2
    omega) d.s)
  omega
theorem DF.last {n : Nat} {f : Int → Int} {F : Int} {T : List Int} (d : DF n f F T) : ∃ T0 a, T = T0 ++ [a] := by
  obtain ⟨t, ht, _⟩ := d.c
  have hne : T ≠ [] := fun e => by rw [e] at ht; cases ht
  exact ⟨T.dropLast, T.getLast hne, (List.dropLast_concat_getLast hne).symm⟩
/-- The reference's search. -/
structure RF (w wk : World) (l : List Cr) (F : Int) (va : Value) (T : List Int) : Prop where
  bl : Below w.heap.size w wk
  s : OwnI wk w.heap.size va T
  d : DF l.length (frA (whA l)) F T
set_option maxHeartbeats 8000000 in
set_option maxRecDepth 100000 in
theorem rfirst_any (v : Value) (l : List Cr) (k : Int) (w : World) (h : CS w v l) (ht : ∀ c ∈ l, c.text.size ≤ maxLen) (hlm : l.length ≤ 1000000000000000) :
    Calls Tryd.prog 25 #[v, .int .i64 k] w fun e w' => AnsQ w w' e (firL l k) (firE l k) := by
  have CK := rhas_any v l k w h ht hlm
  obtain ⟨p, cap, rfl⟩ := h.form
  by_cases hc : hasE l k = 0
  · have hc0 : chk l = 0 := by
      unfold hasE at hc
      split at hc
      · rename_i h0; exact h0
      · exact hc
    have eB : hasB l k = hasK l k := by unfold hasB; rw [hc]; simp
    rw [hc, eB] at CK
    have e1 : firE l k = if hasK l k = true then 0 else 4 := by unfold firE; rw [if_pos hc]
    cases hk : hasK l k with
    | false =>
      have e2 : firE l k = 4 := by rw [e1, hk]; rfl
      have e3 : firL l k = [] := by unfold firL; rw [e2]; rfl
      rw [hk] at CK
      rw [e2, e3]
      clear h ht hc hc0 e1 e2 e3 hk eB
      go_enter Tryd.func25, Tryd.ntmps25
      go_wp2_with fail
      refine CK.mono ?_
      rintro e w1 ⟨rfl, hb1⟩
      have B1 : Hid (Below w.heap.size w w1) := hb1
      clear hb1 CK
      go_wp2_with fail
      go_ret2
      exact ansQ_nil rfl B1.out
    | true =>
      have e2 : firE l k = 0 := by rw [e1, hk]; rfl
      have e3 : firL l k = subL l (firS l k l.length).toNat := by unfold firL; rw [if_pos e2]
      rw [hk] at CK
      rw [e2, e3]
      have hl := (chk_ok hc0).1
      have HS : Hid (CS w (.slice p l.length cap) l) := h
      have HTR : Hid (TR l.length (frA (whA l)) (ptA (whA l))) := whA_TR hc0
      have HFS : Hid (FST l.length (frA (whA l)) (fun x => knd l x.toNat = k) (firS l k l.length)) := fir_FST hk
      obtain ⟨hl0, hall⟩ := whA_all hc0
      have RP : Hid (∀ w', Below w.heap.size w w' → ∀ n, n < l.length → _) := fun w' b n hn => rparts_new (.slice p l.length cap) l n w' (h.below b) ht hc0 hn
      have RS : Hid (∀ w', Below w.heap.size w w' → ∀ n, n < l.length → _) := fun w' b n hn => rsub_ok (.slice p l.length cap) l n w' (h.below b) ht hc0 hn
      obtain ⟨F, hF⟩ : ∃ F, F = firS l k l.length := ⟨_, rfl⟩
      rw [← hF] at HFS ⊢
      obtain ⟨N, hN⟩ : ∃ N, l.length = N + 1 := ⟨l.length - 1, by omega⟩
      have DF0 : Hid (DF l.length (frA (whA l)) F [(N : Int)]) := by
        have := DF.begin HFS.out.r hall
        rw [show (l.length : Int) - 1 = (N : Int) by omega] at this
        exact this
      have hNi : ((l.length : Int) - 1) = (N : Int) := by omega
      clear h ht hc hc0 e1 e2 e3 hk eB hF hall hN
      go_enter Tryd.func25, Tryd.ntmps25
      go_wp2_with fail
      refine CK.mono ?_
      rintro e w1 ⟨rfl, hb1⟩
      have B1 : Hid (Below w.heap.size w w1) := hb1
      clear hb1 CK
      go_wp2
      have R0 : Hid (RF w (w1.alloc (.cells #[.int .i64 (N : Int)] 3)) l F (.slice (some ⟨w1.heap.size, 0, none⟩) 1 1) [(N : Int)]) := ⟨B1.out.alloc B1.out.size _, (ownI_one w1 _).low B1.out.size, DF0.out⟩
      go_loopg [8] (muT (frA (whA l)) [(N : Int)]) (fun gk a wl => ∃ (va : Value) (T : List Int) (wk : World), va = a ∧ wk = wl ∧ Hid (gk = muT (frA (whA l)) T) ∧ Hid (RF w wk l F va T))
      case atStart => exact ⟨_, [(N : Int)], _, rfl, rfl, rfl, R0⟩
      case round =>
        obtain ⟨va, T, wr, rfl, rfl, HK, HR⟩ := hrel
        clear R0 DF0
        obtain ⟨T0, a, hT⟩ := HR.out.d.last
        have hab := HR.out.d.m a (by rw [hT]; simp)
        obtain ⟨A, rfl⟩ : ∃ A : Nat, a = A := ⟨a.toNat, by omega⟩
        have hAl : A < l.length := by omega
        have hTl := DF.len HTR.out HR.out.d
        subst hT
        have HS0 := HR.out.s
        obtain ⟨pv, cv, hva⟩ := HS0.form
        subst hva
        obtain ⟨g, rfl, hgc, hgl⟩ := HS0.somewhat (by simp)
        have cA := own_cell HS0 rfl (j := T0.length) (by simp)
        have eA : (T0 ++ [(A : Int)]).getD T0.length 0 = A := by simp [List.getD]
        rw [eA] at cA
        have C0 : Hid (OwnI wr w.heap.size (.slice (some ⟨g, 0, none⟩) T0.length cv) T0) := by
          show OwnI _ _ _ _
          have := HS0.cut T0.length (by simp)
          rw [List.take_append_of_le_length (Nat.le_refl _), List.take_length] at this
          exact this
        have hlen : (T0 ++ [(A : Int)]).length = T0.length + 1 := by simp
        rw [hlen] at hTl hgc ⊢
        obtain ⟨X, o, rfl, x1, x2, x3⟩ := (HS.out.below HR.out.bl).at hAl
        have HIT : Hid ((l[A].kind == k) = true → (A : Int) = F) := fun hh => DF.hit HTR.out HFS.out HR.out.d (by show knd l A = k; rw [knd_at hAl]; simpa using hh)
        have MISS : Hid ((l[A].kind == k) = false → DF l.length (frA (whA l)) F (T0 ++ (ptA (whA l) A).reverse) ∧ muT (frA (whA l)) (T0 ++ (ptA (whA l) A).reverse) < gk) := fun hh => by
          have hne : (A : Int) ≠ F := fun e => by
            have h1 := HFS.out.k
            rw [← e] at h1
            have h2 : knd l A = k := h1
            rw [knd_at hAl] at h2
            simp [h2] at hh
          exact ⟨DF.miss HTR.out HR.out.d hne, by rw [HK.out]; exact DF.less hl HTR.out HR.out.d⟩
        have BW : Hid (Below w.heap.size w wr) := HR.out.bl
        obtain ⟨f, hf⟩ : ∃ f, f = l[A] := ⟨_, rfl⟩
        rw [← hf] at x1 x2 x3 HIT MISS
        clear hf HS0 HR HK eA hab hlen
        cases hr : (f.kind == k) with
        | true =>
          have hAF := HIT.out hr
          subst hAF
          have RSA := RS.out wr BW.out A hAl
          clear HIT MISS RS RP C0
          go_wp2_with fail
          refine RSA.mono ?_
          rintro e w5 ⟨p5, c5, rfl, hi5, hb5⟩
          have B5 : Hid (Below w.heap.size w w5) := BW.out.trans (hb5.mono BW.out.size)
          have I5 : Hid (CS w5 (.slice p5 (subL l A).length c5) (subL l A)) := hi5
          clear hi5 hb5 RSA
          go_wp2_with fail
          go_ret2
          exact ⟨_, _, rfl, I5.out, B5.out⟩
        | false =>
          have MS : Hid _ := MISS.out hr
          have RPA := RP.out wr BW.out A hAl
          have hPl : Hid (((whA l).getD A (0, [])).2.length ≤ 1024) := by
            have := (whA_PB l A (by rw [whA_len]; exact hAl)).1
            show _ ≤ _; omega
          have hP2 : Hid (ptA (whA l) A = ((whA l).getD A (0, [])).2) := rfl
          obtain ⟨P, hP⟩ : ∃ P, P = ((whA l).getD A (0, [])).2 := ⟨_, rfl⟩
          rw [← hP] at RPA hPl hP2
          rw [hP2.out] at MS
          clear HIT MISS RS RP hP hP2
          go_wp2_with fail
          refine RPA.mono ?_
          rintro e w5 ⟨p5, c5, rfl, hi5, hb5, hx5⟩
          have B5 : Hid (Below w.heap.size w w5) := BW.out.trans (hb5.mono BW.out.size)
          have I5 : Hid (IS w5 (.slice p5 P.length c5) P) := hi5
          have C5 : Hid (OwnI w5 w.heap.size (.slice (some ⟨g, 0, none⟩) T0.length cv) T0) := C0.out.below hb5
          have X5 : Hid (∀ x, (Value.slice p5 P.length c5).ownBlock = some x → (Value.slice (some ⟨g, 0, none⟩) T0.length cv).ownBlock ≠ some x) := fun x hx e => by
            have h1 := hx5 x hx
            injection e with e
            have e2 : g = x := e
            omega
          have E0 : Hid (T0 = T0 ++ (P.drop P.length).reverse) := by show _ = _; simp
          clear hi5 hb5 hx5 RPA C0
          have hPi : P.length ≤ 1024 := hPl.out
          go_wp2
          go_loopw [8, 11] (fun a b wl => ∃ (r : Nat) (i : Int) (va : Value) (T : List Int) (wk : World), r ≤ P.length ∧ b = .int .i64 i ∧ i = r - 1 ∧ va = a ∧ wk = wl ∧ Hid (T = T0 ++ (P.drop r).reverse) ∧ Hid (OwnI wk w.heap.size va T) ∧ Hid (IS wk (.slice p5 P.length c5) P) ∧ Hid (∀ x, (Value.slice p5 P.length c5).ownBlock = some x → va.ownBlock ≠ some x) ∧ Hid (Below w.heap.size w wk)) (fun _ b _ => (intOf b + 1).toNat)
          case atStart => exact ⟨P.length, _, _, T0, _, Nat.le_refl _, rfl, rfl, rfl, rfl, E0, C5, I5, X5, B5⟩
          case round =>
            obtain ⟨r, i, va, T, wq, hrr, rfl, hi, rfl, rfl, HT, HO, HI, HX, HB⟩ := hrel
            clear E0 C5 I5 X5 B5
            cases r with
            | zero =>
              obtain rfl : i = -1 := by omega
              have hT : T = T0 ++ P.reverse := by have := HT.out; simpa using this
              clear hi HT
              have RN : Hid (RF w wq l F va T ∧ muT (frA (whA l)) T < gk) := by
                rw [hT] at HO ⊢
                exact ⟨⟨HB.out, HO.out, MS.out.1⟩, MS.out.2⟩
              clear HO HI HX HB hT MS
              go_wp2
              go_roundg (muT (frA (whA l)) T)
              case measure => exact RN.out.2
              case rel => exact ⟨_, T, _, rfl, rfl, rfl, RN.out.1⟩
            | succ r' =>
              obtain rfl : i = (r' : Int) := by omega
              clear hi
              have hrP : r' < P.length := by omega
              obtain ⟨Xp, op, rfl, cp⟩ := HI.out.at hrP
              have HTn : Hid (T ++ [P.getD r' 0] = T0 ++ (P.drop r').reverse) := by
                show _ = _
                have e2 : P.getD r' 0 = P[r'] := by simp [List.getD, hrP]
                rw [HT.out, List.drop_eq_getElem_cons hrP, List.reverse_cons, e2]; simp
              have LN : Hid (T.length ≤ 100000) := by
                show T.length ≤ 100000
                have h1 := HT.out
                rw [h1]; simp
                omega
              have ZB : Hid (w.heap.size ≤ wq.heap.size) := HB.out.size
              obtain ⟨y, hy⟩ : ∃ y, y = P.getD r' 0 := ⟨_, rfl⟩
              rw [← hy] at cp HTn
              have NXT : Hid (∀ g1 c1 w6, OwnI w6 w.heap.size (.slice (some ⟨g1, 0, none⟩) (T.length + 1) c1) (T ++ [y]) → Below w.heap.size wq w6 → (∀ k, k < wq.heap.size → some k ≠ va.ownBlock → w6.heap[k]? = wq.heap[k]?) → (va.ownBlock = some g1 ∨ wq.heap.size ≤ g1) → IS w6 (.slice (some ⟨Xp, op, none⟩) P.length c5) P ∧ (∀ x, (Value.slice (some ⟨Xp, op, none⟩) P.length c5).ownBlock = some x → (Value.slice (some ⟨g1, 0, none⟩) (T.length + 1) c1).ownBlock ≠ some x) ∧ Below w.heap.size w w6) := fun g1 c1 w6 ho hb hk6 hg6 => by
                have hXl : Xp < wq.heap.size := block_lt_of_cell cp
                have hXv := HX.out Xp rfl
                refine ⟨HI.out.blk hb.size (fun a n c e => ?_), fun x hx e => ?_, HB.out.trans hb⟩
                · injection e with e _ _; injection e with e; subst e
                  exact hk6 Xp hXl (fun e => hXv e.symm)
                · injection hx with hx
                  injection e with e
                  have e2 : Xp = x := hx
                  have e3 : g1 = x := e
                  rcases hg6 with h6 | h6
                  · exact hXv (by rw [h6, e3, e2])
                  · omega
              clear hy HT HI HX
              go_wp2_with (at_builtin; refine append_int rfl (.tmp 61) (.tmp 66) 25 rfl w.heap.size Tryd.underlying25 info_int _ _ _ va T y _ rfl HO.out _ rfl rfl rfl LN.out ZB.out ?_; intro g1 c1 w6 ho6 hb6 hk6 hg6)
              go_roundw
              case rel => exact ⟨r', _, _, _, _, by omega, rfl, by go_num, rfl, rfl, HTn, ho6, (NXT.out _ _ _ ho6 hb6 hk6 hg6).1, (NXT.out _ _ _ ho6 hb6 hk6 hg6).2.1, (NXT.out _ _ _ ho6 hb6 hk6 hg6).2.2⟩
              case measure => simp [intOf]
  · have e1 : firE l k = hasE l k := by unfold firE; rw [if_neg hc]
    have e2 : firL l k = [] := by unfold firL; rw [e1, if_neg hc]
    have eB : hasB l k = false := by unfold hasB; simp [hc]
    rw [eB] at CK
    rw [e1, e2]
    clear h ht e1 e2 eB
    generalize hasE l k = c at *
    have h1 : (c == 0) = false := by simpa using hc
    have h2 : (c != 0) = true := by simpa using hc
    go_enter Tryd.func25, Tryd.ntmps25
    go_wp2_with fail
    refine CK.mono ?_
    rintro e w1 ⟨rfl, hb1⟩
    have B1 : Hid (Below w.heap.size w w1) := hb1
    clear hb1 CK
    go_wp2_with fail
    go_ret2
    exact ansQ_nil rfl B1.out
end Go.Proofs.YtaleagkhblokgaaDoor
