/- Failures: the printer's tell, walked. -/
import Derived.Test.YtaleagkhblokgaaDoorJx2
namespace Go.Proofs.YtaleagkhblokgaaDoor
open Go.RowKit

mutual
def szF : Ft → Nat
  | .nd _ _ ps => szL ps + 1
def szL : List Ft → Nat
  | [] => 0
  | t :: r => szF t + szL r
end
theorem szL_mem : ∀ (ps : List Ft) (i : Nat) (hi : i < ps.length), szF ps[i] ≤ szL ps
  | [], i, hi => by simp at hi
  | t :: r, 0, _ => by rw [szL]; simp
  | t :: r, i + 1, hi => by
    have := szL_mem r i (by simpa using hi)
    rw [szL]; simp; omega
/-- What the printer looks at. -/
structure PS (ws : World) (vf : Value) (g : Nat) (l : List Cr) (A : List (Int × List Int)) : Prop where
  fv : FV ws
  cs : CS ws vf l
  ok : ∀ c ∈ l, crB c = true
  la : A.length = l.length
  ll : l.length ≤ 1024
  wc : ∀ j, j < l.length → ∃ vp, ws.cell? ⟨g, j * 2 + 1, none⟩ = some vp ∧ IS ws vp (A.getD j (0, [])).2
theorem PS.below {ws w' : World} {vf : Value} {g : Nat} {l : List Cr} {A : List (Int × List Int)} (h : PS ws vf g l A) (b : Below ws.heap.size ws w') : PS w' vf g l A :=
  ⟨h.fv.below b, h.cs.below b, h.ok, h.la, h.ll, fun j hj => by
    obtain ⟨vp, h1, h2⟩ := h.wc j hj
    exact ⟨vp, (b.cell (p := ⟨g, _, none⟩) (block_lt_of_cell h1)).trans h1, h2.below b⟩⟩
/-- What was told, and what else stays. -/
def Told (pb : Nat) (w w' : World) (vf vw : Value) (F : List UInt8) : Prop := ∃ tv', PR pb w' vf vw tv' F ∧ KT pb w w'
theorem Told.mk' {pb : Nat} {w w' : World} {vf vw tv' : Value} {F : List UInt8} (h : PR pb w' vf vw tv' F) (k : KT pb w w') : Told pb w w' vf vw F := ⟨tv', h, k⟩
def TellsAt (ws : World) (vf : Value) (g : Nat) (l : List Cr) (A : List (Int × List Int)) (n : Nat) : Prop := ∀ (t : Ft) (j : Nat) (wk : World) (tv : Value) (bs : List UInt8), szF t ≤ n → AtT l A t j → PR ws.heap.size wk vf (.slice (some ⟨g, 0, none⟩) l.length l.length) tv bs → Below ws.heap.size ws wk → bs.length + (prF t).length ≤ 10000000000 →
    Calls Tryd.prog 46 #[.pointer (some ⟨ws.heap.size, 0, none⟩), .int .i64 j] wk fun e w' => e = .returned (.tuple #[]) ∧ Told ws.heap.size wk w' vf (.slice (some ⟨g, 0, none⟩) l.length l.length) (bs ++ prF t)
theorem nameB_len {s : ByteArray} (h : nameB s = true) : s.size ≤ 24 := by
  unfold nameB localB at h
  simp only [Bool.and_eq_true, decide_eq_true_eq] at h
  have := h.1.1
  simpa using this
theorem wd_size : ∀ x ∈ wd, x.size ≤ 5 := by decide
theorem inB_size {s : ByteArray} (h : inB wd s = true) : s.size ≤ 5 := by
  unfold inB at h
  rw [List.any_eq_true] at h
  obtain ⟨x, hx, he⟩ := h
  have h1 := wd_size x hx
  have h2 : x.toList = s.toList := by simpa using he
  have h3 := congrArg List.length h2
  simp only [ByteArray.toList_eq] at h3
  simp at h3
  omega
/-- No crack's text is long. -/
theorem crB_text {c : Cr} (h : crB c = true) : c.text.size ≤ 4096 := by
  unfold crB at h
  simp only [Bool.and_eq_true] at h
  have h1 := h.2
  unfold txT at h1
  split at h1
  · simpa using h1
  · split at h1
    · have := inB_size h1; omega
    · split at h1
      · have := nameB_len h1; omega
      · have : c.text.size = 0 := by simpa using h1
        omega
theorem lay_at (W : World) (pb cx : Nat) (vf vw tv : Value) (bs : List UInt8) (T : List ByteArray) (arr : Array Value) (ha : arr.toList = sV T) (h : PR pb W vf vw tv bs) (hl : bs.length + (catB T).length ≤ 100000000000) (hT : T.length ≤ 1000) (b : Nat) (hb : b = W.heap.size) :
    Calls Tryd.prog 60 #[.pointer (some ⟨pb, 0, none⟩), .slice (some ⟨b, 0, none⟩) T.length cx] (W.alloc (.cells arr 9)) fun e w' => e = .returned (.tuple #[]) ∧ ∃ tv', PR pb w' vf vw tv' (bs ++ catB T) ∧ KT pb W w' := by
  subst hb
  have B : Below W.heap.size W (W.alloc (.cells arr 9)) := (Below.refl _ _).alloc (Nat.le_refl _) _
  exact Calls.mono (lay_any _ pb W.heap.size cx vf vw tv bs T arr (h.below B) (heap_alloc_new _ _) ha hl hT) fun e w' ⟨h1, tv', h2, h3⟩ => ⟨h1, tv', h2, (KT.of_below B).trans h3⟩
set_option maxHeartbeats 8000000 in
set_option maxRecDepth 100000 in
theorem tell_step (ws : World) (vf : Value) (g : Nat) (l : List Cr) (A : List (Int × List Int)) (h : PS ws vf g l A) (n : Nat) (ih : TellsAt ws vf g l A n) : TellsAt ws vf g l A (n + 1) := by
  intro t j wk tv bs hsz hat hpr hbl hlen
  obtain ⟨k, tx, ps⟩ := t
  rw [AtT] at hat
  obtain ⟨hjA, hjl, hps⟩ := hat
  have hj : j < l.length := by have := h.la; omega
  have hS := h.below hbl
  have hok := h.ok _ (List.mem_of_getElem? hjl)
  have hkK : isK k = true := by unfold crB at hok; simp only [Bool.and_eq_true] at hok; exact hok.1.1
  obtain ⟨p, cap, rfl⟩ := h.cs.form
  obtain ⟨X, o, rfl, x1, x2, x3⟩ := hS.cs.at hj
  have hjl2 : l[j] = ⟨k, (ps.length : Nat), tx⟩ := by rw [List.getElem?_eq_getElem hj] at hjl; exact Option.some.inj hjl
  rw [hjl2] at x1 x2 x3
  simp only at x1 x2 x3
  have hXl := block_lt_of_cell x1
  obtain ⟨m, hm, hm2, q0, q1, q2, q3, q4, q5, q6⟩ := row_cells (hS.fv.rows.below ((Below.refl _ _).alloc (Nat.le_refl _) (.cells #[.int .i64 k, .int .i64 (ps.length : Nat), .string tx] 55))) hkK
  have hx := frow_text k hkK
  rw [prF] at hlen ⊢
  generalize frow k = R at *
  obtain ⟨F, hF⟩ : ∃ F, F = bs ++ (R.word.data.toList ++ (txtF R.text tx ++ (if ps.length = 0 then [] else R.op.data.toList ++ (prL R.bt true ps ++ R.en.data.toList)))) := ⟨_, rfl⟩
  rw [← hF]
  obtain ⟨W2, hW2⟩ : ∃ W2, W2 = (wk.alloc (.cells #[.int .i64 k, .int .i64 (ps.length : Nat), .string tx] 55)).alloc (.cells #[.string R.word, .int .i64 R.text, .int .i64 R.least, .int .i64 R.most, .string R.op, .string R.bt, .string R.en] 88) := ⟨_, rfl⟩
  have BW2 : Below wk.heap.size wk W2 := by rw [hW2]; exact ((Below.refl _ _).alloc (Nat.le_refl _) _).alloc (by simp) _
  subst hm
  have c0 := hpr.c0
  have HPR : Hid (PR ws.heap.size W2 (.slice (some ⟨X, o, none⟩) l.length cap) (.slice (some ⟨g, 0, none⟩) l.length l.length) tv bs) := hpr.below BW2
  have KW : Hid (KT ws.heap.size wk W2) := KT.of_below BW2
  have BLW : Hid (Below ws.heap.size ws W2) := hbl.trans (BW2.mono hbl.size)
  have PLT : Hid (ws.heap.size < W2.heap.size) := HPR.out.lt
  have CBW : W2.heap[wk.heap.size]? = some (.cells #[.int .i64 (m : Int), .int .i64 (ps.length : Nat), .string tx] 55) := by
    rw [hW2, heap_alloc_old _ _ (by simp)]; exact heap_alloc_new _ _
  have RBW : W2.heap[wk.heap.size + 1]? = some (.cells #[.string R.word, .int .i64 R.text, .int .i64 R.least, .int .i64 R.most, .string R.op, .string R.bt, .string R.en] 88) := by
    rw [hW2]
    have := heap_alloc_new (wk.alloc (.cells #[.int .i64 (m : Int), .int .i64 (ps.length : Nat), .string tx] 55)) (.cells #[.string R.word, .int .i64 R.text, .int .i64 R.least, .int .i64 R.most, .string R.op, .string R.bt, .string R.en] 88)
    simpa using this
  have hpw : ws.heap.size < wk.heap.size := hpr.lt
  have CKP : Hid (∀ w', KT ws.heap.size W2 w' → w'.heap[wk.heap.size]? = some (.cells #[.int .i64 (m : Int), .int .i64 (ps.length : Nat), .string tx] 55)) := fun w' kt => kt.keep CBW (by omega) (by decide)
  have RKP : Hid (∀ w', KT ws.heap.size W2 w' → w'.heap[wk.heap.size + 1]? = some (.cells #[.string R.word, .int .i64 R.text, .int .i64 R.least, .int .i64 R.most, .string R.op, .string R.bt, .string R.en] 88)) := fun w' kt => kt.keep RBW (by omega) (by decide)
  have WSZ : Hid (wk.heap.size + 1 + 1 = W2.heap.size) := by show _ = _; rw [hW2]; simp
  have HW2 : Hid (W2 = (wk.alloc (.cells #[.int .i64 (m : Int), .int .i64 (ps.length : Nat), .string tx] 55)).alloc (.cells #[.string R.word, .int .i64 R.text, .int .i64 R.least, .int .i64 R.most, .string R.op, .string R.bt, .string R.en] 88)) := hW2
  have HSZ0 : Hid (szF (.nd (m : Int) tx ps) ≤ n + 1) := hsz
  have L1 : Hid (bs.length + (catB [R.word]).length ≤ 100000000000) := by simp only [List.length_append] at hlen; show _ ≤ _; simp [catB]; simp at hlen; omega
  have LEN : Hid (F.length ≤ 10000000000) := by show _ ≤ _; rw [hF, List.length_append]; exact hlen
  have HF : Hid (F = bs ++ (R.word.data.toList ++ (txtF R.text tx ++ (if ps.length = 0 then [] else R.op.data.toList ++ (prL R.bt true ps ++ R.en.data.toList))))) := hF
  have QT : Hid (∀ w', Calls Tryd.prog 61 #[.string tx] w' fun e w'' => e = .returned (.string ⟨(quo tx.data.toList).toArray⟩) ∧ Below w'.heap.size w' w'') := fun w' => quote_any tx w' (by have := crB_text hok; simp only at this; omega)
  clear hF hW2 BW2 hbl hpr hlen hsz hjA hjl hjl2 hkK hS CBW RBW
  rcases hx with hxx | hxx | hxx | hxx
  · have HXX : Hid (R.text = _) := hxx
    clear hxx
    go_enter Tryd.func46, Tryd.ntmps46
    go_wp2_with fail
    rw [← HW2.out]
    refine (lay_at W2 ws.heap.size 1 _ _ tv bs [R.word] _ rfl HPR.out L1.out (by simp) _ WSZ.out).mono ?_
    rintro e w2 ⟨rfl, tv2, hp2, hk2⟩
    have K2 : Hid (KT ws.heap.size W2 w2) := hk2
    have CB2 : Hid (w2.heap[wk.heap.size]? = some (.cells #[.int .i64 m, .int .i64 (ps.length : Nat), .string tx] 55)) := CKP.out _ hk2
    have RB2 : Hid (w2.heap[wk.heap.size + 1]? = some (.cells #[.string R.word, .int .i64 R.text, .int .i64 R.least, .int .i64 R.most, .string R.op, .string R.bt, .string R.en] 88)) := RKP.out _ hk2
    have t1 : w2.cell? ⟨wk.heap.size + 1, 1, none⟩ = some (.int .i64 R.text) := cell_of_row _ _ _ _ _ _ RB2.out
    rw [HXX.out] at t1
    have t2 : w2.cell? ⟨wk.heap.size, 2, none⟩ = some (.string tx) := cell_of_row _ _ _ _ _ _ CB2.out
    obtain ⟨B2, hB2⟩ : ∃ B, B = bs ++ catB [R.word] := ⟨_, rfl⟩
    have P2 : Hid (PR ws.heap.size w2 (.slice (some ⟨X, o, none⟩) l.length cap) (.slice (some ⟨g, 0, none⟩) l.length l.length) tv2 B2) := by rw [hB2]; exact hp2
    have HB2 : Hid (∀ z : List UInt8, bs ++ (R.word.data.toList ++ z) = B2 ++ z) := fun z => by rw [hB2]; simp [catB]
    clear hp2 hk2 hB2
    have HB2 : Hid (∀ z : List UInt8, bs ++ (R.word.data.toList ++ (txtF R.text tx ++ z)) = B2 ++ z) := fun z => by rw [HB2.out, HXX.out]; simp [txtF]

    have P2x := P2.out
    have d1 : w2.cell? ⟨wk.heap.size, 1, none⟩ = some (.int .i64 (ps.length : Nat)) := cell_of_row _ _ _ _ _ _ CB2.out
    have d4 : w2.cell? ⟨wk.heap.size + 1, 4, none⟩ = some (.string R.op) := cell_of_row _ _ _ _ _ _ RB2.out
    clear P2x
    by_cases hn : ps.length = 0
    · have hn0 : ((ps.length : Nat) : Int) = 0 := by omega
      rw [hn0] at d1
      have FIN : Hid (F = B2) := by show _ = _; rw [HF.out, HB2.out, if_pos hn]; simp
      clear LEN hps
      go_wp2_with fail
      refine bodyPost_ret (results_none rfl _ _ _) rfl ?_
      rw [← FIN.out] at P2
      exact ⟨rfl, Told.mk' P2.out (KW.out.trans K2.out)⟩
    · have hn1 : (((ps.length : Nat) : Int) == 0) = false := by simp; exact fun e => hn (by rw [e]; rfl)
      have hn2 : ¬ ((ps.length : Nat) : Int) = 0 := by omega
      have FIN : Hid (F = ((B2 ++ catB [R.op]) ++ prL R.bt true ps) ++ catB [R.en]) := by show _ = _; rw [HF.out, HB2.out, if_neg hn]; simp [catB]
      have L3 : Hid ((B2 ++ catB [R.op]).length + (prL R.bt true ps).length + R.en.data.toList.length ≤ 10000000000) := by
        have h1 := LEN.out
        rw [FIN.out] at h1
        simp only [List.length_append] at h1 ⊢
        show _ ≤ _
        simp [catB] at h1 ⊢
        omega
      have L3a : Hid (B2.length + (catB [R.op]).length ≤ 100000000000) := by have := L3.out; rw [List.length_append] at this; show _ ≤ _; omega
      clear LEN
      go_wp2_with fail
      refine (lay_at w2 ws.heap.size 1 _ _ tv2 B2 [R.op] _ rfl P2.out L3a.out (by simp) _ rfl).mono ?_
      rintro e w3 ⟨rfl, tv3, hp3, hk3⟩
      have P3 : Hid (PR ws.heap.size w3 (.slice (some ⟨X, o, none⟩) l.length cap) (.slice (some ⟨g, 0, none⟩) l.length l.length) tv3 (B2 ++ catB [R.op])) := hp3
      have K3 : Hid (KT ws.heap.size W2 w3) := K2.out.trans hk3
      have b1 := P3.out.c1
      have BS : Hid (∀ w', KT ws.heap.size W2 w' → Below ws.heap.size ws w') := fun w' kt => BLW.out.trans (kt.below PLT.out)
      obtain ⟨vp, e1, e2⟩ := (h.below (BS.out _ K3.out)).wc j hj
      obtain ⟨pp, cp, hvp⟩ := e2.form
      subst hvp
      have hpl : (A.getD j (0, [])).2.length = ps.length := (AtL.len ps _ hps).symm
      have VP : Hid (∀ w', KT ws.heap.size W2 w' → ∀ i (hi : i < ps.length), ∃ x : Nat, AtT l A ps[i] x ∧ ∃ X1 o1, pp = some ⟨X1, o1, none⟩ ∧ w'.cell? ⟨X1, o1 + i, none⟩ = some (.int .i64 x)) := fun w' kt i hi => by
        obtain ⟨vp', e1', e2'⟩ := h.wc j hj
        have e3 := (h.below (BS.out _ K3.out)).wc j hj
        have e4 := ((BS.out _ K3.out).cell (p := ⟨g, j * 2 + 1, none⟩) (block_lt_of_cell e1')).trans e1'
        rw [e1] at e4
        injection e4 with e4
        subst e4
        obtain ⟨x, hx1, hx2⟩ := AtL.get ps _ i hps hi
        obtain ⟨X1, o1, hX1, hX2⟩ := (e2'.below (BS.out _ kt)).at (k := i) (by rw [hpl]; exact hi)
        rw [hx1] at hX2
        exact ⟨x, hx2, X1, o1, hX1, hX2⟩
      rw [hpl] at e1
      have hpl1 : ps.length ≤ 1024 := by
        have h1 := crB_n hok
        simp only at h1
        omega
      clear hp3 hk3 hps e2 hpl
      clear d1 d4 P2 K2 CB2 RB2
      go_wp2_with fail
      have E0 : Hid (((B2 ++ catB [R.op]) ++ prL R.bt true ps) = (B2 ++ catB [R.op]) ++ prL R.bt (decide (0 = 0)) (ps.drop 0)) := by show _ = _; simp
      go_loopw [58] (fun b wl => ∃ (i : Nat) (tk : Value) (Bk : List UInt8) (wq : World), i ≤ ps.length ∧ b = .int .i64 i ∧ wq = wl ∧ Hid (((B2 ++ catB [R.op]) ++ prL R.bt true ps) = Bk ++ prL R.bt (decide (i = 0)) (ps.drop i)) ∧ Hid (PR ws.heap.size wq (.slice (some ⟨X, o, none⟩) l.length cap) (.slice (some ⟨g, 0, none⟩) l.length l.length) tk Bk) ∧ Hid (KT ws.heap.size W2 wq)) (fun b _ => ps.length - (intOf b).toNat)
      case atStart => exact ⟨0, _, _, _, Nat.zero_le _, rfl, rfl, E0, P3, K3⟩
      case round =>
        obtain ⟨i, tk, Bk, wq, hi, rfl, rfl, HE, HP, HK⟩ := hrel
        clear E0 P3 K3 e1 b1
        by_cases hil : i < ps.length
        · obtain ⟨x, hat1, X1, o1, rfl, cx⟩ := VP.out _ HK.out i hil
          have HSZ : Hid (szF ps[i] ≤ n) := by have h1 := szL_mem ps i hil; have h2 := HSZ0.out; rw [szF] at h2; show _ ≤ _; omega
          have HAT : Hid (AtT l A ps[i] x) := hat1
          obtain ⟨pt, hpt⟩ : ∃ pt, pt = ps[i] := ⟨_, rfl⟩
          have hE2 := HE.out
          rw [List.drop_eq_getElem_cons hil, ← hpt, prL] at hE2
          rw [← hpt] at HSZ HAT
          have hL := L3.out
          rw [List.length_append] at hL
          have hLe := congrArg List.length hE2
          simp only [List.length_append] at hLe hL
          clear hpt hat1
          by_cases hi0 : i = 0
          · subst hi0
            rw [Nat.add_zero] at cx
            have HE3 : Hid (((B2 ++ catB [R.op]) ++ prL R.bt true ps) = (Bk ++ prF pt) ++ prL R.bt (decide (0 + 1 = 0)) (ps.drop (0 + 1))) := by
              show _ = _; rw [hE2]; simp
            have LT : Hid (Bk.length + (prF pt).length ≤ 10000000000) := by show _ ≤ _; simp at hLe; omega
            clear hE2 hL hLe
            go_wp2_with fail
            refine (ih pt x wq tk Bk HSZ.out HAT.out HP.out (BS.out _ HK.out) LT.out).mono ?_
            rintro e w5 ⟨rfl, tv5, hp5, hk5⟩
            have P5 : Hid (PR ws.heap.size w5 (.slice (some ⟨X, o, none⟩) l.length cap) (.slice (some ⟨g, 0, none⟩) l.length l.length) tv5 (Bk ++ prF pt)) := hp5
            have K5 : Hid (KT ws.heap.size W2 w5) := HK.out.trans hk5
            clear hp5 hk5
            go_wp2_with fail
            go_roundw
            case rel => exact ⟨0 + 1, _, _, _, by omega, by go_num, rfl, HE3, P5, K5⟩
            case measure => simp [intOf]; omega
          · have hi1 : (i : Int) > 0 := by omega
            have HE3 : Hid (((B2 ++ catB [R.op]) ++ prL R.bt true ps) = ((Bk ++ catB [R.bt]) ++ prF pt) ++ prL R.bt (decide (i + 1 = 0)) (ps.drop (i + 1))) := by
              show _ = _; rw [hE2]; simp [hi0, catB]
            have LU : Hid (Bk.length + (catB [R.bt]).length ≤ 100000000000) := by show _ ≤ _; simp [hi0] at hLe; simp [catB]; omega
            have LT : Hid ((Bk ++ catB [R.bt]).length + (prF pt).length ≤ 10000000000) := by show _ ≤ _; simp [hi0] at hLe; simp [catB]; omega
            have r5 : wq.cell? ⟨wk.heap.size + 1, 5, none⟩ = some (.string R.bt) := cell_of_row _ _ _ _ _ _ (RKP.out _ HK.out)
            clear hE2 hL hLe
            go_wp2_with fail
            refine (lay_at wq ws.heap.size 1 _ _ tk Bk [R.bt] _ rfl HP.out LU.out (by simp) _ rfl).mono ?_
            rintro e w4 ⟨rfl, tv4, hp4, hk4⟩
            have P4 : Hid (PR ws.heap.size w4 (.slice (some ⟨X, o, none⟩) l.length cap) (.slice (some ⟨g, 0, none⟩) l.length l.length) tv4 (Bk ++ catB [R.bt])) := hp4
            have K4 : Hid (KT ws.heap.size W2 w4) := HK.out.trans hk4
            clear hp4 hk4
            go_wp2_with fail
            refine (ih pt x w4 tv4 _ HSZ.out HAT.out P4.out (BS.out _ K4.out) LT.out).mono ?_
            rintro e w5 ⟨rfl, tv5, hp5, hk5⟩
            have P5 : Hid (PR ws.heap.size w5 (.slice (some ⟨X, o, none⟩) l.length cap) (.slice (some ⟨g, 0, none⟩) l.length l.length) tv5 ((Bk ++ catB [R.bt]) ++ prF pt)) := hp5
            have K5 : Hid (KT ws.heap.size W2 w5) := K4.out.trans hk5
            clear hp5 hk5
            go_wp2_with fail
            go_roundw
            case rel => exact ⟨i + 1, _, _, _, by omega, by go_num, rfl, HE3, P5, K5⟩
            case measure => simp [intOf]; omega
        · have hie : ps.drop i = [] := List.drop_eq_nil_of_le (by omega)
          have hBk := HE.out
          rw [hie, prL, List.append_nil] at hBk
          have FN2 : Hid (F = Bk ++ catB [R.en]) := by show _ = _; rw [FIN.out, hBk]
          have LE : Hid (Bk.length + (catB [R.en]).length ≤ 100000000000) := by
            have h1 := L3.out
            have h2 := congrArg List.length hBk
            rw [List.length_append] at h2
            show _ ≤ _
            simp [catB] at h1 h2 ⊢
            omega
          have r6 : wq.cell? ⟨wk.heap.size + 1, 6, none⟩ = some (.string R.en) := cell_of_row _ _ _ _ _ _ (RKP.out _ HK.out)
          clear hie hBk HE
          go_wp2_with fail
          refine (lay_at wq ws.heap.size 1 _ _ tk Bk [R.en] _ rfl HP.out LE.out (by simp) _ rfl).mono ?_
          rintro e w6 ⟨rfl, tv6, hp6, hk6⟩
          have P6 : Hid (PR ws.heap.size w6 (.slice (some ⟨X, o, none⟩) l.length cap) (.slice (some ⟨g, 0, none⟩) l.length l.length) tv6 (Bk ++ catB [R.en])) := hp6
          have K6 : Hid (KT ws.heap.size W2 w6) := HK.out.trans hk6
          clear hp6 hk6
          go_wp2_with fail
          go_end0
          rw [← FN2.out] at P6
          exact ⟨rfl, Told.mk' P6.out (KW.out.trans K6.out)⟩
  · have HXX : Hid (R.text = _) := hxx
    clear hxx
    go_enter Tryd.func46, Tryd.ntmps46
    go_wp2_with fail
    rw [← HW2.out]
    refine (lay_at W2 ws.heap.size 1 _ _ tv bs [R.word] _ rfl HPR.out L1.out (by simp) _ WSZ.out).mono ?_
    rintro e w1 ⟨rfl, tv1, hp1, hk1⟩
    have K1 : Hid (KT ws.heap.size W2 w1) := hk1
    have CB1 : Hid (w1.heap[wk.heap.size]? = some (.cells #[.int .i64 m, .int .i64 (ps.length : Nat), .string tx] 55)) := CKP.out _ hk1
    have RB1 : Hid (w1.heap[wk.heap.size + 1]? = some (.cells #[.string R.word, .int .i64 R.text, .int .i64 R.least, .int .i64 R.most, .string R.op, .string R.bt, .string R.en] 88)) := RKP.out _ hk1
    have t1 : w1.cell? ⟨wk.heap.size + 1, 1, none⟩ = some (.int .i64 R.text) := cell_of_row _ _ _ _ _ _ RB1.out
    rw [HXX.out] at t1
    have t2 : w1.cell? ⟨wk.heap.size, 2, none⟩ = some (.string tx) := cell_of_row _ _ _ _ _ _ CB1.out
    obtain ⟨B1, hB1⟩ : ∃ B, B = bs ++ catB [R.word] := ⟨_, rfl⟩
    have P1 : Hid (PR ws.heap.size w1 (.slice (some ⟨X, o, none⟩) l.length cap) (.slice (some ⟨g, 0, none⟩) l.length l.length) tv1 B1) := by rw [hB1]; exact hp1
    have HB1 : Hid (∀ z : List UInt8, bs ++ (R.word.data.toList ++ z) = B1 ++ z) := fun z => by rw [hB1]; simp [catB]
    clear hp1 hk1 hB1
    go_wp2_with fail
    refine (QT.out _).mono ?_
    rintro e wz ⟨rfl, hbz⟩
    have P1 : Hid (PR ws.heap.size wz (.slice (some ⟨X, o, none⟩) l.length cap) (.slice (some ⟨g, 0, none⟩) l.length l.length) tv1 B1) := P1.out.below hbz
    have K1 : Hid (KT ws.heap.size W2 wz) := K1.out.trans (KT.of_below hbz)
    clear hbz
    have L2 : Hid (B1.length + (catB [⟨#[32]⟩, ⟨(quo tx.data.toList).toArray⟩]).length ≤ 100000000000) := by
      have h1 := LEN.out
      rw [HF.out, HB1.out, HXX.out] at h1
      simp [txtF] at h1
      show _ ≤ _
      simp [catB]
      omega
    go_wp2_with fail
    refine (lay_at wz ws.heap.size 2 _ _ tv1 B1 [⟨#[32]⟩, ⟨(quo tx.data.toList).toArray⟩] _ rfl P1.out L2.out (by simp) _ rfl).mono ?_
    rintro e w2 ⟨rfl, tv2, hp2, hk2⟩
    have K2 : Hid (KT ws.heap.size W2 w2) := K1.out.trans hk2
    have CB2 : Hid (w2.heap[wk.heap.size]? = some (.cells #[.int .i64 m, .int .i64 (ps.length : Nat), .string tx] 55)) := CKP.out _ K2.out
    have RB2 : Hid (w2.heap[wk.heap.size + 1]? = some (.cells #[.string R.word, .int .i64 R.text, .int .i64 R.least, .int .i64 R.most, .string R.op, .string R.bt, .string R.en] 88)) := RKP.out _ K2.out
    obtain ⟨B2, hB2⟩ : ∃ B, B = B1 ++ catB [⟨#[32]⟩, ⟨(quo tx.data.toList).toArray⟩] := ⟨_, rfl⟩
    have P2 : Hid (PR ws.heap.size w2 (.slice (some ⟨X, o, none⟩) l.length cap) (.slice (some ⟨g, 0, none⟩) l.length l.length) tv2 B2) := by rw [hB2]; exact hp2
    have HB2 : Hid (∀ z : List UInt8, bs ++ (R.word.data.toList ++ (txtF R.text tx ++ z)) = B2 ++ z) := fun z => by rw [HB1.out, HXX.out, hB2]; simp [txtF, catB]
    clear hp2 hk2 hB2 P1 K1 CB1 RB1 t1 t2 L2

    have P2x := P2.out
    have d1 : w2.cell? ⟨wk.heap.size, 1, none⟩ = some (.int .i64 (ps.length : Nat)) := cell_of_row _ _ _ _ _ _ CB2.out
    have d4 : w2.cell? ⟨wk.heap.size + 1, 4, none⟩ = some (.string R.op) := cell_of_row _ _ _ _ _ _ RB2.out
    clear P2x
    by_cases hn : ps.length = 0
    · have hn0 : ((ps.length : Nat) : Int) = 0 := by omega
      rw [hn0] at d1
      have FIN : Hid (F = B2) := by show _ = _; rw [HF.out, HB2.out, if_pos hn]; simp
      clear LEN hps
      go_wp2_with fail
      refine bodyPost_ret (results_none rfl _ _ _) rfl ?_
      rw [← FIN.out] at P2
      exact ⟨rfl, Told.mk' P2.out (KW.out.trans K2.out)⟩
    · have hn1 : (((ps.length : Nat) : Int) == 0) = false := by simp; exact fun e => hn (by rw [e]; rfl)
      have hn2 : ¬ ((ps.length : Nat) : Int) = 0 := by omega
      have FIN : Hid (F = ((B2 ++ catB [R.op]) ++ prL R.bt true ps) ++ catB [R.en]) := by show _ = _; rw [HF.out, HB2.out, if_neg hn]; simp [catB]
      have L3 : Hid ((B2 ++ catB [R.op]).length + (prL R.bt true ps).length + R.en.data.toList.length ≤ 10000000000) := by
        have h1 := LEN.out
        rw [FIN.out] at h1
        simp only [List.length_append] at h1 ⊢
        show _ ≤ _
        simp [catB] at h1 ⊢
        omega
      have L3a : Hid (B2.length + (catB [R.op]).length ≤ 100000000000) := by have := L3.out; rw [List.length_append] at this; show _ ≤ _; omega
      clear LEN
      go_wp2_with fail
      refine (lay_at w2 ws.heap.size 1 _ _ tv2 B2 [R.op] _ rfl P2.out L3a.out (by simp) _ rfl).mono ?_
      rintro e w3 ⟨rfl, tv3, hp3, hk3⟩
      have P3 : Hid (PR ws.heap.size w3 (.slice (some ⟨X, o, none⟩) l.length cap) (.slice (some ⟨g, 0, none⟩) l.length l.length) tv3 (B2 ++ catB [R.op])) := hp3
      have K3 : Hid (KT ws.heap.size W2 w3) := K2.out.trans hk3
      have b1 := P3.out.c1
      have BS : Hid (∀ w', KT ws.heap.size W2 w' → Below ws.heap.size ws w') := fun w' kt => BLW.out.trans (kt.below PLT.out)
      obtain ⟨vp, e1, e2⟩ := (h.below (BS.out _ K3.out)).wc j hj
      obtain ⟨pp, cp, hvp⟩ := e2.form
      subst hvp
      have hpl : (A.getD j (0, [])).2.length = ps.length := (AtL.len ps _ hps).symm
      have VP : Hid (∀ w', KT ws.heap.size W2 w' → ∀ i (hi : i < ps.length), ∃ x : Nat, AtT l A ps[i] x ∧ ∃ X1 o1, pp = some ⟨X1, o1, none⟩ ∧ w'.cell? ⟨X1, o1 + i, none⟩ = some (.int .i64 x)) := fun w' kt i hi => by
        obtain ⟨vp', e1', e2'⟩ := h.wc j hj
        have e3 := (h.below (BS.out _ K3.out)).wc j hj
        have e4 := ((BS.out _ K3.out).cell (p := ⟨g, j * 2 + 1, none⟩) (block_lt_of_cell e1')).trans e1'
        rw [e1] at e4
        injection e4 with e4
        subst e4
        obtain ⟨x, hx1, hx2⟩ := AtL.get ps _ i hps hi
        obtain ⟨X1, o1, hX1, hX2⟩ := (e2'.below (BS.out _ kt)).at (k := i) (by rw [hpl]; exact hi)
        rw [hx1] at hX2
        exact ⟨x, hx2, X1, o1, hX1, hX2⟩
      rw [hpl] at e1
      have hpl1 : ps.length ≤ 1024 := by
        have h1 := crB_n hok
        simp only at h1
        omega
      clear hp3 hk3 hps e2 hpl
      clear d1 d4 P2 K2 CB2 RB2
      go_wp2_with fail
      have E0 : Hid (((B2 ++ catB [R.op]) ++ prL R.bt true ps) = (B2 ++ catB [R.op]) ++ prL R.bt (decide (0 = 0)) (ps.drop 0)) := by show _ = _; simp
      go_loopw [58] (fun b wl => ∃ (i : Nat) (tk : Value) (Bk : List UInt8) (wq : World), i ≤ ps.length ∧ b = .int .i64 i ∧ wq = wl ∧ Hid (((B2 ++ catB [R.op]) ++ prL R.bt true ps) = Bk ++ prL R.bt (decide (i = 0)) (ps.drop i)) ∧ Hid (PR ws.heap.size wq (.slice (some ⟨X, o, none⟩) l.length cap) (.slice (some ⟨g, 0, none⟩) l.length l.length) tk Bk) ∧ Hid (KT ws.heap.size W2 wq)) (fun b _ => ps.length - (intOf b).toNat)
      case atStart => exact ⟨0, _, _, _, Nat.zero_le _, rfl, rfl, E0, P3, K3⟩
      case round =>
        obtain ⟨i, tk, Bk, wq, hi, rfl, rfl, HE, HP, HK⟩ := hrel
        clear E0 P3 K3 e1 b1
        by_cases hil : i < ps.length
        · obtain ⟨x, hat1, X1, o1, rfl, cx⟩ := VP.out _ HK.out i hil
          have HSZ : Hid (szF ps[i] ≤ n) := by have h1 := szL_mem ps i hil; have h2 := HSZ0.out; rw [szF] at h2; show _ ≤ _; omega
          have HAT : Hid (AtT l A ps[i] x) := hat1
          obtain ⟨pt, hpt⟩ : ∃ pt, pt = ps[i] := ⟨_, rfl⟩
          have hE2 := HE.out
          rw [List.drop_eq_getElem_cons hil, ← hpt, prL] at hE2
          rw [← hpt] at HSZ HAT
          have hL := L3.out
          rw [List.length_append] at hL
          have hLe := congrArg List.length hE2
          simp only [List.length_append] at hLe hL
          clear hpt hat1
          by_cases hi0 : i = 0
          · subst hi0
            rw [Nat.add_zero] at cx
            have HE3 : Hid (((B2 ++ catB [R.op]) ++ prL R.bt true ps) = (Bk ++ prF pt) ++ prL R.bt (decide (0 + 1 = 0)) (ps.drop (0 + 1))) := by
              show _ = _; rw [hE2]; simp
            have LT : Hid (Bk.length + (prF pt).length ≤ 10000000000) := by show _ ≤ _; simp at hLe; omega
            clear hE2 hL hLe
            go_wp2_with fail
            refine (ih pt x wq tk Bk HSZ.out HAT.out HP.out (BS.out _ HK.out) LT.out).mono ?_
            rintro e w5 ⟨rfl, tv5, hp5, hk5⟩
            have P5 : Hid (PR ws.heap.size w5 (.slice (some ⟨X, o, none⟩) l.length cap) (.slice (some ⟨g, 0, none⟩) l.length l.length) tv5 (Bk ++ prF pt)) := hp5
            have K5 : Hid (KT ws.heap.size W2 w5) := HK.out.trans hk5
            clear hp5 hk5
            go_wp2_with fail
            go_roundw
            case rel => exact ⟨0 + 1, _, _, _, by omega, by go_num, rfl, HE3, P5, K5⟩
            case measure => simp [intOf]; omega
          · have hi1 : (i : Int) > 0 := by omega
            have HE3 : Hid (((B2 ++ catB [R.op]) ++ prL R.bt true ps) = ((Bk ++ catB [R.bt]) ++ prF pt) ++ prL R.bt (decide (i + 1 = 0)) (ps.drop (i + 1))) := by
              show _ = _; rw [hE2]; simp [hi0, catB]
            have LU : Hid (Bk.length + (catB [R.bt]).length ≤ 100000000000) := by show _ ≤ _; simp [hi0] at hLe; simp [catB]; omega
            have LT : Hid ((Bk ++ catB [R.bt]).length + (prF pt).length ≤ 10000000000) := by show _ ≤ _; simp [hi0] at hLe; simp [catB]; omega
            have r5 : wq.cell? ⟨wk.heap.size + 1, 5, none⟩ = some (.string R.bt) := cell_of_row _ _ _ _ _ _ (RKP.out _ HK.out)
            clear hE2 hL hLe
            go_wp2_with fail
            refine (lay_at wq ws.heap.size 1 _ _ tk Bk [R.bt] _ rfl HP.out LU.out (by simp) _ rfl).mono ?_
            rintro e w4 ⟨rfl, tv4, hp4, hk4⟩
            have P4 : Hid (PR ws.heap.size w4 (.slice (some ⟨X, o, none⟩) l.length cap) (.slice (some ⟨g, 0, none⟩) l.length l.length) tv4 (Bk ++ catB [R.bt])) := hp4
            have K4 : Hid (KT ws.heap.size W2 w4) := HK.out.trans hk4
            clear hp4 hk4
            go_wp2_with fail
            refine (ih pt x w4 tv4 _ HSZ.out HAT.out P4.out (BS.out _ K4.out) LT.out).mono ?_
            rintro e w5 ⟨rfl, tv5, hp5, hk5⟩
            have P5 : Hid (PR ws.heap.size w5 (.slice (some ⟨X, o, none⟩) l.length cap) (.slice (some ⟨g, 0, none⟩) l.length l.length) tv5 ((Bk ++ catB [R.bt]) ++ prF pt)) := hp5
            have K5 : Hid (KT ws.heap.size W2 w5) := K4.out.trans hk5
            clear hp5 hk5
            go_wp2_with fail
            go_roundw
            case rel => exact ⟨i + 1, _, _, _, by omega, by go_num, rfl, HE3, P5, K5⟩
            case measure => simp [intOf]; omega
        · have hie : ps.drop i = [] := List.drop_eq_nil_of_le (by omega)
          have hBk := HE.out
          rw [hie, prL, List.append_nil] at hBk
          have FN2 : Hid (F = Bk ++ catB [R.en]) := by show _ = _; rw [FIN.out, hBk]
          have LE : Hid (Bk.length + (catB [R.en]).length ≤ 100000000000) := by
            have h1 := L3.out
            have h2 := congrArg List.length hBk
            rw [List.length_append] at h2
            show _ ≤ _
            simp [catB] at h1 h2 ⊢
            omega
          have r6 : wq.cell? ⟨wk.heap.size + 1, 6, none⟩ = some (.string R.en) := cell_of_row _ _ _ _ _ _ (RKP.out _ HK.out)
          clear hie hBk HE
          go_wp2_with fail
          refine (lay_at wq ws.heap.size 1 _ _ tk Bk [R.en] _ rfl HP.out LE.out (by simp) _ rfl).mono ?_
          rintro e w6 ⟨rfl, tv6, hp6, hk6⟩
          have P6 : Hid (PR ws.heap.size w6 (.slice (some ⟨X, o, none⟩) l.length cap) (.slice (some ⟨g, 0, none⟩) l.length l.length) tv6 (Bk ++ catB [R.en])) := hp6
          have K6 : Hid (KT ws.heap.size W2 w6) := HK.out.trans hk6
          clear hp6 hk6
          go_wp2_with fail
          go_end0
          rw [← FN2.out] at P6
          exact ⟨rfl, Told.mk' P6.out (KW.out.trans K6.out)⟩
  · have HXX : Hid (R.text = _) := hxx
    clear hxx
    go_enter Tryd.func46, Tryd.ntmps46
    go_wp2_with fail
    rw [← HW2.out]
    refine (lay_at W2 ws.heap.size 1 _ _ tv bs [R.word] _ rfl HPR.out L1.out (by simp) _ WSZ.out).mono ?_
    rintro e w1 ⟨rfl, tv1, hp1, hk1⟩
    have K1 : Hid (KT ws.heap.size W2 w1) := hk1
    have CB1 : Hid (w1.heap[wk.heap.size]? = some (.cells #[.int .i64 m, .int .i64 (ps.length : Nat), .string tx] 55)) := CKP.out _ hk1
    have RB1 : Hid (w1.heap[wk.heap.size + 1]? = some (.cells #[.string R.word, .int .i64 R.text, .int .i64 R.least, .int .i64 R.most, .string R.op, .string R.bt, .string R.en] 88)) := RKP.out _ hk1
    have t1 : w1.cell? ⟨wk.heap.size + 1, 1, none⟩ = some (.int .i64 R.text) := cell_of_row _ _ _ _ _ _ RB1.out
    rw [HXX.out] at t1
    have t2 : w1.cell? ⟨wk.heap.size, 2, none⟩ = some (.string tx) := cell_of_row _ _ _ _ _ _ CB1.out
    obtain ⟨B1, hB1⟩ : ∃ B, B = bs ++ catB [R.word] := ⟨_, rfl⟩
    have P1 : Hid (PR ws.heap.size w1 (.slice (some ⟨X, o, none⟩) l.length cap) (.slice (some ⟨g, 0, none⟩) l.length l.length) tv1 B1) := by rw [hB1]; exact hp1
    have HB1 : Hid (∀ z : List UInt8, bs ++ (R.word.data.toList ++ z) = B1 ++ z) := fun z => by rw [hB1]; simp [catB]
    clear hp1 hk1 hB1
    have L2 : Hid (B1.length + (catB [⟨#[32]⟩, tx]).length ≤ 100000000000) := by
      have h1 := LEN.out
      rw [HF.out, HB1.out, HXX.out] at h1
      simp [txtF] at h1
      show _ ≤ _
      simp [catB]
      omega
    go_wp2_with fail
    refine (lay_at w1 ws.heap.size 2 _ _ tv1 B1 [⟨#[32]⟩, tx] _ rfl P1.out L2.out (by simp) _ rfl).mono ?_
    rintro e w2 ⟨rfl, tv2, hp2, hk2⟩
    have K2 : Hid (KT ws.heap.size W2 w2) := K1.out.trans hk2
    have CB2 : Hid (w2.heap[wk.heap.size]? = some (.cells #[.int .i64 m, .int .i64 (ps.length : Nat), .string tx] 55)) := CKP.out _ K2.out
    have RB2 : Hid (w2.heap[wk.heap.size + 1]? = some (.cells #[.string R.word, .int .i64 R.text, .int .i64 R.least, .int .i64 R.most, .string R.op, .string R.bt, .string R.en] 88)) := RKP.out _ K2.out
    obtain ⟨B2, hB2⟩ : ∃ B, B = B1 ++ catB [⟨#[32]⟩, tx] := ⟨_, rfl⟩
    have P2 : Hid (PR ws.heap.size w2 (.slice (some ⟨X, o, none⟩) l.length cap) (.slice (some ⟨g, 0, none⟩) l.length l.length) tv2 B2) := by rw [hB2]; exact hp2
    have HB2 : Hid (∀ z : List UInt8, bs ++ (R.word.data.toList ++ (txtF R.text tx ++ z)) = B2 ++ z) := fun z => by rw [HB1.out, HXX.out, hB2]; simp [txtF, catB]
    clear hp2 hk2 hB2 P1 K1 CB1 RB1 t1 t2 L2

    have P2x := P2.out
    have d1 : w2.cell? ⟨wk.heap.size, 1, none⟩ = some (.int .i64 (ps.length : Nat)) := cell_of_row _ _ _ _ _ _ CB2.out
    have d4 : w2.cell? ⟨wk.heap.size + 1, 4, none⟩ = some (.string R.op) := cell_of_row _ _ _ _ _ _ RB2.out
    clear P2x
    by_cases hn : ps.length = 0
    · have hn0 : ((ps.length : Nat) : Int) = 0 := by omega
      rw [hn0] at d1
      have FIN : Hid (F = B2) := by show _ = _; rw [HF.out, HB2.out, if_pos hn]; simp
      clear LEN hps
      go_wp2_with fail
      refine bodyPost_ret (results_none rfl _ _ _) rfl ?_
      rw [← FIN.out] at P2
      exact ⟨rfl, Told.mk' P2.out (KW.out.trans K2.out)⟩
    · have hn1 : (((ps.length : Nat) : Int) == 0) = false := by simp; exact fun e => hn (by rw [e]; rfl)
      have hn2 : ¬ ((ps.length : Nat) : Int) = 0 := by omega
      have FIN : Hid (F = ((B2 ++ catB [R.op]) ++ prL R.bt true ps) ++ catB [R.en]) := by show _ = _; rw [HF.out, HB2.out, if_neg hn]; simp [catB]
      have L3 : Hid ((B2 ++ catB [R.op]).length + (prL R.bt true ps).length + R.en.data.toList.length ≤ 10000000000) := by
        have h1 := LEN.out
        rw [FIN.out] at h1
        simp only [List.length_append] at h1 ⊢
        show _ ≤ _
        simp [catB] at h1 ⊢
        omega
      have L3a : Hid (B2.length + (catB [R.op]).length ≤ 100000000000) := by have := L3.out; rw [List.length_append] at this; show _ ≤ _; omega
      clear LEN
      go_wp2_with fail
      refine (lay_at w2 ws.heap.size 1 _ _ tv2 B2 [R.op] _ rfl P2.out L3a.out (by simp) _ rfl).mono ?_
      rintro e w3 ⟨rfl, tv3, hp3, hk3⟩
      have P3 : Hid (PR ws.heap.size w3 (.slice (some ⟨X, o, none⟩) l.length cap) (.slice (some ⟨g, 0, none⟩) l.length l.length) tv3 (B2 ++ catB [R.op])) := hp3
      have K3 : Hid (KT ws.heap.size W2 w3) := K2.out.trans hk3
      have b1 := P3.out.c1
      have BS : Hid (∀ w', KT ws.heap.size W2 w' → Below ws.heap.size ws w') := fun w' kt => BLW.out.trans (kt.below PLT.out)
      obtain ⟨vp, e1, e2⟩ := (h.below (BS.out _ K3.out)).wc j hj
      obtain ⟨pp, cp, hvp⟩ := e2.form
      subst hvp
      have hpl : (A.getD j (0, [])).2.length = ps.length := (AtL.len ps _ hps).symm
      have VP : Hid (∀ w', KT ws.heap.size W2 w' → ∀ i (hi : i < ps.length), ∃ x : Nat, AtT l A ps[i] x ∧ ∃ X1 o1, pp = some ⟨X1, o1, none⟩ ∧ w'.cell? ⟨X1, o1 + i, none⟩ = some (.int .i64 x)) := fun w' kt i hi => by
        obtain ⟨vp', e1', e2'⟩ := h.wc j hj
        have e3 := (h.below (BS.out _ K3.out)).wc j hj
        have e4 := ((BS.out _ K3.out).cell (p := ⟨g, j * 2 + 1, none⟩) (block_lt_of_cell e1')).trans e1'
        rw [e1] at e4
        injection e4 with e4
        subst e4
        obtain ⟨x, hx1, hx2⟩ := AtL.get ps _ i hps hi
        obtain ⟨X1, o1, hX1, hX2⟩ := (e2'.below (BS.out _ kt)).at (k := i) (by rw [hpl]; exact hi)
        rw [hx1] at hX2
        exact ⟨x, hx2, X1, o1, hX1, hX2⟩
      rw [hpl] at e1
      have hpl1 : ps.length ≤ 1024 := by
        have h1 := crB_n hok
        simp only at h1
        omega
      clear hp3 hk3 hps e2 hpl
      clear d1 d4 P2 K2 CB2 RB2
      go_wp2_with fail
      have E0 : Hid (((B2 ++ catB [R.op]) ++ prL R.bt true ps) = (B2 ++ catB [R.op]) ++ prL R.bt (decide (0 = 0)) (ps.drop 0)) := by show _ = _; simp
      go_loopw [58] (fun b wl => ∃ (i : Nat) (tk : Value) (Bk : List UInt8) (wq : World), i ≤ ps.length ∧ b = .int .i64 i ∧ wq = wl ∧ Hid (((B2 ++ catB [R.op]) ++ prL R.bt true ps) = Bk ++ prL R.bt (decide (i = 0)) (ps.drop i)) ∧ Hid (PR ws.heap.size wq (.slice (some ⟨X, o, none⟩) l.length cap) (.slice (some ⟨g, 0, none⟩) l.length l.length) tk Bk) ∧ Hid (KT ws.heap.size W2 wq)) (fun b _ => ps.length - (intOf b).toNat)
      case atStart => exact ⟨0, _, _, _, Nat.zero_le _, rfl, rfl, E0, P3, K3⟩
      case round =>
        obtain ⟨i, tk, Bk, wq, hi, rfl, rfl, HE, HP, HK⟩ := hrel
        clear E0 P3 K3 e1 b1
        by_cases hil : i < ps.length
        · obtain ⟨x, hat1, X1, o1, rfl, cx⟩ := VP.out _ HK.out i hil
          have HSZ : Hid (szF ps[i] ≤ n) := by have h1 := szL_mem ps i hil; have h2 := HSZ0.out; rw [szF] at h2; show _ ≤ _; omega
          have HAT : Hid (AtT l A ps[i] x) := hat1
          obtain ⟨pt, hpt⟩ : ∃ pt, pt = ps[i] := ⟨_, rfl⟩
          have hE2 := HE.out
          rw [List.drop_eq_getElem_cons hil, ← hpt, prL] at hE2
          rw [← hpt] at HSZ HAT
          have hL := L3.out
          rw [List.length_append] at hL
          have hLe := congrArg List.length hE2
          simp only [List.length_append] at hLe hL
          clear hpt hat1
          by_cases hi0 : i = 0
          · subst hi0
            rw [Nat.add_zero] at cx
            have HE3 : Hid (((B2 ++ catB [R.op]) ++ prL R.bt true ps) = (Bk ++ prF pt) ++ prL R.bt (decide (0 + 1 = 0)) (ps.drop (0 + 1))) := by
              show _ = _; rw [hE2]; simp
            have LT : Hid (Bk.length + (prF pt).length ≤ 10000000000) := by show _ ≤ _; simp at hLe; omega
            clear hE2 hL hLe
            go_wp2_with fail
            refine (ih pt x wq tk Bk HSZ.out HAT.out HP.out (BS.out _ HK.out) LT.out).mono ?_
            rintro e w5 ⟨rfl, tv5, hp5, hk5⟩
            have P5 : Hid (PR ws.heap.size w5 (.slice (some ⟨X, o, none⟩) l.length cap) (.slice (some ⟨g, 0, none⟩) l.length l.length) tv5 (Bk ++ prF pt)) := hp5
            have K5 : Hid (KT ws.heap.size W2 w5) := HK.out.trans hk5
            clear hp5 hk5
            go_wp2_with fail
            go_roundw
            case rel => exact ⟨0 + 1, _, _, _, by omega, by go_num, rfl, HE3, P5, K5⟩
            case measure => simp [intOf]; omega
          · have hi1 : (i : Int) > 0 := by omega
            have HE3 : Hid (((B2 ++ catB [R.op]) ++ prL R.bt true ps) = ((Bk ++ catB [R.bt]) ++ prF pt) ++ prL R.bt (decide (i + 1 = 0)) (ps.drop (i + 1))) := by
              show _ = _; rw [hE2]; simp [hi0, catB]
            have LU : Hid (Bk.length + (catB [R.bt]).length ≤ 100000000000) := by show _ ≤ _; simp [hi0] at hLe; simp [catB]; omega
            have LT : Hid ((Bk ++ catB [R.bt]).length + (prF pt).length ≤ 10000000000) := by show _ ≤ _; simp [hi0] at hLe; simp [catB]; omega
            have r5 : wq.cell? ⟨wk.heap.size + 1, 5, none⟩ = some (.string R.bt) := cell_of_row _ _ _ _ _ _ (RKP.out _ HK.out)
            clear hE2 hL hLe
            go_wp2_with fail
            refine (lay_at wq ws.heap.size 1 _ _ tk Bk [R.bt] _ rfl HP.out LU.out (by simp) _ rfl).mono ?_
            rintro e w4 ⟨rfl, tv4, hp4, hk4⟩
            have P4 : Hid (PR ws.heap.size w4 (.slice (some ⟨X, o, none⟩) l.length cap) (.slice (some ⟨g, 0, none⟩) l.length l.length) tv4 (Bk ++ catB [R.bt])) := hp4
            have K4 : Hid (KT ws.heap.size W2 w4) := HK.out.trans hk4
            clear hp4 hk4
            go_wp2_with fail
            refine (ih pt x w4 tv4 _ HSZ.out HAT.out P4.out (BS.out _ K4.out) LT.out).mono ?_
            rintro e w5 ⟨rfl, tv5, hp5, hk5⟩
            have P5 : Hid (PR ws.heap.size w5 (.slice (some ⟨X, o, none⟩) l.length cap) (.slice (some ⟨g, 0, none⟩) l.length l.length) tv5 ((Bk ++ catB [R.bt]) ++ prF pt)) := hp5
            have K5 : Hid (KT ws.heap.size W2 w5) := K4.out.trans hk5
            clear hp5 hk5
            go_wp2_with fail
            go_roundw
            case rel => exact ⟨i + 1, _, _, _, by omega, by go_num, rfl, HE3, P5, K5⟩
            case measure => simp [intOf]; omega
        · have hie : ps.drop i = [] := List.drop_eq_nil_of_le (by omega)
          have hBk := HE.out
          rw [hie, prL, List.append_nil] at hBk
          have FN2 : Hid (F = Bk ++ catB [R.en]) := by show _ = _; rw [FIN.out, hBk]
          have LE : Hid (Bk.length + (catB [R.en]).length ≤ 100000000000) := by
            have h1 := L3.out
            have h2 := congrArg List.length hBk
            rw [List.length_append] at h2
            show _ ≤ _
            simp [catB] at h1 h2 ⊢
            omega
          have r6 : wq.cell? ⟨wk.heap.size + 1, 6, none⟩ = some (.string R.en) := cell_of_row _ _ _ _ _ _ (RKP.out _ HK.out)
          clear hie hBk HE
          go_wp2_with fail
          refine (lay_at wq ws.heap.size 1 _ _ tk Bk [R.en] _ rfl HP.out LE.out (by simp) _ rfl).mono ?_
          rintro e w6 ⟨rfl, tv6, hp6, hk6⟩
          have P6 : Hid (PR ws.heap.size w6 (.slice (some ⟨X, o, none⟩) l.length cap) (.slice (some ⟨g, 0, none⟩) l.length l.length) tv6 (Bk ++ catB [R.en])) := hp6
          have K6 : Hid (KT ws.heap.size W2 w6) := HK.out.trans hk6
          clear hp6 hk6
          go_wp2_with fail
          go_end0
          rw [← FN2.out] at P6
          exact ⟨rfl, Told.mk' P6.out (KW.out.trans K6.out)⟩
  · have HXX : Hid (R.text = _) := hxx
    clear hxx
    go_enter Tryd.func46, Tryd.ntmps46
    go_wp2_with fail
    rw [← HW2.out]
    refine (lay_at W2 ws.heap.size 1 _ _ tv bs [R.word] _ rfl HPR.out L1.out (by simp) _ WSZ.out).mono ?_
    rintro e w1 ⟨rfl, tv1, hp1, hk1⟩
    have K1 : Hid (KT ws.heap.size W2 w1) := hk1
    have CB1 : Hid (w1.heap[wk.heap.size]? = some (.cells #[.int .i64 m, .int .i64 (ps.length : Nat), .string tx] 55)) := CKP.out _ hk1
    have RB1 : Hid (w1.heap[wk.heap.size + 1]? = some (.cells #[.string R.word, .int .i64 R.text, .int .i64 R.least, .int .i64 R.most, .string R.op, .string R.bt, .string R.en] 88)) := RKP.out _ hk1
    have t1 : w1.cell? ⟨wk.heap.size + 1, 1, none⟩ = some (.int .i64 R.text) := cell_of_row _ _ _ _ _ _ RB1.out
    rw [HXX.out] at t1
    have t2 : w1.cell? ⟨wk.heap.size, 2, none⟩ = some (.string tx) := cell_of_row _ _ _ _ _ _ CB1.out
    obtain ⟨B1, hB1⟩ : ∃ B, B = bs ++ catB [R.word] := ⟨_, rfl⟩
    have P1 : Hid (PR ws.heap.size w1 (.slice (some ⟨X, o, none⟩) l.length cap) (.slice (some ⟨g, 0, none⟩) l.length l.length) tv1 B1) := by rw [hB1]; exact hp1
    have HB1 : Hid (∀ z : List UInt8, bs ++ (R.word.data.toList ++ z) = B1 ++ z) := fun z => by rw [hB1]; simp [catB]
    clear hp1 hk1 hB1
    have L2 : Hid (B1.length + (catB [⟨#[32]⟩, tx]).length ≤ 100000000000) := by
      have h1 := LEN.out
      rw [HF.out, HB1.out, HXX.out] at h1
      simp [txtF] at h1
      show _ ≤ _
      simp [catB]
      omega
    go_wp2_with fail
    refine (lay_at w1 ws.heap.size 2 _ _ tv1 B1 [⟨#[32]⟩, tx] _ rfl P1.out L2.out (by simp) _ rfl).mono ?_
    rintro e w2 ⟨rfl, tv2, hp2, hk2⟩
    have K2 : Hid (KT ws.heap.size W2 w2) := K1.out.trans hk2
    have CB2 : Hid (w2.heap[wk.heap.size]? = some (.cells #[.int .i64 m, .int .i64 (ps.length : Nat), .string tx] 55)) := CKP.out _ K2.out
    have RB2 : Hid (w2.heap[wk.heap.size + 1]? = some (.cells #[.string R.word, .int .i64 R.text, .int .i64 R.least, .int .i64 R.most, .string R.op, .string R.bt, .string R.en] 88)) := RKP.out _ K2.out
    obtain ⟨B2, hB2⟩ : ∃ B, B = B1 ++ catB [⟨#[32]⟩, tx] := ⟨_, rfl⟩
    have P2 : Hid (PR ws.heap.size w2 (.slice (some ⟨X, o, none⟩) l.length cap) (.slice (some ⟨g, 0, none⟩) l.length l.length) tv2 B2) := by rw [hB2]; exact hp2
    have HB2 : Hid (∀ z : List UInt8, bs ++ (R.word.data.toList ++ (txtF R.text tx ++ z)) = B2 ++ z) := fun z => by rw [HB1.out, HXX.out, hB2]; simp [txtF, catB]
    clear hp2 hk2 hB2 P1 K1 CB1 RB1 t1 t2 L2

    have P2x := P2.out
    have d1 : w2.cell? ⟨wk.heap.size, 1, none⟩ = some (.int .i64 (ps.length : Nat)) := cell_of_row _ _ _ _ _ _ CB2.out
    have d4 : w2.cell? ⟨wk.heap.size + 1, 4, none⟩ = some (.string R.op) := cell_of_row _ _ _ _ _ _ RB2.out
    clear P2x
    by_cases hn : ps.length = 0
    · have hn0 : ((ps.length : Nat) : Int) = 0 := by omega
      rw [hn0] at d1
      have FIN : Hid (F = B2) := by show _ = _; rw [HF.out, HB2.out, if_pos hn]; simp
      clear LEN hps
      go_wp2_with fail
      refine bodyPost_ret (results_none rfl _ _ _) rfl ?_
      rw [← FIN.out] at P2
      exact ⟨rfl, Told.mk' P2.out (KW.out.trans K2.out)⟩
    · have hn1 : (((ps.length : Nat) : Int) == 0) = false := by simp; exact fun e => hn (by rw [e]; rfl)
      have hn2 : ¬ ((ps.length : Nat) : Int) = 0 := by omega
      have FIN : Hid (F = ((B2 ++ catB [R.op]) ++ prL R.bt true ps) ++ catB [R.en]) := by show _ = _; rw [HF.out, HB2.out, if_neg hn]; simp [catB]
      have L3 : Hid ((B2 ++ catB [R.op]).length + (prL R.bt true ps).length + R.en.data.toList.length ≤ 10000000000) := by
        have h1 := LEN.out
        rw [FIN.out] at h1
        simp only [List.length_append] at h1 ⊢
        show _ ≤ _
        simp [catB] at h1 ⊢
        omega
      have L3a : Hid (B2.length + (catB [R.op]).length ≤ 100000000000) := by have := L3.out; rw [List.length_append] at this; show _ ≤ _; omega
      clear LEN
      go_wp2_with fail
      refine (lay_at w2 ws.heap.size 1 _ _ tv2 B2 [R.op] _ rfl P2.out L3a.out (by simp) _ rfl).mono ?_
      rintro e w3 ⟨rfl, tv3, hp3, hk3⟩
      have P3 : Hid (PR ws.heap.size w3 (.slice (some ⟨X, o, none⟩) l.length cap) (.slice (some ⟨g, 0, none⟩) l.length l.length) tv3 (B2 ++ catB [R.op])) := hp3
      have K3 : Hid (KT ws.heap.size W2 w3) := K2.out.trans hk3
      have b1 := P3.out.c1
      have BS : Hid (∀ w', KT ws.heap.size W2 w' → Below ws.heap.size ws w') := fun w' kt => BLW.out.trans (kt.below PLT.out)
      obtain ⟨vp, e1, e2⟩ := (h.below (BS.out _ K3.out)).wc j hj
      obtain ⟨pp, cp, hvp⟩ := e2.form
      subst hvp
      have hpl : (A.getD j (0, [])).2.length = ps.length := (AtL.len ps _ hps).symm
      have VP : Hid (∀ w', KT ws.heap.size W2 w' → ∀ i (hi : i < ps.length), ∃ x : Nat, AtT l A ps[i] x ∧ ∃ X1 o1, pp = some ⟨X1, o1, none⟩ ∧ w'.cell? ⟨X1, o1 + i, none⟩ = some (.int .i64 x)) := fun w' kt i hi => by
        obtain ⟨vp', e1', e2'⟩ := h.wc j hj
        have e3 := (h.below (BS.out _ K3.out)).wc j hj
        have e4 := ((BS.out _ K3.out).cell (p := ⟨g, j * 2 + 1, none⟩) (block_lt_of_cell e1')).trans e1'
        rw [e1] at e4
        injection e4 with e4
        subst e4
        obtain ⟨x, hx1, hx2⟩ := AtL.get ps _ i hps hi
        obtain ⟨X1, o1, hX1, hX2⟩ := (e2'.below (BS.out _ kt)).at (k := i) (by rw [hpl]; exact hi)
        rw [hx1] at hX2
        exact ⟨x, hx2, X1, o1, hX1, hX2⟩
      rw [hpl] at e1
      have hpl1 : ps.length ≤ 1024 := by
        have h1 := crB_n hok
        simp only at h1
        omega
      clear hp3 hk3 hps e2 hpl
      clear d1 d4 P2 K2 CB2 RB2
      go_wp2_with fail
      have E0 : Hid (((B2 ++ catB [R.op]) ++ prL R.bt true ps) = (B2 ++ catB [R.op]) ++ prL R.bt (decide (0 = 0)) (ps.drop 0)) := by show _ = _; simp
      go_loopw [58] (fun b wl => ∃ (i : Nat) (tk : Value) (Bk : List UInt8) (wq : World), i ≤ ps.length ∧ b = .int .i64 i ∧ wq = wl ∧ Hid (((B2 ++ catB [R.op]) ++ prL R.bt true ps) = Bk ++ prL R.bt (decide (i = 0)) (ps.drop i)) ∧ Hid (PR ws.heap.size wq (.slice (some ⟨X, o, none⟩) l.length cap) (.slice (some ⟨g, 0, none⟩) l.length l.length) tk Bk) ∧ Hid (KT ws.heap.size W2 wq)) (fun b _ => ps.length - (intOf b).toNat)
      case atStart => exact ⟨0, _, _, _, Nat.zero_le _, rfl, rfl, E0, P3, K3⟩
      case round =>
        obtain ⟨i, tk, Bk, wq, hi, rfl, rfl, HE, HP, HK⟩ := hrel
        clear E0 P3 K3 e1 b1
        by_cases hil : i < ps.length
        · obtain ⟨x, hat1, X1, o1, rfl, cx⟩ := VP.out _ HK.out i hil
          have HSZ : Hid (szF ps[i] ≤ n) := by have h1 := szL_mem ps i hil; have h2 := HSZ0.out; rw [szF] at h2; show _ ≤ _; omega
          have HAT : Hid (AtT l A ps[i] x) := hat1
          obtain ⟨pt, hpt⟩ : ∃ pt, pt = ps[i] := ⟨_, rfl⟩
          have hE2 := HE.out
          rw [List.drop_eq_getElem_cons hil, ← hpt, prL] at hE2
          rw [← hpt] at HSZ HAT
          have hL := L3.out
          rw [List.length_append] at hL
          have hLe := congrArg List.length hE2
          simp only [List.length_append] at hLe hL
          clear hpt hat1
          by_cases hi0 : i = 0
          · subst hi0
            rw [Nat.add_zero] at cx
            have HE3 : Hid (((B2 ++ catB [R.op]) ++ prL R.bt true ps) = (Bk ++ prF pt) ++ prL R.bt (decide (0 + 1 = 0)) (ps.drop (0 + 1))) := by
              show _ = _; rw [hE2]; simp
            have LT : Hid (Bk.length + (prF pt).length ≤ 10000000000) := by show _ ≤ _; simp at hLe; omega
            clear hE2 hL hLe
            go_wp2_with fail
            refine (ih pt x wq tk Bk HSZ.out HAT.out HP.out (BS.out _ HK.out) LT.out).mono ?_
            rintro e w5 ⟨rfl, tv5, hp5, hk5⟩
            have P5 : Hid (PR ws.heap.size w5 (.slice (some ⟨X, o, none⟩) l.length cap) (.slice (some ⟨g, 0, none⟩) l.length l.length) tv5 (Bk ++ prF pt)) := hp5
            have K5 : Hid (KT ws.heap.size W2 w5) := HK.out.trans hk5
            clear hp5 hk5
            go_wp2_with fail
            go_roundw
            case rel => exact ⟨0 + 1, _, _, _, by omega, by go_num, rfl, HE3, P5, K5⟩
            case measure => simp [intOf]; omega
          · have hi1 : (i : Int) > 0 := by omega
            have HE3 : Hid (((B2 ++ catB [R.op]) ++ prL R.bt true ps) = ((Bk ++ catB [R.bt]) ++ prF pt) ++ prL R.bt (decide (i + 1 = 0)) (ps.drop (i + 1))) := by
              show _ = _; rw [hE2]; simp [hi0, catB]
            have LU : Hid (Bk.length + (catB [R.bt]).length ≤ 100000000000) := by show _ ≤ _; simp [hi0] at hLe; simp [catB]; omega
            have LT : Hid ((Bk ++ catB [R.bt]).length + (prF pt).length ≤ 10000000000) := by show _ ≤ _; simp [hi0] at hLe; simp [catB]; omega
            have r5 : wq.cell? ⟨wk.heap.size + 1, 5, none⟩ = some (.string R.bt) := cell_of_row _ _ _ _ _ _ (RKP.out _ HK.out)
            clear hE2 hL hLe
            go_wp2_with fail
            refine (lay_at wq ws.heap.size 1 _ _ tk Bk [R.bt] _ rfl HP.out LU.out (by simp) _ rfl).mono ?_
            rintro e w4 ⟨rfl, tv4, hp4, hk4⟩
            have P4 : Hid (PR ws.heap.size w4 (.slice (some ⟨X, o, none⟩) l.length cap) (.slice (some ⟨g, 0, none⟩) l.length l.length) tv4 (Bk ++ catB [R.bt])) := hp4
            have K4 : Hid (KT ws.heap.size W2 w4) := HK.out.trans hk4
            clear hp4 hk4
            go_wp2_with fail
            refine (ih pt x w4 tv4 _ HSZ.out HAT.out P4.out (BS.out _ K4.out) LT.out).mono ?_
            rintro e w5 ⟨rfl, tv5, hp5, hk5⟩
            have P5 : Hid (PR ws.heap.size w5 (.slice (some ⟨X, o, none⟩) l.length cap) (.slice (some ⟨g, 0, none⟩) l.length l.length) tv5 ((Bk ++ catB [R.bt]) ++ prF pt)) := hp5
            have K5 : Hid (KT ws.heap.size W2 w5) := K4.out.trans hk5
            clear hp5 hk5
            go_wp2_with fail
            go_roundw
            case rel => exact ⟨i + 1, _, _, _, by omega, by go_num, rfl, HE3, P5, K5⟩
            case measure => simp [intOf]; omega
        · have hie : ps.drop i = [] := List.drop_eq_nil_of_le (by omega)
          have hBk := HE.out
          rw [hie, prL, List.append_nil] at hBk
          have FN2 : Hid (F = Bk ++ catB [R.en]) := by show _ = _; rw [FIN.out, hBk]
          have LE : Hid (Bk.length + (catB [R.en]).length ≤ 100000000000) := by
            have h1 := L3.out
            have h2 := congrArg List.length hBk
            rw [List.length_append] at h2
            show _ ≤ _
            simp [catB] at h1 h2 ⊢
            omega
          have r6 : wq.cell? ⟨wk.heap.size + 1, 6, none⟩ = some (.string R.en) := cell_of_row _ _ _ _ _ _ (RKP.out _ HK.out)
          clear hie hBk HE
          go_wp2_with fail
          refine (lay_at wq ws.heap.size 1 _ _ tk Bk [R.en] _ rfl HP.out LE.out (by simp) _ rfl).mono ?_
          rintro e w6 ⟨rfl, tv6, hp6, hk6⟩
          have P6 : Hid (PR ws.heap.size w6 (.slice (some ⟨X, o, none⟩) l.length cap) (.slice (some ⟨g, 0, none⟩) l.length l.length) tv6 (Bk ++ catB [R.en])) := hp6
          have K6 : Hid (KT ws.heap.size W2 w6) := HK.out.trans hk6
          clear hp6 hk6
          go_wp2_with fail
          go_end0
          rw [← FN2.out] at P6
          exact ⟨rfl, Told.mk' P6.out (KW.out.trans K6.out)⟩
end Go.Proofs.YtaleagkhblokgaaDoor
