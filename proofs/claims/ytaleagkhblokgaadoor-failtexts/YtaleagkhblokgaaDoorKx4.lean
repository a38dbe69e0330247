/- Failures: a crack's text, read. -/
import Derived.Test.YtaleagkhblokgaaDoorKx2
namespace Go.Proofs.YtaleagkhblokgaaDoor
open Go.RowKit

theorem kOf_hit {W : List UInt8} {k : Nat} (h1 : 1 ≤ k) (h2 : k ≤ 11) (h3 : (frow (k : Int)).word.data.toList = W) (h4 : ∀ j : Nat, 1 ≤ j → j < k → (frow (j : Int)).word.data.toList ≠ W) : kOf W = k := by
  unfold kOf
  have e : (List.range 11).find? (fun (i : Nat) => (frow ((i : Int) + 1)).word.data.toList == W) = some (k - 1) := by
    rw [List.find?_range_eq_some]
    refine ⟨?_, by simp; omega, fun j hj => ?_⟩
    · rw [show (((k - 1 : Nat) : Int) + 1) = (k : Int) by omega]; simpa using h3
    · have := h4 (j + 1) (by omega) (by omega)
      simpa using this
  rw [e]
  simp; omega
theorem kOf_miss {W : List UInt8} (h : ∀ j : Nat, 1 ≤ j → j ≤ 11 → (frow (j : Int)).word.data.toList ≠ W) : kOf W = 0 := by
  unfold kOf
  have e : (List.range 11).find? (fun (i : Nat) => (frow ((i : Int) + 1)).word.data.toList == W) = none := by
    rw [List.find?_eq_none]
    intro x hx
    have := h (x + 1) (by omega) (by have := List.mem_range.1 hx; omega)
    simpa using this
  rw [e]; rfl
theorem kOf_cases (W : List UInt8) : kOf W = 0 ∨ (isK (kOf W) = true ∧ (frow (kOf W)).word.data.toList = W) := by
  unfold kOf
  cases h : (List.range 11).find? (fun (i : Nat) => (frow ((i : Int) + 1)).word.data.toList == W) with
  | none => left; rfl
  | some i =>
    right
    have h1 := List.find?_some h
    have h2 := List.mem_range.1 (List.mem_of_find?_eq_some h)
    simp only [Option.elim_some]
    exact ⟨by rw [isK_iff]; omega, by simpa using h1⟩
set_option maxHeartbeats 4000000 in
theorem kindOf_any (W : ByteArray) (w : World) (hv : FV w) :
    Calls Tryd.prog 62 #[.string W] w fun e w' => e = .returned (.int .i64 (kOf W.data.toList)) ∧ w' = w := by
  have HV : Hid (RowsAt w) := hv.rows
  have HH : Hid (∀ k : Nat, 1 ≤ k → k ≤ 11 → (frow (k : Int)).word.data.toList = W.data.toList → (∀ j : Nat, 1 ≤ j → j < k → (frow (j : Int)).word.data.toList ≠ W.data.toList) → kOf W.data.toList = k) := fun k => kOf_hit
  have HM : Hid ((∀ j : Nat, 1 ≤ j → j ≤ 11 → (frow (j : Int)).word.data.toList ≠ W.data.toList) → kOf W.data.toList = 0) := kOf_miss
  generalize kOf W.data.toList = r at *
  clear hv
  go_enter Tryd.func62, Tryd.ntmps62
  go_wp2
  go_loop [3] (fun v3 => ∃ k : Nat, 1 ≤ k ∧ k ≤ 12 ∧ v3 = .int .i64 k ∧ Hid (∀ j : Nat, 1 ≤ j → j < k → (frow (j : Int)).word.data.toList ≠ W.data.toList)) (fun v3 => 12 - (intOf v3).toNat)
  case atStart => exact ⟨1, by omega, by omega, rfl, fun j h1 h2 => by omega⟩
  case round =>
    obtain ⟨k, hk1, hk2, rfl, HN⟩ := hrel
    by_cases hlt : k ≤ 11
    · obtain ⟨m, hm, _, q0, _⟩ := row_cells HV.out (k := (k : Int)) (by rw [isK_iff]; omega)
      have hmk : m = k := by omega
      subst hmk
      have HH2 := HH.out m hk1 hlt
      obtain ⟨wd', hwd⟩ : ∃ x, x = (frow (m : Int)).word := ⟨_, rfl⟩
      rw [← hwd] at q0 HH2
      have HN2 : Hid (wd'.data.toList ≠ W.data.toList → ∀ j : Nat, 1 ≤ j → j < m + 1 → (frow (j : Int)).word.data.toList ≠ W.data.toList) := fun h0 j h1 h2 => by
        by_cases e : j = m
        · subst e; rw [← hwd]; exact h0
        · exact HN.out j h1 (by omega)
      clear hm hwd
      cases hc : (wd'.toList == W.toList) with
      | true =>
        have h3 : wd'.data.toList = W.data.toList := by simpa [ByteArray.toList_eq] using hc
        have hr : r = m := HH2 h3 HN.out
        have HR : Hid (r = m) := hr
        clear h3 hr HH2 HN HN2
        go_wp2
        go_ret
        exact ⟨ret_int HR.out.symm, rfl⟩
      | false =>
        have h3 : wd'.data.toList ≠ W.data.toList := by simpa [ByteArray.toList_eq] using hc
        have HN3 : Hid (∀ j : Nat, 1 ≤ j → j < m + 1 → (frow (j : Int)).word.data.toList ≠ W.data.toList) := HN2.out h3
        clear h3 HH2 HN HN2
        go_wp2
        go_round
        case rel => exact ⟨m + 1, by omega, by omega, by go_num, HN3⟩
        case measure => simp [intOf]; omega
    · have hr : r = 0 := HM.out (fun j h1 h2 => HN.out j h1 (by omega))
      have HR : Hid (r = 0) := hr
      clear hr HN
      go_wp2
      go_ret
      exact ⟨ret_int HR.out.symm, rfl⟩
theorem ext_take (R : ByteArray) (n : Nat) : (R.extract 0 n).data.toList = R.data.toList.take n := by simp
theorem ext_drop (R : ByteArray) (n : Nat) : (R.extract n R.size).data.toList = R.data.toList.drop n := extract_drop R n
set_option maxHeartbeats 4000000 in
theorem takeQuoted_any (rb : Nat) (w : World) (R : ByteArray) (b : Nat) (cv : Value) (cs : List Cr) (h : RR rb w R b cv cs) (hR : R.size ≤ 100000000) :
    Calls Tryd.prog 80 #[.pointer (some ⟨rb, 0, none⟩)] w fun e w' => (unqB (R.data.toList.take (qSize R.data.toList)) = true ∧ e = .returned (.string ⟨(unqT (R.data.toList.take (qSize R.data.toList))).toArray⟩) ∧ RR rb w' (R.extract (qSize R.data.toList) R.size) b cv cs ∧ KR rb w w') ∨ (unqB (R.data.toList.take (qSize R.data.toList)) = false ∧ e = .panicked GP ∧ KR rb w w') := by
  have hql : qSize R.data.toList ≤ R.size := by have := qSize_le R.data.toList; simpa using this
  have QS := fun w' => quotedSize_any R w' hR
  have CT := cut_any rb w R b cv cs _ h hql hR
  have UQ : Hid (∀ w', Calls Tryd.prog 90 #[.string (R.extract 0 (qSize R.data.toList))] w' fun e w'' => e = .returned (.tuple #[.string ⟨(unqT (R.data.toList.take (qSize R.data.toList))).toArray⟩, .bool (unqB (R.data.toList.take (qSize R.data.toList)))]) ∧ Below w'.heap.size w' w'') := fun w' => by
    have := unquote_any (R.extract 0 (qSize R.data.toList)) w' (by simp; omega)
    rw [ext_take] at this
    exact this
  have GU := fun w' => giveUp_any rb w'
  have c0 := h.c0
  generalize unqB (R.data.toList.take (qSize R.data.toList)) = r at *
  generalize unqT (R.data.toList.take (qSize R.data.toList)) = T at *
  generalize qSize R.data.toList = n at *
  clear h
  have CTH : Hid _ := CT
  clear CT
  cases r with
  | true =>
    go_enter Tryd.func80, Tryd.ntmps80
    go_wp2_with fail
    refine (QS _).mono ?_
    rintro e w' ⟨rfl, rfl⟩
    go_wp2_with fail
    refine Calls.mono CTH.out ?_
    rintro e w2 ⟨rfl, h2, k2⟩
    have H2 : Hid _ := h2
    have K2 : Hid _ := k2
    clear h2 k2
    go_wp2_with fail
    refine (UQ.out _).mono ?_
    rintro e w3 ⟨rfl, hb3⟩
    have H3 : Hid (RR rb w3 (R.extract n R.size) b cv cs) := H2.out.below hb3
    have K3 : Hid (KR rb _ w3) := K2.out.trans (KR.of_below hb3)
    clear hb3
    go_wp2_with fail
    go_ret
    exact Or.inl ⟨by first | rfl | trivial, rfl, H3.out, K3.out⟩
  | false =>
    go_enter Tryd.func80, Tryd.ntmps80
    go_wp2_with fail
    refine (QS _).mono ?_
    rintro e w' ⟨rfl, rfl⟩
    go_wp2_with fail
    refine Calls.mono CTH.out ?_
    rintro e w2 ⟨rfl, h2, k2⟩
    have H2 : Hid _ := h2
    have K2 : Hid _ := k2
    clear h2 k2
    go_wp2_with fail
    refine (UQ.out _).mono ?_
    rintro e w3 ⟨rfl, hb3⟩
    have K3 : Hid (KR rb _ w3) := K2.out.trans (KR.of_below hb3)
    clear hb3
    go_wp2_with fail
    refine (GU _).mono ?_
    rintro e w4 ⟨rfl, rfl⟩
    exact ⟨rfl, Or.inr ⟨by first | rfl | trivial, rfl, K3.out⟩⟩
end Go.Proofs.YtaleagkhblokgaaDoor
namespace Go.Proofs.YtaleagkhblokgaaDoor
open Go.RowKit

/-- What comes of a read: the text and what is left; or it was given up. -/
def OutX (rb : Nat) (w w' : World) (e : Ending) (b : Nat) (cv : Value) (cs : List Cr) (q : Option (ByteArray × List UInt8)) : Prop :=
  (∃ tx R', q = some (tx, R'.data.toList) ∧ e = .returned (.string tx) ∧ RR rb w' R' b cv cs ∧ KR rb w w') ∨ (q = none ∧ e = .panicked GP ∧ KR rb w w')
theorem strip_le {p s L : List UInt8} (h : strip p s = some L) : L.length ≤ s.length := by
  unfold strip at h
  split at h
  · injection h with h; subst h; simp
  · cases h
theorem qB_flat_len : ∀ t : List UInt8, t.length ≤ (t.flatMap qB).length
  | [] => by simp
  | c :: r => by simp only [List.flatMap_cons, List.length_append, List.length_cons]; have := qB_len1 c; have := qB_flat_len r; omega
theorem unq_len (l : List UInt8) : (unqT l).length ≤ l.length := by
  unfold unqT
  split
  · rename_i h
    unfold qa at h ⊢
    cases hu : uq (l.drop (0 + 1)) with
    | none => simp
    | some z =>
      obtain ⟨t, m⟩ := z
      have h1 := quo_of_uq _ _ _ hu
      have h2 := congrArg List.length h1
      simp only
      have h3 := qB_flat_len t
      rw [List.length_take, List.length_drop, List.length_append, List.length_singleton] at h2
      omega
  · simp
set_option maxHeartbeats 8000000 in
set_option maxRecDepth 100000 in
theorem readText_any (ws : World) (w : World) (R : ByteArray) (b : Nat) (cv : Value) (cs : List Cr) (k : Int) (hv : FV ws) (hB : Below ws.heap.size ws w) (hk : isK k = true) (h : RR ws.heap.size w R b cv cs) (hR : R.size ≤ 1000000) :
    Calls Tryd.prog 64 #[.pointer (some ⟨ws.heap.size, 0, none⟩), .int .i64 k] w fun e w' => OutX ws.heap.size w w' e b cv cs (rdX k R.data.toList) := by
  obtain ⟨m, hm, hm2, _, q1, _⟩ := row_cells (hv.below hB).rows hk
  have hx := frow_text k hk
  have IT : Hid (∀ w' (t : ByteArray), Below ws.heap.size ws w' → t.size ≤ maxLen → Calls Tryd.prog 70 #[.int .i64 k, .string t] w' fun e w'' => e = .returned (.bool (txT (frow k).text t)) ∧ w'' = w') := fun w' t B ht => isTextOf_any k t w' hk ht (hv.below B)
  have HX : Hid (rdX k R.data.toList = (if (frow k).text = 0 then some (ByteArray.empty, R.data.toList)
   else (strip [32] R.data.toList).bind fun r => if (frow k).text = 1 then (if unqB (r.take (qSize r)) = true then some (⟨(unqT (r.take (qSize r))).toArray⟩, r.drop (qSize r)) else none) else some (⟨(r.take (ptLen r)).toArray⟩, r.drop (ptLen r))).bind fun q =>
  if txT (frow k).text q.1 = true then some q else none) := rfl
  have BK : Hid (∀ w', KR ws.heap.size w w' → Below ws.heap.size ws w') := fun w' kr => hB.trans (kr.below h.lt)
  have HH : Hid (RR ws.heap.size w R b cv cs) := h
  have ND : Hid _ := need_any ws.heap.size w R ⟨#[32]⟩ b cv cs h
  have GU := fun w' => giveUp_any ws.heap.size w'
  have SL : Hid (∀ L, strip [32] R.data.toList = some L → (⟨L.toArray⟩ : ByteArray).size ≤ 1000000) := fun L hL => by
    have := strip_le hL
    have e : R.data.toList.length = R.size := by simp
    show L.toArray.size ≤ _
    simp; omega
  have TQ : Hid (∀ w' R', RR ws.heap.size w' R' b cv cs → R'.size ≤ 1000000 → _) := fun w' R' hr hs => takeQuoted_any ws.heap.size w' R' b cv cs hr (by omega)
  have TW : Hid (∀ w' R', RR ws.heap.size w' R' b cv cs → R'.size ≤ 1000000 → _) := fun w' R' hr hs => takeWord_any ws.heap.size w' R' b cv cs hr (by omega)
  generalize rdX k R.data.toList = q at *
  generalize (frow k).text = x at *
  subst hm
  clear h hB hv hk
  rcases hx with rfl | rfl | rfl | rfl
  · have tx0 : txT 0 ByteArray.empty = true := by decide
    have HQ : Hid (q = some (ByteArray.empty, R.data.toList)) := by show _ = _; rw [HX.out]; simp [tx0]
    have IT0 := IT.out w ByteArray.empty (BK.out _ (KR.refl _ _)) (by decide)
    rw [tx0] at IT0
    clear IT HX SL TQ TW ND
    go_enter Tryd.func64, Tryd.ntmps64
    go_wp2_with (go_at_call 70; refine IT0.mono ?_; rintro e w' ⟨rfl, rfl⟩)
    go_ret
    exact Or.inl ⟨_, R, HQ.out, rfl, HH.out, KR.refl _ _⟩
  · clear TW
    go_enter Tryd.func64, Tryd.ntmps64
    go_wp2_with fail
    refine Calls.mono ND.out ?_
    rintro e w1 (⟨L, hL, rfl, h1, k1⟩ | ⟨hL, rfl, k1⟩)
    rotate_left
    · have HQ : Hid (q = none) := by
        have hL' : strip [32] R.data.toList = none := hL
        show _ = _; rw [HX.out, hL']; simp
      exact ⟨rfl, Or.inr ⟨HQ.out, rfl, k1⟩⟩
    have hL' : strip [32] R.data.toList = some L := hL
    have H1 : Hid (RR ws.heap.size w1 ⟨L.toArray⟩ b cv cs) := h1
    have K1 : Hid (KR ws.heap.size w w1) := k1
    have LS := SL.out L hL'
    obtain ⟨R1, hR1⟩ : ∃ R1 : ByteArray, R1 = ⟨L.toArray⟩ := ⟨_, rfl⟩
    have HL : Hid (strip [32] R.data.toList = some R1.data.toList) := by show _ = _; rw [hL', hR1]
    rw [← hR1] at H1 LS
    clear hL hL' h1 k1 hR1 L ND SL
    go_wp2_with fail
    refine Calls.mono (TQ.out _ R1 H1.out LS) ?_
    rintro e w2 (⟨hu, rfl, h2, k2⟩ | ⟨hu, rfl, k2⟩)
    rotate_left
    · have HQ : Hid (q = none) := by show _ = _; rw [HX.out, HL.out]; simp [hu]
      exact ⟨rfl, Or.inr ⟨HQ.out, rfl, K1.out.trans k2⟩⟩
    have H2 : Hid (RR ws.heap.size w2 (R1.extract (qSize R1.data.toList) R1.size) b cv cs) := h2
    have K2 : Hid (KR ws.heap.size w w2) := K1.out.trans k2
    have ITT := IT.out w2 ⟨(unqT (R1.data.toList.take (qSize R1.data.toList))).toArray⟩ (BK.out _ K2.out) (by
      have h3 := unq_len (R1.data.toList.take (qSize R1.data.toList))
      have h4 : (R1.data.toList.take (qSize R1.data.toList)).length ≤ R1.data.toList.length := by rw [List.length_take]; omega
      have e : R1.data.toList.length = R1.size := by simp
      show (unqT (R1.data.toList.take (qSize R1.data.toList))).toArray.size ≤ maxLen
      unfold maxLen
      rw [List.size_toArray]; omega)
    clear h2 k2 TQ IT
    have HU : Hid _ := hu
    clear hu
    cases ht : txT 1 (⟨(unqT (R1.data.toList.take (qSize R1.data.toList))).toArray⟩ : ByteArray) with
    | true =>
      have HQ : Hid (q = some ((⟨(unqT (R1.data.toList.take (qSize R1.data.toList))).toArray⟩ : ByteArray), (R1.extract (qSize R1.data.toList) R1.size).data.toList)) := by
        show _ = _; rw [HX.out, HL.out, ext_drop]; simp [HU.out]; simpa using ht
      rw [ht] at ITT
      clear ht HX HL
      go_wp2_with (go_at_call 70; refine ITT.mono ?_; rintro e w' ⟨rfl, rfl⟩)
      go_ret
      exact Or.inl ⟨_, _, HQ.out, rfl, H2.out, K2.out⟩
    | false =>
      have HQ : Hid (q = none) := by
        show _ = _; rw [HX.out, HL.out]; simp [HU.out]; simpa using ht
      rw [ht] at ITT
      clear ht HX HL
      go_wp2_with (first | (go_at_call 70; refine ITT.mono ?_; rintro e w' ⟨rfl, rfl⟩) | (go_at_call 50; refine (GU _).mono ?_; rintro e w' ⟨rfl, rfl⟩))
      exact ⟨rfl, Or.inr ⟨HQ.out, rfl, K2.out⟩⟩
  · clear TQ
    go_enter Tryd.func64, Tryd.ntmps64
    go_wp2_with fail
    refine Calls.mono ND.out ?_
    rintro e w1 (⟨L, hL, rfl, h1, k1⟩ | ⟨hL, rfl, k1⟩)
    rotate_left
    · have HQ : Hid (q = none) := by
        have hL' : strip [32] R.data.toList = none := hL
        show _ = _; rw [HX.out, hL']; simp
      exact ⟨rfl, Or.inr ⟨HQ.out, rfl, k1⟩⟩
    have hL' : strip [32] R.data.toList = some L := hL
    have H1 : Hid (RR ws.heap.size w1 ⟨L.toArray⟩ b cv cs) := h1
    have K1 : Hid (KR ws.heap.size w w1) := k1
    have LS := SL.out L hL'
    obtain ⟨R1, hR1⟩ : ∃ R1 : ByteArray, R1 = ⟨L.toArray⟩ := ⟨_, rfl⟩
    have HL : Hid (strip [32] R.data.toList = some R1.data.toList) := by show _ = _; rw [hL', hR1]
    rw [← hR1] at H1 LS
    clear hL hL' h1 k1 hR1 L ND SL
    go_wp2_with fail
    refine Calls.mono (TW.out _ R1 H1.out LS) ?_
    rintro e w2 ⟨rfl, h2, k2⟩
    have H2 : Hid (RR ws.heap.size w2 (R1.extract (ptLen R1.data.toList) R1.size) b cv cs) := h2
    have K2 : Hid (KR ws.heap.size w w2) := K1.out.trans k2
    have ITT := IT.out w2 (R1.extract 0 (ptLen R1.data.toList)) (BK.out _ K2.out) (by unfold maxLen; simp; omega)
    have ETX : Hid ((⟨(R1.data.toList.take (ptLen R1.data.toList)).toArray⟩ : ByteArray) = R1.extract 0 (ptLen R1.data.toList)) := by
      show _ = _; rw [← ext_take]
    clear h2 k2 TW IT
    cases ht : txT 2 (R1.extract 0 (ptLen R1.data.toList)) with
    | true =>
      have HQ : Hid (q = some ((R1.extract 0 (ptLen R1.data.toList)), (R1.extract (ptLen R1.data.toList) R1.size).data.toList)) := by
        show _ = _; rw [HX.out, HL.out, ext_drop]; simp [ETX.out]; simpa using ht
      rw [ht] at ITT
      clear ht HX HL
      go_wp2_with (go_at_call 70; refine ITT.mono ?_; rintro e w' ⟨rfl, rfl⟩)
      go_ret
      exact Or.inl ⟨_, _, HQ.out, rfl, H2.out, K2.out⟩
    | false =>
      have HQ : Hid (q = none) := by
        show _ = _; rw [HX.out, HL.out]; simp [ETX.out]; simpa using ht
      rw [ht] at ITT
      clear ht HX HL
      go_wp2_with (first | (go_at_call 70; refine ITT.mono ?_; rintro e w' ⟨rfl, rfl⟩) | (go_at_call 50; refine (GU _).mono ?_; rintro e w' ⟨rfl, rfl⟩))
      exact ⟨rfl, Or.inr ⟨HQ.out, rfl, K2.out⟩⟩
  · clear TQ
    go_enter Tryd.func64, Tryd.ntmps64
    go_wp2_with fail
    refine Calls.mono ND.out ?_
    rintro e w1 (⟨L, hL, rfl, h1, k1⟩ | ⟨hL, rfl, k1⟩)
    rotate_left
    · have HQ : Hid (q = none) := by
        have hL' : strip [32] R.data.toList = none := hL
        show _ = _; rw [HX.out, hL']; simp
      exact ⟨rfl, Or.inr ⟨HQ.out, rfl, k1⟩⟩
    have hL' : strip [32] R.data.toList = some L := hL
    have H1 : Hid (RR ws.heap.size w1 ⟨L.toArray⟩ b cv cs) := h1
    have K1 : Hid (KR ws.heap.size w w1) := k1
    have LS := SL.out L hL'
    obtain ⟨R1, hR1⟩ : ∃ R1 : ByteArray, R1 = ⟨L.toArray⟩ := ⟨_, rfl⟩
    have HL : Hid (strip [32] R.data.toList = some R1.data.toList) := by show _ = _; rw [hL', hR1]
    rw [← hR1] at H1 LS
    clear hL hL' h1 k1 hR1 L ND SL
    go_wp2_with fail
    refine Calls.mono (TW.out _ R1 H1.out LS) ?_
    rintro e w2 ⟨rfl, h2, k2⟩
    have H2 : Hid (RR ws.heap.size w2 (R1.extract (ptLen R1.data.toList) R1.size) b cv cs) := h2
    have K2 : Hid (KR ws.heap.size w w2) := K1.out.trans k2
    have ITT := IT.out w2 (R1.extract 0 (ptLen R1.data.toList)) (BK.out _ K2.out) (by unfold maxLen; simp; omega)
    have ETX : Hid ((⟨(R1.data.toList.take (ptLen R1.data.toList)).toArray⟩ : ByteArray) = R1.extract 0 (ptLen R1.data.toList)) := by
      show _ = _; rw [← ext_take]
    clear h2 k2 TW IT
    cases ht : txT 3 (R1.extract 0 (ptLen R1.data.toList)) with
    | true =>
      have HQ : Hid (q = some ((R1.extract 0 (ptLen R1.data.toList)), (R1.extract (ptLen R1.data.toList) R1.size).data.toList)) := by
        show _ = _; rw [HX.out, HL.out, ext_drop]; simp [ETX.out]; simpa using ht
      rw [ht] at ITT
      clear ht HX HL
      go_wp2_with (go_at_call 70; refine ITT.mono ?_; rintro e w' ⟨rfl, rfl⟩)
      go_ret
      exact Or.inl ⟨_, _, HQ.out, rfl, H2.out, K2.out⟩
    | false =>
      have HQ : Hid (q = none) := by
        show _ = _; rw [HX.out, HL.out]; simp [ETX.out]; simpa using ht
      rw [ht] at ITT
      clear ht HX HL
      go_wp2_with (first | (go_at_call 70; refine ITT.mono ?_; rintro e w' ⟨rfl, rfl⟩) | (go_at_call 50; refine (GU _).mono ?_; rintro e w' ⟨rfl, rfl⟩))
      exact ⟨rfl, Or.inr ⟨HQ.out, rfl, K2.out⟩⟩
end Go.Proofs.YtaleagkhblokgaaDoor
