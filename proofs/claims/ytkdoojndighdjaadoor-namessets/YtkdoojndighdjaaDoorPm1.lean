/- Names, the reference: texts, Asked, Gates. -/
import Derived.Test.YtkdoojndighdjaaDoorPn1
import Derived.Test.YtkdoojndighdjaaDoorPu4
namespace Go.Proofs.YtkdoojndighdjaaDoor
open Go.RowKit

theorem keep_pre (M : List ByteArray) (x : ByteArray) : ∀ k, k ≤ M.length → keepK (M ++ [x]) ByteArray.empty (fun k => seenK (M ++ [x]) k ((M ++ [x]).getD k ByteArray.empty)) k = keepK M ByteArray.empty (fun k => seenK M k (M.getD k ByteArray.empty)) k
  | 0, _ => rfl
  | k + 1, hk => by
    have e1 : (M ++ [x]).getD k ByteArray.empty = M.getD k ByteArray.empty := getD_app (by omega)
    have e2 : ∀ s, seenK (M ++ [x]) k s = seenK M k s := fun s => by unfold seenK; rw [List.take_append_of_le_length (by omega)]
    rw [keepK, keepK, keep_pre M x k (by omega), e1, e2]
theorem once_snoc (M : List ByteArray) (x : ByteArray) : onceL (M ++ [x]) = if inB (onceL M) x = true then onceL M else onceL M ++ [x] := by
  have e0 : onceL (M ++ [x]) = keepK (M ++ [x]) ByteArray.empty (fun k => seenK (M ++ [x]) k ((M ++ [x]).getD k ByteArray.empty)) (M.length + 1) := by unfold onceL; rw [List.length_append]; rfl
  have e1 : (M ++ [x]).getD M.length ByteArray.empty = x := getD_end rfl
  have e2 : seenK (M ++ [x]) M.length x = true ↔ inB (onceL M) x = true := by
    unfold seenK
    rw [List.take_left, inB_iff, List.any_eq_true]
    constructor
    · rintro ⟨y, hy, e⟩
      rw [of_decide_eq_true e]; exact onceL_mem hy
    · intro h
      exact ⟨x, keepK_in _ _ _ _ (Nat.le_refl _) _ h, by simp⟩
  rw [e0, keepK, keep_pre M x _ (Nat.le_refl _), e1]
  by_cases h : inB (onceL M) x = true
  · rw [if_pos (e2.2 h), if_pos h]; rfl
  · rw [if_neg (fun e => h (e2.1 e)), if_neg h]; rfl
theorem texts_next (l : List Opn) (kd : Int) {k : Nat} (h : k < l.length) : textsL (l.take (k + 1)) kd = if (l[k].kind == kd) = true ∧ inB (textsL (l.take k) kd) l[k].text = false then textsL (l.take k) kd ++ [l[k].text] else textsL (l.take k) kd := by
  unfold textsL
  rw [txL_next l kd h]
  by_cases h1 : (l[k].kind == kd) = true
  · rw [if_pos h1, once_snoc]
    by_cases h2 : inB (onceL (txL (l.take k) kd)) l[k].text = true
    · rw [if_pos h2, if_neg (fun e => by rw [h2] at e; cases e.2)]
    · rw [if_neg h2, if_pos ⟨h1, by simpa using h2⟩]
  · rw [if_neg h1, List.append_nil, if_neg (fun e => h1 e.1)]
set_option maxHeartbeats 4000000 in
theorem rtexts_any (v : Value) (l : List Opn) (kd : Int) (w : World) (h : OS w v l) (hlm : l.length ≤ 256) :
    Calls Tryd.prog 63 #[v, .int .i64 kd] w fun e w' => ∃ p c, e = .returned (.slice p (textsL l kd).length c) ∧ OwnG KS w' w.heap.size (.slice p (textsL l kd).length c) (textsL l kd) ∧ Below w.heap.size w w' := by
  obtain ⟨p, cap, rfl⟩ := h.form
  have HS : Hid (OS w (.slice p l.length cap) l) := h
  have HL : Hid (∀ k, (textsL (l.take k) kd).length ≤ 256) := fun k => by
    have h1 := textsL_len (l.take k) kd
    have h2 : (l.take k).length ≤ l.length := by simp; omega
    show _ ≤ _
    omega
  have HA : Hid (textsL (l.take l.length) kd = textsL l kd) := by show _ = _; rw [List.take_length]
  have HN : Hid (∀ k (h : k < l.length), textsL (l.take (k + 1)) kd = if (l[k].kind == kd) = true ∧ inB (textsL (l.take k) kd) l[k].text = false then textsL (l.take k) kd ++ [l[k].text] else textsL (l.take k) kd) := fun k h => texts_next l kd h
  generalize textsL l kd = T at *
  have D0 : Hid (OwnG KS (w.alloc (.cells #[] 9)) w.heap.size (.slice (some ⟨w.heap.size, 0, none⟩) 0 0) (textsL (l.take 0) kd) ∧ Below w.heap.size w (w.alloc (.cells #[] 9))) := ⟨OwnG.empty KS w, (Below.refl _ _).alloc (Nat.le_refl _) _⟩
  clear h
  go_enter Tryd.func63, Tryd.ntmps63
  go_wp2
  go_loopw [5, 6] (fun v5 v6 wr => ∃ (k g c : Nat) (O : List ByteArray) (wk : World), v6 = .int .i64 k ∧ v5 = .slice (some ⟨g, 0, none⟩) O.length c ∧ wk = wr ∧ k ≤ l.length ∧ Hid (O = textsL (l.take k) kd) ∧ Hid (OwnG KS wk w.heap.size (.slice (some ⟨g, 0, none⟩) O.length c) O ∧ Below w.heap.size w wk)) (fun _ v6 _ => l.length - (intOf v6).toNat)
  case atStart => exact ⟨0, _, 0, [], _, rfl, rfl, rfl, Nat.zero_le _, rfl, D0⟩
  case round =>
    obtain ⟨k, g, cp, O, wr, rfl, rfl, rfl, hk, HO, HI⟩ := hrel
    clear D0
    by_cases hlt : k < l.length
    · obtain ⟨X, o, e1, x1, x2, x3, x4⟩ := (HS.out.below HI.out.2).atO hlt
      obtain rfl : p = some ⟨X, o, none⟩ := e1
      have hOl := HL.out k
      have HK : Hid _ := HN.out k hlt
      rw [← HO.out] at hOl HK
      have LS : Hid ((O.length + 1) * KS.B ≤ 140737488355328) := by show (O.length + 1) * 16 ≤ _; omega
      obtain ⟨c, hc⟩ : ∃ c, c = l[k] := ⟨_, rfl⟩
      rw [← hc] at x1 x2 x3 x4 HK
      clear hc
      cases hq : (c.kind == kd) with
      | true =>
        rw [hq] at HK
        have I1 : Hid _ := inG_any _ O c.text wr (HI.out.1.gs KS_ok.len) (by omega)
        cases hi : inB O c.text with
        | false =>
          rw [hi] at HK I1
          rw [if_pos ⟨rfl, rfl⟩] at HK
          go_wp2_with fail
          refine Calls.mono I1.out ?_
          rintro e w1 ⟨rfl, rfl⟩
          clear I1
          go_wp2_with (at_builtin; refine append_g KS KS_ok rfl (.tmp 31) (.tmp 37) 43 rfl w.heap.size Tryd.underlying43 _ _ _ (.slice (some ⟨g, 0, none⟩) O.length cp) O c.text _ rfl HI.out.1 _ rfl rfl rfl LS.out HI.out.2.size ?_; intro g2 c2 w2 ho2 hb2 hk2 hg2)
          have H2 : Hid (OwnG KS w2 w.heap.size (.slice (some ⟨g2, 0, none⟩) (O ++ [c.text]).length c2) (O ++ [c.text]) ∧ Below w.heap.size w w2) := ⟨by rw [List.length_append]; exact ho2, HI.out.2.trans hb2⟩
          have hne : (O ++ [c.text]).length = O.length + 1 := by simp
          go_roundw
          case rel => exact ⟨k + 1, g2, c2, O ++ [c.text], _, by go_num, by rw [hne], rfl, by omega, HK.out.symm, H2⟩
          case measure => simp [intOf]; omega
        | true =>
          rw [hi] at HK I1
          rw [if_neg (fun e => by cases e.2)] at HK
          go_wp2_with fail
          refine Calls.mono I1.out ?_
          rintro e w1 ⟨rfl, rfl⟩
          clear I1
          go_wp2_with fail
          go_roundw
          case rel => exact ⟨k + 1, g, cp, O, _, by go_num, rfl, rfl, by omega, HK.out.symm, HI⟩
          case measure => simp [intOf]; omega
      | false =>
        rw [hq, if_neg (fun e => by cases e.1)] at HK
        go_wp2_with fail
        go_roundw
        case rel => exact ⟨k + 1, g, cp, O, _, by go_num, rfl, rfl, by omega, HK.out.symm, HI⟩
        case measure => simp [intOf]; omega
    · have hke : k = l.length := by omega
      subst hke
      have e1 : O = T := by rw [HO.out, HA.out]
      subst e1
      have H2 : Hid (OwnG KS wr w.heap.size (.slice (some ⟨g, 0, none⟩) O.length cp) O ∧ Below w.heap.size w wr) := HI
      clear HI HO HA HN HL HS
      go_wp2_with fail
      go_ret
      exact ⟨_, _, rfl, H2.out.1, H2.out.2⟩
set_option maxHeartbeats 4000000 in
theorem rasked_any (v : Value) (l : List Opn) (w : World) (h : OS w v l) (ht : ∀ c ∈ l, c.text.size ≤ maxLen) (hlm : l.length ≤ 1000000000000000) :
    Calls Tryd.prog 30 #[v] w fun e w' => AnsT w w' e (askL l 3) (chkO l) := by
  have CK : Hid _ := rcheck_any v l w h ht hlm
  by_cases hc : chkO l = 0
  · have e1 : askL l 3 = textsL l 3 := by unfold askL; rw [if_pos hc]
    rw [e1, hc]
    rw [hc] at CK
    have TX : Hid (∀ w1, Below w.heap.size w w1 → _) := fun w1 b => rtexts_any v l 3 w1 (h.below b) (chkO_ok hc).1
    obtain ⟨p, cap, rfl⟩ := h.form
    generalize textsL l 3 = L at *
    clear h ht hc e1
    go_enter Tryd.func30, Tryd.ntmps30
    go_wp2_with fail
    refine Calls.mono CK.out ?_
    rintro e w1 ⟨rfl, hb1⟩
    have B1 : Hid (Below w.heap.size w w1) := hb1
    clear hb1 CK
    go_wp2_with fail
    refine Calls.mono (TX.out _ B1.out) ?_
    rintro e w2 ⟨p2, c2, rfl, ho, hb2⟩
    have B2 : Hid (Below w.heap.size w w2) := B1.out.trans (hb2.mono B1.out.size)
    have O2 : Hid (OwnG KS w2 w.heap.size (.slice p2 L.length c2) L) := ho.low B1.out.size
    clear ho hb2 TX
    go_wp2_with fail
    go_ret2
    exact ⟨p2, c2, rfl, O2.out, B2.out⟩
  · have e1 : askL l 3 = [] := by unfold askL; rw [if_neg hc]
    rw [e1]
    obtain ⟨p, cap, rfl⟩ := h.form
    generalize chkO l = c at *
    have h1 : (c == 0) = false := by simpa using hc
    have h2 : (c != 0) = true := by simpa using hc
    clear h ht e1
    go_enter Tryd.func30, Tryd.ntmps30
    go_wp2_with fail
    refine Calls.mono CK.out ?_
    rintro e w1 ⟨rfl, hb1⟩
    have B1 : Hid (Below w.heap.size w w1) := hb1
    clear hb1 CK
    go_wp2_with fail
    go_ret2
    exact ⟨none, 0, rfl, OwnG.nil _ _ _, B1.out⟩
set_option maxHeartbeats 4000000 in
theorem rgates_any (v : Value) (l : List Opn) (w : World) (h : OS w v l) (ht : ∀ c ∈ l, c.text.size ≤ maxLen) (hlm : l.length ≤ 1000000000000000) :
    Calls Tryd.prog 34 #[v] w fun e w' => AnsT w w' e (askL l 18) (chkO l) := by
  have CK : Hid _ := rcheck_any v l w h ht hlm
  by_cases hc : chkO l = 0
  · have e1 : askL l 18 = textsL l 18 := by unfold askL; rw [if_pos hc]
    rw [e1, hc]
    rw [hc] at CK
    have TX : Hid (∀ w1, Below w.heap.size w w1 → _) := fun w1 b => rtexts_any v l 18 w1 (h.below b) (chkO_ok hc).1
    obtain ⟨p, cap, rfl⟩ := h.form
    generalize textsL l 18 = L at *
    clear h ht hc e1
    go_enter Tryd.func34, Tryd.ntmps34
    go_wp2_with fail
    refine Calls.mono CK.out ?_
    rintro e w1 ⟨rfl, hb1⟩
    have B1 : Hid (Below w.heap.size w w1) := hb1
    clear hb1 CK
    go_wp2_with fail
    refine Calls.mono (TX.out _ B1.out) ?_
    rintro e w2 ⟨p2, c2, rfl, ho, hb2⟩
    have B2 : Hid (Below w.heap.size w w2) := B1.out.trans (hb2.mono B1.out.size)
    have O2 : Hid (OwnG KS w2 w.heap.size (.slice p2 L.length c2) L) := ho.low B1.out.size
    clear ho hb2 TX
    go_wp2_with fail
    go_ret2
    exact ⟨p2, c2, rfl, O2.out, B2.out⟩
  · have e1 : askL l 18 = [] := by unfold askL; rw [if_neg hc]
    rw [e1]
    obtain ⟨p, cap, rfl⟩ := h.form
    generalize chkO l = c at *
    have h1 : (c == 0) = false := by simpa using hc
    have h2 : (c != 0) = true := by simpa using hc
    clear h ht e1
    go_enter Tryd.func34, Tryd.ntmps34
    go_wp2_with fail
    refine Calls.mono CK.out ?_
    rintro e w1 ⟨rfl, hb1⟩
    have B1 : Hid (Below w.heap.size w w1) := hb1
    clear hb1 CK
    go_wp2_with fail
    go_ret2
    exact ⟨none, 0, rfl, OwnG.nil _ _ _, B1.out⟩
end Go.Proofs.YtkdoojndighdjaaDoor
