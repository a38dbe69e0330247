/- Names, the reference: closure walked. -/
import Derived.Test.YthmppnmmlblbhaaDoorPn1
import Derived.Test.YthmppnmmlblbhaaDoorPu4
import Derived.Test.YthmppnmmlblbhaaDoorQa7
import Derived.Laws.StructEq
import Derived.Test.YthmppnmmlblbhaaDoorPn2
import Derived.Sort.Walk0
import Derived.Laws.Cover1
import Derived.BigQuiet
import Derived.Test.YthmppnmmlblbhaaDoorPz2
import Derived.Test.YthmppnmmlblbhaaDoorPz3
namespace Go.Proofs.YthmppnmmlblbhaaDoor
open Go.RowKit

theorem keep_pre (M : List ByteArray) (x : ByteArray) : ∀ k, k ≤ M.length → keepK (M ++ [x]) ByteArray.empty (fun k => seenK (M ++ [x]) k ((M ++ [x]).getD k ByteArray.empty)) k = keepK M ByteArray.empty (fun k => seenK M k (M.getD k ByteArray.empty)) k
  | 0, _ => rfl
  | k + 1, hk => by
    have e1 : (M ++ [x]).getD k ByteArray.empty = M.getD k ByteArray.empty := getD_app (by omega)
    have e2 : ∀ s, seenK (M ++ [x]) k s = seenK M k s := fun s => by unfold seenK; rw [List.take_append_of_le_length (by omega)]
    rw [keepK, keepK, keep_pre M x k (by omega), e1, e2]
theorem once_snoc (M : List ByteArray) (x : ByteArray) : onceL (M ++ [x]) = if inB (onceL M) x = true then onceL M else onceL M ++ [x] := by
  have e0 : onceL (M ++ [x]) = keepK (M ++ [x]) ByteArray.empty (fun k => seenK (M ++ [x]) k ((M ++ [x]).getD k ByteArray.empty)) (M.length + 1) := by unfold onceL; rw [List.length_append]; rfl
  have e1 : (M ++ [x]).getD M.length ByteArray.empty = x := getD_end rfl
  have e2 : seenK (M ++ [x]) M.length x = true ↔ inB (onceL M) x = true := by
    unfold seenK
    rw [List.take_left, inB_iff, List.any_eq_true]
    constructor
    · rintro ⟨y, hy, e⟩
      rw [of_decide_eq_true e]; exact onceL_mem hy
    · intro h
      exact ⟨x, keepK_in _ _ _ _ (Nat.le_refl _) _ h, by simp⟩
  rw [e0, keepK, keep_pre M x _ (Nat.le_refl _), e1]
  by_cases h : inB (onceL M) x = true
  · rw [if_pos (e2.2 h), if_pos h]; rfl
  · rw [if_neg (fun e => h (e2.1 e)), if_neg h]; rfl
theorem texts_next (l : List Opn) (kd : Int) {k : Nat} (h : k < l.length) : textsL (l.take (k + 1)) kd = if (l[k].kind == kd) = true ∧ inB (textsL (l.take k) kd) l[k].text = false then textsL (l.take k) kd ++ [l[k].text] else textsL (l.take k) kd := by
  unfold textsL
  rw [txL_next l kd h]
  by_cases h1 : (l[k].kind == kd) = true
  · rw [if_pos h1, once_snoc]
    by_cases h2 : inB (onceL (txL (l.take k) kd)) l[k].text = true
    · rw [if_pos h2, if_neg (fun e => by rw [h2] at e; cases e.2)]
    · rw [if_neg h2, if_pos ⟨h1, by simpa using h2⟩]
  · rw [if_neg h1, List.append_nil, if_neg (fun e => h1 e.1)]
set_option maxHeartbeats 4000000 in
theorem rtexts_any (v : Value) (l : List Opn) (kd : Int) (w : World) (h : OS w v l) (hlm : l.length ≤ 256) :
    Calls Tryd.prog 48 #[v, .int .i64 kd] w fun e w' => ∃ p c, e = .returned (.slice p (textsL l kd).length c) ∧ OwnG KS w' w.heap.size (.slice p (textsL l kd).length c) (textsL l kd) ∧ Below w.heap.size w w' := by
  obtain ⟨p, cap, rfl⟩ := h.form
  have HS : Hid (OS w (.slice p l.length cap) l) := h
  have HL : Hid (∀ k, (textsL (l.take k) kd).length ≤ 256) := fun k => by
    have h1 := textsL_len (l.take k) kd
    have h2 : (l.take k).length ≤ l.length := by simp; omega
    show _ ≤ _
    omega
  have HA : Hid (textsL (l.take l.length) kd = textsL l kd) := by show _ = _; rw [List.take_length]
  have HN : Hid (∀ k (h : k < l.length), textsL (l.take (k + 1)) kd = if (l[k].kind == kd) = true ∧ inB (textsL (l.take k) kd) l[k].text = false then textsL (l.take k) kd ++ [l[k].text] else textsL (l.take k) kd) := fun k h => texts_next l kd h
  generalize textsL l kd = T at *
  have D0 : Hid (OwnG KS (w.alloc (.cells #[] 9)) w.heap.size (.slice (some ⟨w.heap.size, 0, none⟩) 0 0) (textsL (l.take 0) kd) ∧ Below w.heap.size w (w.alloc (.cells #[] 9))) := ⟨OwnG.empty KS w, (Below.refl _ _).alloc (Nat.le_refl _) _⟩
  clear h
  go_enter Tryd.func48, Tryd.ntmps48
  go_wp2
  go_loopw [5, 6] (fun v5 v6 wr => ∃ (k g c : Nat) (O : List ByteArray) (wk : World), v6 = .int .i64 k ∧ v5 = .slice (some ⟨g, 0, none⟩) O.length c ∧ wk = wr ∧ k ≤ l.length ∧ Hid (O = textsL (l.take k) kd) ∧ Hid (OwnG KS wk w.heap.size (.slice (some ⟨g, 0, none⟩) O.length c) O ∧ Below w.heap.size w wk)) (fun _ v6 _ => l.length - (intOf v6).toNat)
  case atStart => exact ⟨0, _, 0, [], _, rfl, rfl, rfl, Nat.zero_le _, rfl, D0⟩
  case round =>
    obtain ⟨k, g, cp, O, wr, rfl, rfl, rfl, hk, HO, HI⟩ := hrel
    clear D0
    by_cases hlt : k < l.length
    · obtain ⟨X, o, e1, x1, x2, x3, x4⟩ := (HS.out.below HI.out.2).atO hlt
      obtain rfl : p = some ⟨X, o, none⟩ := e1
      have hOl := HL.out k
      have HK : Hid _ := HN.out k hlt
      rw [← HO.out] at hOl HK
      have LS : Hid ((O.length + 1) * KS.B ≤ 140737488355328) := by show (O.length + 1) * 16 ≤ _; omega
      obtain ⟨c, hc⟩ : ∃ c, c = l[k] := ⟨_, rfl⟩
      rw [← hc] at x1 x2 x3 x4 HK
      clear hc
      cases hq : (c.kind == kd) with
      | true =>
        rw [hq] at HK
        have I1 : Hid _ := inG_any _ O c.text wr (HI.out.1.gs KS_ok.len) (by omega)
        cases hi : inB O c.text with
        | false =>
          rw [hi] at HK I1
          rw [if_pos ⟨rfl, rfl⟩] at HK
          go_wp2_with fail
          refine Calls.mono I1.out ?_
          rintro e w1 ⟨rfl, rfl⟩
          clear I1
          go_wp2_with (at_builtin; refine append_g KS KS_ok rfl (.tmp 31) (.tmp 37) 28 rfl w.heap.size Tryd.underlying28 _ _ _ (.slice (some ⟨g, 0, none⟩) O.length cp) O c.text _ rfl HI.out.1 _ rfl rfl rfl LS.out HI.out.2.size ?_; intro g2 c2 w2 ho2 hb2 hk2 hg2)
          have H2 : Hid (OwnG KS w2 w.heap.size (.slice (some ⟨g2, 0, none⟩) (O ++ [c.text]).length c2) (O ++ [c.text]) ∧ Below w.heap.size w w2) := ⟨by rw [List.length_append]; exact ho2, HI.out.2.trans hb2⟩
          have hne : (O ++ [c.text]).length = O.length + 1 := by simp
          go_roundw
          case rel => exact ⟨k + 1, g2, c2, O ++ [c.text], _, by go_num, by rw [hne], rfl, by omega, HK.out.symm, H2⟩
          case measure => simp [intOf]; omega
        | true =>
          rw [hi] at HK I1
          rw [if_neg (fun e => by cases e.2)] at HK
          go_wp2_with fail
          refine Calls.mono I1.out ?_
          rintro e w1 ⟨rfl, rfl⟩
          clear I1
          go_wp2_with fail
          go_roundw
          case rel => exact ⟨k + 1, g, cp, O, _, by go_num, rfl, rfl, by omega, HK.out.symm, HI⟩
          case measure => simp [intOf]; omega
      | false =>
        rw [hq, if_neg (fun e => by cases e.1)] at HK
        go_wp2_with fail
        go_roundw
        case rel => exact ⟨k + 1, g, cp, O, _, by go_num, rfl, rfl, by omega, HK.out.symm, HI⟩
        case measure => simp [intOf]; omega
    · have hke : k = l.length := by omega
      subst hke
      have e1 : O = T := by rw [HO.out, HA.out]
      subst e1
      have H2 : Hid (OwnG KS wr w.heap.size (.slice (some ⟨g, 0, none⟩) O.length cp) O ∧ Below w.heap.size w wr) := HI
      clear HI HO HA HN HL HS
      go_wp2_with fail
      go_ret
      exact ⟨_, _, rfl, H2.out.1, H2.out.2⟩
set_option maxHeartbeats 4000000 in
theorem rasked_any (v : Value) (l : List Opn) (w : World) (h : OS w v l) (ht : ∀ c ∈ l, c.text.size ≤ maxLen) (hlm : l.length ≤ 1000000000000000) :
    Calls Tryd.prog 24 #[v] w fun e w' => AnsT w w' e (askL l 3) (chkO l) := by
  have CK : Hid _ := rcheck_any v l w h ht hlm
  by_cases hc : chkO l = 0
  · have e1 : askL l 3 = textsL l 3 := by unfold askL; rw [if_pos hc]
    rw [e1, hc]
    rw [hc] at CK
    have TX : Hid (∀ w1, Below w.heap.size w w1 → _) := fun w1 b => rtexts_any v l 3 w1 (h.below b) (chkO_ok hc).1
    obtain ⟨p, cap, rfl⟩ := h.form
    generalize textsL l 3 = L at *
    clear h ht hc e1
    go_enter Tryd.func24, Tryd.ntmps24
    go_wp2_with fail
    refine Calls.mono CK.out ?_
    rintro e w1 ⟨rfl, hb1⟩
    have B1 : Hid (Below w.heap.size w w1) := hb1
    clear hb1 CK
    go_wp2_with fail
    refine Calls.mono (TX.out _ B1.out) ?_
    rintro e w2 ⟨p2, c2, rfl, ho, hb2⟩
    have B2 : Hid (Below w.heap.size w w2) := B1.out.trans (hb2.mono B1.out.size)
    have O2 : Hid (OwnG KS w2 w.heap.size (.slice p2 L.length c2) L) := ho.low B1.out.size
    clear ho hb2 TX
    go_wp2_with fail
    go_ret2
    exact ⟨p2, c2, rfl, O2.out, B2.out⟩
  · have e1 : askL l 3 = [] := by unfold askL; rw [if_neg hc]
    rw [e1]
    obtain ⟨p, cap, rfl⟩ := h.form
    generalize chkO l = c at *
    have h1 : (c == 0) = false := by simpa using hc
    have h2 : (c != 0) = true := by simpa using hc
    clear h ht e1
    go_enter Tryd.func24, Tryd.ntmps24
    go_wp2_with fail
    refine Calls.mono CK.out ?_
    rintro e w1 ⟨rfl, hb1⟩
    have B1 : Hid (Below w.heap.size w w1) := hb1
    clear hb1 CK
    go_wp2_with fail
    go_ret2
    exact ⟨none, 0, rfl, OwnG.nil _ _ _, B1.out⟩
set_option maxHeartbeats 4000000 in
theorem rgates_any (v : Value) (l : List Opn) (w : World) (h : OS w v l) (ht : ∀ c ∈ l, c.text.size ≤ maxLen) (hlm : l.length ≤ 1000000000000000) :
    Calls Tryd.prog 28 #[v] w fun e w' => AnsT w w' e (askL l 18) (chkO l) := by
  have CK : Hid _ := rcheck_any v l w h ht hlm
  by_cases hc : chkO l = 0
  · have e1 : askL l 18 = textsL l 18 := by unfold askL; rw [if_pos hc]
    rw [e1, hc]
    rw [hc] at CK
    have TX : Hid (∀ w1, Below w.heap.size w w1 → _) := fun w1 b => rtexts_any v l 18 w1 (h.below b) (chkO_ok hc).1
    obtain ⟨p, cap, rfl⟩ := h.form
    generalize textsL l 18 = L at *
    clear h ht hc e1
    go_enter Tryd.func28, Tryd.ntmps28
    go_wp2_with fail
    refine Calls.mono CK.out ?_
    rintro e w1 ⟨rfl, hb1⟩
    have B1 : Hid (Below w.heap.size w w1) := hb1
    clear hb1 CK
    go_wp2_with fail
    refine Calls.mono (TX.out _ B1.out) ?_
    rintro e w2 ⟨p2, c2, rfl, ho, hb2⟩
    have B2 : Hid (Below w.heap.size w w2) := B1.out.trans (hb2.mono B1.out.size)
    have O2 : Hid (OwnG KS w2 w.heap.size (.slice p2 L.length c2) L) := ho.low B1.out.size
    clear ho hb2 TX
    go_wp2_with fail
    go_ret2
    exact ⟨p2, c2, rfl, O2.out, B2.out⟩
  · have e1 : askL l 18 = [] := by unfold askL; rw [if_neg hc]
    rw [e1]
    obtain ⟨p, cap, rfl⟩ := h.form
    generalize chkO l = c at *
    have h1 : (c == 0) = false := by simpa using hc
    have h2 : (c != 0) = true := by simpa using hc
    clear h ht e1
    go_enter Tryd.func28, Tryd.ntmps28
    go_wp2_with fail
    refine Calls.mono CK.out ?_
    rintro e w1 ⟨rfl, hb1⟩
    have B1 : Hid (Below w.heap.size w w1) := hb1
    clear hb1 CK
    go_wp2_with fail
    go_ret2
    exact ⟨none, 0, rfl, OwnG.nil _ _ _, B1.out⟩
end Go.Proofs.YthmppnmmlblbhaaDoor
namespace Go.Proofs.YthmppnmmlblbhaaDoor
open Go.RowKit

/-- A row of texts that grows, beside one that is read. -/
structure MI (w1 wk : World) (g c : Nat) (O : List ByteArray) (p2 : Option Addr) (c2 : Nat) (L : List ByteArray) : Prop where
  o : OwnG KS wk w1.heap.size (.slice (some ⟨g, 0, none⟩) O.length c) O
  b : Below w1.heap.size w1 wk
  s : GS KS wk (.slice p2 L.length c2) L
  n : ∀ x, (Value.slice p2 L.length c2).ownBlock = some x → x < wk.heap.size ∧ x ≠ g
theorem MI.push {w1 wk w2 : World} {g c g2 c2' : Nat} {O : List ByteArray} {p2 : Option Addr} {c2 : Nat} {L : List ByteArray} {y : ByteArray} (h : MI w1 wk g c O p2 c2 L) (ho : OwnG KS w2 w1.heap.size (.slice (some ⟨g2, 0, none⟩) (O.length + 1) c2') (O ++ [y])) (hb : Below w1.heap.size wk w2)
    (hk : ∀ k, k < wk.heap.size → some k ≠ (Value.slice (some ⟨g, 0, none⟩) O.length c).ownBlock → w2.heap[k]? = wk.heap[k]?) (hg : (Value.slice (some ⟨g, 0, none⟩) O.length c).ownBlock = some g2 ∨ wk.heap.size ≤ g2) : MI w1 w2 g2 c2' (O ++ [y]) p2 c2 L := by
  have hs := hb.size
  refine ⟨by rw [List.length_append]; exact ho, h.b.trans hb, h.s.blk hs (fun x hx hl => hk x hl (fun e => (h.n x hx).2 (by simpa [Value.ownBlock] using e))), fun x hx => ?_⟩
  obtain ⟨h1, h2⟩ := h.n x hx
  refine ⟨Nat.lt_of_lt_of_le h1 hs, fun e => ?_⟩
  rcases hg with hg | hg
  · apply h2
    have : g = g2 := by simpa [Value.ownBlock] using hg
    omega
  · omega
theorem filt_next (A : List ByteArray) (N : List ByteArray) {j : Nat} (h : j < A.length) : (A.take (j + 1)).filter (fun s => !inB N s) = (A.take j).filter (fun s => !inB N s) ++ (if inB N A[j] = true then [] else [A[j]]) := by
  rw [List.take_add_one, List.getElem?_eq_getElem h, Option.toList_some, List.filter_append]
  congr 1
  cases e : inB N A[j] with
  | true => simp [e]
  | false => simp [e]
/-- What the reference has behind j texts of a provider. -/
def rmO (U A N : List ByteArray) (j : Nat) : List ByteArray := onceL (U ++ (A.take j).filter fun s => !inB N s)
theorem rmO_skip {U A N : List ByteArray} {j : Nat} (h : j < A.length) (hp : inB N A[j] = true) : rmO U A N (j + 1) = rmO U A N j := by
  unfold rmO; rw [filt_next A N h, if_pos hp, List.append_nil]
theorem rmO_step {U A N : List ByteArray} {j : Nat} (h : j < A.length) (hp : inB N A[j] = false) : rmO U A N (j + 1) = if inB (rmO U A N j) A[j] = true then rmO U A N j else rmO U A N j ++ [A[j]] := by
  unfold rmO; rw [filt_next A N h, if_neg (by rw [hp]; decide), ← List.append_assoc, once_snoc]
theorem onceL_len (M : List ByteArray) : (onceL M).length ≤ M.length := by unfold onceL; exact keepK_len _ _ _ _
set_option maxHeartbeats 8000000 in
theorem rmissing_any (v : Value) (L : List Pvx) (w : World) (h : PR w v L) :
    Calls Tryd.prog 13 #[v] w fun e w' => AnsF w w' e (misL (pL L)) (setF (pL L)) := by
  have A0 : Hid (∀ ob, Below w.heap.size w (w.alloc ob)) := fun ob => (Below.refl _ _).alloc (Nat.le_refl _) ob
  have F0 : Hid (FBx (w.alloc (.cells #[.int .i64 0, .int .i64 0] 26)) w.heap.size 0 0) := heap_alloc_new _ _
  have CS : Hid (∀ w1, Below w.heap.size w w1 → _) := fun w1 b => rcheckSet_any v L w1 (h.below b)
  by_cases hn : (setF (pL L)).2 = 0
  · obtain ⟨hl, hg, hd, hz⟩ := setF_fine hn
    rw [pL_len] at hl
    have hG : ∀ k (hk : k < L.length), chkO L[k].p.ops = 0 ∧ nameB L[k].p.name = true := fun k hk => by
      have := hg k (by rw [pL_len]; exact hk)
      rw [pL_at hk] at this
      exact prvE_ops this
    have e1 : misL (pL L) = onceL (misU (pL L) L.length) := by unfold misL; rw [if_pos hn, pL_len]
    rw [e1]
    rw [hz] at CS ⊢
    obtain ⟨p, cap, rfl⟩ := h.gs.form
    have HS : Hid (PR w (.slice p L.length cap) L) := h
    have hc256 : ∀ j (hj : j < (pL L).length), (pL L)[j].ops.length ≤ 256 := fun j hj => by
      rw [pL_len] at hj
      rw [pL_at hj]; exact (chkO_ok (hG j hj).1).1
    have HU : Hid (∀ k (hk : k < L.length), onceL (misU (pL L) (k + 1)) = rmO (misU (pL L) k) (textsL L[k].p.ops 3) (nameL (pL L)) (textsL L[k].p.ops 3).length) := fun k hk => by
      have := misU_next (L := pL L) (k := k) (by rw [pL_len]; exact hk)
      rw [pL_at hk] at this
      rw [this]
      unfold rmO misF
      rw [List.take_length]
    have HLn : Hid (∀ k (hk : k < L.length) j, (rmO (misU (pL L) k) (textsL L[k].p.ops 3) (nameL (pL L)) j).length ≤ 66000) := fun k hk j => by
      have h1 := misU_len hc256 k (by rw [pL_len]; omega)
      have h2 := textsL_len L[k].p.ops 3
      have h3 := (chkO_ok (hG k hk).1).1
      have h4 := onceL_len (misU (pL L) k ++ ((textsL L[k].p.ops 3).take j).filter fun s => !inB (nameL (pL L)) s)
      have h5 := List.length_filter_le (fun s => !inB (nameL (pL L)) s) ((textsL L[k].p.ops 3).take j)
      have h6 : ((textsL L[k].p.ops 3).take j).length ≤ (textsL L[k].p.ops 3).length := by simp; omega
      rw [List.length_append] at h4
      unfold rmO
      omega
    have HT : Hid (∀ k (hk : k < L.length), (textsL L[k].p.ops 3).length ≤ 256) := fun k hk => by
      have h1 := textsL_len L[k].p.ops 3
      have h2 := (chkO_ok (hG k hk).1).1
      show _ ≤ _
      omega
    have TX : Hid (∀ w1 k (hk : k < L.length), Below w.heap.size w w1 → Calls Tryd.prog 48 #[.slice L[k].q L[k].p.ops.length L[k].c, .int .i64 3] w1 fun e w' => ∃ p c, e = .returned (.slice p (textsL L[k].p.ops 3).length c) ∧ OwnG KS w' w1.heap.size (.slice p (textsL L[k].p.ops 3).length c) (textsL L[k].p.ops 3) ∧ Below w1.heap.size w1 w') := fun w1 k hk b => rtexts_any _ _ 3 w1 ((h.ps _ (List.getElem_mem hk)).below b).os (chkO_ok (hG k hk).1).1
    have NU : Hid (∀ w1 s, Below w.heap.size w w1 → Calls Tryd.prog 43 #[.slice p L.length cap, .string s] w1 fun e w' => e = .returned (.int .i64 (numI (nameL (pL L)) s)) ∧ w' = w1) := fun w1 s b => number_any _ L s w1 (h.gs.below b) (by omega)
    have U0 : Hid (onceL (misU (pL L) 0) = []) := by show _ = _; simp [misU, onceL, keepK]
    have UZ : Hid (∀ k (hk : k < L.length), rmO (misU (pL L) k) (textsL L[k].p.ops 3) (nameL (pL L)) 0 = onceL (misU (pL L) k)) := fun k hk => by unfold rmO; simp
    clear h hn hg hd hz hG hc256 e1
    go_enter Tryd.func13, Tryd.ntmps13
    go_wp2_with fail
    refine Calls.mono (CS.out _ (A0.out _)) ?_
    rintro e w1 ⟨rfl, hb1⟩
    have B1 : Hid (Below w.heap.size w w1) := (A0.out _).trans (hb1.mono (A0.out _).size)
    have F1 : Hid (FBx w1 w.heap.size 0 0) := F0.out.below hb1
    clear hb1 CS F0
    have BA : Hid (∀ ob, Below w1.heap.size w1 (w1.alloc ob)) := fun ob => (Below.refl _ _).alloc (Nat.le_refl _) ob
    have BG : Hid (∀ ob, (w1.alloc ob).heap.size = w1.heap.size + 1) := fun ob => by simp
    go_wp2_with fail
    generalize hW : w1.alloc _ = w2 at *
    have B2 : Hid (Below w1.heap.size w1 w2) := by rw [← hW]; exact BA.out _
    have G2 : Hid (w2.heap.size = w1.heap.size + 1) := by rw [← hW]; exact BG.out _
    have D0 : Hid (OwnG KS (w2.alloc (.cells #[] 9)) w2.heap.size (.slice (some ⟨w2.heap.size, 0, none⟩) 0 0) [] ∧ Below w2.heap.size w2 (w2.alloc (.cells #[] 9))) := ⟨OwnG.empty KS w2, (Below.refl _ _).alloc (Nat.le_refl _) _⟩
    rw [G2.out] at D0
    clear hW BA BG
    go_loopw [5, 6] (fun v5 v6 wr => ∃ (k g c : Nat) (O : List ByteArray) (wk : World), v6 = .int .i64 k ∧ v5 = .slice (some ⟨g, 0, none⟩) O.length c ∧ wk = wr ∧ k ≤ L.length ∧ Hid (O = onceL (misU (pL L) k)) ∧ Hid (OwnG KS wk (w1.heap.size + 1) (.slice (some ⟨g, 0, none⟩) O.length c) O ∧ Below (w1.heap.size + 1) w2 wk)) (fun _ v6 _ => L.length - (intOf v6).toNat)
    case atStart => exact ⟨0, _, 0, [], _, rfl, rfl, rfl, Nat.zero_le _, U0.out.symm, D0⟩
    case round =>
      obtain ⟨k, g, cp, O, wr, rfl, rfl, rfl, hk, HO, HI⟩ := hrel
      clear D0
      have BW : Hid (Below w2.heap.size w2 wr) := by rw [G2.out]; exact HI.out.2
      have BX : Hid (Below w.heap.size w wr) := B1.out.trans ((B2.out.trans (BW.out.mono B2.out.size)).mono B1.out.size)
      by_cases hlt : k < L.length
      · obtain ⟨X, o, e1, x0, x1, _⟩ := (HS.out.gs.below BX.out).atP hlt
        obtain rfl : p = some ⟨X, o, none⟩ := e1
        have T1 : Hid _ := TX.out wr k hlt BX.out
        have HUk : Hid _ := HU.out k hlt
        have HLk : Hid _ := HLn.out k hlt
        have hTT := HT.out k hlt
        have UZk : Hid _ := UZ.out k hlt
        have OWr : Hid (OwnG KS wr w2.heap.size (.slice (some ⟨g, 0, none⟩) O.length cp) O) := by rw [G2.out]; exact HI.out.1
        obtain ⟨c, hc⟩ : ∃ c, c = L[k] := ⟨_, rfl⟩
        rw [← hc] at x0 x1 T1 HUk HLk hTT UZk
        clear hc HU HLn HT TX UZ HI
        generalize misU (pL L) k = U at *
        go_wp2_with fail
        refine Calls.mono T1.out ?_
        rintro e w3 ⟨pT, cT, rfl, o3, b3⟩
        have M0 : Hid (MI w2 w3 g cp O pT cT (textsL c.p.ops 3)) := ⟨OWr.out.below b3, BW.out.trans (b3.mono BW.out.size), o3.gs KS_ok.len, fun x hx => ⟨(o3.lt hx).2, fun e => by have h1 := (o3.lt hx).1; have h2 := (OWr.out.lt (g := g) rfl).2; omega⟩⟩
        have BL : Hid (∀ wx, Below w2.heap.size w2 wx → Below w.heap.size w wx) := fun wx b => B1.out.trans ((B2.out.trans (b.mono B2.out.size)).mono B1.out.size)
        clear o3 b3 T1 OWr x0 x1
        generalize textsL c.p.ops 3 = TT at *
        have O0 : Hid (O = rmO U TT (nameL (pL L)) 0) := by show _ = _; rw [HO.out, UZk.out]
        clear HO UZk
        go_wp2_with fail
        go_loopw [5, 8] (fun v5 v8 wx => ∃ (j g c : Nat) (O : List ByteArray) (wk : World), v8 = .int .i64 j ∧ v5 = .slice (some ⟨g, 0, none⟩) O.length c ∧ wk = wx ∧ j ≤ TT.length ∧ Hid (O = rmO U TT (nameL (pL L)) j) ∧ Hid (MI w2 wk g c O pT cT TT)) (fun _ v8 _ => TT.length - (intOf v8).toNat)
        case atStart => exact ⟨0, g, cp, O, _, rfl, rfl, rfl, Nat.zero_le _, O0, M0⟩
        case round =>
          obtain ⟨j, g', cp', O', wj, rfl, rfl, rfl, hj, HO, HI⟩ := hrel
          clear M0 O0
          by_cases hjt : j < TT.length
          · obtain ⟨X2, o2, e2, yc⟩ := HI.out.s.atS hjt
            obtain rfl : pT = some ⟨X2, o2, none⟩ := e2
            have NUj : Hid _ := NU.out wj TT[j] (BL.out _ HI.out.b)
            have INj : Hid _ := inG_any _ O' TT[j] wj (HI.out.o.gs KS_ok.len) (by have := HLk.out j; rw [← HO.out] at this; omega)
            have hOl : O'.length ≤ 66000 := by have := HLk.out j; rw [← HO.out] at this; exact this
            have LS : Hid ((O'.length + 1) * KS.B ≤ 140737488355328) := by show (O'.length + 1) * 16 ≤ _; omega
            obtain ⟨hn1, hn2⟩ := numI_neg (nameL (pL L)) TT[j]
            have HN1 : Hid _ := hn1
            have HN2 : Hid _ := hn2
            have ST : Hid (inB (nameL (pL L)) TT[j] = false → rmO U TT (nameL (pL L)) (j + 1) = if inB O' TT[j] = true then O' else O' ++ [TT[j]]) := fun hp => by rw [rmO_step hjt hp, ← HO.out]
            have SK : Hid (inB (nameL (pL L)) TT[j] = true → rmO U TT (nameL (pL L)) (j + 1) = O') := fun hp => by rw [rmO_skip hjt hp, ← HO.out]
            clear hn1 hn2 HO
            generalize numI (nameL (pL L)) TT[j] = nn at *
            generalize TT[j] = y at *
            cases hp : inB (nameL (pL L)) y with
            | true =>
              have hnn : 0 ≤ nn := HN2.out.2 hp
              have NXT : Hid _ := SK.out hp
              clear HN1 HN2 ST SK INj
              go_wp2_with fail
              refine Calls.mono NUj.out ?_
              rintro e w4 ⟨rfl, hw4⟩
              rw [hw4]
              clear hw4 NUj
              go_wp2_with fail
              go_roundw
              case rel => exact ⟨j + 1, g', cp', O', _, by go_num, rfl, rfl, by omega, NXT.out.symm, HI⟩
              case measure => simp [intOf]; omega
            | false =>
              have hnn : nn < 0 := HN1.out.2 hp
              have NXT : Hid _ := ST.out hp
              clear HN1 HN2 ST SK
              cases hi : inB O' y with
              | true =>
                rw [hi] at INj NXT
                rw [if_pos rfl] at NXT
                go_wp2_with fail
                refine Calls.mono NUj.out ?_
                rintro e w4 ⟨rfl, hw4⟩
                rw [hw4]
                clear hw4 NUj
                go_wp2_with fail
                refine Calls.mono INj.out ?_
                rintro e w5 ⟨rfl, hw5⟩
                rw [hw5]
                clear hw5 INj
                go_wp2_with fail
                go_roundw
                case rel => exact ⟨j + 1, g', cp', O', _, by go_num, rfl, rfl, by omega, NXT.out.symm, HI⟩
                case measure => simp [intOf]; omega
              | false =>
                rw [hi] at INj NXT
                rw [if_neg (by decide)] at NXT
                go_wp2_with fail
                refine Calls.mono NUj.out ?_
                rintro e w4 ⟨rfl, hw4⟩
                rw [hw4]
                clear hw4 NUj
                go_wp2_with fail
                refine Calls.mono INj.out ?_
                rintro e w5 ⟨rfl, hw5⟩
                rw [hw5]
                clear hw5 INj
                go_wp2_with (at_builtin; refine append_g KS KS_ok rfl (.tmp 50) (.tmp 55) 28 rfl w2.heap.size Tryd.underlying28 wj _ _ (.slice (some ⟨g', 0, none⟩) O'.length cp') O' y _ rfl HI.out.o _ rfl rfl rfl LS.out HI.out.b.size ?_; intro g2 c2 w6 ho6 hb6 hk6 hg6)
                have H6 : Hid (MI w2 w6 g2 c2 (O' ++ [y]) (some ⟨X2, o2, none⟩) cT TT) := HI.out.push ho6 hb6 hk6 hg6
                have hne : (O' ++ [y]).length = O'.length + 1 := by simp
                clear ho6 hb6 hk6 hg6
                go_roundw
                case rel => exact ⟨j + 1, g2, c2, O' ++ [y], _, by go_num, by rw [hne], rfl, by omega, NXT.out.symm, H6⟩
                case measure => simp [intOf]; omega
          · have hje : j = TT.length := by omega
            subst hje
            have HE : Hid (O' = onceL (misU (pL L) (k + 1))) := by show _ = _; rw [HO.out, HUk.out]
            have H7 : Hid (OwnG KS wj (w1.heap.size + 1) (.slice (some ⟨g', 0, none⟩) O'.length cp') O' ∧ Below (w1.heap.size + 1) w2 wj) := by rw [← G2.out]; exact ⟨HI.out.o, HI.out.b⟩
            clear HO HI HUk HLk BL NU
            go_wp2_with fail
            go_roundw
            case rel => exact ⟨k + 1, g', cp', O', _, by go_num, rfl, rfl, by omega, HE, H7⟩
            case measure => simp [intOf]; omega
      · have hke : k = L.length := by omega
        subst hke
        have ZW : w.heap.size < w1.heap.size := F1.out.lt
        have FX : Hid (FBx wr w.heap.size 0 0) := (F1.out.below B2.out).below BW.out
        have O3 : Hid (∀ u0 u1, OwnG KS ((wr.setCell ⟨w.heap.size, 0, none⟩ u0).setCell ⟨w.heap.size, 1, none⟩ u1) w.heap.size (.slice (some ⟨g, 0, none⟩) O.length cp) O) := fun u0 u1 => by
          refine (HI.out.1.low (by omega)).far fun g hg => ?_
          have h1 := (HI.out.1.lt hg).1
          rw [set_far (show g ≠ w.heap.size by omega), set_far (show g ≠ w.heap.size by omega)]
        rw [HO.out] at O3
        have EO := HO.out
        obtain ⟨y0, y1⟩ := FX.out.cells
        have fz := FX.out.fz
        have zl := FX.out.lt
        have AF : Hid (∀ u0 u1, AnsF w ((wr.setCell ⟨w.heap.size, 0, none⟩ u0).setCell ⟨w.heap.size, 1, none⟩ u1) (.returned (.tuple #[.slice (some ⟨g, 0, none⟩) O.length cp, .agg #[.int .i64 0, .int .i64 0]])) (onceL (misU (pL L) L.length)) (0, 0)) := fun u0 u1 => ⟨_, cp, by rw [EO], O3.out u0 u1, below_set2 BX.out (Nat.le_refl _) _ _⟩
        clear HU HLn HT TX UZ NU HO O3 HI EO
        go_wp2_with fail
        exact bodyPost_ret (v := .tuple #[.slice (some ⟨g, 0, none⟩) O.length cp, .agg #[.int .i64 0, .int .i64 0]]) (by simp [results, Tryd.results13, go_sem, y0, y1]) rfl (AF.out _ _)
  · have e1 : misL (pL L) = [] := by unfold misL; rw [if_neg hn]
    rw [e1]
    obtain ⟨p, cap, rfl⟩ := h.gs.form
    generalize setF (pL L) = R at *
    obtain ⟨ra, rc⟩ := R
    have h1 : (rc == 0) = false := by simpa using hn
    have h2 : (rc != 0) = true := by simpa using hn
    clear h e1
    go_enter Tryd.func13, Tryd.ntmps13
    go_wp2_with fail
    refine Calls.mono (CS.out _ (A0.out _)) ?_
    rintro e w1 ⟨rfl, hb1⟩
    have B1 : Hid (Below w.heap.size w w1) := (A0.out _).trans (hb1.mono (A0.out _).size)
    have F1 : Hid (FBx w1 w.heap.size 0 0) := F0.out.below hb1
    clear hb1 CS
    obtain ⟨y0, y1⟩ := F1.out.cells
    have fz := F1.out.fz
    have zl := F1.out.lt
    obtain ⟨z0, z1⟩ := F1.out.setA ra rc
    go_wp2_with fail
    go_region
    all_goals
      go_wp2_with fail
      exact bodyPost_ret (v := .tuple #[.slice none 0 0, .agg #[.int .i64 ra, .int .i64 rc]]) (by simp [results, Tryd.results13, go_sem, z0, z1]) rfl ⟨none, 0, rfl, OwnG.nil _ _ _, (below_alloc' (below_set2 B1.out (Nat.le_refl _) _ _) _).drew⟩
end Go.Proofs.YthmppnmmlblbhaaDoor
namespace Go.Proofs.YthmppnmmlblbhaaDoor
open Go.RowKit

theorem pL_get {L M : List Pvx} (h : pL M = pL L) {k : Nat} (hk : k < L.length) (hk' : k < M.length) : M[k].p = L[k].p := by
  have := pL_at hk'
  rw [← this, ← pL_at hk]
  simp [h]
set_option maxHeartbeats 4000000 in
/-- The law's comparison: the same providers, wherever they lie. -/
theorem provs_same (v1 v2 : Value) (M L : List Pvx) (w : World) (h1 : PR w v1 M) (h2 : PR w v2 L) (he : pL M = pL L) (hlm : L.length ≤ 10000000000000) :
    Calls Tryd.prog 15 #[v1, v2] w fun e w' => e = .returned (.bool true) ∧ Below w.heap.size w w' := by
  have hlen : M.length = L.length := by rw [← pL_len M, he, pL_len]
  obtain ⟨p1, c1, rfl⟩ := h1.gs.form
  obtain ⟨p2, c2, rfl⟩ := h2.gs.form
  have H1 : Hid (PR w (.slice p1 M.length c1) M) := h1
  have H2 : Hid (PR w (.slice p2 L.length c2) L) := h2
  have SP : Hid (∀ w1 k (hk : k < L.length) (hk' : k < M.length), Below w.heap.size w w1 → Calls Tryd.prog 49 #[.agg #[.string L[k].p.name, .slice M[k].q L[k].p.ops.length M[k].c, .bool L[k].p.again, .int .i64 L[k].p.pol.t, .int .i64 L[k].p.pol.b, .int .i64 L[k].p.pol.f, .int .i64 L[k].p.pol.c, .int .i64 L[k].p.ck, .string L[k].p.ct], .agg #[.string L[k].p.name, .slice L[k].q L[k].p.ops.length L[k].c, .bool L[k].p.again, .int .i64 L[k].p.pol.t, .int .i64 L[k].p.pol.b, .int .i64 L[k].p.pol.f, .int .i64 L[k].p.pol.c, .int .i64 L[k].p.ck, .string L[k].p.ct]] w1 fun e w' => e = .returned (.bool true) ∧ Below w1.heap.size w1 w') := fun w1 k hk hk' b => by
    have e := pL_get he hk hk'
    have q1 := ((h1.ps _ (List.getElem_mem hk')).below b).os
    have q2 := ((h2.ps _ (List.getElem_mem hk)).below b).os
    have q3 := (h2.ps _ (List.getElem_mem hk)).ln
    unfold Pvx.v at q1 q2
    rw [e] at q1
    exact sameProv_same L[k].p (.slice M[k].q L[k].p.ops.length M[k].c) (.slice L[k].q L[k].p.ops.length L[k].c) w1 q1 q2 (by omega)
  have PE : Hid (∀ k (hk : k < L.length) (hk' : k < M.length), M[k].p = L[k].p) := fun k hk hk' => pL_get he hk hk'
  have HLE : Hid (M.length = L.length) := hlen
  rw [hlen]
  clear h1 h2 he hlen
  go_enter Tryd.func15, Tryd.ntmps15
  go_wp2
  go_loopw [5] (fun v5 wr => ∃ (k : Nat) (wk : World), v5 = .int .i64 k ∧ wk = wr ∧ k ≤ L.length ∧ Hid (Below w.heap.size w wk)) (fun v5 _ => L.length - (intOf v5).toNat)
  case atStart => exact ⟨0, _, rfl, rfl, Nat.zero_le _, Below.refl _ _⟩
  case round =>
    obtain ⟨k, wr, rfl, rfl, hk, HB⟩ := hrel
    by_cases hlt : k < L.length
    · have hlt' : k < M.length := by rw [HLE.out]; exact hlt
      obtain ⟨X, o, e1, x0, x1, x2, x3, x4, x5, x6, x7, x8⟩ := (H1.out.gs.below HB.out).atP hlt'
      obtain rfl : p1 = some ⟨X, o, none⟩ := e1
      obtain ⟨Y, u, e2, y0, y1, y2, y3, y4, y5, y6, y7, y8⟩ := (H2.out.gs.below HB.out).atP hlt
      obtain rfl : p2 = some ⟨Y, u, none⟩ := e2
      have S1 : Hid (∀ w1, Below wr.heap.size wr w1 → _) := fun w1 b => SP.out w1 k hlt hlt' (HB.out.trans (b.mono HB.out.size))
      rw [PE.out k hlt hlt'] at x0 x1 x2 x3 x4 x5 x6 x7 x8
      have XS : Hid (∀ w1, Below wr.heap.size wr w1 → ∀ b o v, wr.cell? ⟨b, o, none⟩ = some v → w1.cell? ⟨b, o, none⟩ = some v) := fun w1 c b o v hc => (c.cell (p := ⟨b, o, none⟩) (block_lt_of_cell hc)).trans hc
      obtain ⟨c, hc⟩ : ∃ c, c = L[k] := ⟨_, rfl⟩
      obtain ⟨d, hd⟩ : ∃ d, d = M[k] := ⟨_, rfl⟩
      rw [← hc] at x0 x1 x2 x3 x4 x5 x6 x7 x8 y0 y1 y2 y3 y4 y5 y6 y7 y8 S1
      rw [← hd] at x1 S1
      clear hc hd SP PE
      have BR : Hid (Below wr.heap.size wr wr) := Below.refl _ _
      have BD : Hid (Below wr.heap.size wr wr.drew) := (Below.refl _ _).drew
      go_wp2_with fail
      go_region_held3 (fun w' => w'.cell? ⟨X, o + k * 9, none⟩ = some (.string c.p.name) ∧ w'.cell? ⟨X, o + k * 9 + 1, none⟩ = some (.slice d.q c.p.ops.length d.c) ∧ w'.cell? ⟨X, o + k * 9 + 2, none⟩ = some (.bool c.p.again) ∧ w'.cell? ⟨X, o + k * 9 + 3, none⟩ = some (.int .i64 c.p.pol.t) ∧ w'.cell? ⟨X, o + k * 9 + 4, none⟩ = some (.int .i64 c.p.pol.b) ∧ w'.cell? ⟨X, o + k * 9 + 5, none⟩ = some (.int .i64 c.p.pol.f) ∧ w'.cell? ⟨X, o + k * 9 + 6, none⟩ = some (.int .i64 c.p.pol.c) ∧ w'.cell? ⟨X, o + k * 9 + 7, none⟩ = some (.int .i64 c.p.ck) ∧ w'.cell? ⟨X, o + k * 9 + 8, none⟩ = some (.string c.p.ct) ∧ w'.cell? ⟨Y, u + k * 9, none⟩ = some (.string c.p.name) ∧ w'.cell? ⟨Y, u + k * 9 + 1, none⟩ = some (.slice c.q c.p.ops.length c.c) ∧ w'.cell? ⟨Y, u + k * 9 + 2, none⟩ = some (.bool c.p.again) ∧ w'.cell? ⟨Y, u + k * 9 + 3, none⟩ = some (.int .i64 c.p.pol.t) ∧ w'.cell? ⟨Y, u + k * 9 + 4, none⟩ = some (.int .i64 c.p.pol.b) ∧ w'.cell? ⟨Y, u + k * 9 + 5, none⟩ = some (.int .i64 c.p.pol.f) ∧ w'.cell? ⟨Y, u + k * 9 + 6, none⟩ = some (.int .i64 c.p.pol.c) ∧ w'.cell? ⟨Y, u + k * 9 + 7, none⟩ = some (.int .i64 c.p.ck) ∧ w'.cell? ⟨Y, u + k * 9 + 8, none⟩ = some (.string c.p.ct)) (go_keep) (first | (go_at_call 49; refine Calls.mono (S1.out _ ?_) ?_; (first | exact BR.out | exact BD.out); rintro e w3 ⟨rfl, b3⟩; have B3 : Hid (Below wr.heap.size wr w3) := (by first | exact b3 | exact BD.out.trans (b3.mono BD.out.size)); have x0' := XS.out _ B3.out _ _ _ x0; have x1' := XS.out _ B3.out _ _ _ x1; have x2' := XS.out _ B3.out _ _ _ x2; have x3' := XS.out _ B3.out _ _ _ x3; have x4' := XS.out _ B3.out _ _ _ x4; have x5' := XS.out _ B3.out _ _ _ x5; have x6' := XS.out _ B3.out _ _ _ x6; have x7' := XS.out _ B3.out _ _ _ x7; have x8' := XS.out _ B3.out _ _ _ x8; have y0' := XS.out _ B3.out _ _ _ y0; have y1' := XS.out _ B3.out _ _ _ y1; have y2' := XS.out _ B3.out _ _ _ y2; have y3' := XS.out _ B3.out _ _ _ y3; have y4' := XS.out _ B3.out _ _ _ y4; have y5' := XS.out _ B3.out _ _ _ y5; have y6' := XS.out _ B3.out _ _ _ y6; have y7' := XS.out _ B3.out _ _ _ y7; have y8' := XS.out _ B3.out _ _ _ y8; clear b3))
      all_goals
        have N3 : Hid (Below w.heap.size w w3) := HB.out.trans (B3.out.mono HB.out.size)
        go_wp2_with fail
        go_roundw
        case rel => exact ⟨k + 1, _, by go_num, rfl, by omega, N3⟩
        case measure => simp [intOf]; omega
    · go_wp2
      go_ret
      exact ⟨rfl, HB.out⟩
theorem PR_of_CPS {w w' : World} {v vs : Value} {L M : List Pvx} (h : PR w v L) (c : CPS w w' vs L M L.length) : PR w' vs M ∧ pL M = pL L := by
  have e : pL M = pL L := by have := c.eq; rw [List.take_length] at this; exact this
  have hlen : M.length = L.length := by rw [← pL_len M, e, pL_len]
  refine ⟨⟨c.own.gs KP_ok.len, fun x hx => ?_⟩, e⟩
  obtain ⟨k, hk, rfl⟩ := List.mem_iff_getElem.1 hx
  have e2 := pL_get e (by omega : k < L.length) hk
  have q := h.ps _ (List.getElem_mem (by omega : k < L.length))
  exact ⟨(c.each _ hx).gs KO_ok.len, by rw [e2]; exact q.tx, by rw [e2]; exact q.nm, by rw [e2]; exact q.ln⟩
set_option maxHeartbeats 8000000 in
theorem namesSets_any (v : Value) (L : List Pvx) (w : World) (h : PR w v L) (hv : NV w) (hl : L.length * 104 ≤ 140737488355328) :
    Calls Tryd.prog 3 #[v] w fun e w' => e = .returned (.bool true) ∧ Below w.heap.size w w' := by
  have CE : Hid _ := copyProvs_any v L w h hl
  have PC : Hid (∀ w' vs M, CPS w w' vs L M L.length → PR w' vs M ∧ pL M = pL L) := fun w' vs M c => PR_of_CPS h c
  have C1 : Hid (∀ w1 u M, Below w.heap.size w w1 → PR w1 u M → pL M = pL L → Calls Tryd.prog 10 #[u] w1 fun e w' => e = .returned (.agg #[.int .i64 (setF (pL L)).1, .int .i64 (setF (pL L)).2]) ∧ Below w1.heap.size w1 w') := fun w1 u M b hu e => by rw [← e]; exact checkSet_any u M w1 hu (hv.below b)
  have C2 : Hid (∀ w1, Below w.heap.size w w1 → _) := fun w1 b => rcheckSet_any v L w1 (h.below b)
  have M1 : Hid (∀ w1 u M, Below w.heap.size w w1 → PR w1 u M → pL M = pL L → Calls Tryd.prog 12 #[u] w1 fun e w' => AnsF w1 w' e (misL (pL L)) (setF (pL L))) := fun w1 u M b hu e => by rw [← e]; exact missing_any u M w1 hu (hv.below b)
  have M2 : Hid (∀ w1, Below w.heap.size w w1 → _) := fun w1 b => rmissing_any v L w1 (h.below b)
  have ST : Hid (∀ w1 u1 u2 m, GS KS w1 u1 m → GS KS w1 u2 m → m.length ≤ 100000000000000000 → Calls Tryd.prog 14 #[u1, u2] w1 fun e w' => e = .returned (.bool true) ∧ Below w1.heap.size w1 w') := fun w1 u1 u2 m h1 h2 h3 => by
    refine (sameTextsG w1 u1 u2 m h1 h2 h3).mono ?_
    rintro e w' ⟨rfl, n, rfl⟩
    exact ⟨rfl, ⟨rfl, rfl, rfl, Nat.le_refl _, fun _ _ => rfl⟩⟩
  have SP : Hid (∀ w1 u M, Below w.heap.size w w1 → PR w1 u M → pL M = pL L → Calls Tryd.prog 15 #[u, v] w1 fun e w' => e = .returned (.bool true) ∧ Below w1.heap.size w1 w') := fun w1 u M b hu e => provs_same u v M L w1 hu (h.below b) e (by omega)
  have LM : Hid ((misL (pL L)).length ≤ 100000000000000000) := by
    show _ ≤ _
    unfold misL
    split
    · rename_i hn
      obtain ⟨hl2, hg, _, _⟩ := setF_fine hn
      have h1 := onceL_len (misU (pL L) (pL L).length)
      have h2 := misU_len (L := pL L) (fun j hj => (chkO_ok (prvE_ops (hg j hj)).1).1) (pL L).length (Nat.le_refl _)
      omega
    · simp
  have LL : Hid (∀ M, pL M = pL L → M.length = L.length) := fun M e => by rw [← pL_len M, e, pL_len]
  obtain ⟨p, cap, rfl⟩ := h.gs.form
  generalize misL (pL L) = PM at *
  generalize setF (pL L) = R at *
  obtain ⟨ra, rc⟩ := R
  have z1 : (ra == ra) = true := by simp
  have z2 : (rc == rc) = true := by simp
  clear h hv
  go_enter Tryd.func3, Tryd.ntmps3
  go_wp2_with fail
  refine Calls.mono CE.out ?_
  rintro e w1 ⟨p1, c1, M, rfl, cps⟩
  obtain ⟨pr1, eq1⟩ := PC.out _ _ _ cps
  have EQ : Hid (pL M = pL L) := eq1
  have P1 : Hid (PR w1 (.slice p1 L.length c1) M) := pr1
  have B1 : Hid (Below w.heap.size w w1) := cps.bl
  clear cps pr1 eq1 CE PC
  go_wp2_with fail
  refine Calls.mono (C1.out _ _ _ B1.out P1.out EQ.out) ?_
  rintro e w2 ⟨rfl, hb2⟩
  have B2 : Hid (Below w.heap.size w w2) := B1.out.trans (hb2.mono B1.out.size)
  have P2 : Hid (PR w2 (.slice p1 L.length c1) M) := P1.out.below hb2
  clear hb2 B1 P1 C1
  go_wp2_with fail
  refine Calls.mono (C2.out _ B2.out) ?_
  rintro e w3 ⟨rfl, hb3⟩
  have B3 : Hid (Below w.heap.size w w3) := B2.out.trans (hb3.mono B2.out.size)
  have P3 : Hid (PR w3 (.slice p1 L.length c1) M) := P2.out.below hb3
  clear hb3 B2 P2 C2
  go_wp2_with fail
  refine Calls.mono (M1.out _ _ _ B3.out P3.out EQ.out) ?_
  rintro e w4 ⟨pa, ca, rfl, hx4, hb4⟩
  have B4 : Hid (Below w.heap.size w w4) := B3.out.trans (hb4.mono B3.out.size)
  have P4 : Hid (PR w4 (.slice p1 L.length c1) M) := P3.out.below hb4
  have T4 : Hid (GS KS w4 (.slice pa PM.length ca) PM) := hx4.gs KS_ok.len
  clear hx4 hb4 B3 P3 M1
  have AB : Hid (∀ ob, Below w4.heap.size w4 (w4.alloc ob)) := fun ob => (Below.refl _ _).alloc (Nat.le_refl _) ob
  have F4 : Hid (FBx (w4.alloc (.cells #[.int .i64 ra, .int .i64 rc] 26)) w4.heap.size ra rc) := heap_alloc_new _ _
  go_wp2_with fail
  refine Calls.mono (M2.out _ (B4.out.trans ((AB.out _).mono B4.out.size))) ?_
  rintro e w5 ⟨pb, cb, rfl, hx5, hb5⟩
  have BB5 : Hid (Below w4.heap.size w4 w5) := (AB.out _).trans (hb5.mono (AB.out _).size)
  have B5 : Hid (Below w.heap.size w w5) := B4.out.trans (BB5.out.mono B4.out.size)
  have P5 : Hid (PR w5 (.slice p1 L.length c1) M) := P4.out.below BB5.out
  have T5 : Hid (GS KS w5 (.slice pa PM.length ca) PM) := T4.out.below BB5.out
  have U5 : Hid (GS KS w5 (.slice pb PM.length cb) PM) := hx5.gs KS_ok.len
  have F5 : Hid (FBx w5 w4.heap.size ra rc) := F4.out.below hb5
  obtain ⟨y0, y1⟩ := F5.out.cells
  have y2 : ∀ ob, (w5.alloc ob).cell? ⟨w4.heap.size, 0, none⟩ = some (.int .i64 ra) := fun ob => (F5.out.below ((Below.refl _ _).alloc (Nat.le_refl _) ob)).cells.1
  have y3 : ∀ ob, (w5.alloc ob).cell? ⟨w4.heap.size, 1, none⟩ = some (.int .i64 rc) := fun ob => (F5.out.below ((Below.refl _ _).alloc (Nat.le_refl _) ob)).cells.2
  clear hx5 hb5 B4 P4 T4 M2 F4 BB5 AB
  have AC : Hid (∀ ob, Below w5.heap.size w5 (w5.alloc ob)) := fun ob => (Below.refl _ _).alloc (Nat.le_refl _) ob
  go_wp2_with fail
  refine Calls.mono (ST.out _ _ _ _ (T5.out.below (AC.out _)) (U5.out.below (AC.out _)) LM.out) ?_
  rintro e w6 ⟨rfl, hb6⟩
  have BB6 : Hid (Below w5.heap.size w5 w6) := (AC.out _).trans (hb6.mono (AC.out _).size)
  have B6 : Hid (Below w.heap.size w w6) := B5.out.trans (BB6.out.mono B5.out.size)
  have P6 : Hid (PR w6 (.slice p1 L.length c1) M) := P5.out.below BB6.out
  clear hb6 BB6 AC B5 P5 T5 U5
  go_wp2_with fail
  refine Calls.mono (SP.out _ _ _ B6.out P6.out EQ.out) ?_
  rintro e w7 ⟨rfl, hb7⟩
  have B7 : Hid (Below w.heap.size w w7) := B6.out.trans (hb7.mono B6.out.size)
  clear hb7
  go_wp2_with fail
  go_ret
  exact ⟨rfl, B7.out⟩
end Go.Proofs.YthmppnmmlblbhaaDoor
namespace Go.Proofs.YthmppnmmlblbhaaDoor
open Go.RowKit

theorem OwnG.fz {α : Type} {K : RK α} {w : World} {base g n cap : Nat} {l : List α} (h : OwnG K w base (.slice (some ⟨g, 0, none⟩) n cap) l) : ∀ o, w.frozen? ⟨g, o, none⟩ = false := by
  rcases h.2 with ⟨e, _⟩ | ⟨g', cp, cur, e1, _, e3, _⟩
  · cases e
  · injection e1 with e1 _ _
    injection e1 with e1
    injection e1 with e1 _ _
    subst e1
    exact fun o => box_frozen e3
def gtB (x s : ByteArray) : Bool := !(Op.bytesLess x.toList s.toList || x.toList == s.toList)
theorem gtB_true {x s : ByteArray} (h : gtB x s = true) : s.data.toList < x.data.toList := by
  unfold gtB at h
  rw [bytesLess_eq, ByteArray.toList_eq, ByteArray.toList_eq] at h
  simp only [Bool.not_eq_true', Bool.or_eq_false_iff, decide_eq_false_iff_not, beq_eq_false_iff_ne, ne_eq] at h
  rcases List.le_iff_lt_or_eq.1 (List.not_lt.1 h.1) with e | e
  · exact e
  · exact absurd e.symm h.2
theorem gtB_false {x s : ByteArray} (h : gtB x s = false) (hne : x ≠ s) : x.data.toList < s.data.toList := by
  unfold gtB at h
  rw [bytesLess_eq, ByteArray.toList_eq, ByteArray.toList_eq] at h
  simp only [Bool.not_eq_false', Bool.or_eq_true, decide_eq_true_eq, beq_iff_eq] at h
  rcases h with e | e
  · exact e
  · exact absurd (bytes_ext e) hne
/-- One more, in its place. -/
theorem Srt.ins {T : List ByteArray} {p : ByteArray → Bool} (h : Srt T p) {s : ByteArray} {a : Nat} (ha : a ≤ T.length) (hhi : ∀ j (hj : j < T.length), a ≤ j → s.data.toList < T[j].data.toList) (hlo : ∀ (h0 : 0 < a), (T[a - 1]'(by omega)).data.toList < s.data.toList) : Srt (T.take a ++ [s] ++ T.drop a) (fun x => p x || decide (x = s)) := by
  have hp := List.pairwise_iff_getElem.1 h.up
  have hlo2 : ∀ j (hj : j < T.length), j < a → T[j].data.toList < s.data.toList := fun j hj hja => by
    have h1 := hlo (by omega)
    by_cases e : j = a - 1
    · subst e; exact h1
    · exact List.lt_trans (hp j (a - 1) hj (by omega) (by omega)) h1
  refine ⟨?_, fun x => ?_⟩
  · rw [List.pairwise_append, List.pairwise_append]
    refine ⟨⟨h.up.sublist (List.take_sublist _ _), List.pairwise_singleton _ _, fun x hx y hy => ?_⟩, h.up.sublist (List.drop_sublist _ _), fun x hx y hy => ?_⟩
    · rw [List.mem_singleton] at hy
      subst hy
      rw [List.mem_take_iff_getElem] at hx
      obtain ⟨j, hj, rfl⟩ := hx
      exact hlo2 j (by omega) (by omega)
    · rw [List.mem_drop_iff_getElem] at hy
      obtain ⟨j, hj, rfl⟩ := hy
      rw [List.mem_append, List.mem_singleton] at hx
      rcases hx with hx | rfl
      · rw [List.mem_take_iff_getElem] at hx
        obtain ⟨i, hi, rfl⟩ := hx
        exact hp i (a + j) (by omega) (by omega) (by omega)
      · exact hhi (a + j) (by omega) (by omega)
  · rw [List.mem_append, List.mem_append, List.mem_singleton, Bool.or_eq_true, decide_eq_true_eq, ← h.mem]
    have : x ∈ T ↔ x ∈ T.take a ∨ x ∈ T.drop a := by rw [← List.mem_append, List.take_append_drop]
    rw [this]
    constructor
    · rintro ((h1 | h1) | h1)
      · exact Or.inl (Or.inl h1)
      · exact Or.inr h1
      · exact Or.inl (Or.inr h1)
    · rintro ((h1 | h1) | h1)
      · exact Or.inl (Or.inl h1)
      · exact Or.inr h1
      · exact Or.inl (Or.inr h1)
/-- Those behind a place moved up by one: what stands at the place does not matter. -/
def gapL (T : List ByteArray) (k : Nat) (j : ByteArray) : List ByteArray := T.take k ++ [j] ++ T.drop k
theorem gapL_len {T : List ByteArray} {k : Nat} (_hk : k ≤ T.length) (j : ByteArray) : (gapL T k j).length = T.length + 1 := by unfold gapL; simp; omega
theorem gapL_at {T : List ByteArray} {k : Nat} (hk : k ≤ T.length) (h0 : 0 < k) (j : ByteArray) : (gapL T k j)[k - 1]'(by rw [gapL_len hk]; omega) = T[k - 1]'(by omega) := by
  unfold gapL
  rw [List.getElem_append_left (by simp; omega), List.getElem_append_left (by simp; omega), List.getElem_take]
theorem gapL_set {T : List ByteArray} {k : Nat} (hk : k ≤ T.length) (h0 : 0 < k) (j : ByteArray) : (gapL T k j).set k (T[k - 1]'(by omega)) = gapL T (k - 1) (T[k - 1]'(by omega)) := by
  unfold gapL
  have e1 : T.take k = T.take (k - 1) ++ [T[k - 1]'(by omega)] := by
    have := List.take_succ_eq_append_getElem (l := T) (i := k - 1) (by omega)
    rw [show k - 1 + 1 = k by omega] at this; exact this
  have e2 : T.drop (k - 1) = T[k - 1]'(by omega) :: T.drop k := by
    have := List.drop_eq_getElem_cons (l := T) (i := k - 1) (by omega)
    rw [show k - 1 + 1 = k by omega] at this; exact this
  rw [e2, List.append_assoc, List.set_append_right _ _ (by simp; omega)]
  have : k - (T.take k).length = 0 := by simp; omega
  rw [this]
  simp only [List.cons_append, List.nil_append, List.set_cons_zero]
  rw [e1]
theorem gapL_put {T : List ByteArray} {k : Nat} (hk : k ≤ T.length) (j s : ByteArray) : (gapL T k j).set k s = gapL T k s := by
  unfold gapL
  rw [List.append_assoc, List.set_append_right _ _ (by simp; omega)]
  have : k - (T.take k).length = 0 := by simp; omega
  rw [this]; simp
theorem gapL_end (T : List ByteArray) (j : ByteArray) : gapL T T.length j = T ++ [j] := by unfold gapL; simp
theorem Srt.len {T l : List ByteArray} (h : Srt T (inB l)) : T.length ≤ l.length := by
  refine nodup_le T l (h.up.imp fun {a b} hlt e => by subst e; exact List.lt_irrefl _ hlt) (fun x hx => (inB_iff _ _).1 ((h.mem x).1 hx))
theorem inB_snoc (l : List ByteArray) {k : Nat} (hk : k < l.length) : inB (l.take (k + 1)) = fun x => inB (l.take k) x || decide (x = l[k]) := by
  funext x
  rw [Bool.eq_iff_iff, inB_iff, Bool.or_eq_true, inB_iff, decide_eq_true_eq, List.take_add_one, List.getElem?_eq_getElem hk, Option.toList_some, List.mem_append, List.mem_singleton]
end Go.Proofs.YthmppnmmlblbhaaDoor
namespace Go.Proofs.YthmppnmmlblbhaaDoor
open Go.RowKit

theorem drewN_same {w : World} (n : Nat) : Below w.heap.size w (w.drewN n) := ⟨rfl, rfl, rfl, Nat.le_refl _, fun _ _ => rfl⟩
set_option maxHeartbeats 16000000 in
set_option maxRecDepth 100000 in
theorem sortedB_any (v : Value) (l : List ByteArray) (w : World) (h : GS KS w v l) (hlm : l.length ≤ 100000) :
    Calls Tryd.prog 67 #[v] w fun e w' => ∃ q c, e = .returned (.slice q (srtL (inB l)).length c) ∧ OwnG KS w' w.heap.size (.slice q (srtL (inB l)).length c) (srtL (inB l)) ∧ Below w.heap.size w w' := by
  obtain ⟨p, cap, rfl⟩ := h.form
  have HS : Hid (GS KS w (.slice p l.length cap) l) := h
  have D0 : Hid (Srt [] (inB (l.take 0)) ∧ OwnG KS (w.alloc (.cells #[] 9)) w.heap.size (.slice (some ⟨w.heap.size, 0, none⟩) 0 0) [] ∧ Below w.heap.size w (w.alloc (.cells #[] 9))) := ⟨⟨.nil, fun s => by simp [inB]⟩, OwnG.empty KS w, (Below.refl _ _).alloc (Nat.le_refl _) _⟩
  have HE : Hid (∀ T, Srt T (inB (l.take l.length)) → T = srtL (inB l)) := fun T hT => by rw [List.take_length] at hT; exact hT.eq
  clear h
  go_enter Tryd.func67, Tryd.ntmps67
  go_wp2
  go_loopw [3, 4] (fun v3 v4 wr => ∃ (k g c : Nat) (T : List ByteArray) (wk : World), v4 = .int .i64 k ∧ v3 = .slice (some ⟨g, 0, none⟩) T.length c ∧ wk = wr ∧ k ≤ l.length ∧ Hid (Srt T (inB (l.take k)) ∧ OwnG KS wk w.heap.size (.slice (some ⟨g, 0, none⟩) T.length c) T ∧ Below w.heap.size w wk)) (fun _ v4 _ => l.length - (intOf v4).toNat)
  case atStart => exact ⟨0, _, 0, [], _, rfl, rfl, rfl, Nat.zero_le _, D0⟩
  case round =>
    obtain ⟨k, g, cp, T, wr, rfl, rfl, rfl, hk, HI⟩ := hrel
    clear D0
    by_cases hlt : k < l.length
    · obtain ⟨X, o, e1, x1⟩ := (HS.out.below HI.out.2.2).atS hlt
      obtain rfl : p = some ⟨X, o, none⟩ := e1
      have hTl : T.length ≤ k := by have := HI.out.1.len; rw [List.length_take] at this; omega
      have IN : Hid _ := inG_any _ T l[k] wr (HI.out.2.1.gs KS_ok.len) (by omega)
      have ES : Hid (inB (l.take (k + 1)) = fun x => inB (l.take k) x || decide (x = l[k])) := inB_snoc l hlt
      have XC : Hid (∀ w1, Below w.heap.size w w1 → w1.cell? ⟨X, o + k, none⟩ = some (.string l[k])) := fun w1 b => by
        obtain ⟨X', o', e1', x1'⟩ := HS.out.atS hlt
        injection e1' with e1'
        injection e1' with e1' e2' _
        subst e1' e2'
        exact (b.cell (p := ⟨X, o + k, none⟩) (block_lt_of_cell x1')).trans x1'
      have HLT : Hid (k + 1 ≤ l.length) := hlt
      generalize l[k] = s at *
      cases hi : inB T s with
      | true =>
        rw [hi] at IN
        have N1 : Hid (Srt T (inB (l.take (k + 1))) ∧ OwnG KS wr w.heap.size (.slice (some ⟨g, 0, none⟩) T.length cp) T ∧ Below w.heap.size w wr) := by
          refine ⟨⟨HI.out.1.up, fun x => ?_⟩, HI.out.2⟩
          rw [ES.out, Bool.or_eq_true, decide_eq_true_eq, HI.out.1.mem]
          constructor
          · exact Or.inl
          · rintro (e | rfl)
            · exact e
            · exact (HI.out.1.mem _).1 ((inB_iff _ _).1 hi)
        go_wp2_with fail
        refine Calls.mono IN.out ?_
        rintro e w1 ⟨rfl, hw1⟩
        rw [hw1]
        clear hw1 IN
        go_wp2_with fail
        go_roundw
        case rel => exact ⟨k + 1, g, cp, T, _, by go_num, rfl, rfl, HLT.out, N1⟩
        case measure => have := HLT.out; simp [intOf]; omega
      | false =>
        rw [hi] at IN
        have NI : Hid (∀ j (hj : j < T.length), T[j] ≠ s) := fun j hj e => by
          have : inB T s = true := (inB_iff _ _).2 (by rw [← e]; exact List.getElem_mem hj)
          rw [this] at hi; cases hi
        clear hi
        go_wp2_with fail
        refine Calls.mono IN.out ?_
        rintro e w1 ⟨rfl, hw1⟩
        rw [hw1]
        clear hw1 IN
        go_wp2_with fail
        go_loopw [5] (fun v5 wx => ∃ (a : Nat) (wk : World), v5 = .int .i64 a ∧ wk = wx ∧ a ≤ T.length ∧ Hid (∀ j (hj : j < T.length), a ≤ j → s.data.toList < T[j].data.toList) ∧ Hid (Below wr.heap.size wr wk)) (fun v5 _ => (intOf v5).toNat)
        case atStart => exact ⟨T.length, _, rfl, rfl, Nat.le_refl _, fun j hj h2 => by omega, Below.refl _ _⟩
        case round =>
          obtain ⟨a, wx, rfl, rfl, ha, HA, BX⟩ := hrel
          have OX : Hid (OwnG KS wx w.heap.size (.slice (some ⟨g, 0, none⟩) T.length cp) T) := HI.out.2.1.below BX.out
          have xc := XC.out _ (HI.out.2.2.trans (BX.out.mono HI.out.2.2.size))
          by_cases hgo : ∃ (h0 : 0 < a), gtB (T[a - 1]'(by omega)) s = true
          · obtain ⟨h0, hgt⟩ := hgo
            obtain ⟨b, rfl⟩ : ∃ b, a = b + 1 := ⟨a - 1, by omega⟩
            have ha1 : b < T.length := by omega
            obtain ⟨X2, o2, e2, yc⟩ := (OX.out.gs KS_ok.len).atS ha1
            injection e2 with e2
            injection e2 with e2 e3 _
            subst e2 e3
            rw [Nat.zero_add] at yc
            have hgt2 : gtB T[b] s = true := hgt
            have T2 : Hid (∀ j (hj : j < T.length), b ≤ j → s.data.toList < T[j].data.toList) := fun j hj hbj => by
              by_cases e : j = b
              · subst e; exact gtB_true hgt2
              · exact HA.out j hj (by omega)
            have hg : (!(Op.bytesLess T[b].toList s.toList || T[b].toList == s.toList)) = true := hgt2
            have hbI : ((b + 1 : Nat) : Int) = (b : Int) + 1 := by omega
            clear HA hgt hgt2
            obtain ⟨y, hy⟩ : ∃ y, y = T[b] := ⟨_, rfl⟩
            rw [← hy] at yc hg
            clear hy
            go_wp2
            go_quiet (fail)
            go_wp2
            go_roundw
            case rel => exact ⟨b, _, by go_num, rfl, by omega, T2, BX.out.trans ((drewN_same _).mono BX.out.size)⟩
            case measure => simp [intOf]
          · have LO : Hid (∀ (h0 : 0 < a), (T[a - 1]'(by omega)).data.toList < s.data.toList) := fun h0 => by
              cases hgt : gtB (T[a - 1]'(by omega)) s with
              | true => exact absurd ⟨h0, hgt⟩ hgo
              | false => exact gtB_false hgt (NI.out _ (by omega))
            have HG : Hid (∀ (h0 : 0 < a), gtB (T[a - 1]'(by omega)) s = false) := fun h0 => by
              cases hgt : gtB (T[a - 1]'(by omega)) s with
              | true => exact absurd ⟨h0, hgt⟩ hgo
              | false => rfl
            have SI : Hid (Srt (gapL T a s) (inB (l.take (k + 1)))) := by
              show Srt _ _
              rw [ES.out]
              exact HI.out.1.ins ha HA.out LO.out
            have LS : Hid ((T.length + 1) * KS.B ≤ 140737488355328) := by show (T.length + 1) * 16 ≤ _; omega
            have ZX : Hid (w.heap.size ≤ wx.heap.size) := Nat.le_trans HI.out.2.2.size BX.out.size
            have BW : Hid (Below w.heap.size w wx) := HI.out.2.2.trans (BX.out.mono HI.out.2.2.size)
            clear hgo HA LO NI ES
            by_cases h0 : 0 < a
            · obtain ⟨b, rfl⟩ : ∃ b, a = b + 1 := ⟨a - 1, by omega⟩
              have ha1 : b < T.length := by omega
              obtain ⟨X2, o2, e2, yc⟩ := (OX.out.gs KS_ok.len).atS ha1
              injection e2 with e2
              injection e2 with e2 e3 _
              subst e2 e3
              rw [Nat.zero_add] at yc
              have hg : (!(Op.bytesLess T[b].toList s.toList || T[b].toList == s.toList)) = false := HG.out h0
              have hbI : ((b + 1 : Nat) : Int) = (b : Int) + 1 := by omega
              obtain ⟨y, hy⟩ : ∃ y, y = T[b] := ⟨_, rfl⟩
              rw [← hy] at yc hg
              clear hy HG
              go_wp2
              go_quiet (fail)
              go_wp2_with (at_builtin; refine append_g KS KS_ok rfl (.tmp 38) (.tmp 39) 28 rfl w.heap.size Tryd.underlying28 _ _ _ (.slice (some ⟨g, 0, none⟩) T.length cp) T ByteArray.empty _ rfl (OX.out.below (drewN_same _)) _ rfl rfl rfl LS.out ZX.out ?_; intro g2 c2 w2 ho2 hb2 hk2 hg2)
              have D2 : Hid (OwnG KS w2 w.heap.size (.slice (some ⟨g2, 0, none⟩) (T.length + 1) c2) (gapL T T.length ByteArray.empty) ∧ Below w.heap.size w w2) := ⟨by rw [gapL_end]; exact ho2, (BW.out.trans ((drewN_same _).mono BW.out.size)).trans hb2⟩
              clear ho2 hb2 hk2 hg2 OX
              go_loopw [6] (fun v6 wz => ∃ (m : Nat) (j : ByteArray) (wk : World), v6 = .int .i64 m ∧ wk = wz ∧ (b + 1) ≤ m ∧ m ≤ T.length ∧ Hid (OwnG KS wk w.heap.size (.slice (some ⟨g2, 0, none⟩) (T.length + 1) c2) (gapL T m j) ∧ Below w.heap.size w wk)) (fun v6 _ => (intOf v6).toNat)
              case atStart => exact ⟨T.length, ByteArray.empty, _, by go_num, rfl, ha, Nat.le_refl _, D2⟩
              case round =>
                obtain ⟨m, j, wz, rfl, rfl, hm1, hm2, HZ⟩ := hrel
                clear D2
                by_cases hgo2 : (b + 1) < m
                · obtain ⟨b3, rfl⟩ : ∃ b3, m = b3 + 1 := ⟨m - 1, by omega⟩
                  have hl3 : (gapL T (b3 + 1) j).length = T.length + 1 := gapL_len hm2 j
                  obtain ⟨X3, o3, e3, zc⟩ := (HZ.out.1.gs KS_ok.len).atS (k := b3) (by rw [hl3]; omega)
                  injection e3 with e3
                  injection e3 with e3 e4 _
                  subst e3 e4
                  rw [Nat.zero_add] at zc
                  have ez : (gapL T (b3 + 1) j)[b3]'(by rw [hl3]; omega) = T[b3]'(by omega) := gapL_at hm2 (by omega) j
                  rw [ez] at zc
                  have fz := HZ.out.1.fz
                  obtain ⟨X4, o4, e5, zc4⟩ := (HZ.out.1.gs KS_ok.len).atS (k := b3 + 1) (by rw [hl3]; omega)
                  injection e5 with e5
                  injection e5 with e5 e6 _
                  subst e5 e6
                  rw [Nat.zero_add] at zc4
                  have N3 : Hid (OwnG KS (wz.setCell ⟨g2, b3 + 1, none⟩ (.string (T[b3]'(by omega)))) w.heap.size (.slice (some ⟨g2, 0, none⟩) (T.length + 1) c2) (gapL T b3 (T[b3]'(by omega))) ∧ Below w.heap.size w (wz.setCell ⟨g2, b3 + 1, none⟩ (.string (T[b3]'(by omega))))) := by
                    refine ⟨?_, HZ.out.2.setCell (p := ⟨g2, b3 + 1, none⟩) (HZ.out.1.lt rfl).1 _⟩
                    have := HZ.out.1.set1 rfl KS_ok.len (k := b3 + 1) (T[b3]'(by omega)) (.string (T[b3]'(by omega))) rfl
                    have e7 := gapL_set hm2 (by omega) j
                    rw [show (gapL T (b3 + 1) j).set (b3 + 1) (T[b3]'(by omega)) = gapL T b3 (T[b3]'(by omega)) from e7] at this
                    exact this
                  have hbI3 : ((b3 + 1 : Nat) : Int) = (b3 : Int) + 1 := by omega
                  clear ez HZ
                  generalize (gapL T (b3 + 1) j)[b3 + 1]'(by rw [hl3]; omega) = junk at *
                  obtain ⟨y3, hy3⟩ : ∃ y3, y3 = T[b3]'(by omega) := ⟨_, rfl⟩
                  rw [← hy3] at zc N3
                  clear hy3
                  go_wp2
                  go_roundw
                  case rel => exact ⟨b3, y3, _, by go_num, rfl, by omega, by omega, N3⟩
                  case measure => simp [intOf]
                · have hma : m = (b + 1) := by omega
                  rw [hma] at HZ hm2
                  clear hma
                  have hl3 : (gapL T (b + 1) j).length = T.length + 1 := gapL_len hm2 j
                  have fz := HZ.out.1.fz
                  obtain ⟨X4, o4, e5, zc4⟩ := (HZ.out.1.gs KS_ok.len).atS (k := (b + 1)) (by rw [hl3]; omega)
                  injection e5 with e5
                  injection e5 with e5 e6 _
                  subst e5 e6
                  rw [Nat.zero_add] at zc4
                  have xz := XC.out _ HZ.out.2
                  have hl4 : (gapL T (b + 1) s).length = T.length + 1 := gapL_len hm2 s
                  have N4 : Hid (Srt (gapL T (b + 1) s) (inB (l.take (k + 1))) ∧ OwnG KS (wz.setCell ⟨g2, (b + 1), none⟩ (.string s)) w.heap.size (.slice (some ⟨g2, 0, none⟩) (gapL T (b + 1) s).length c2) (gapL T (b + 1) s) ∧ Below w.heap.size w (wz.setCell ⟨g2, (b + 1), none⟩ (.string s))) := by
                    refine ⟨SI.out, ?_, HZ.out.2.setCell (p := ⟨g2, (b + 1), none⟩) (HZ.out.1.lt rfl).1 _⟩
                    have := HZ.out.1.set1 rfl KS_ok.len (k := (b + 1)) s (.string s) rfl
                    rw [gapL_put hm2] at this
                    rw [hl4]; exact this
                  clear HZ
                  generalize (gapL T (b + 1) j)[(b + 1)]'(by rw [hl3]; omega) = junk at *
                  go_wp2
                  go_roundw
                  case rel => exact ⟨k + 1, g2, c2, gapL T (b + 1) s, _, by go_num, by rw [hl4], rfl, HLT.out, N4⟩
                  case measure => have := HLT.out; simp [intOf]; omega
            · have h0' : decide ((0 : Int) < (a : Int)) = false := by simp; omega
              clear HG
              go_wp2
              go_quiet (fail)
              go_wp2_with (at_builtin; refine append_g KS KS_ok rfl (.tmp 38) (.tmp 39) 28 rfl w.heap.size Tryd.underlying28 _ _ _ (.slice (some ⟨g, 0, none⟩) T.length cp) T ByteArray.empty _ rfl (OX.out.below (drewN_same _)) _ rfl rfl rfl LS.out ZX.out ?_; intro g2 c2 w2 ho2 hb2 hk2 hg2)
              have D2 : Hid (OwnG KS w2 w.heap.size (.slice (some ⟨g2, 0, none⟩) (T.length + 1) c2) (gapL T T.length ByteArray.empty) ∧ Below w.heap.size w w2) := ⟨by rw [gapL_end]; exact ho2, (BW.out.trans ((drewN_same _).mono BW.out.size)).trans hb2⟩
              clear ho2 hb2 hk2 hg2 OX
              go_loopw [6] (fun v6 wz => ∃ (m : Nat) (j : ByteArray) (wk : World), v6 = .int .i64 m ∧ wk = wz ∧ a ≤ m ∧ m ≤ T.length ∧ Hid (OwnG KS wk w.heap.size (.slice (some ⟨g2, 0, none⟩) (T.length + 1) c2) (gapL T m j) ∧ Below w.heap.size w wk)) (fun v6 _ => (intOf v6).toNat)
              case atStart => exact ⟨T.length, ByteArray.empty, _, by go_num, rfl, ha, Nat.le_refl _, D2⟩
              case round =>
                obtain ⟨m, j, wz, rfl, rfl, hm1, hm2, HZ⟩ := hrel
                clear D2
                by_cases hgo2 : a < m
                · obtain ⟨b3, rfl⟩ : ∃ b3, m = b3 + 1 := ⟨m - 1, by omega⟩
                  have hl3 : (gapL T (b3 + 1) j).length = T.length + 1 := gapL_len hm2 j
                  obtain ⟨X3, o3, e3, zc⟩ := (HZ.out.1.gs KS_ok.len).atS (k := b3) (by rw [hl3]; omega)
                  injection e3 with e3
                  injection e3 with e3 e4 _
                  subst e3 e4
                  rw [Nat.zero_add] at zc
                  have ez : (gapL T (b3 + 1) j)[b3]'(by rw [hl3]; omega) = T[b3]'(by omega) := gapL_at hm2 (by omega) j
                  rw [ez] at zc
                  have fz := HZ.out.1.fz
                  obtain ⟨X4, o4, e5, zc4⟩ := (HZ.out.1.gs KS_ok.len).atS (k := b3 + 1) (by rw [hl3]; omega)
                  injection e5 with e5
                  injection e5 with e5 e6 _
                  subst e5 e6
                  rw [Nat.zero_add] at zc4
                  have N3 : Hid (OwnG KS (wz.setCell ⟨g2, b3 + 1, none⟩ (.string (T[b3]'(by omega)))) w.heap.size (.slice (some ⟨g2, 0, none⟩) (T.length + 1) c2) (gapL T b3 (T[b3]'(by omega))) ∧ Below w.heap.size w (wz.setCell ⟨g2, b3 + 1, none⟩ (.string (T[b3]'(by omega))))) := by
                    refine ⟨?_, HZ.out.2.setCell (p := ⟨g2, b3 + 1, none⟩) (HZ.out.1.lt rfl).1 _⟩
                    have := HZ.out.1.set1 rfl KS_ok.len (k := b3 + 1) (T[b3]'(by omega)) (.string (T[b3]'(by omega))) rfl
                    have e7 := gapL_set hm2 (by omega) j
                    rw [show (gapL T (b3 + 1) j).set (b3 + 1) (T[b3]'(by omega)) = gapL T b3 (T[b3]'(by omega)) from e7] at this
                    exact this
                  have hbI3 : ((b3 + 1 : Nat) : Int) = (b3 : Int) + 1 := by omega
                  clear ez HZ
                  generalize (gapL T (b3 + 1) j)[b3 + 1]'(by rw [hl3]; omega) = junk at *
                  obtain ⟨y3, hy3⟩ : ∃ y3, y3 = T[b3]'(by omega) := ⟨_, rfl⟩
                  rw [← hy3] at zc N3
                  clear hy3
                  go_wp2
                  go_roundw
                  case rel => exact ⟨b3, y3, _, by go_num, rfl, by omega, by omega, N3⟩
                  case measure => simp [intOf]
                · have hma : m = a := by omega
                  rw [hma] at HZ hm2
                  clear hma
                  have hl3 : (gapL T a j).length = T.length + 1 := gapL_len hm2 j
                  have fz := HZ.out.1.fz
                  obtain ⟨X4, o4, e5, zc4⟩ := (HZ.out.1.gs KS_ok.len).atS (k := a) (by rw [hl3]; omega)
                  injection e5 with e5
                  injection e5 with e5 e6 _
                  subst e5 e6
                  rw [Nat.zero_add] at zc4
                  have xz := XC.out _ HZ.out.2
                  have hl4 : (gapL T a s).length = T.length + 1 := gapL_len hm2 s
                  have N4 : Hid (Srt (gapL T a s) (inB (l.take (k + 1))) ∧ OwnG KS (wz.setCell ⟨g2, a, none⟩ (.string s)) w.heap.size (.slice (some ⟨g2, 0, none⟩) (gapL T a s).length c2) (gapL T a s) ∧ Below w.heap.size w (wz.setCell ⟨g2, a, none⟩ (.string s))) := by
                    refine ⟨SI.out, ?_, HZ.out.2.setCell (p := ⟨g2, a, none⟩) (HZ.out.1.lt rfl).1 _⟩
                    have := HZ.out.1.set1 rfl KS_ok.len (k := a) s (.string s) rfl
                    rw [gapL_put hm2] at this
                    rw [hl4]; exact this
                  clear HZ
                  generalize (gapL T a j)[a]'(by rw [hl3]; omega) = junk at *
                  go_wp2
                  go_roundw
                  case rel => exact ⟨k + 1, g2, c2, gapL T a s, _, by go_num, by rw [hl4], rfl, HLT.out, N4⟩
                  case measure => have := HLT.out; simp [intOf]; omega
    · have hke : k = l.length := by omega
      subst hke
      have e0 := HE.out T HI.out.1
      have H2 : Hid (OwnG KS wr w.heap.size (.slice (some ⟨g, 0, none⟩) T.length cp) T ∧ Below w.heap.size w wr) := HI.out.2
      go_wp2
      go_ret
      exact ⟨some ⟨g, 0, none⟩, cp, (show _ = Ending.returned (.slice (some ⟨g, 0, none⟩) T.length cp) from rfl).trans (by rw [e0]), by rw [← e0]; exact H2.out.1, H2.out.2⟩
end Go.Proofs.YthmppnmmlblbhaaDoor
namespace Go.Proofs.YthmppnmmlblbhaaDoor
open Go.RowKit

theorem nodup_ex (p : ByteArray → Bool) : ∀ U : List ByteArray, ∃ ss : List ByteArray, ss.Nodup ∧ ∀ x, x ∈ ss ↔ x ∈ U ∧ p x = true
  | [] => ⟨[], .nil, by simp⟩
  | a :: r => by
    obtain ⟨ss, h1, h2⟩ := nodup_ex p r
    by_cases ha : a ∈ ss ∨ p a = false
    · refine ⟨ss, h1, fun x => ?_⟩
      rw [h2, List.mem_cons]
      constructor
      · rintro ⟨h3, h4⟩; exact ⟨Or.inr h3, h4⟩
      · rintro ⟨rfl | h3, h4⟩
        · rcases ha with e | e
          · exact (h2 _).1 e
          · rw [h4] at e; cases e
        · exact ⟨h3, h4⟩
    · have hn : a ∉ ss := fun e => ha (Or.inl e)
      have hp : p a = true := by cases e : p a with | true => rfl | false => exact absurd (Or.inr e) ha
      refine ⟨a :: ss, List.nodup_cons.2 ⟨hn, h1⟩, fun x => ?_⟩
      rw [List.mem_cons, h2, List.mem_cons]
      constructor
      · rintro (rfl | ⟨h3, h4⟩)
        · exact ⟨Or.inl rfl, hp⟩
        · exact ⟨Or.inr h3, h4⟩
      · rintro ⟨rfl | h3, h4⟩
        · exact Or.inl rfl
        · exact Or.inr ⟨h3, h4⟩
theorem srt_ex {p : ByteArray → Bool} {U : List ByteArray} (h : ∀ s, p s = true → s ∈ U) : ∃ T, Srt T p := by
  obtain ⟨ss, h1, h2⟩ := nodup_ex p U
  have tr : ∀ a b c : ByteArray, decide (a.data.toList ≤ b.data.toList) = true → decide (b.data.toList ≤ c.data.toList) = true → decide (a.data.toList ≤ c.data.toList) = true := fun a b c h1 h2 => by simp only [decide_eq_true_eq] at *; exact List.le_trans h1 h2
  have tot : ∀ a b : ByteArray, (decide (a.data.toList ≤ b.data.toList) || decide (b.data.toList ≤ a.data.toList)) = true := fun a b => by simp only [Bool.or_eq_true, decide_eq_true_eq]; exact List.le_total _ _
  have hp := List.mergeSort_perm ss (fun a b => decide (a.data.toList ≤ b.data.toList))
  have hs := List.pairwise_mergeSort tr tot ss
  have hn : (ss.mergeSort (fun a b => decide (a.data.toList ≤ b.data.toList))).Nodup := hp.nodup_iff.2 h1
  refine ⟨_, ⟨(hs.and hn).imp fun {a b} hab => ?_, fun s => ?_⟩⟩
  · have h3 : a.data.toList ≤ b.data.toList := by simpa using hab.1
    rcases List.le_iff_lt_or_eq.1 h3 with e | e
    · exact e
    · exact absurd (bytes_ext e) hab.2
  · rw [hp.mem_iff, h2]
    exact ⟨fun e => e.2, fun e => ⟨h s e, e⟩⟩
theorem srtL_mem {p : ByteArray → Bool} {U : List ByteArray} (h : ∀ s, p s = true → s ∈ U) (s : ByteArray) : inB (srtL p) s = p s := by
  obtain ⟨T, hT⟩ := srt_ex h
  rw [← hT.eq, Bool.eq_iff_iff, inB_iff, hT.mem]
theorem clos_in {L : List Prv} {s : ByteArray} (h : (fromF L s).2 = 0) (x : ByteArray) : inB (closL L s) x = rchB (askF L) s x := by
  unfold closL
  rw [if_pos h]
  exact srtL_mem (U := askU L) (fun x hx => rch_last (fun _ _ hy => askF_mem hy) (rchB_iff.1 hx)) x
theorem cyc_in {L : List Prv} (h : (setF L).2 = 0) (x : ByteArray) : inB (cycL L) x = rchB (askF L) x x := by
  unfold cycL
  rw [if_pos h]
  exact srtL_mem (U := askU L) (p := fun s => rchB (askF L) s s) (fun x hx => rch_last (fun _ _ hy => askF_mem hy) (rchB_iff.1 hx)) x
/-- Each name leads to a round, or has a longest chain. -/
theorem lgA_ex (L : List Prv) : ∀ (m : Nat) (path : List ByteArray) (x : ByteArray), mu (nameL L) (fun s => inB path s) ≤ m → (∀ p ∈ path, Rch (askF L) p x) → RD (askF L) x ∨ ∃ n, Lg (askF L) (inB (nameL L)) x n := by
  intro m
  induction m using Nat.strongRecOn with
  | _ m ih =>
  intro path x hm hpa
  cases hp : inB (nameL L) x with
  | false => exact Or.inr ⟨0, .out hp⟩
  | true =>
    cases hx : inB path x with
    | true => exact Or.inl ⟨x, Or.inl rfl, hpa x ((inB_iff _ _).1 hx)⟩
    | false =>
      have hlt : mu (nameL L) (fun s => inB (x :: path) s) < mu (nameL L) (fun s => inB path s) := mu_lt (fun s hs => (inB_iff _ _).2 (.tail _ ((inB_iff _ _).1 hs))) ((inB_iff _ _).1 hp) hx ((inB_iff _ _).2 (.head _))
      have hy : ∀ y ∈ askF L x, RD (askF L) y ∨ ∃ n, Lg (askF L) (inB (nameL L)) y n := fun y hy => by
        refine ih _ (by omega) (x :: path) y (Nat.le_refl _) (fun p hpm => ?_)
        cases hpm with
        | head => exact .one hy
        | tail _ hpm => exact (hpa p hpm).trans (.one hy)
      by_cases hr : ∃ y ∈ askF L x, RD (askF L) y
      · obtain ⟨y, hy1, hy2⟩ := hr
        exact Or.inl (hy2.up hy1)
      · right
        have hl : ∀ y ∈ askF L x, ∃ n, Lg (askF L) (inB (nameL L)) y n := fun y hy1 => by
          rcases hy y hy1 with e | e
          · exact absurd ⟨y, hy1, e⟩ hr
          · exact e
        exact ⟨_, .step (fun y => Classical.epsilon fun n => Lg (askF L) (inB (nameL L)) y n) hp fun y hy1 => Classical.epsilon_spec (hl y hy1)⟩
theorem lngI_spec (L : List Prv) (s : ByteArray) : LgA (askF L) (inB (nameL L)) s (lngI L s) := by
  have h : ∃ r, LgA (askF L) (inB (nameL L)) s r := by
    rcases lgA_ex L _ [] s (Nat.le_refl _) (by simp) with e | ⟨n, e⟩
    · exact ⟨-1, Or.inl ⟨rfl, e⟩⟩
    · exact ⟨n, Or.inr ⟨n, rfl, e⟩⟩
  obtain ⟨r, hr⟩ := h
  rw [← lngI_eq hr]; exact hr
noncomputable def trnN (L : List Prv) (t : Bool) (l : List ByteArray) : Bool := l.foldl (fun t y => if inB (nameL L) y = true then t || (lngI L y == -1) else t) t
noncomputable def bstN (L : List Prv) (b : Int) (l : List ByteArray) : Int := l.foldl (fun b y => if inB (nameL L) y = true then max b (lngI L y) else b) b
theorem trnN_next (L : List Prv) (t : Bool) (l : List ByteArray) {k : Nat} (hk : k < l.length) : trnN L t (l.take (k + 1)) = if inB (nameL L) l[k] = true then trnN L t (l.take k) || (lngI L l[k] == -1) else trnN L t (l.take k) := by
  unfold trnN
  rw [List.take_add_one, List.getElem?_eq_getElem hk, Option.toList_some, List.foldl_append]; rfl
theorem bstN_next (L : List Prv) (b : Int) (l : List ByteArray) {k : Nat} (hk : k < l.length) : bstN L b (l.take (k + 1)) = if inB (nameL L) l[k] = true then max (bstN L b (l.take k)) (lngI L l[k]) else bstN L b (l.take k) := by
  unfold bstN
  rw [List.take_add_one, List.getElem?_eq_getElem hk, Option.toList_some, List.foldl_append]; rfl
theorem trnN_iff (L : List Prv) : ∀ (l : List ByteArray) (t : Bool), trnN L t l = true ↔ t = true ∨ ∃ y ∈ l, inB (nameL L) y = true ∧ lngI L y = -1
  | [], t => by unfold trnN; simp
  | y :: r, t => by
    have ih := trnN_iff L r (if inB (nameL L) y = true then t || (lngI L y == -1) else t)
    unfold trnN at ih ⊢
    rw [List.foldl_cons, ih]
    cases hy : inB (nameL L) y with
    | true =>
      rw [if_pos rfl, Bool.or_eq_true, beq_iff_eq]
      constructor
      · rintro ((h | h) | ⟨z, hz, h⟩)
        · exact Or.inl h
        · exact Or.inr ⟨y, .head _, hy, h⟩
        · exact Or.inr ⟨z, .tail _ hz, h⟩
      · rintro (h | ⟨z, hz, h1, h2⟩)
        · exact Or.inl (Or.inl h)
        · cases hz with
          | head => exact Or.inl (Or.inr h2)
          | tail _ hz => exact Or.inr ⟨z, hz, h1, h2⟩
    | false =>
      rw [if_neg (by decide)]
      constructor
      · rintro (h | ⟨z, hz, h⟩)
        · exact Or.inl h
        · exact Or.inr ⟨z, .tail _ hz, h⟩
      · rintro (h | ⟨z, hz, h1, h2⟩)
        · exact Or.inl h
        · cases hz with
          | head => rw [hy] at h1; cases h1
          | tail _ hz => exact Or.inr ⟨z, hz, h1, h2⟩
theorem bstN_eq (L : List Prv) (N : ByteArray → Nat) : ∀ (l : List ByteArray) (b : Int), 0 ≤ b → (∀ y ∈ l, (inB (nameL L) y = true → lngI L y = N y) ∧ (inB (nameL L) y = false → N y = 0)) → bstN L b l = max b (mxN (l.map N) : Nat)
  | [], b, hb, _ => by unfold bstN; simp [mxN]; omega
  | y :: r, b, hb, h => by
    have h1 := h y (.head _)
    have ih := fun b hb => bstN_eq L N r b hb (fun z hz => h z (.tail _ hz))
    unfold bstN at ih ⊢
    rw [List.foldl_cons, List.map_cons, mxN]
    cases hy : inB (nameL L) y with
    | true =>
      rw [if_pos rfl, h1.1 hy, ih _ (by omega)]
      omega
    | false =>
      rw [if_neg (by decide), ih b hb, h1.2 hy]
      omega
theorem lngI_bd (L : List Prv) (s : ByteArray) : -1 ≤ lngI L s ∧ lngI L s ≤ L.length := by
  rcases lngI_spec L s with ⟨e, _⟩ | ⟨n, e, h⟩
  · rw [e]; omega
  · have := lg_le h
    rw [e]; omega
theorem bstN_bd (L : List Prv) : ∀ (l : List ByteArray) (b : Int), 0 ≤ b → b ≤ L.length → 0 ≤ bstN L b l ∧ bstN L b l ≤ L.length
  | [], b, h0, h1 => by unfold bstN; exact ⟨h0, h1⟩
  | y :: r, b, h0, h1 => by
    have h2 := lngI_bd L y
    have ih := fun b h0 h1 => bstN_bd L r b h0 h1
    unfold bstN at ih ⊢
    rw [List.foldl_cons]
    cases hy : inB (nameL L) y with
    | true => rw [if_pos rfl]; exact ih _ (by omega) (by omega)
    | false => rw [if_neg (by decide)]; exact ih _ h0 h1
/-- What the law asks of a name's chain. -/
theorem closes_fin {L : List Prv} {s : ByteArray} (hp : inB (nameL L) s = true) :
    trnN L (rchB (askF L) s s) (askF L s) = (lngI L s == -1) ∧ (trnN L (rchB (askF L) s s) (askF L s) = false → lngI L s = bstN L 0 (askF L s) + 1 ∧ lngI L s ≤ L.length) := by
  have key : trnN L (rchB (askF L) s s) (askF L s) = true ↔ lngI L s = -1 := by
    rw [trnN_iff]
    constructor
    · intro h
      rcases lngI_spec L s with ⟨e, _⟩ | ⟨n, e, hl⟩
      · exact e
      · exfalso
        have hf := hl.free askF_none
        rcases h with h | ⟨y, hy, hyp, hyl⟩
        · exact hf ⟨s, Or.inl rfl, rchB_iff.1 h⟩
        · rcases lngI_spec L y with ⟨_, hr⟩ | ⟨m, e2, _⟩
          · exact hf (hr.up hy)
          · omega
    · intro h
      rcases lngI_spec L s with ⟨_, c, h1, h2⟩ | ⟨n, e, _⟩
      · rcases h1 with rfl | h1
        · exact Or.inl (rchB_iff.2 h2)
        · right
          obtain ⟨y, hy, h3⟩ := h1.first
          have hr : RD (askF L) y := by
            rcases h3 with rfl | h3
            · exact ⟨y, Or.inl rfl, h2⟩
            · exact ⟨c, Or.inr h3, h2⟩
          have hyp : inB (nameL L) y = true := by
            rcases h3 with rfl | h3
            · exact rch_prov h2
            · exact rch_prov h3
          refine ⟨y, hy, hyp, ?_⟩
          rcases lngI_spec L y with ⟨e, _⟩ | ⟨m, _, hm⟩
          · exact e
          · exact absurd hr (hm.free askF_none)
      · omega
  refine ⟨by rw [Bool.eq_iff_iff, key, beq_iff_eq], fun hf => ?_⟩
  have hne : lngI L s ≠ -1 := fun e => by rw [key.2 e] at hf; cases hf
  refine ⟨?_, (lngI_bd L s).2⟩
  rcases lngI_spec L s with ⟨e, _⟩ | ⟨n, e, hl⟩
  · exact absurd e hne
  · cases hl with
    | out h => rw [hp] at h; cases h
    | step N _ hN =>
      rw [e, bstN_eq L N (askF L s) 0 (by omega) (fun y hy => ⟨fun hyp => ?_, fun hyp => ?_⟩)]
      · omega
      · rcases lngI_spec L y with ⟨_, hr⟩ | ⟨m, e2, hm⟩
        · exact absurd hr ((hN y hy).free askF_none)
        · rw [e2, hm.det _ (hN y hy)]
      · exact (Lg.det (hN y hy) 0 (.out hyp))
end Go.Proofs.YthmppnmmlblbhaaDoor
namespace Go.Proofs.YthmppnmmlblbhaaDoor
open Go.RowKit

/-- The slice holds these, from some place of a block of the call's own on. -/
structure QU (w : World) (base g o cap : Nat) (Q : List Int) : Prop where
  lo : base ≤ g
  ex : ∃ cur, w.heap[g]? = some (.cells cur 3) ∧ o + cap ≤ cur.size ∧ ∀ k (h : k < Q.length), cur[o + k]? = some (.int .i64 Q[k])
  le : Q.length ≤ cap
theorem QU.lt {w : World} {base g o cap : Nat} {Q : List Int} (h : QU w base g o cap Q) : g < w.heap.size := by
  obtain ⟨cur, h1, _⟩ := h.ex
  exact (Array.getElem?_eq_some_iff.1 h1).1
theorem QU.far {w w' : World} {base g o cap : Nat} {Q : List Int} (h : QU w base g o cap Q) (k : w'.heap[g]? = w.heap[g]?) : QU w' base g o cap Q := by
  obtain ⟨cur, h1, h2⟩ := h.ex
  exact ⟨h.lo, ⟨cur, k.trans h1, h2⟩, h.le⟩
theorem QU.below {w w' : World} {base g o cap : Nat} {Q : List Int} (h : QU w base g o cap Q) (k : Below w.heap.size w w') : QU w' base g o cap Q := h.far (k.block g h.lt)
theorem QU.cell {w : World} {base g o cap : Nat} {Q : List Int} (h : QU w base g o cap Q) {k : Nat} (hk : k < Q.length) : w.cell? ⟨g, o + k, none⟩ = some (.int .i64 Q[k]) := by
  obtain ⟨cur, h1, _, h2⟩ := h.ex
  rw [cell_of_row _ _ _ _ _ _ h1]
  exact h2 k hk
theorem QU.one (w : World) (x : Int) : QU (w.alloc (.cells #[.int .i64 x] 3)) w.heap.size w.heap.size 0 1 [x] :=
  ⟨Nat.le_refl _, ⟨_, heap_alloc_new w _, by simp, fun k h => by
    have : k = 0 := by simpa using h
    subst this; rfl⟩, by simp⟩
/-- Without its first. -/
theorem QU.tail {w : World} {base g o cap : Nat} {x : Int} {Q : List Int} (h : QU w base g o cap (x :: Q)) : QU w base g (o + 1) (cap - 1) Q := by
  obtain ⟨cur, h1, h2, h3⟩ := h.ex
  have hl := h.le
  rw [List.length_cons] at hl
  refine ⟨h.lo, ⟨cur, h1, by omega, fun k hk => ?_⟩, by omega⟩
  have := h3 (k + 1) (by rw [List.length_cons]; omega)
  rw [show o + 1 + k = o + (k + 1) by omega, this]; rfl
/-- The last one taken: nothing is left, wherever it lies. -/
theorem QU.void {w : World} {base g o o' cap : Nat} {Q : List Int} (h : QU w base g o cap Q) (ho : o' ≤ o) : QU w base g o' 0 [] := by
  obtain ⟨cur, h1, h2, h3⟩ := h.ex
  exact ⟨h.lo, ⟨cur, h1, by omega, fun k hk => by simp at hk⟩, by simp⟩
/-- One more. -/
theorem q_push {ops : Array Oper} {rest : List Oper} {o : Oper} {a : Act} {Qp : Exit → Act → World → Prop} (hgd : o.guard = none) (s x : Operand) (t : TypeId)
    (ho : o.op = .call { callee := .builtin .append, args := #[s, x], argTypes := #[t, t] }) (ht : Tryd.prog.underlying t = some (.slice 3))
    (w0 : World) (base g of cap : Nat) (Q : List Int) (y : Int) (c n : Nat) (hn : n = Q.length) (hs : a.eval s = .slice (some ⟨g, of, none⟩) n cap) (hq : QU w0 base g of cap Q) (b : Nat) (hb : w0.heap.size = b)
    (hx : a.eval x = .slice (some ⟨b, 0, none⟩) 1 c) (hlen : Q.length ≤ 1000000) (hbase : base ≤ w0.heap.size)
    (h : ∀ g' o' cap' w', QU w' base g' o' cap' (Q ++ [y]) → Below base w0 w' → (∀ k, k < w0.heap.size → k ≠ g → w'.heap[k]? = w0.heap[k]?) → (g' = g ∨ w0.heap.size ≤ g') → wpList Tryd.prog ops Qp rest (a.put o.dst (.slice (some ⟨g', o', none⟩) (n + 1) cap')) w') :
    wpList Tryd.prog ops Qp (o :: rest) a (w0.alloc (.cells #[.int .i64 y] 3)) := by
  subst hb
  obtain ⟨i0, hi0, hz0, hz1, hz2⟩ := KI_ok.info
  have hz1' : i0.size = 1 := hz1
  have hz2' : i0.bytes = 8 := hz2
  have hi0' : Tryd.prog.info? 3 = some i0 := hi0
  have AL : Below w0.heap.size w0 (w0.alloc (.cells #[.int .i64 y] 3)) := (Below.refl _ _).alloc (Nat.le_refl _) _
  have hq1 := hq.below AL
  obtain ⟨cur, h1, h2, h3⟩ := hq1.ex
  have hle := hq.le
  have hnews : ∀ j u, [Value.int .i64 y][j]? = some u → (w0.alloc (.cells #[.int .i64 y] 3)).cell? ((⟨w0.heap.size, 0, none⟩ : Addr).add j) = some u := gr_news_at w0 #[.int .i64 y] 3 _ rfl
  refine wpList_plain hgd fun K hK => ?_
  by_cases hroom : Q.length + 1 ≤ cap
  · have hf := run_firstCells_some (P := Tryd.prog) (w0.alloc (.cells #[.int .i64 y] 3)) 1 1 ⟨w0.heap.size, 0, none⟩ 1 c [Value.int .i64 y] rfl hnews
    have hst := run_storeCells_at Tryd.prog g (of + Q.length) 3 [Value.int .i64 y] 0 cur (w0.alloc (.cells #[.int .i64 y] 3)) h1 (by simp; omega) (fun v hv => by simp at hv; subst hv; rfl)
    simp only [Nat.add_zero] at hst
    have hadd : (⟨g, of, none⟩ : Addr).add Q.length = ⟨g, of + Q.length, none⟩ := by unfold Addr.add; split <;> simp_all
    obtain ⟨NC, hNC⟩ : ∃ NC, NC = (cur.toList.take (of + Q.length) ++ [Value.int .i64 y] ++ cur.toList.drop (of + Q.length + 1)).toArray := ⟨_, rfl⟩
    have hrun : (Builtin.append_ #[t, t] o.type #[.slice (some ⟨g, of, none⟩) Q.length cap, .slice (some ⟨w0.heap.size, 0, none⟩) 1 c]).run Tryd.prog (w0.alloc (.cells #[.int .i64 y] 3)) = .ok (.slice (some ⟨g, of, none⟩) (Q.length + 1) cap) ((w0.alloc (.cells #[.int .i64 y] 3)).setRow g NC) := by
      rw [hNC]
      simp [Builtin.append_, run_underlying ht, sizeOf, typeInfo, hi0', hz1', Builtin.lenOf, hroom, hf, hadd, hst]
    have hNs : NC.size = cur.size := by rw [hNC]; simp; omega
    have hNo : ∀ j, j < of + Q.length → NC[j]? = cur[j]? := fun j hj => by
      rw [hNC, ← Array.getElem?_toList, ← Array.getElem?_toList]
      simp only [List.append_assoc]
      rw [List.getElem?_append_left (by simp; omega), List.getElem?_take_of_lt hj]
    have hNy : NC[of + Q.length]? = some (.int .i64 y) := by
      rw [hNC, ← Array.getElem?_toList]
      simp only [List.append_assoc]
      rw [List.getElem?_append_right (by simp; omega)]
      have : of + Q.length - (cur.toList.take (of + Q.length)).length = 0 := by simp; omega
      rw [this]; rfl
    clear hNC hst
    have hb2 := setRow_heap (w0.alloc (.cells #[.int .i64 y] 3)) g cur NC 3 _ h1
    have hfar : ∀ k, k ≠ g → ((w0.alloc (.cells #[.int .i64 y] 3)).setRow g NC).heap[k]? = (w0.alloc (.cells #[.int .i64 y] 3)).heap[k]? := fun k hk => by
      unfold World.setRow
      simp only [Array.getElem?_modify]
      rw [if_neg (fun e => hk e.symm)]
    have hsz : ((w0.alloc (.cells #[.int .i64 y] 3)).setRow g NC).heap.size = (w0.alloc (.cells #[.int .i64 y] 3)).heap.size := by unfold World.setRow; simp
    have hlo := hq.lo
    unfold Oper.wp
    simp [execOp, ho, resolve, invoke, builtin, hs, hx, hn, hrun, Result.andThen]
    refine hK _ _ ?_
    rw [← hn]
    refine h g of cap _ ⟨hq.lo, ⟨NC, hb2, by omega, fun k hk => ?_⟩, by simp; omega⟩ ⟨rfl, rfl, rfl, by rw [hsz]; exact AL.size, fun k hk => (hfar k (by omega)).trans (AL.block k (by omega))⟩ (fun k hk hne => (hfar k hne).trans (AL.block k hk)) (Or.inl rfl)
    rw [List.length_append] at hk
    by_cases hkq : k < Q.length
    · rw [hNo _ (by omega), List.getElem_append_left hkq]; exact h3 k hkq
    · have : k = Q.length := by simp at hk; omega
      subst this
      rw [hNy]; simp
  · have hold : ∀ j u, (Q.map (Value.int .i64))[j]? = some u → (w0.alloc (.cells #[.int .i64 y] 3)).cell? ((⟨g, of, none⟩ : Addr).add j) = some u := fun j u hu => by
      rw [List.getElem?_map] at hu
      obtain ⟨q, hq2, rfl⟩ := Option.map_eq_some_iff.1 hu
      obtain ⟨hj, rfl⟩ := List.getElem?_eq_some_iff.1 hq2
      have hadd : (⟨g, of, none⟩ : Addr).add j = ⟨g, of + j, none⟩ := by unfold Addr.add; split <;> simp_all
      rw [hadd]; exact hq1.cell hj
    have hrun := run_append_grow (P := Tryd.prog) (w0.alloc (.cells #[.int .i64 y] 3)) t o.type 3 i0 (.int .i64 0) ht hi0' hz0 ⟨g, of, none⟩ Q.length cap (Q.map (Value.int .i64)) (by rw [hz1']; simp) hold ⟨w0.heap.size, 0, none⟩ 1 c [Value.int .i64 y] (by rw [hz1']; rfl) hnews (by omega) (by omega) (by have := growslice_fits (need := Q.length + 1) (old := cap) (bytes := i0.bytes) (by omega) (by rw [hz2']; omega); exact this)
    have hgc := grownCap_ge (w0.alloc (.cells #[.int .i64 y] 3)) (Q.length + 1) cap 3
    generalize grownCap (w0.alloc (.cells #[.int .i64 y] 3)) (Q.length + 1) cap 3 = gc at *
    obtain ⟨NC, hNC⟩ : ∃ NC, NC = (Q.map (Value.int .i64)).toArray ++ [Value.int .i64 y].toArray ++ Builtin.zeroCells (Value.int .i64 0).cells (gc - (Q.length + 1)) := ⟨_, rfl⟩
    rw [← hNC] at hrun
    have hNs : NC.size = gc := by rw [hNC]; simp [size_zeroCells, Value.cells]; omega
    have hNo : ∀ k (hk : k < (Q ++ [y]).length), NC[k]? = some (.int .i64 (Q ++ [y])[k]) := fun k hk => by
      have e : ((Q.map (Value.int .i64)).toArray ++ [Value.int .i64 y].toArray) = ((Q ++ [y]).map (Value.int .i64)).toArray := by simp
      rw [hNC, e, Array.getElem?_append_left (by simpa using hk), List.getElem?_toArray, List.getElem?_map, List.getElem?_eq_getElem hk]; rfl
    clear hNC
    have AD : Below (w0.alloc (.cells #[.int .i64 y] 3)).heap.size (w0.alloc (.cells #[.int .i64 y] 3)) ((w0.alloc (.cells #[.int .i64 y] 3)).drew.alloc (.cells NC 3)) := ⟨rfl, rfl, rfl, by show _ ≤ ((w0.alloc (.cells #[.int .i64 y] 3)).drew.alloc (.cells NC 3)).heap.size; rw [show ((w0.alloc (.cells #[.int .i64 y] 3)).drew.alloc (.cells NC 3)).heap.size = (w0.alloc (.cells #[.int .i64 y] 3)).drew.heap.size + 1 by simp]; exact Nat.le_succ _, fun b hb => Below.heap_alloc (w0.alloc (.cells #[.int .i64 y] 3)).drew _ b hb⟩
    have hnew : ((w0.alloc (.cells #[.int .i64 y] 3)).drew.alloc (.cells NC 3)).heap[(w0.alloc (.cells #[.int .i64 y] 3)).heap.size]? = some (.cells NC 3) := heap_alloc_new (w0.alloc (.cells #[.int .i64 y] 3)).drew _
    have A2 : Below w0.heap.size w0 ((w0.alloc (.cells #[.int .i64 y] 3)).drew.alloc (.cells NC 3)) := AL.trans (AD.mono AL.size)
    have hZ : w0.heap.size ≤ (w0.alloc (.cells #[.int .i64 y] 3)).heap.size := AL.size
    generalize hWN : ((w0.alloc (.cells #[.int .i64 y] 3)).drew.alloc (.cells NC 3)) = WN at *
    generalize hZN : (w0.alloc (.cells #[.int .i64 y] 3)).heap.size = zn at *
    unfold Oper.wp
    simp [execOp, ho, resolve, invoke, builtin, hs, hx, hn, hrun, Result.andThen]
    refine hK _ _ ?_
    rw [← hn]
    exact h zn 0 gc WN ⟨by omega, ⟨NC, hnew, by omega, fun k hk => by rw [Nat.zero_add]; exact hNo k hk⟩, by simp; omega⟩ (A2.mono hbase) (fun k hk _ => A2.block k hk) (Or.inr hZ)
end Go.Proofs.YthmppnmmlblbhaaDoor
namespace Go.Proofs.YthmppnmmlblbhaaDoor
open Go.RowKit

theorem numI_at {L : List Prv} (hd : (nameL L).Nodup) {k : Nat} (hk : k < L.length) : numI (nameL L) L[k].name = k := by
  have hl : (nameL L).length = L.length := by unfold nameL; simp
  have hg : ∀ j (hj : j < L.length), (nameL L)[j]'(by rw [hl]; exact hj) = L[j].name := fun j hj => by unfold nameL; simp
  refine numI_hit (by rw [hl]; exact hk) (fun j hj e => ?_) (hg k hk)
  rw [hg j (by omega)] at e
  have := List.pairwise_iff_getElem.1 hd j k (by omega) (by omega) hj
  rw [hg j (by omega), hg k hk] at this
  exact this e
theorem numI_name {L : List Prv} {s : ByteArray} (h : inB (nameL L) s = true) : ∃ k, ∃ hk : k < L.length, numI (nameL L) s = k ∧ L[k].name = s := by
  have hl : (nameL L).length = L.length := by unfold nameL; simp
  have hm := (inB_iff _ _).1 h
  have hi : ((nameL L).findIdx fun x => decide (x = s)) < (nameL L).length := List.findIdx_lt_length_of_exists ⟨s, hm, by simp⟩
  have e2 := List.findIdx_getElem (w := hi)
  obtain ⟨k, hk⟩ : ∃ k, k = (nameL L).findIdx fun x => decide (x = s) := ⟨_, rfl⟩
  have e3 : (nameL L)[k]'(by rw [hk]; exact hi) = s := by
    subst hk
    simpa using e2
  refine ⟨k, by rw [hk, ← hl]; exact hi, by unfold numI; rw [if_pos h, hk], ?_⟩
  have e4 : (nameL L)[k]'(by rw [hk]; exact hi) = (L[k]'(by rw [hk, ← hl]; exact hi)).name := by unfold nameL; simp
  rw [← e4]; exact e3
/-- What the reference has gathered, and what it has still to do: all that is gathered is reached; what is not to be done any more is closed. -/
structure BF (L : List Prv) (nm : ByteArray) (O : List ByteArray) (Q : List Int) : Prop where
  nd : O.Nodup
  le : ∀ x ∈ O, Rch (askF L) nm x
  qn : ∀ q ∈ Q, ∃ k, ∃ hk : k < L.length, q = (k : Int) ∧ (L[k].name = nm ∨ L[k].name ∈ O)
  cl : ∀ x, (x = nm ∨ x ∈ O) → inB (nameL L) x = true → (∀ y ∈ askF L x, y ∈ O) ∨ numI (nameL L) x ∈ Q
theorem BF.start {L : List Prv} (hd : (nameL L).Nodup) {i : Nat} (hi : i < L.length) : BF L L[i].name [] [(i : Int)] :=
  ⟨.nil, by simp, fun q hq => ⟨i, hi, by simpa using hq, Or.inl rfl⟩, fun x hx _ => by
    rcases hx with rfl | hx
    · right; rw [numI_at hd hi]; exact .head _
    · cases hx⟩
/-- At the end. -/
theorem BF.done {L : List Prv} {nm : ByteArray} {O : List ByteArray} (h : BF L nm O []) : inB O = rchB (askF L) nm := by
  have c0 : ∀ x, (x = nm ∨ x ∈ O) → ∀ y ∈ askF L x, y ∈ O := fun x hx y hy => by
    have hp : inB (nameL L) x = true := rch_prov (.one hy)
    rcases h.cl x hx hp with e | e
    · exact e y hy
    · cases e
  funext s
  rw [Bool.eq_iff_iff, inB_iff, rchB_iff]
  constructor
  · exact h.le s
  · intro hr
    have key : ∀ x z, Rch (askF L) x z → (x = nm ∨ x ∈ O) → z ∈ O := fun x z hr => by
      induction hr with
      | one hy => intro hx; exact c0 _ hx _ hy
      | more hy _ ih => intro hx; exact ih (Or.inr (c0 _ hx _ hy))
    exact key nm s hr (Or.inl rfl)
theorem BF.len {L : List Prv} {nm : ByteArray} {O : List ByteArray} {Q : List Int} (h : BF L nm O Q) : O.length ≤ (askU L).length := nodup_le O _ h.nd (fun x hx => rch_last (fun _ _ hy => askF_mem hy) (h.le x hx))
/-- One is taken off: its j first names are looked at. -/
structure BK (L : List Prv) (nm me : ByteArray) (O : List ByteArray) (Q : List Int) (j : Nat) : Prop where
  nd : O.Nodup
  le : ∀ x ∈ O, Rch (askF L) nm x
  qn : ∀ q ∈ Q, ∃ k, ∃ hk : k < L.length, q = (k : Int) ∧ (L[k].name = nm ∨ L[k].name ∈ O)
  ms : me = nm ∨ me ∈ O
  on : ∀ y ∈ (askF L me).take j, y ∈ O
  cl : ∀ x, (x = nm ∨ x ∈ O) → inB (nameL L) x = true → x = me ∨ (∀ y ∈ askF L x, y ∈ O) ∨ numI (nameL L) x ∈ Q
theorem BF.take {L : List Prv} {nm : ByteArray} {O : List ByteArray} {q : Int} {Q : List Int} (h : BF L nm O (q :: Q)) : ∃ i, ∃ hi : i < L.length, q = (i : Int) ∧ BK L nm L[i].name O Q 0 := by
  obtain ⟨i, hi, e, me⟩ := h.qn q (.head _)
  refine ⟨i, hi, e, h.nd, h.le, fun q hq => h.qn q (.tail _ hq), me, by simp, fun x hx hp => ?_⟩
  rcases h.cl x hx hp with e2 | e2
  · exact Or.inr (Or.inl e2)
  · rcases List.mem_cons.1 e2 with e2 | e2
    · left
      obtain ⟨k, hk, e3, e4⟩ := numI_name hp
      have : k = i := by omega
      subst this
      exact e4.symm
    · exact Or.inr (Or.inr e2)
theorem BK.skip {L : List Prv} {nm me : ByteArray} {O : List ByteArray} {Q : List Int} {j : Nat} (h : BK L nm me O Q j) (hj : j < (askF L me).length) (hy : (askF L me)[j] ∈ O) : BK L nm me O Q (j + 1) :=
  ⟨h.nd, h.le, h.qn, h.ms, fun y hy2 => by
    rw [List.take_add_one, List.getElem?_eq_getElem hj, Option.toList_some, List.mem_append, List.mem_singleton] at hy2
    rcases hy2 with e | rfl
    · exact h.on y e
    · exact hy,
    h.cl⟩
theorem BK.add {L : List Prv} {nm me : ByteArray} {O : List ByteArray} {Q : List Int} {j : Nat} (h : BK L nm me O Q j) (hj : j < (askF L me).length) (hy : (askF L me)[j] ∉ O) {Q' : List Int} (hQ : Q' = if inB (nameL L) (askF L me)[j] = true then Q ++ [numI (nameL L) (askF L me)[j]] else Q) : BK L nm me (O ++ [(askF L me)[j]]) Q' (j + 1) := by
  have hm : (askF L me)[j] ∈ askF L me := List.getElem_mem hj
  have hsub : ∀ q, q ∈ Q → q ∈ Q' := fun q hq => by rw [hQ]; split; exact List.mem_append_left _ hq; exact hq
  refine ⟨?_, fun x hx => ?_, fun q hq => ?_, ?_, fun y hy2 => ?_, fun x hx hp => ?_⟩
  · rw [List.nodup_append]
    exact ⟨h.nd, by simp, fun a ha b hb e => by rw [List.mem_singleton] at hb; subst hb; subst e; exact hy ha⟩
  · rw [List.mem_append, List.mem_singleton] at hx
    rcases hx with hx | rfl
    · exact h.le x hx
    · rcases h.ms with e | e
      · rw [← e]; exact .one hm
      · exact (h.le _ e).trans (.one hm)
  · have hq2 : q ∈ Q ∨ (inB (nameL L) (askF L me)[j] = true ∧ q = numI (nameL L) (askF L me)[j]) := by
      rw [hQ] at hq
      split at hq
      · rename_i hp
        rw [List.mem_append, List.mem_singleton] at hq
        rcases hq with e | e
        · exact Or.inl e
        · exact Or.inr ⟨hp, e⟩
      · exact Or.inl hq
    rcases hq2 with e | ⟨hp, e⟩
    · obtain ⟨k, hk, e1, e2⟩ := h.qn q e
      refine ⟨k, hk, e1, ?_⟩
      rcases e2 with e2 | e2
      · exact Or.inl e2
      · exact Or.inr (List.mem_append_left _ e2)
    · obtain ⟨k, hk, e1, e2⟩ := numI_name hp
      exact ⟨k, hk, by rw [e, e1], Or.inr (by rw [e2]; exact List.mem_append_right _ (.head _))⟩
  · rcases h.ms with e | e
    · exact Or.inl e
    · exact Or.inr (List.mem_append_left _ e)
  · rw [List.take_add_one, List.getElem?_eq_getElem hj, Option.toList_some, List.mem_append, List.mem_singleton] at hy2
    rcases hy2 with e | rfl
    · exact List.mem_append_left _ (h.on y e)
    · exact List.mem_append_right _ (.head _)
  · have hx2 : (x = nm ∨ x ∈ O) ∨ x = (askF L me)[j] := by
      rcases hx with e | e
      · exact Or.inl (Or.inl e)
      · rw [List.mem_append, List.mem_singleton] at e
        rcases e with e | e
        · exact Or.inl (Or.inr e)
        · exact Or.inr e
    rcases hx2 with e | e
    · rcases h.cl x e hp with e2 | e2 | e2
      · exact Or.inl e2
      · exact Or.inr (Or.inl fun y hy2 => List.mem_append_left _ (e2 y hy2))
      · exact Or.inr (Or.inr (hsub _ e2))
    · right; right
      rw [hQ, if_pos (by rw [← e]; exact hp), e]
      exact List.mem_append_right _ (.head _)
theorem BK.fin {L : List Prv} {nm me : ByteArray} {O : List ByteArray} {Q : List Int} (h : BK L nm me O Q (askF L me).length) : BF L nm O Q :=
  ⟨h.nd, h.le, h.qn, fun x hx hp => by
    rcases h.cl x hx hp with rfl | e
    · left; intro y hy; exact h.on y (by rw [List.take_length]; exact hy)
    · exact e⟩
/-- What the reference's closure holds: the texts, what is to do, beside a row that is read. -/
structure CQ (w wk : World) (g c : Nat) (O : List ByteArray) (gq oq cq : Nat) (Q : List Int) (pT : Option Addr) (cT : Nat) (T : List ByteArray) : Prop where
  o : OwnG KS wk w.heap.size (.slice (some ⟨g, 0, none⟩) O.length c) O
  q : QU wk w.heap.size gq oq cq Q
  b : Below w.heap.size w wk
  s : GS KS wk (.slice pT T.length cT) T
  n : ∀ x, (Value.slice pT T.length cT).ownBlock = some x → x ≠ g ∧ ∃ cs, wk.heap[x]? = some (.cells cs 9)
theorem own_q {w : World} {b b' g n c gq oq cq : Nat} {O : List ByteArray} {Q : List Int} (h : OwnG KS w b (.slice (some ⟨g, 0, none⟩) n c) O) (h' : QU w b' gq oq cq Q) : g ≠ gq := by
  rcases h.2 with ⟨e, _⟩ | ⟨g1, cap, cur, e1, _, e3, _⟩
  · cases e
  · injection e1 with e1 _ _
    injection e1 with e1
    injection e1 with e1 _ _
    subst e1
    obtain ⟨cur2, h1, _⟩ := h'.ex
    intro q
    subst q
    rw [e3] at h1
    injection h1 with h1
    injection h1 with _ h1
    exact absurd h1 (by decide)
theorem CQ.pushO {w wk w2 : World} {g c g2 c2 : Nat} {O : List ByteArray} {gq oq cq : Nat} {Q : List Int} {pT : Option Addr} {cT : Nat} {T : List ByteArray} {y : ByteArray} (h : CQ w wk g c O gq oq cq Q pT cT T) (ho : OwnG KS w2 w.heap.size (.slice (some ⟨g2, 0, none⟩) (O.length + 1) c2) (O ++ [y])) (hb : Below w.heap.size wk w2)
    (hk : ∀ k, k < wk.heap.size → some k ≠ (Value.slice (some ⟨g, 0, none⟩) O.length c).ownBlock → w2.heap[k]? = wk.heap[k]?) (hg : (Value.slice (some ⟨g, 0, none⟩) O.length c).ownBlock = some g2 ∨ wk.heap.size ≤ g2) : CQ w w2 g2 c2 (O ++ [y]) gq oq cq Q pT cT T := by
  have kk : ∀ x, x < wk.heap.size → x ≠ g → w2.heap[x]? = wk.heap[x]? := fun x hx hn => hk x hx (fun e => hn (by simpa [Value.ownBlock] using e))
  refine ⟨by rw [List.length_append]; exact ho, h.q.far (kk _ h.q.lt (Ne.symm (own_q h.o h.q))), h.b.trans hb, h.s.blk hb.size (fun x hx hl => kk x hl (h.n x hx).1), fun x hx => ?_⟩
  obtain ⟨h1, cs, h2⟩ := h.n x hx
  have hl : x < wk.heap.size := (Array.getElem?_eq_some_iff.1 h2).1
  refine ⟨fun e => ?_, cs, (kk x hl h1).trans h2⟩
  rcases hg with hg | hg
  · have : g = g2 := by simpa [Value.ownBlock] using hg
    omega
  · omega
theorem CQ.pushQ {w wk w2 : World} {g c : Nat} {O : List ByteArray} {gq oq cq g' o' c' : Nat} {Q Q' : List Int} {pT : Option Addr} {cT : Nat} {T : List ByteArray} (h : CQ w wk g c O gq oq cq Q pT cT T) (hq : QU w2 w.heap.size g' o' c' Q') (hb : Below w.heap.size wk w2) (hk : ∀ k, k < wk.heap.size → k ≠ gq → w2.heap[k]? = wk.heap[k]?) : CQ w w2 g c O g' o' c' Q' pT cT T := by
  have hx1 : ∀ (x : Nat) (cs : Array Value), wk.heap[x]? = some (Obj.cells cs 9) → w2.heap[x]? = wk.heap[x]? := fun x cs hc => by
    refine hk x (Array.getElem?_eq_some_iff.1 hc).1 (fun e => ?_)
    obtain ⟨cur2, h1, _⟩ := h.q.ex
    rw [← e, hc] at h1
    injection h1 with h1
    injection h1 with _ h1
    exact absurd h1 (by decide)
  refine ⟨h.o.far fun x hx => ?_, hq, h.b.trans hb, h.s.blk hb.size (fun x hx _ => let ⟨_, cs, hc⟩ := h.n x hx; hx1 x cs hc), fun x hx => ?_⟩
  · have : x = g := by simpa [Value.ownBlock] using hx.symm
    subst this
    exact hk _ (h.o.lt (g := x) rfl).2 (own_q h.o h.q)
  · obtain ⟨h1, cs, h2⟩ := h.n x hx
    exact ⟨h1, cs, (hx1 x cs h2).trans h2⟩
theorem CQ.below {w wk w2 : World} {g c : Nat} {O : List ByteArray} {gq oq cq : Nat} {Q : List Int} {pT : Option Addr} {cT : Nat} {T : List ByteArray} (h : CQ w wk g c O gq oq cq Q pT cT T) (b : Below wk.heap.size wk w2) : CQ w w2 g c O gq oq cq Q pT cT T :=
  ⟨h.o.below b, h.q.below b, h.b.trans (b.mono h.b.size), h.s.below b, fun x hx => let ⟨h1, cs, h2⟩ := h.n x hx; ⟨h1, cs, (b.block x (Array.getElem?_eq_some_iff.1 h2).1).trans h2⟩⟩
end Go.Proofs.YthmppnmmlblbhaaDoor
namespace Go.Proofs.YthmppnmmlblbhaaDoor
open Go.RowKit

def slen : Value → Nat
  | .slice _ n _ => n
  | _ => 0
theorem QU.low {w : World} {b b' g o cap : Nat} {Q : List Int} (h : QU w b g o cap Q) (hb : b' ≤ b) : QU w b' g o cap Q := ⟨Nat.le_trans hb h.lo, h.ex, h.le⟩
theorem BK.len {L : List Prv} {nm me : ByteArray} {O : List ByteArray} {Q : List Int} {j : Nat} (h : BK L nm me O Q j) : O.length ≤ (askU L).length := nodup_le O _ h.nd (fun x hx => rch_last (fun _ _ hy => askF_mem hy) (h.le x hx))
theorem CQ.plain {w wk : World} {g c : Nat} {O : List ByteArray} {gq oq cq : Nat} {Q : List Int} {pT : Option Addr} {cT : Nat} {T : List ByteArray} (h : CQ w wk g c O gq oq cq Q pT cT T) : CQ w wk g c O gq oq cq Q none 0 [] := ⟨h.o, h.q, h.b, Or.inl ⟨Or.inl rfl, rfl⟩, fun x hx => by simp [Value.ownBlock] at hx⟩
theorem CQ.with {w wk w3 : World} {g c : Nat} {O : List ByteArray} {gq oq cq : Nat} {Q : List Int} (h : CQ w wk g c O gq oq cq Q none 0 []) {pT : Option Addr} {cT : Nat} {T : List ByteArray} (o3 : OwnG KS w3 wk.heap.size (.slice pT T.length cT) T) (b3 : Below wk.heap.size wk w3) : CQ w w3 g c O gq oq cq Q pT cT T := by
  refine ⟨h.o.below b3, h.q.below b3, h.b.trans (b3.mono h.b.size), o3.gs KS_ok.len, fun x hx => ?_⟩
  have h1 := (o3.lt hx).1
  have h2 := (h.o.lt (g := g) rfl).2
  refine ⟨by omega, ?_⟩
  rcases o3.2 with ⟨e, _⟩ | ⟨g1, cap, cur, e1, _, e3, _⟩
  · rw [e] at hx; cases hx
  · rw [e1] at hx
    injection hx with hx
    exact ⟨cur, by rw [← (show g1 = x from hx)]; exact e3⟩
set_option maxHeartbeats 16000000 in
set_option maxRecDepth 100000 in
theorem rclosure_any (v : Value) (L : List Pvx) (i : Nat) (hi : i < L.length) (w : World) (h : PR w v L) (hn : (setF (pL L)).2 = 0) :
    Calls Tryd.prog 66 #[v, .int .i64 i] w fun e w' => ∃ q c, e = .returned (.slice q (srtL (rchB (askF (pL L)) L[i].p.name)).length c) ∧ OwnG KS w' w.heap.size (.slice q (srtL (rchB (askF (pL L)) L[i].p.name)).length c) (srtL (rchB (askF (pL L)) L[i].p.name)) ∧ Below w.heap.size w w' := by
  have hf := (fine_of hn).1
  have hd : (nameL (pL L)).Nodup := (dup_nodup (pL L)).1 (by rw [pL_len]; exact hf.dup)
  have hlen := hf.len
  have hU := askU_len hn
  have S0 : BF (pL L) L[i].p.name [] [(i : Int)] := by
    have := BF.start hd (i := i) (by rw [pL_len]; exact hi)
    rw [pL_at hi] at this; exact this
  have HDone : Hid (∀ O, BF (pL L) L[i].p.name O [] → inB O = rchB (askF (pL L)) L[i].p.name) := fun O hO => hO.done
  have HLen : Hid (∀ O Q, BF (pL L) L[i].p.name O Q → O.length ≤ (askU (pL L)).length) := fun O Q hO => hO.len
  have HTake : Hid (∀ O q Q, BF (pL L) L[i].p.name O (q :: Q) → ∃ k, ∃ hk : k < L.length, q = (k : Int) ∧ BK (pL L) L[i].p.name L[k].p.name O Q 0) := fun O q Q hO => by
    obtain ⟨k, hk, e, hb⟩ := hO.take
    rw [pL_len] at hk
    rw [pL_at hk] at hb
    exact ⟨k, hk, e, hb⟩
  obtain ⟨p, cap, rfl⟩ := h.gs.form
  have HS : Hid (PR w (.slice p L.length cap) L) := h
  have TX : Hid (∀ w1 k (hk : k < L.length), Below w.heap.size w w1 → Calls Tryd.prog 48 #[.slice L[k].q L[k].p.ops.length L[k].c, .int .i64 3] w1 fun e w' => ∃ p c, e = .returned (.slice p (askF (pL L) L[k].p.name).length c) ∧ OwnG KS w' w1.heap.size (.slice p (askF (pL L) L[k].p.name).length c) (askF (pL L) L[k].p.name) ∧ Below w1.heap.size w1 w') := fun w1 k hk b => by
    have e : askF (pL L) L[k].p.name = textsL L[k].p.ops 3 := by
      have := askF_in hd (p := L[k].p) (List.mem_map.2 ⟨L[k], List.getElem_mem hk, rfl⟩)
      exact this
    rw [e]
    exact rtexts_any _ _ 3 w1 ((h.ps _ (List.getElem_mem hk)).below b).os (hf.ops k hk)
  have NU : Hid (∀ w1 s, Below w.heap.size w w1 → Calls Tryd.prog 43 #[.slice p L.length cap, .string s] w1 fun e w' => e = .returned (.int .i64 (numI (nameL (pL L)) s)) ∧ w' = w1) := fun w1 s b => number_any _ L s w1 (h.gs.below b) (by omega)
  have AL : Hid (∀ k (hk : k < L.length), (askF (pL L) L[k].p.name).length ≤ 65536) := fun k hk => Nat.le_trans (askF_len _ _) hU
  generalize L[i].p.name = nm at *
  have D0 : Hid (CQ w ((w.alloc (.cells #[] 9)).alloc (.cells #[.int .i64 i] 3)) w.heap.size 0 [] (w.heap.size + 1) 0 1 [(i : Int)] none 0 []) := by
    have b1 : Below (w.alloc (.cells #[] 9)).heap.size (w.alloc (.cells #[] 9)) ((w.alloc (.cells #[] 9)).alloc (.cells #[.int .i64 i] 3)) := (Below.refl _ _).alloc (Nat.le_refl _) _
    have b0 : Below w.heap.size w (w.alloc (.cells #[] 9)) := (Below.refl _ _).alloc (Nat.le_refl _) _
    have q := QU.one (w.alloc (.cells #[] 9)) (i : Int)
    rw [show (w.alloc (.cells #[] 9)).heap.size = w.heap.size + 1 by simp] at q
    exact ⟨(OwnG.empty KS w).below b1, q.low (by omega), b0.trans (b1.mono b0.size), Or.inl ⟨Or.inl rfl, rfl⟩, fun x hx => by simp [Value.ownBlock] at hx⟩
  have BF0 : Hid (BF (pL L) nm [] [(i : Int)]) := S0
  clear h hn hf hd S0
  go_enter Tryd.func66, Tryd.ntmps66
  go_wp2
  go_loopw [5, 6] (fun v5 v6 wr => ∃ (O : List ByteArray) (Q : List Int) (nq g c gq oq cq : Nat) (wk : World), v5 = .slice (some ⟨g, 0, none⟩) O.length c ∧ v6 = .slice (some ⟨gq, oq, none⟩) nq cq ∧ wk = wr ∧ Hid (nq = Q.length) ∧ nq + ((askU (pL L)).length - O.length) ≤ 70000 ∧ Hid (BF (pL L) nm O Q) ∧ Hid (CQ w wk g c O gq oq cq Q none 0 [])) (fun v5 v6 _ => slen v6 + ((askU (pL L)).length - slen v5))
  case atStart => exact ⟨[], [(i : Int)], 1, w.heap.size, 0, w.heap.size + 1, 0, 1, _, rfl, rfl, rfl, rfl, by simp; omega, BF0, D0⟩
  case round =>
    obtain ⟨O, Q, nq, g, c, gq, oq, cq, wr, rfl, rfl, rfl, HNQ, hnq, HF, HI⟩ := hrel
    clear D0 BF0
    cases Q with
    | nil =>
      have hn0 : nq = 0 := HNQ.out
      have hn2 : ¬ (0 : Int) < (nq : Int) := by omega
      have hO := HLen.out O [] HF.out
      have SB : Hid (Calls Tryd.prog 67 #[.slice (some ⟨g, 0, none⟩) O.length c] wr fun e w' => ∃ q c, e = .returned (.slice q (srtL (rchB (askF (pL L)) nm)).length c) ∧ OwnG KS w' wr.heap.size (.slice q (srtL (rchB (askF (pL L)) nm)).length c) (srtL (rchB (askF (pL L)) nm)) ∧ Below wr.heap.size wr w') := by
        have := sortedB_any _ O wr (HI.out.o.gs KS_ok.len) (by omega)
        rw [HDone.out O HF.out] at this; exact this
      have BW : Hid (Below w.heap.size w wr) := HI.out.b
      clear hn0 HF HI HNQ
      go_wp2_with fail
      refine Calls.mono SB.out ?_
      rintro e w3 ⟨q3, c3, rfl, o3, b3⟩
      have O3 : Hid (OwnG KS w3 w.heap.size (.slice q3 (srtL (rchB (askF (pL L)) nm)).length c3) (srtL (rchB (askF (pL L)) nm))) := o3.low BW.out.size
      have B3 : Hid (Below w.heap.size w w3) := BW.out.trans (b3.mono BW.out.size)
      clear o3 b3 SB
      go_wp2_with fail
      go_ret
      exact ⟨q3, c3, rfl, O3.out, B3.out⟩
    | cons q Q =>
      obtain ⟨k, hk, hqk, hbk⟩ := HTake.out O q Q HF.out
      have hn1 : nq = Q.length + 1 := HNQ.out
      have hn2 : (0 : Int) < (nq : Int) := by omega
      have hn3 : (1 : Int) ≤ (nq : Int) := by omega
      have zc := HI.out.q.cell (k := 0) (by simp)
      rw [Nat.add_zero] at zc
      rw [show ((q :: Q)[0]'(by simp)) = q from rfl, hqk] at zc
      obtain ⟨o3, hif, HQ3⟩ : ∃ o3, (if cq = 1 then some (⟨gq, oq, none⟩ : Addr) else some ⟨gq, oq + 1, none⟩) = some ⟨gq, o3, none⟩ ∧ Hid (QU wr w.heap.size gq o3 (cq - 1) Q) := by
        have hle := HI.out.q.le
        rw [List.length_cons] at hle
        by_cases hc1 : cq = 1
        · have hQ0 : Q = [] := List.length_eq_zero_iff.1 (by omega)
          refine ⟨oq, by rw [if_pos hc1], ?_⟩
          rw [hc1, hQ0]
          exact HI.out.q.void (Nat.le_refl _)
        · exact ⟨oq + 1, by rw [if_neg hc1], HI.out.q.tail⟩
      clear hn1
      have BW : Hid (Below w.heap.size w wr) := HI.out.b
      obtain ⟨X, o, e1, _, x1, _⟩ := (HS.out.gs.below BW.out).atP hk
      obtain rfl : p = some ⟨X, o, none⟩ := e1
      have T1 : Hid _ := TX.out wr k hk BW.out
      have hAL := AL.out k hk
      have BK0 : Hid (BK (pL L) nm L[k].p.name O Q 0) := hbk
      have HCW : Hid (∀ w3 pT cT, OwnG KS w3 wr.heap.size (.slice pT (askF (pL L) L[k].p.name).length cT) (askF (pL L) L[k].p.name) → Below wr.heap.size wr w3 → CQ w w3 g c O gq o3 (cq - 1) Q pT cT (askF (pL L) L[k].p.name)) := fun w3 pT cT o3' b3 => CQ.with ⟨HI.out.o, HQ3.out, HI.out.b, HI.out.s, HI.out.n⟩ o3' b3
      have HM0 : Hid ((nq - 1) + ((askU (pL L)).length - O.length) + 1 ≤ nq + ((askU (pL L)).length - O.length)) := by show _ ≤ _; omega
      obtain ⟨me, hme⟩ : ∃ me, me = L[k].p.name := ⟨_, rfl⟩
      rw [← hme] at T1 BK0 HCW hAL
      clear hme hbk HF HQ3 HI
      obtain ⟨M0, hM0⟩ : ∃ M0, M0 = (nq - 1) + ((askU (pL L)).length - O.length) := ⟨_, rfl⟩
      rw [← hM0] at HM0
      have HNQ2 : Hid (nq - 1 = Q.length) := by have := HNQ.out; show _ = _; rw [List.length_cons] at this; omega
      have HB0 : Hid (nq - 1 + ((askU (pL L)).length - O.length) ≤ M0) := by show _ ≤ _; omega
      have hM7 : M0 ≤ 70000 := by omega
      clear hM0 HNQ
      have HMS : Hid (M0 < slen (.slice (some ⟨gq, oq, none⟩) nq cq) + ((askU (pL L)).length - slen (.slice (some ⟨g, 0, none⟩) O.length c))) := by have := HM0.out; show _ < nq + (_ - O.length); omega
      go_wp2_with fail
      refine Calls.mono T1.out ?_
      rintro e w3 ⟨pT, cT, rfl, ow3, b3⟩
      have C3 : Hid (CQ w w3 g c O gq o3 (cq - 1) Q pT cT (askF (pL L) me)) := HCW.out w3 pT cT ow3 b3
      clear ow3 b3 T1 HCW x1 zc
      go_wp2_with fail
      generalize cq - 1 = cq1 at *
      generalize nq - 1 = nq1 at *
      go_loopw [5, 6, 9] (fun v5 v6 v9 wx => ∃ (j : Nat) (O : List ByteArray) (Q : List Int) (nq g c gq oq cq : Nat) (wk : World), v5 = .slice (some ⟨g, 0, none⟩) O.length c ∧ v6 = .slice (some ⟨gq, oq, none⟩) nq cq ∧ v9 = .int .i64 j ∧ wk = wx ∧ j ≤ (askF (pL L) me).length ∧ Hid (nq = Q.length) ∧ nq + ((askU (pL L)).length - O.length) ≤ M0 ∧ Hid (BK (pL L) nm me O Q j) ∧ Hid (CQ w wk g c O gq oq cq Q pT cT (askF (pL L) me))) (fun _ _ v9 _ => (askF (pL L) me).length - (intOf v9).toNat)
      case atStart => exact ⟨0, O, Q, nq1, g, c, gq, o3, cq1, _, rfl, rfl, rfl, rfl, Nat.zero_le _, HNQ2, HB0.out, BK0, C3⟩
      case round =>
        obtain ⟨j, O, Q, nq, g, c, gq, oq, cq, wx, rfl, rfl, rfl, rfl, hj, HN, hbd, HK, HC⟩ := hrel
        clear C3 BK0 HNQ2 HB0
        by_cases hjl : j < (askF (pL L) me).length
        · obtain ⟨X2, o2, e2, yc0⟩ := HC.out.s.atS hjl
          obtain rfl : pT = some ⟨X2, o2, none⟩ := e2
          have HOl := HK.out.len
          have ALL : ∃ y : ByteArray, wx.cell? ⟨X2, o2 + j, none⟩ = some (.string y) ∧ Hid (∀ w1, Below w.heap.size w w1 → w1.cell? ⟨X2, o2 + j, none⟩ = some (.string y) → True) ∧ Hid (∀ wn gn cn On gqn oqn cqn Qn, CQ w wn gn cn On gqn oqn cqn Qn (some ⟨X2, o2, none⟩) cT (askF (pL L) me) → wn.cell? ⟨X2, o2 + j, none⟩ = some (.string y)) ∧ Hid (y ∈ O → BK (pL L) nm me O Q (j + 1)) ∧ Hid (∀ Q', y ∉ O → (Q' = if inB (nameL (pL L)) y = true then Q ++ [numI (nameL (pL L)) y] else Q) → BK (pL L) nm me (O ++ [y]) Q' (j + 1)) :=
            ⟨_, yc0, fun _ _ _ => trivial, fun wn gn cn On gqn oqn cqn Qn hcq => by
              obtain ⟨X3, o3', e3, yc3⟩ := hcq.s.atS hjl
              injection e3 with e3
              injection e3 with e3 e4 _
              subst e3 e4
              exact yc3, fun hy => HK.out.skip hjl hy, fun Q' hy hQ => HK.out.add hjl hy hQ⟩
          clear yc0
          obtain ⟨y, yc, _, YC, KS1, KA1⟩ := ALL
          have IN : Hid _ := inG_any _ O y wx (HC.out.o.gs KS_ok.len) (by omega)
          have LS : Hid ((O.length + 1) * KS.B ≤ 140737488355328) := by show (O.length + 1) * 16 ≤ _; omega
          have HJL : Hid (j + 1 ≤ (askF (pL L) me).length) := hjl
          cases hy : inB O y with
          | true =>
            rw [hy] at IN
            have K2 : Hid (BK (pL L) nm me O Q (j + 1)) := KS1.out ((inB_iff _ _).1 hy)
            go_wp2_with fail
            refine Calls.mono IN.out ?_
            rintro e w5 ⟨rfl, hw5⟩
            rw [hw5]
            clear hw5 IN
            go_wp2_with fail
            go_roundw
            case rel => exact ⟨j + 1, O, Q, nq, g, c, gq, oq, cq, _, rfl, rfl, by go_num, rfl, HJL.out, HN, hbd, K2, HC⟩
            case measure => have := HJL.out; simp [intOf]; omega
          | false =>
            rw [hy] at IN
            have hyn : y ∉ O := fun e => by rw [(inB_iff _ _).2 e] at hy; cases hy
            have KA2 : Hid (∀ Q', (Q' = if inB (nameL (pL L)) y = true then Q ++ [numI (nameL (pL L)) y] else Q) → BK (pL L) nm me (O ++ [y]) Q' (j + 1)) := fun Q' hQ => KA1.out Q' hyn hQ
            have HO2 : Hid (O.length + 1 ≤ (askU (pL L)).length) := by have := (KA2.out _ rfl).len; rw [List.length_append] at this; exact this
            clear hyn KA1 KS1
            go_wp2_with fail
            refine Calls.mono IN.out ?_
            rintro e w5 ⟨rfl, hw5⟩
            rw [hw5]
            clear hw5 IN
            go_wp2_with (at_builtin; refine append_g KS KS_ok rfl (.tmp 40) (.tmp 45) 28 rfl w.heap.size Tryd.underlying28 wx _ _ (.slice (some ⟨g, 0, none⟩) O.length c) O y _ rfl HC.out.o _ rfl rfl rfl LS.out HC.out.b.size ?_; intro g2 c2 w6 ho6 hb6 hk6 hg6; have C6 : Hid (CQ w w6 g2 c2 (O ++ [y]) gq oq cq Q (some ⟨X2, o2, none⟩) cT (askF (pL L) me)) := HC.out.pushO ho6 hb6 hk6 hg6; have yc6 := YC.out _ _ _ _ _ _ _ _ C6.out)
            have N6 : Hid _ := NU.out w6 y C6.out.b
            have hne : (O ++ [y]).length = O.length + 1 := by simp
            clear ho6 hb6 hk6 hg6 HC YC
            obtain ⟨nn1, nn2⟩ := numI_neg (nameL (pL L)) y
            have NN1 : Hid _ := nn1
            have NN2 : Hid _ := nn2
            clear nn1 nn2
            generalize numI (nameL (pL L)) y = nn at *
            refine Calls.mono N6.out ?_
            rintro e w7 ⟨rfl, hw7⟩
            rw [hw7]
            clear hw7 N6
            cases hpy : inB (nameL (pL L)) y with
            | false =>
              have hnn : nn < 0 := NN1.out.2 hpy
              have K2 : Hid (BK (pL L) nm me (O ++ [y]) Q (j + 1)) := KA2.out _ (by rw [hpy, if_neg (by decide)])
              have hbd2 : Hid (nq + ((askU (pL L)).length - (O ++ [y]).length) ≤ M0) := by show _ ≤ _; rw [hne]; omega
              clear KA2 NN1 NN2
              go_wp2_with fail
              go_roundw
              case rel => exact ⟨j + 1, O ++ [y], Q, nq, g2, c2, gq, oq, cq, _, by rw [hne], rfl, by go_num, rfl, HJL.out, HN, hbd2.out, K2, C6⟩
              case measure => have := HJL.out; simp [intOf]; omega
            | true =>
              have hnn : 0 ≤ nn := NN2.out.2 hpy
              have K2 : Hid (BK (pL L) nm me (O ++ [y]) (Q ++ [nn]) (j + 1)) := KA2.out _ (by rw [hpy, if_pos rfl])
              have hbd2 : Hid (nq + 1 + ((askU (pL L)).length - (O ++ [y]).length) ≤ M0) := by have := HO2.out; show _ ≤ _; rw [hne]; omega
              have hQl : Hid (Q.length ≤ 1000000) := by have := HN.out; show _ ≤ _; omega
              clear KA2 NN1 NN2
              go_wp2_with (at_builtin; refine q_push rfl (.tmp 55) (.tmp 57) 37 rfl Tryd.underlying37 w6 w.heap.size gq oq cq Q nn _ nq HN.out rfl C6.out.q _ rfl rfl hQl.out C6.out.b.size ?_; intro g3 o3' c3 w8 hq8 hb8 hk8 hg8)
              have C8 : Hid (CQ w w8 g2 c2 (O ++ [y]) g3 o3' c3 (Q ++ [nn]) (some ⟨X2, o2, none⟩) cT (askF (pL L) me)) := C6.out.pushQ hq8 hb8 hk8
              have HN8 : Hid (nq + 1 = (Q ++ [nn]).length) := by have := HN.out; show _ = _; simp; omega
              clear hq8 hb8 hk8 hg8 C6
              go_roundw
              case rel => exact ⟨j + 1, O ++ [y], Q ++ [nn], nq + 1, g2, c2, g3, o3', c3, _, by rw [hne], rfl, by go_num, rfl, HJL.out, HN8, hbd2.out, K2, C8⟩
              case measure => have := HJL.out; simp [intOf]; omega
        · have hje : j = (askF (pL L) me).length := by omega
          have KF : Hid (BF (pL L) nm O Q) := by have := HK.out; rw [hje] at this; exact this.fin
          have CF : Hid (CQ w wx g c O gq oq cq Q none 0 []) := HC.out.plain
          have hb70 : nq + ((askU (pL L)).length - O.length) ≤ 70000 := by omega
          have HLT : Hid (slen (.slice (some ⟨gq, oq, none⟩) nq cq) + ((askU (pL L)).length - slen (.slice (some ⟨g, 0, none⟩) O.length c)) ≤ M0) := by show nq + (_ - O.length) ≤ M0; exact hbd
          clear hje HK HC
          go_wp2_with fail
          go_roundw
          case rel => exact ⟨O, Q, nq, g, c, gq, oq, cq, _, rfl, rfl, rfl, HN, hb70, KF, CF⟩
          case measure => exact Nat.lt_of_le_of_lt HLT.out HMS.out
end Go.Proofs.YthmppnmmlblbhaaDoor
