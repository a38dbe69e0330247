/- The law NamesSets. -/
import Derived.Test.YtffabehipcomfaaDoorPn1
import Derived.Test.YtffabehipcomfaaDoorPu4
import Derived.Test.YtffabehipcomfaaDoorQa7
import Derived.Laws.StructEq
namespace Go.Proofs.YtffabehipcomfaaDoor
open Go.RowKit

theorem keep_pre (M : List ByteArray) (x : ByteArray) : ∀ k, k ≤ M.length → keepK (M ++ [x]) ByteArray.empty (fun k => seenK (M ++ [x]) k ((M ++ [x]).getD k ByteArray.empty)) k = keepK M ByteArray.empty (fun k => seenK M k (M.getD k ByteArray.empty)) k
  | 0, _ => rfl
  | k + 1, hk => by
    have e1 : (M ++ [x]).getD k ByteArray.empty = M.getD k ByteArray.empty := getD_app (by omega)
    have e2 : ∀ s, seenK (M ++ [x]) k s = seenK M k s := fun s => by unfold seenK; rw [List.take_append_of_le_length (by omega)]
    rw [keepK, keepK, keep_pre M x k (by omega), e1, e2]
theorem once_snoc (M : List ByteArray) (x : ByteArray) : onceL (M ++ [x]) = if inB (onceL M) x = true then onceL M else onceL M ++ [x] := by
  have e0 : onceL (M ++ [x]) = keepK (M ++ [x]) ByteArray.empty (fun k => seenK (M ++ [x]) k ((M ++ [x]).getD k ByteArray.empty)) (M.length + 1) := by unfold onceL; rw [List.length_append]; rfl
  have e1 : (M ++ [x]).getD M.length ByteArray.empty = x := getD_end rfl
  have e2 : seenK (M ++ [x]) M.length x = true ↔ inB (onceL M) x = true := by
    unfold seenK
    rw [List.take_left, inB_iff, List.any_eq_true]
    constructor
    · rintro ⟨y, hy, e⟩
      rw [of_decide_eq_true e]; exact onceL_mem hy
    · intro h
      exact ⟨x, keepK_in _ _ _ _ (Nat.le_refl _) _ h, by simp⟩
  rw [e0, keepK, keep_pre M x _ (Nat.le_refl _), e1]
  by_cases h : inB (onceL M) x = true
  · rw [if_pos (e2.2 h), if_pos h]; rfl
  · rw [if_neg (fun e => h (e2.1 e)), if_neg h]; rfl
theorem texts_next (l : List Opn) (kd : Int) {k : Nat} (h : k < l.length) : textsL (l.take (k + 1)) kd = if (l[k].kind == kd) = true ∧ inB (textsL (l.take k) kd) l[k].text = false then textsL (l.take k) kd ++ [l[k].text] else textsL (l.take k) kd := by
  unfold textsL
  rw [txL_next l kd h]
  by_cases h1 : (l[k].kind == kd) = true
  · rw [if_pos h1, once_snoc]
    by_cases h2 : inB (onceL (txL (l.take k) kd)) l[k].text = true
    · rw [if_pos h2, if_neg (fun e => by rw [h2] at e; cases e.2)]
    · rw [if_neg h2, if_pos ⟨h1, by simpa using h2⟩]
  · rw [if_neg h1, List.append_nil, if_neg (fun e => h1 e.1)]
set_option maxHeartbeats 4000000 in
theorem rtexts_any (v : Value) (l : List Opn) (kd : Int) (w : World) (h : OS w v l) (hlm : l.length ≤ 256) :
    Calls Tryd.prog 67 #[v, .int .i64 kd] w fun e w' => ∃ p c, e = .returned (.slice p (textsL l kd).length c) ∧ OwnG KS w' w.heap.size (.slice p (textsL l kd).length c) (textsL l kd) ∧ Below w.heap.size w w' := by
  obtain ⟨p, cap, rfl⟩ := h.form
  have HS : Hid (OS w (.slice p l.length cap) l) := h
  have HL : Hid (∀ k, (textsL (l.take k) kd).length ≤ 256) := fun k => by
    have h1 := textsL_len (l.take k) kd
    have h2 : (l.take k).length ≤ l.length := by simp; omega
    show _ ≤ _
    omega
  have HA : Hid (textsL (l.take l.length) kd = textsL l kd) := by show _ = _; rw [List.take_length]
  have HN : Hid (∀ k (h : k < l.length), textsL (l.take (k + 1)) kd = if (l[k].kind == kd) = true ∧ inB (textsL (l.take k) kd) l[k].text = false then textsL (l.take k) kd ++ [l[k].text] else textsL (l.take k) kd) := fun k h => texts_next l kd h
  generalize textsL l kd = T at *
  have D0 : Hid (OwnG KS (w.alloc (.cells #[] 9)) w.heap.size (.slice (some ⟨w.heap.size, 0, none⟩) 0 0) (textsL (l.take 0) kd) ∧ Below w.heap.size w (w.alloc (.cells #[] 9))) := ⟨OwnG.empty KS w, (Below.refl _ _).alloc (Nat.le_refl _) _⟩
  clear h
  go_enter Tryd.func67, Tryd.ntmps67
  go_wp2
  go_loopw [5, 6] (fun v5 v6 wr => ∃ (k g c : Nat) (O : List ByteArray) (wk : World), v6 = .int .i64 k ∧ v5 = .slice (some ⟨g, 0, none⟩) O.length c ∧ wk = wr ∧ k ≤ l.length ∧ Hid (O = textsL (l.take k) kd) ∧ Hid (OwnG KS wk w.heap.size (.slice (some ⟨g, 0, none⟩) O.length c) O ∧ Below w.heap.size w wk)) (fun _ v6 _ => l.length - (intOf v6).toNat)
  case atStart => exact ⟨0, _, 0, [], _, rfl, rfl, rfl, Nat.zero_le _, rfl, D0⟩
  case round =>
    obtain ⟨k, g, cp, O, wr, rfl, rfl, rfl, hk, HO, HI⟩ := hrel
    clear D0
    by_cases hlt : k < l.length
    · obtain ⟨X, o, e1, x1, x2, x3, x4⟩ := (HS.out.below HI.out.2).atO hlt
      obtain rfl : p = some ⟨X, o, none⟩ := e1
      have hOl := HL.out k
      have HK : Hid _ := HN.out k hlt
      rw [← HO.out] at hOl HK
      have LS : Hid ((O.length + 1) * KS.B ≤ 140737488355328) := by show (O.length + 1) * 16 ≤ _; omega
      obtain ⟨c, hc⟩ : ∃ c, c = l[k] := ⟨_, rfl⟩
      rw [← hc] at x1 x2 x3 x4 HK
      clear hc
      cases hq : (c.kind == kd) with
      | true =>
        rw [hq] at HK
        have I1 : Hid _ := inG_any _ O c.text wr (HI.out.1.gs KS_ok.len) (by omega)
        cases hi : inB O c.text with
        | false =>
          rw [hi] at HK I1
          rw [if_pos ⟨rfl, rfl⟩] at HK
          go_wp2_with fail
          refine Calls.mono I1.out ?_
          rintro e w1 ⟨rfl, rfl⟩
          clear I1
          go_wp2_with (at_builtin; refine append_g KS KS_ok rfl (.tmp 31) (.tmp 37) 50 rfl w.heap.size Tryd.underlying50 _ _ _ (.slice (some ⟨g, 0, none⟩) O.length cp) O c.text _ rfl HI.out.1 _ rfl rfl rfl LS.out HI.out.2.size ?_; intro g2 c2 w2 ho2 hb2 hk2 hg2)
          have H2 : Hid (OwnG KS w2 w.heap.size (.slice (some ⟨g2, 0, none⟩) (O ++ [c.text]).length c2) (O ++ [c.text]) ∧ Below w.heap.size w w2) := ⟨by rw [List.length_append]; exact ho2, HI.out.2.trans hb2⟩
          have hne : (O ++ [c.text]).length = O.length + 1 := by simp
          go_roundw
          case rel => exact ⟨k + 1, g2, c2, O ++ [c.text], _, by go_num, by rw [hne], rfl, by omega, HK.out.symm, H2⟩
          case measure => simp [intOf]; omega
        | true =>
          rw [hi] at HK I1
          rw [if_neg (fun e => by cases e.2)] at HK
          go_wp2_with fail
          refine Calls.mono I1.out ?_
          rintro e w1 ⟨rfl, rfl⟩
          clear I1
          go_wp2_with fail
          go_roundw
          case rel => exact ⟨k + 1, g, cp, O, _, by go_num, rfl, rfl, by omega, HK.out.symm, HI⟩
          case measure => simp [intOf]; omega
      | false =>
        rw [hq, if_neg (fun e => by cases e.1)] at HK
        go_wp2_with fail
        go_roundw
        case rel => exact ⟨k + 1, g, cp, O, _, by go_num, rfl, rfl, by omega, HK.out.symm, HI⟩
        case measure => simp [intOf]; omega
    · have hke : k = l.length := by omega
      subst hke
      have e1 : O = T := by rw [HO.out, HA.out]
      subst e1
      have H2 : Hid (OwnG KS wr w.heap.size (.slice (some ⟨g, 0, none⟩) O.length cp) O ∧ Below w.heap.size w wr) := HI
      clear HI HO HA HN HL HS
      go_wp2_with fail
      go_ret
      exact ⟨_, _, rfl, H2.out.1, H2.out.2⟩
set_option maxHeartbeats 4000000 in
theorem rasked_any (v : Value) (l : List Opn) (w : World) (h : OS w v l) (ht : ∀ c ∈ l, c.text.size ≤ maxLen) (hlm : l.length ≤ 1000000000000000) :
    Calls Tryd.prog 49 #[v] w fun e w' => AnsT w w' e (askL l 3) (chkO l) := by
  have CK : Hid _ := rcheck_any v l w h ht hlm
  by_cases hc : chkO l = 0
  · have e1 : askL l 3 = textsL l 3 := by unfold askL; rw [if_pos hc]
    rw [e1, hc]
    rw [hc] at CK
    have TX : Hid (∀ w1, Below w.heap.size w w1 → _) := fun w1 b => rtexts_any v l 3 w1 (h.below b) (chkO_ok hc).1
    obtain ⟨p, cap, rfl⟩ := h.form
    generalize textsL l 3 = L at *
    clear h ht hc e1
    go_enter Tryd.func49, Tryd.ntmps49
    go_wp2_with fail
    refine Calls.mono CK.out ?_
    rintro e w1 ⟨rfl, hb1⟩
    have B1 : Hid (Below w.heap.size w w1) := hb1
    clear hb1 CK
    go_wp2_with fail
    refine Calls.mono (TX.out _ B1.out) ?_
    rintro e w2 ⟨p2, c2, rfl, ho, hb2⟩
    have B2 : Hid (Below w.heap.size w w2) := B1.out.trans (hb2.mono B1.out.size)
    have O2 : Hid (OwnG KS w2 w.heap.size (.slice p2 L.length c2) L) := ho.low B1.out.size
    clear ho hb2 TX
    go_wp2_with fail
    go_ret2
    exact ⟨p2, c2, rfl, O2.out, B2.out⟩
  · have e1 : askL l 3 = [] := by unfold askL; rw [if_neg hc]
    rw [e1]
    obtain ⟨p, cap, rfl⟩ := h.form
    generalize chkO l = c at *
    have h1 : (c == 0) = false := by simpa using hc
    have h2 : (c != 0) = true := by simpa using hc
    clear h ht e1
    go_enter Tryd.func49, Tryd.ntmps49
    go_wp2_with fail
    refine Calls.mono CK.out ?_
    rintro e w1 ⟨rfl, hb1⟩
    have B1 : Hid (Below w.heap.size w w1) := hb1
    clear hb1 CK
    go_wp2_with fail
    go_ret2
    exact ⟨none, 0, rfl, OwnG.nil _ _ _, B1.out⟩
end Go.Proofs.YtffabehipcomfaaDoor
namespace Go.Proofs.YtffabehipcomfaaDoor
open Go.RowKit

/-- A row of texts that grows, beside one that is read. -/
structure MI (w1 wk : World) (g c : Nat) (O : List ByteArray) (p2 : Option Addr) (c2 : Nat) (L : List ByteArray) : Prop where
  o : OwnG KS wk w1.heap.size (.slice (some ⟨g, 0, none⟩) O.length c) O
  b : Below w1.heap.size w1 wk
  s : GS KS wk (.slice p2 L.length c2) L
  n : ∀ x, (Value.slice p2 L.length c2).ownBlock = some x → x < wk.heap.size ∧ x ≠ g
theorem MI.push {w1 wk w2 : World} {g c g2 c2' : Nat} {O : List ByteArray} {p2 : Option Addr} {c2 : Nat} {L : List ByteArray} {y : ByteArray} (h : MI w1 wk g c O p2 c2 L) (ho : OwnG KS w2 w1.heap.size (.slice (some ⟨g2, 0, none⟩) (O.length + 1) c2') (O ++ [y])) (hb : Below w1.heap.size wk w2)
    (hk : ∀ k, k < wk.heap.size → some k ≠ (Value.slice (some ⟨g, 0, none⟩) O.length c).ownBlock → w2.heap[k]? = wk.heap[k]?) (hg : (Value.slice (some ⟨g, 0, none⟩) O.length c).ownBlock = some g2 ∨ wk.heap.size ≤ g2) : MI w1 w2 g2 c2' (O ++ [y]) p2 c2 L := by
  have hs := hb.size
  refine ⟨by rw [List.length_append]; exact ho, h.b.trans hb, h.s.blk hs (fun x hx hl => hk x hl (fun e => (h.n x hx).2 (by simpa [Value.ownBlock] using e))), fun x hx => ?_⟩
  obtain ⟨h1, h2⟩ := h.n x hx
  refine ⟨Nat.lt_of_lt_of_le h1 hs, fun e => ?_⟩
  rcases hg with hg | hg
  · apply h2
    have : g = g2 := by simpa [Value.ownBlock] using hg
    omega
  · omega
theorem filt_next (A : List ByteArray) (N : List ByteArray) {j : Nat} (h : j < A.length) : (A.take (j + 1)).filter (fun s => !inB N s) = (A.take j).filter (fun s => !inB N s) ++ (if inB N A[j] = true then [] else [A[j]]) := by
  rw [List.take_add_one, List.getElem?_eq_getElem h, Option.toList_some, List.filter_append]
  congr 1
  cases e : inB N A[j] with
  | true => simp [e]
  | false => simp [e]
/-- What the reference has behind j texts of a provider. -/
def rmO (U A N : List ByteArray) (j : Nat) : List ByteArray := onceL (U ++ (A.take j).filter fun s => !inB N s)
theorem rmO_skip {U A N : List ByteArray} {j : Nat} (h : j < A.length) (hp : inB N A[j] = true) : rmO U A N (j + 1) = rmO U A N j := by
  unfold rmO; rw [filt_next A N h, if_pos hp, List.append_nil]
theorem rmO_step {U A N : List ByteArray} {j : Nat} (h : j < A.length) (hp : inB N A[j] = false) : rmO U A N (j + 1) = if inB (rmO U A N j) A[j] = true then rmO U A N j else rmO U A N j ++ [A[j]] := by
  unfold rmO; rw [filt_next A N h, if_neg (by rw [hp]; decide), ← List.append_assoc, once_snoc]
theorem onceL_len (M : List ByteArray) : (onceL M).length ≤ M.length := by unfold onceL; exact keepK_len _ _ _ _
set_option maxHeartbeats 8000000 in
theorem rmissing_any (v : Value) (L : List Pvx) (w : World) (h : PR w v L) :
    Calls Tryd.prog 48 #[v] w fun e w' => AnsF w w' e (misL (pL L)) (setF (pL L)) := by
  have A0 : Hid (∀ ob, Below w.heap.size w (w.alloc ob)) := fun ob => (Below.refl _ _).alloc (Nat.le_refl _) ob
  have F0 : Hid (FBx (w.alloc (.cells #[.int .i64 0, .int .i64 0] 83)) w.heap.size 0 0) := heap_alloc_new _ _
  have CS : Hid (∀ w1, Below w.heap.size w w1 → _) := fun w1 b => rcheckSet_any v L w1 (h.below b)
  by_cases hn : (setF (pL L)).2 = 0
  · obtain ⟨hl, hg, hd, hz⟩ := setF_fine hn
    rw [pL_len] at hl
    have hG : ∀ k (hk : k < L.length), chkO L[k].p.ops = 0 ∧ nameB L[k].p.name = true := fun k hk => by
      have := hg k (by rw [pL_len]; exact hk)
      rw [pL_at hk] at this
      exact prvE_ops this
    have e1 : misL (pL L) = onceL (misU (pL L) L.length) := by unfold misL; rw [if_pos hn, pL_len]
    rw [e1]
    rw [hz] at CS ⊢
    obtain ⟨p, cap, rfl⟩ := h.gs.form
    have HS : Hid (PR w (.slice p L.length cap) L) := h
    have hc256 : ∀ j (hj : j < (pL L).length), (pL L)[j].ops.length ≤ 256 := fun j hj => by
      rw [pL_len] at hj
      rw [pL_at hj]; exact (chkO_ok (hG j hj).1).1
    have HU : Hid (∀ k (hk : k < L.length), onceL (misU (pL L) (k + 1)) = rmO (misU (pL L) k) (textsL L[k].p.ops 3) (nameL (pL L)) (textsL L[k].p.ops 3).length) := fun k hk => by
      have := misU_next (L := pL L) (k := k) (by rw [pL_len]; exact hk)
      rw [pL_at hk] at this
      rw [this]
      unfold rmO misF
      rw [List.take_length]
    have HLn : Hid (∀ k (hk : k < L.length) j, (rmO (misU (pL L) k) (textsL L[k].p.ops 3) (nameL (pL L)) j).length ≤ 66000) := fun k hk j => by
      have h1 := misU_len hc256 k (by rw [pL_len]; omega)
      have h2 := textsL_len L[k].p.ops 3
      have h3 := (chkO_ok (hG k hk).1).1
      have h4 := onceL_len (misU (pL L) k ++ ((textsL L[k].p.ops 3).take j).filter fun s => !inB (nameL (pL L)) s)
      have h5 := List.length_filter_le (fun s => !inB (nameL (pL L)) s) ((textsL L[k].p.ops 3).take j)
      have h6 : ((textsL L[k].p.ops 3).take j).length ≤ (textsL L[k].p.ops 3).length := by simp; omega
      rw [List.length_append] at h4
      unfold rmO
      omega
    have HT : Hid (∀ k (hk : k < L.length), (textsL L[k].p.ops 3).length ≤ 256) := fun k hk => by
      have h1 := textsL_len L[k].p.ops 3
      have h2 := (chkO_ok (hG k hk).1).1
      show _ ≤ _
      omega
    have TX : Hid (∀ w1 k (hk : k < L.length), Below w.heap.size w w1 → Calls Tryd.prog 67 #[.slice L[k].q L[k].p.ops.length L[k].c, .int .i64 3] w1 fun e w' => ∃ p c, e = .returned (.slice p (textsL L[k].p.ops 3).length c) ∧ OwnG KS w' w1.heap.size (.slice p (textsL L[k].p.ops 3).length c) (textsL L[k].p.ops 3) ∧ Below w1.heap.size w1 w') := fun w1 k hk b => rtexts_any _ _ 3 w1 ((h.ps _ (List.getElem_mem hk)).below b).os (chkO_ok (hG k hk).1).1
    have NU : Hid (∀ w1 s, Below w.heap.size w w1 → Calls Tryd.prog 68 #[.slice p L.length cap, .string s] w1 fun e w' => e = .returned (.int .i64 (numI (nameL (pL L)) s)) ∧ w' = w1) := fun w1 s b => number_any _ L s w1 (h.gs.below b) (by omega)
    have U0 : Hid (onceL (misU (pL L) 0) = []) := by show _ = _; simp [misU, onceL, keepK]
    have UZ : Hid (∀ k (hk : k < L.length), rmO (misU (pL L) k) (textsL L[k].p.ops 3) (nameL (pL L)) 0 = onceL (misU (pL L) k)) := fun k hk => by unfold rmO; simp
    clear h hn hg hd hz hG hc256 e1
    go_enter Tryd.func48, Tryd.ntmps48
    go_wp2_with fail
    refine Calls.mono (CS.out _ (A0.out _)) ?_
    rintro e w1 ⟨rfl, hb1⟩
    have B1 : Hid (Below w.heap.size w w1) := (A0.out _).trans (hb1.mono (A0.out _).size)
    have F1 : Hid (FBx w1 w.heap.size 0 0) := F0.out.below hb1
    clear hb1 CS F0
    have BA : Hid (∀ ob, Below w1.heap.size w1 (w1.alloc ob)) := fun ob => (Below.refl _ _).alloc (Nat.le_refl _) ob
    have BG : Hid (∀ ob, (w1.alloc ob).heap.size = w1.heap.size + 1) := fun ob => by simp
    go_wp2_with fail
    generalize hW : w1.alloc _ = w2 at *
    have B2 : Hid (Below w1.heap.size w1 w2) := by rw [← hW]; exact BA.out _
    have G2 : Hid (w2.heap.size = w1.heap.size + 1) := by rw [← hW]; exact BG.out _
    have D0 : Hid (OwnG KS (w2.alloc (.cells #[] 9)) w2.heap.size (.slice (some ⟨w2.heap.size, 0, none⟩) 0 0) [] ∧ Below w2.heap.size w2 (w2.alloc (.cells #[] 9))) := ⟨OwnG.empty KS w2, (Below.refl _ _).alloc (Nat.le_refl _) _⟩
    rw [G2.out] at D0
    clear hW BA BG
    go_loopw [5, 6] (fun v5 v6 wr => ∃ (k g c : Nat) (O : List ByteArray) (wk : World), v6 = .int .i64 k ∧ v5 = .slice (some ⟨g, 0, none⟩) O.length c ∧ wk = wr ∧ k ≤ L.length ∧ Hid (O = onceL (misU (pL L) k)) ∧ Hid (OwnG KS wk (w1.heap.size + 1) (.slice (some ⟨g, 0, none⟩) O.length c) O ∧ Below (w1.heap.size + 1) w2 wk)) (fun _ v6 _ => L.length - (intOf v6).toNat)
    case atStart => exact ⟨0, _, 0, [], _, rfl, rfl, rfl, Nat.zero_le _, U0.out.symm, D0⟩
    case round =>
      obtain ⟨k, g, cp, O, wr, rfl, rfl, rfl, hk, HO, HI⟩ := hrel
      clear D0
      have BW : Hid (Below w2.heap.size w2 wr) := by rw [G2.out]; exact HI.out.2
      have BX : Hid (Below w.heap.size w wr) := B1.out.trans ((B2.out.trans (BW.out.mono B2.out.size)).mono B1.out.size)
      by_cases hlt : k < L.length
      · obtain ⟨X, o, e1, x0, x1, _⟩ := (HS.out.gs.below BX.out).atP hlt
        obtain rfl : p = some ⟨X, o, none⟩ := e1
        have T1 : Hid _ := TX.out wr k hlt BX.out
        have HUk : Hid _ := HU.out k hlt
        have HLk : Hid _ := HLn.out k hlt
        have hTT := HT.out k hlt
        have UZk : Hid _ := UZ.out k hlt
        have OWr : Hid (OwnG KS wr w2.heap.size (.slice (some ⟨g, 0, none⟩) O.length cp) O) := by rw [G2.out]; exact HI.out.1
        obtain ⟨c, hc⟩ : ∃ c, c = L[k] := ⟨_, rfl⟩
        rw [← hc] at x0 x1 T1 HUk HLk hTT UZk
        clear hc HU HLn HT TX UZ HI
        generalize misU (pL L) k = U at *
        go_wp2_with fail
        refine Calls.mono T1.out ?_
        rintro e w3 ⟨pT, cT, rfl, o3, b3⟩
        have M0 : Hid (MI w2 w3 g cp O pT cT (textsL c.p.ops 3)) := ⟨OWr.out.below b3, BW.out.trans (b3.mono BW.out.size), o3.gs KS_ok.len, fun x hx => ⟨(o3.lt hx).2, fun e => by have h1 := (o3.lt hx).1; have h2 := (OWr.out.lt (g := g) rfl).2; omega⟩⟩
        have BL : Hid (∀ wx, Below w2.heap.size w2 wx → Below w.heap.size w wx) := fun wx b => B1.out.trans ((B2.out.trans (b.mono B2.out.size)).mono B1.out.size)
        clear o3 b3 T1 OWr x0 x1
        generalize textsL c.p.ops 3 = TT at *
        have O0 : Hid (O = rmO U TT (nameL (pL L)) 0) := by show _ = _; rw [HO.out, UZk.out]
        clear HO UZk
        go_wp2_with fail
        go_loopw [5, 8] (fun v5 v8 wx => ∃ (j g c : Nat) (O : List ByteArray) (wk : World), v8 = .int .i64 j ∧ v5 = .slice (some ⟨g, 0, none⟩) O.length c ∧ wk = wx ∧ j ≤ TT.length ∧ Hid (O = rmO U TT (nameL (pL L)) j) ∧ Hid (MI w2 wk g c O pT cT TT)) (fun _ v8 _ => TT.length - (intOf v8).toNat)
        case atStart => exact ⟨0, g, cp, O, _, rfl, rfl, rfl, Nat.zero_le _, O0, M0⟩
        case round =>
          obtain ⟨j, g', cp', O', wj, rfl, rfl, rfl, hj, HO, HI⟩ := hrel
          clear M0 O0
          by_cases hjt : j < TT.length
          · obtain ⟨X2, o2, e2, yc⟩ := HI.out.s.atS hjt
            obtain rfl : pT = some ⟨X2, o2, none⟩ := e2
            have NUj : Hid _ := NU.out wj TT[j] (BL.out _ HI.out.b)
            have INj : Hid _ := inG_any _ O' TT[j] wj (HI.out.o.gs KS_ok.len) (by have := HLk.out j; rw [← HO.out] at this; omega)
            have hOl : O'.length ≤ 66000 := by have := HLk.out j; rw [← HO.out] at this; exact this
            have LS : Hid ((O'.length + 1) * KS.B ≤ 140737488355328) := by show (O'.length + 1) * 16 ≤ _; omega
            obtain ⟨hn1, hn2⟩ := numI_neg (nameL (pL L)) TT[j]
            have HN1 : Hid _ := hn1
            have HN2 : Hid _ := hn2
            have ST : Hid (inB (nameL (pL L)) TT[j] = false → rmO U TT (nameL (pL L)) (j + 1) = if inB O' TT[j] = true then O' else O' ++ [TT[j]]) := fun hp => by rw [rmO_step hjt hp, ← HO.out]
            have SK : Hid (inB (nameL (pL L)) TT[j] = true → rmO U TT (nameL (pL L)) (j + 1) = O') := fun hp => by rw [rmO_skip hjt hp, ← HO.out]
            clear hn1 hn2 HO
            generalize numI (nameL (pL L)) TT[j] = nn at *
            generalize TT[j] = y at *
            cases hp : inB (nameL (pL L)) y with
            | true =>
              have hnn : 0 ≤ nn := HN2.out.2 hp
              have NXT : Hid _ := SK.out hp
              clear HN1 HN2 ST SK INj
              go_wp2_with fail
              refine Calls.mono NUj.out ?_
              rintro e w4 ⟨rfl, hw4⟩
              rw [hw4]
              clear hw4 NUj
              go_wp2_with fail
              go_roundw
              case rel => exact ⟨j + 1, g', cp', O', _, by go_num, rfl, rfl, by omega, NXT.out.symm, HI⟩
              case measure => simp [intOf]; omega
            | false =>
              have hnn : nn < 0 := HN1.out.2 hp
              have NXT : Hid _ := ST.out hp
              clear HN1 HN2 ST SK
              cases hi : inB O' y with
              | true =>
                rw [hi] at INj NXT
                rw [if_pos rfl] at NXT
                go_wp2_with fail
                refine Calls.mono NUj.out ?_
                rintro e w4 ⟨rfl, hw4⟩
                rw [hw4]
                clear hw4 NUj
                go_wp2_with fail
                refine Calls.mono INj.out ?_
                rintro e w5 ⟨rfl, hw5⟩
                rw [hw5]
                clear hw5 INj
                go_wp2_with fail
                go_roundw
                case rel => exact ⟨j + 1, g', cp', O', _, by go_num, rfl, rfl, by omega, NXT.out.symm, HI⟩
                case measure => simp [intOf]; omega
              | false =>
                rw [hi] at INj NXT
                rw [if_neg (by decide)] at NXT
                go_wp2_with fail
                refine Calls.mono NUj.out ?_
                rintro e w4 ⟨rfl, hw4⟩
                rw [hw4]
                clear hw4 NUj
                go_wp2_with fail
                refine Calls.mono INj.out ?_
                rintro e w5 ⟨rfl, hw5⟩
                rw [hw5]
                clear hw5 INj
                go_wp2_with (at_builtin; refine append_g KS KS_ok rfl (.tmp 50) (.tmp 55) 50 rfl w2.heap.size Tryd.underlying50 wj _ _ (.slice (some ⟨g', 0, none⟩) O'.length cp') O' y _ rfl HI.out.o _ rfl rfl rfl LS.out HI.out.b.size ?_; intro g2 c2 w6 ho6 hb6 hk6 hg6)
                have H6 : Hid (MI w2 w6 g2 c2 (O' ++ [y]) (some ⟨X2, o2, none⟩) cT TT) := HI.out.push ho6 hb6 hk6 hg6
                have hne : (O' ++ [y]).length = O'.length + 1 := by simp
                clear ho6 hb6 hk6 hg6
                go_roundw
                case rel => exact ⟨j + 1, g2, c2, O' ++ [y], _, by go_num, by rw [hne], rfl, by omega, NXT.out.symm, H6⟩
                case measure => simp [intOf]; omega
          · have hje : j = TT.length := by omega
            subst hje
            have HE : Hid (O' = onceL (misU (pL L) (k + 1))) := by show _ = _; rw [HO.out, HUk.out]
            have H7 : Hid (OwnG KS wj (w1.heap.size + 1) (.slice (some ⟨g', 0, none⟩) O'.length cp') O' ∧ Below (w1.heap.size + 1) w2 wj) := by rw [← G2.out]; exact ⟨HI.out.o, HI.out.b⟩
            clear HO HI HUk HLk BL NU
            go_wp2_with fail
            go_roundw
            case rel => exact ⟨k + 1, g', cp', O', _, by go_num, rfl, rfl, by omega, HE, H7⟩
            case measure => simp [intOf]; omega
      · have hke : k = L.length := by omega
        subst hke
        have ZW : w.heap.size < w1.heap.size := F1.out.lt
        have FX : Hid (FBx wr w.heap.size 0 0) := (F1.out.below B2.out).below BW.out
        have O3 : Hid (∀ u0 u1, OwnG KS ((wr.setCell ⟨w.heap.size, 0, none⟩ u0).setCell ⟨w.heap.size, 1, none⟩ u1) w.heap.size (.slice (some ⟨g, 0, none⟩) O.length cp) O) := fun u0 u1 => by
          refine (HI.out.1.low (by omega)).far fun g hg => ?_
          have h1 := (HI.out.1.lt hg).1
          rw [set_far (show g ≠ w.heap.size by omega), set_far (show g ≠ w.heap.size by omega)]
        rw [HO.out] at O3
        have EO := HO.out
        obtain ⟨y0, y1⟩ := FX.out.cells
        have fz := FX.out.fz
        have zl := FX.out.lt
        have AF : Hid (∀ u0 u1, AnsF w ((wr.setCell ⟨w.heap.size, 0, none⟩ u0).setCell ⟨w.heap.size, 1, none⟩ u1) (.returned (.tuple #[.slice (some ⟨g, 0, none⟩) O.length cp, .agg #[.int .i64 0, .int .i64 0]])) (onceL (misU (pL L) L.length)) (0, 0)) := fun u0 u1 => ⟨_, cp, by rw [EO], O3.out u0 u1, below_set2 BX.out (Nat.le_refl _) _ _⟩
        clear HU HLn HT TX UZ NU HO O3 HI EO
        go_wp2_with fail
        exact bodyPost_ret (v := .tuple #[.slice (some ⟨g, 0, none⟩) O.length cp, .agg #[.int .i64 0, .int .i64 0]]) (by simp [results, Tryd.results48, go_sem, y0, y1]) rfl (AF.out _ _)
  · have e1 : misL (pL L) = [] := by unfold misL; rw [if_neg hn]
    rw [e1]
    obtain ⟨p, cap, rfl⟩ := h.gs.form
    generalize setF (pL L) = R at *
    obtain ⟨ra, rc⟩ := R
    have h1 : (rc == 0) = false := by simpa using hn
    have h2 : (rc != 0) = true := by simpa using hn
    clear h e1
    go_enter Tryd.func48, Tryd.ntmps48
    go_wp2_with fail
    refine Calls.mono (CS.out _ (A0.out _)) ?_
    rintro e w1 ⟨rfl, hb1⟩
    have B1 : Hid (Below w.heap.size w w1) := (A0.out _).trans (hb1.mono (A0.out _).size)
    have F1 : Hid (FBx w1 w.heap.size 0 0) := F0.out.below hb1
    clear hb1 CS
    obtain ⟨y0, y1⟩ := F1.out.cells
    have fz := F1.out.fz
    have zl := F1.out.lt
    obtain ⟨z0, z1⟩ := F1.out.setA ra rc
    go_wp2_with fail
    go_region
    all_goals
      go_wp2_with fail
      exact bodyPost_ret (v := .tuple #[.slice none 0 0, .agg #[.int .i64 ra, .int .i64 rc]]) (by simp [results, Tryd.results48, go_sem, z0, z1]) rfl ⟨none, 0, rfl, OwnG.nil _ _ _, (below_alloc' (below_set2 B1.out (Nat.le_refl _) _ _) _).drew⟩
end Go.Proofs.YtffabehipcomfaaDoor
namespace Go.Proofs.YtffabehipcomfaaDoor
open Go.RowKit

theorem pL_get {L M : List Pvx} (h : pL M = pL L) {k : Nat} (hk : k < L.length) (hk' : k < M.length) : M[k].p = L[k].p := by
  have := pL_at hk'
  rw [← this, ← pL_at hk]
  simp [h]
theorem PR_of_CPS {w w' : World} {v vs : Value} {L M : List Pvx} (h : PR w v L) (c : CPS w w' vs L M L.length) : PR w' vs M ∧ pL M = pL L := by
  have e : pL M = pL L := by have := c.eq; rw [List.take_length] at this; exact this
  have hlen : M.length = L.length := by rw [← pL_len M, e, pL_len]
  refine ⟨⟨c.own.gs KP_ok.len, fun x hx => ?_⟩, e⟩
  obtain ⟨k, hk, rfl⟩ := List.mem_iff_getElem.1 hx
  have e2 := pL_get e (by omega : k < L.length) hk
  have q := h.ps _ (List.getElem_mem (by omega : k < L.length))
  exact ⟨(c.each _ hx).gs KO_ok.len, by rw [e2]; exact q.tx, by rw [e2]; exact q.nm, by rw [e2]; exact q.ln⟩
end Go.Proofs.YtffabehipcomfaaDoor
