/- Values: List; the reference's lists. -/
import Derived.Test.YtahcllncjpaijaaVc5
namespace Go.Proofs.Ytahcllncjpaijaa
open Go.RowKit

set_option maxHeartbeats 4000000 in
theorem list_any (v : Value) (L : List Vx) (w : World) (h : VR w v L) (ht : VT L) :
    Calls Try.prog 11 #[v] w fun e w' => AnsV w w' e (listL (aL L)) (listE (aL L)) := by
  have CA : Hid _ := checkAll_any v L w h ht
  have LO : Hid (∀ w1, Below w.heap.size w w1 → allE (aL L) = 0 → Calls Try.prog 26 #[v] w1 fun e w' => AnsL w1 w' e (lokL (aL L)) (lokB (aL L))) := fun w1 b e => listOf_any v L w1 (h.below b) ht (firstE_zero (allE_zero e).2) (by have := (allE_zero e).1; rw [aL_len] at this; exact this)
  have HE : Hid (listE (aL L) = if allE (aL L) = 0 then (if lokB (aL L) = true then 0 else 3) else allE (aL L)) := rfl
  have HL : Hid (listL (aL L) = if listE (aL L) = 0 then lstA (aL L) else []) := rfl
  have HK : Hid (lokL (aL L) = if lokB (aL L) = true then lstA (aL L) else []) := rfl
  obtain ⟨p, cap, rfl⟩ := h.gs.form
  clear h ht
  generalize allE (aL L) = r at *
  by_cases hz : r = 0
  · subst hz
    rw [if_pos rfl] at HE
    cases hk : lokB (aL L) with
    | true =>
      rw [hk, if_pos rfl] at HE HK
      rw [HE.out, if_pos rfl] at HL
      rw [HL.out, HE.out]
      rw [hk, HK.out] at LO
      clear HE HL HK
      generalize lstA (aL L) = out at *
      go_enter Try.func11, Try.ntmps11
      go_wp2_with fail
      refine Calls.mono CA.out ?_
      rintro e w1 ⟨rfl, hb1⟩
      have B1 : Hid (Below w.heap.size w w1) := hb1
      have L1 : Hid _ := LO.out w1 hb1 (by simp)
      clear hb1 CA LO
      go_wp2_with fail
      refine Calls.mono L1.out ?_
      rintro e w2 ⟨q, c, rfl, ho2, hb2⟩
      have H2 : Hid (OwnG KA w2 w.heap.size (.slice q out.length c) out ∧ Below w.heap.size w w2) := ⟨ho2.low B1.out.size, B1.out.trans (hb2.mono B1.out.size)⟩
      clear ho2 hb2 L1
      go_wp2_with fail
      exact bodyPost_ret (v := .tuple #[.slice q out.length c, .int .i64 0]) (by simp [results, Try.results11, go_sem]) rfl ⟨q, c, rfl, H2.out.1, H2.out.2⟩
    | false =>
      rw [hk, if_neg (by decide)] at HE HK
      rw [HE.out, if_neg (by decide)] at HL
      rw [HL.out, HE.out]
      rw [hk, HK.out] at LO
      clear HE HL HK
      go_enter Try.func11, Try.ntmps11
      go_wp2_with fail
      refine Calls.mono CA.out ?_
      rintro e w1 ⟨rfl, hb1⟩
      have B1 : Hid (Below w.heap.size w w1) := hb1
      have L1 : Hid _ := LO.out w1 hb1 (by simp)
      clear hb1 CA LO
      go_wp2_with fail
      refine Calls.mono L1.out ?_
      rintro e w2 ⟨q, c, rfl, ho2, hb2⟩
      have H2 : Hid (Below w.heap.size w w2) := B1.out.trans (hb2.mono B1.out.size)
      clear ho2 hb2 L1
      go_wp2_with fail
      exact bodyPost_ret (v := .tuple #[.slice none 0 0, .int .i64 3]) (by simp [results, Try.results11, go_sem]) rfl (AnsV.none H2.out 3)
  · rw [if_neg hz] at HE
    rw [HE.out, if_neg hz] at HL
    rw [HL.out, HE.out]
    clear HE HL HK LO
    go_enter Try.func11, Try.ntmps11
    go_wp2_with fail
    refine Calls.mono CA.out ?_
    rintro e w1 ⟨rfl, hb1⟩
    have B1 : Hid (Below w.heap.size w w1) := hb1
    clear hb1 CA
    go_wp2_with fail
    exact bodyPost_ret (v := .tuple #[.slice none 0 0, .int .i64 r]) (by simp [results, Try.results11, go_sem]) rfl (AnsV.none B1.out r)
/-- The reference's list: its atoms are told also where it is not right. -/
def AnsM (w w' : World) (e : Ending) (A : List (List Atm)) : Prop := ∃ p n c, e = .returned (.tuple #[.slice p n c, .bool (lokB A)]) ∧ (lokB A = true → n = (lstA A).length ∧ OwnG KA w' w.heap.size (.slice p n c) (lstA A)) ∧ Below w.heap.size w w'
set_option maxHeartbeats 8000000 in
theorem made_any (v : Value) (L : List Vx) (w : World) (h : VR w v L) (ht : VT L) (hr : ∀ a ∈ aL L, chkV a = 0) (hlm : L.length ≤ 4096) :
    Calls Try.prog 28 #[v] w fun e w' => AnsM w w' e (aL L) := by
  obtain ⟨p, cap, rfl⟩ := h.gs.form
  have HS : Hid (VR w (.slice p L.length cap) L) := h
  have NO : Hid (∀ w', Below w.heap.size w w' → lokB (aL L) = false → AnsM w w' (.returned (.tuple #[.slice none 0 0, .bool false])) (aL L)) := fun w' b e => ⟨none, 0, 0, by rw [e], (fun e2 => by rw [e] at e2; cases e2), b⟩
  have YES : Hid (∀ w' q n c r, OwnG KA w' w.heap.size (.slice q n c) (lstA (aL L)) → n = (lstA (aL L)).length → Below w.heap.size w w' → r = lokB (aL L) → AnsM w w' (.returned (.tuple #[.slice q n c, .bool r])) (aL L)) := fun w' q n c r o hn b e => ⟨q, n, c, by rw [e], fun _ => ⟨hn, o⟩, b⟩
  have fb := flat_bd hr
  rw [aL_len] at fb
  have FN : Hid (∀ k (hk : k < L.length), ((aL L).take (k + 1)).flatten = ((aL L).take k).flatten ++ L[k].a) := fun k hk => by
    rw [flat_next (by rw [aL_len]; exact hk), aL_at hk]
  have FT : Hid (((aL L).take L.length).flatten = (aL L).flatten) := by rw [List.take_of_length_le (by rw [aL_len]; exact Nat.le_refl _)]; rfl
  have FL : Hid (∀ k, ((aL L).take k).flatten.length ≤ (aL L).flatten.length) := fun k => flat_le k
  have LK : Hid (lokB (aL L) = decide ((aL L).flatten.length < 1024 ∧ depV (lstA (aL L)) ≤ 32)) := rfl
  have LC : Hid (lokB (aL L) = decide (chkV (lstA (aL L)) = 0)) := lokB_chk hr
  have LA : Hid (lstA (aL L) = (aL L).flatten ++ [⟨3, (L.length : Nat), 0, ByteArray.empty⟩]) := by show _ = _; unfold lstA; rw [aL_len]
  have DP : Hid (∀ w1 u, AS w1 u (lstA (aL L)) → _) := fun w1 u hu => rvcheck_any u (lstA (aL L)) w1 hu (AT_flat ht).1 (by rw [lstA_len]; omega)
  have Z0 : Hid (((aL L).take 0).flatten.length = 0 ∧ ((aL L).take 0).flatten = []) := ⟨rfl, rfl⟩
  have FZ : Hid (0 < L.length ∨ (aL L).flatten.length = 0) := by
    by_cases e : 0 < L.length
    · exact Or.inl e
    · right; have : L.length = 0 := by omega
      rw [List.length_eq_zero_iff.1 this]; rfl
  generalize lokB (aL L) = lk at *
  have E0 : Hid (OwnG KA (w.alloc (.cells #[] 45)) w.heap.size (.slice (some ⟨w.heap.size, 0, none⟩) 0 0) ((aL L).take 0).flatten ∧ Below w.heap.size w (w.alloc (.cells #[] 45))) := ⟨OwnG.empty KA w, (Below.refl _ _).alloc (Nat.le_refl _) _⟩
  clear h ht hr
  go_enter Try.func28, Try.ntmps28
  go_wp2_with fail
  go_loopw [4, 5] (fun v4 v5 wx => ∃ (k n c : Nat) (q : Option Addr) (wk : World), v5 = .int .i64 k ∧ v4 = .slice q n c ∧ wk = wx ∧ k ≤ L.length ∧ (k = L.length → Hid ((aL L).flatten.length < 1024)) ∧ Hid (n = ((aL L).take k).flatten.length) ∧ Hid (OwnG KA wk w.heap.size (.slice q n c) ((aL L).take k).flatten ∧ Below w.heap.size w wk)) (fun _ v5 _ => L.length - (intOf v5).toNat)
  case atStart => exact ⟨0, 0, 0, _, _, rfl, rfl, rfl, Nat.zero_le _, fun e => (by show _ < _; have := FZ.out; omega), Z0.out.1.symm, E0⟩
  case round =>
    obtain ⟨k, n, c, q, wx, rfl, rfl, rfl, hk, HK, HN, HO⟩ := hrel
    clear E0 Z0 FZ
    by_cases hlt : k < L.length
    · obtain ⟨X, o, e1, x0⟩ := (HS.out.gs.below HO.out.2).atV hlt
      obtain rfl : p = some ⟨X, o, none⟩ := e1
      have GX : Hid (AS wx (.slice L[k].q L[k].a.length L[k].c) L[k].a) := (HS.out.av _ (List.getElem_mem hlt)).below HO.out.2
      have FK : Hid _ := FN.out k hlt
      have hsum : n + L[k].a.length ≤ (aL L).flatten.length := by
        have h1 := FL.out (k + 1)
        rw [FK.out, List.length_append, ← HN.out] at h1
        exact h1
      have hsum2 : n + L[k].a.length ≤ 4194304 := by omega
      have LS : Hid ((((aL L).take k).flatten.length + L[k].a.length) * KA.B ≤ 140737488355328) := by
        rw [← HN.out]; show _ * 40 ≤ _; omega
      have HF : Hid (k + 1 = L.length → n + L[k].a.length = (aL L).flatten.length) := fun e => by
        have h1 := congrArg List.length FK.out
        rw [e, FT.out, List.length_append, ← HN.out] at h1; exact h1.symm
      have HSM : Hid _ := hsum
      obtain ⟨x, hx⟩ : ∃ x, x = L[k] := ⟨_, rfl⟩
      rw [← hx] at x0 GX FK LS HF HSM hsum2
      have O1 : Hid _ := HO.out.1
      have B1 : Hid _ := HO.out.2
      have Z1 : Hid (w.heap.size ≤ wx.heap.size) := HO.out.2.size
      clear hx FN HO HN HK hsum FL FT
      by_cases hge : n + x.a.length < 1024
      · have hgI : ¬ (n : Int) + (x.a.length : Int) ≥ 1024 := by omega
        have HK2 : Hid (k + 1 = L.length → (aL L).flatten.length < 1024) := fun e => by have := HF.out e; omega
        go_wp2_with (at_builtin; refine append_gs KA KA_ok rfl (.tmp 22) (.tmp 26) 24 rfl w.heap.size Try.underlying24 wx _ (.slice x.q x.a.length x.c) _ x.a rfl rfl O1.out GX.out LS.out Z1.out ?_; intro v8 w8 ho8 hb8 hk8)
        rw [← FK.out] at ho8
        obtain ⟨q2, c2, rfl, _⟩ := ho8.form
        have H8 : Hid (_ ∧ _) := ⟨ho8, B1.out.trans hb8⟩
        clear ho8 hb8 hk8 B1 O1
        go_roundw
        case rel => exact ⟨k + 1, _, c2, q2, _, by go_num, rfl, rfl, hlt, fun e => HK2.out e, rfl, H8⟩
        case measure => simp [intOf]; omega
      · have hgI : (n : Int) + (x.a.length : Int) ≥ 1024 := by omega
        have LF : Hid (lk = false) := by show _ = _; rw [LK.out]; simp only [decide_eq_false_iff_not]; have := HSM.out; omega
        clear HSM fb HF
        go_wp2_with fail
        exact bodyPost_ret (v := .tuple #[.slice none 0 0, .bool false]) (by simp [results, Try.results28, go_sem]) rfl (NO.out _ B1.out LF.out)
    · obtain rfl : k = L.length := by omega
      rw [FT.out] at HN HO
      have hbig := (HK rfl).out
      have LS : Hid (((aL L).flatten.length + 1) * KA.B ≤ 140737488355328) := by show (_ + 1) * 40 ≤ _; omega
      have O1 : Hid _ := HO.out.1
      have B1 : Hid _ := HO.out.2
      have Z1 : Hid (w.heap.size ≤ wx.heap.size) := HO.out.2.size
      have HLE : Hid ((aL L).flatten.length + 1 = (lstA (aL L)).length) := (lstA_len _).symm
      clear HO FN FL FT HK
      generalize (aL L).flatten = F at *
      go_wp2_with (at_builtin; refine append_g KA KA_ok rfl (.tmp 28) (.tmp 32) 24 rfl w.heap.size Try.underlying24 wx _ _ (.slice q n c) _ ⟨3, (L.length : Nat), 0, ByteArray.empty⟩ _ rfl O1.out _ rfl rfl rfl LS.out Z1.out ?_; intro g8 c8 w8 ho8 hb8 hk8 hg8)
      rw [← LA.out] at ho8
      have D8 : Hid _ := DP.out w8 _ (OwnG.gs KA_ok.len ho8)
      have O8 : Hid _ := ho8
      have B8 : Hid (Below w.heap.size w w8) := B1.out.trans hb8
      clear ho8 hb8 hk8 hg8 B1 O1 DP
      generalize chkV (lstA (aL L)) = d at *
      go_wp2_with fail
      refine Calls.mono D8.out ?_
      rintro e w9 ⟨rfl, hb9⟩
      have B9 : Hid (Below w.heap.size w w9) := B8.out.trans (hb9.mono B8.out.size)
      have O9 : Hid (OwnG KA w9 w.heap.size (.slice (some ⟨g8, 0, none⟩) (F.length + 1) c8) (lstA (aL L))) := OwnG.below (w := w8) O8.out hb9
      clear hb9 D8
      go_wp2_with fail
      exact bodyPost_ret (v := .tuple #[.slice (some ⟨g8, 0, none⟩) (F.length + 1) c8, .bool (d == 0)]) (by simp [results, Try.results28, go_sem]) rfl (YES.out _ _ _ _ _ O9.out HLE.out B9.out (by rw [LC.out]; by_cases e : d = 0 <;> simp [e]))
set_option maxHeartbeats 4000000 in
theorem rlist_any (v : Value) (L : List Vx) (w : World) (h : VR w v L) (ht : VT L) :
    Calls Try.prog 12 #[v] w fun e w' => AnsV w w' e (listL (aL L)) (listE (aL L)) := by
  have CA : Hid _ := rfirst_any v L w h ht
  have LO : Hid (∀ w1, Below w.heap.size w w1 → firstE (aL L) = 0 → L.length ≤ 4096 → Calls Try.prog 28 #[v] w1 fun e w' => AnsM w1 w' e (aL L)) := fun w1 b e hl => made_any v L w1 (h.below b) ht (firstE_zero e) hl
  have HE : Hid (listE (aL L) = if allE (aL L) = 0 then (if lokB (aL L) = true then 0 else 3) else allE (aL L)) := rfl
  have HL : Hid (listL (aL L) = if listE (aL L) = 0 then lstA (aL L) else []) := rfl
  have HA : Hid (allE (aL L) = if 4096 < L.length then 3 else firstE (aL L)) := by show _ = _; unfold allE; rw [aL_len]
  have BR : Hid (Below w.heap.size w w) := Below.refl _ _
  have hlm : L.length ≤ 140737488355328 := by have := ht.n; omega
  obtain ⟨p, cap, rfl⟩ := h.gs.form
  clear h ht
  by_cases h1 : 4096 < L.length
  · have h1I : (L.length : Int) > 4096 := by omega
    rw [if_pos h1] at HA
    rw [HA.out, if_neg (by decide)] at HE
    rw [HE.out, if_neg (by decide)] at HL
    rw [HL.out, HE.out]
    clear CA LO HE HL HA
    go_enter Try.func12, Try.ntmps12
    go_wp2_with fail
    exact bodyPost_ret (v := .tuple #[.slice none 0 0, .int .i64 3]) (by simp [results, Try.results12, go_sem]) rfl (AnsV.none BR.out 3)
  · have h1I : ¬ (L.length : Int) > 4096 := by omega
    rw [if_neg h1] at HA
    rw [HA.out] at HE
    generalize firstE (aL L) = r at *
    by_cases hz : r = 0
    · subst hz
      rw [if_pos rfl] at HE
      have L0 : Hid (∀ w1, Below w.heap.size w w1 → Calls Try.prog 28 #[.slice p L.length cap] w1 fun e w' => AnsM w1 w' e (aL L)) := fun w1 b => LO.out w1 b (by simp) (by omega)
      cases hk : lokB (aL L) with
      | true =>
        rw [hk, if_pos rfl] at HE
        rw [HE.out, if_pos rfl] at HL
        rw [HL.out, HE.out]
        have L2 : Hid (∀ w1, Below w.heap.size w w1 → Calls Try.prog 28 #[.slice p L.length cap] w1 fun e w' => ∃ q c, e = .returned (.tuple #[.slice q (lstA (aL L)).length c, .bool true]) ∧ OwnG KA w' w1.heap.size (.slice q (lstA (aL L)).length c) (lstA (aL L)) ∧ Below w1.heap.size w1 w') := fun w1 b => (L0.out w1 b).mono fun e w' h => by
          obtain ⟨q, n, c, h1, h2, h3⟩ := h
          obtain ⟨h4, h5⟩ := h2 hk
          subst h4
          exact ⟨q, c, by rw [h1, hk], h5, h3⟩
        clear HL HE HA LO L0 hk
        generalize lstA (aL L) = out at *
        go_enter Try.func12, Try.ntmps12
        go_wp2_with fail
        refine Calls.mono CA.out ?_
        rintro e w1 ⟨rfl, hb1⟩
        have B1 : Hid (Below w.heap.size w w1) := hb1
        have L1 : Hid _ := L2.out w1 hb1
        clear hb1 CA L2
        go_wp2_with fail
        refine Calls.mono L1.out ?_
        rintro e w2 ⟨q, c, rfl, ho2, hb2⟩
        have H2 : Hid (OwnG KA w2 w.heap.size (.slice q out.length c) out ∧ Below w.heap.size w w2) := ⟨ho2.low B1.out.size, B1.out.trans (hb2.mono B1.out.size)⟩
        clear ho2 hb2 L1
        go_wp2_with fail
        exact bodyPost_ret (v := .tuple #[.slice q out.length c, .int .i64 0]) (by simp [results, Try.results12, go_sem]) rfl ⟨q, c, rfl, H2.out.1, H2.out.2⟩
      | false =>
        rw [hk, if_neg (by decide)] at HE
        rw [HE.out, if_neg (by decide)] at HL
        rw [HL.out, HE.out]
        have L2 : Hid (∀ w1, Below w.heap.size w w1 → Calls Try.prog 28 #[.slice p L.length cap] w1 fun e w' => ∃ q n c, e = .returned (.tuple #[.slice q n c, .bool false]) ∧ Below w1.heap.size w1 w') := fun w1 b => (L0.out w1 b).mono fun e w' h => by
          obtain ⟨q, n, c, h1, _, h3⟩ := h
          exact ⟨q, n, c, by rw [h1, hk], h3⟩
        clear HL HE HA LO L0 hk
        go_enter Try.func12, Try.ntmps12
        go_wp2_with fail
        refine Calls.mono CA.out ?_
        rintro e w1 ⟨rfl, hb1⟩
        have B1 : Hid (Below w.heap.size w w1) := hb1
        have L1 : Hid _ := L2.out w1 hb1
        clear hb1 CA L2
        go_wp2_with fail
        refine Calls.mono L1.out ?_
        rintro e w2 ⟨q, n, c, rfl, hb2⟩
        have B2 : Hid (Below w.heap.size w w2) := B1.out.trans (hb2.mono B1.out.size)
        clear hb2 L1
        go_wp2_with fail
        exact bodyPost_ret (v := .tuple #[.slice none 0 0, .int .i64 3]) (by simp [results, Try.results12, go_sem]) rfl (AnsV.none B2.out 3)
    · rw [if_neg hz] at HE
      rw [HE.out, if_neg hz] at HL
      rw [HL.out, HE.out]
      clear HE HL HA LO
      go_enter Try.func12, Try.ntmps12
      go_wp2_with fail
      refine Calls.mono CA.out ?_
      rintro e w1 ⟨rfl, hb1⟩
      have B1 : Hid (Below w.heap.size w w1) := hb1
      clear hb1 CA
      go_wp2_with fail
      exact bodyPost_ret (v := .tuple #[.slice none 0 0, .int .i64 r]) (by simp [results, Try.results12, go_sem]) rfl (AnsV.none B1.out r)
end Go.Proofs.Ytahcllncjpaijaa
