/- Depend: End. -/
import Derived.Test.YtkhcinpcoabphaaDc1
namespace Go.Proofs.Ytkhcinpcoabphaa
open Go.RowKit

def endE (X : Wb) (t : Int) : Int := if tkB t then (if (X.w t.toNat).is then 7 else if stk X t.toNat = [] then 4 else 0) else 1
def endC (X : Wb) (t : Int) : Nat := if endE X t = 0 then (stk X t.toNat).getLast?.getD 0 else 0
def endL (X : Wb) (t : Int) : List Nat := if endE X t = 0 then wai X (endC X t) else []
def endX (X : Wb) (t : Int) : Wb := if endE X t = 0 then endW (wakL X (wai X (endC X t))) (endC X t) else X
theorem endE_ok {X : Wb} {t : Int} (h : endE X t = 0) : tkB t = true ∧ (X.w t.toNat).is = false ∧ (stk X t.toNat).getLast? = some (endC X t) := by
  have h0 := h
  unfold endE at h
  cases h1 : tkB t <;> cases h3 : (X.w t.toNat).is <;> simp [h1, h3] at h ⊢
  unfold endC
  rw [if_pos h0]
  cases e : (stk X t.toNat).getLast? with
  | none => rw [List.getLast?_eq_none_iff] at e; exact absurd e h
  | some x => rfl
theorem set_far {w : World} {b o x : Nat} {u : Value} (h : x ≠ b) : (w.setCell ⟨b, o, none⟩ u).heap[x]? = w.heap[x]? := Below.heap_setCell _ _ _ _ h
theorem OwnG.set3 {α : Type} {K : RK α} {w : World} {base : Nat} {v : Value} {l : List α} (h : OwnG K w base v l) {b : Nat} (hb : b < base) (o1 o2 o3 : Nat) (u1 u2 u3 : Value) : OwnG K (((w.setCell ⟨b, o1, none⟩ u1).setCell ⟨b, o2, none⟩ u2).setCell ⟨b, o3, none⟩ u3) base v l :=
  h.far fun z hz => by
    have hzl := (h.lt hz).1
    have hne : z ≠ b := by omega
    rw [set_far hne, set_far hne, set_far hne]
theorem wakL_snoc (X : Wb) (l : List Nat) (x : Nat) : wakL X (l ++ [x]) = wakW (wakL X l) x := by unfold wakL; rw [List.foldl_append]; rfl
set_option maxRecDepth 100000 in
set_option maxHeartbeats 8000000 in
theorem end_any (w : World) (b : Nat) (X : Wb) (h : WX w b X) (hi : WI X) (t : Int) : Calls Try.prog 14 #[.pointer (some ⟨b, 0, none⟩), .int .i64 t] w fun e w' => ∃ q cc, e = .returned (.tuple #[.int .i64 (endC X t), .slice q (endL X t).length cc, .int .i64 (endE X t)]) ∧ OwnG KI w' w.heap.size (.slice q (endL X t).length cc) (nI (endL X t)) ∧ WX w' b (endX X t) ∧ But (fun x => x = b) w w' := by
  have IT := hid (fun w' => isTask_any t w')
  have B0 := hid (But.refl (fun x => x = b) w)
  have H := hid h
  by_cases h0 : endE X t = 0
  · obtain ⟨h1, h2, h3⟩ := endE_ok h0
    have EC : Hid (endL X t = wai X (endC X t)) := by show _ = _; unfold endL; rw [if_pos h0]
    have EX : Hid (endX X t = endW (wakL X (wai X (endC X t))) (endC X t)) := by show _ = _; unfold endX; rw [if_pos h0]
    rw [EC.out, EX.out, h0]
    obtain ⟨n, hn, hlt⟩ := tk_nat h1
    subst hn
    have e0 : ((n : Int)).toNat = n := rfl
    rw [e0] at h2 h3
    generalize endC X n = c at *
    have hcm := List.mem_of_getLast? h3
    have hc := stk_lt hi hcm
    have TE : Hid (topE (stk X n) = .returned (.tuple #[.int .i64 c, .bool true])) := by
      show _ = _
      unfold topE
      rw [h3]
      cases hs : stk X n with
      | nil => rw [hs] at hcm; cases hcm
      | cons => rfl
    have TP := hid (top_any w b X h hi n)
    rw [TE.out] at TP
    have WA := hid (fun W (k : WX W b X) => waiters_any W b X k hi c)
    have WL : Hid (∀ x ∈ wai X c, x < 128) := fun x hx => wai_lt hi hx
    have WN := wai_len hi c
    obtain ⟨_, _, c3⟩ := h.wait hi hlt
    rw [h2] at c3
    have hl := h.lt
    have HI := hid hi
    rw [h1] at IT
    generalize wai X c = L at *
    clear h hi EC EX TE e0 h1 h2 h3 h0 hcm
    go_enter Try.func14, Try.ntmps14
    go_wp2_with (first | (go_at_call 29; refine (IT.out _).mono ?_; rintro e w' ⟨rfl, hw⟩; rw [hw]; clear hw) | (go_at_call 36; refine TP.out.mono ?_; rintro e w2 ⟨rfl, hb2⟩; have B2 := hid hb2; clear hb2) | (go_at_call 37; refine (WA.out _ (H.out.below B2.out)).mono ?_; rintro e w3 ⟨q, cc, rfl, ho3, hb3⟩; have O3 := hid (ho3.low B2.out.size); have B3 := hid (bl3 B2.out hb3); clear ho3 hb3))
    go_loopw [35] (fun v35 wr => ∃ (k : Nat) (wk : World), k ≤ L.length ∧ v35 = .int .i64 k ∧ wk = wr ∧ Hid (WX wk b (wakL X (L.take k))) ∧ Hid (OwnG KI wk w.heap.size (.slice q L.length cc) (nI L)) ∧ Hid (But (fun x => x = b) w wk)) (fun v35 _ => L.length - (intOf v35).toNat)
    case atStart => exact ⟨0, _, Nat.zero_le _, rfl, rfl, H.out.below B3.out, O3, But.of_below B3.out⟩
    case round =>
      obtain ⟨k, wr, hk, rfl, rfl, HX, HO, HB⟩ := hrel
      have TL2 : Hid (∀ x ∈ L.take k, x < 128) := fun x hx => WL.out x (List.mem_of_mem_take hx)
      have W1 : Hid (WI (wakL X (L.take k))) := (wakL_ok HI.out TL2.out).1
      by_cases hlt2 : k < L.length
      · obtain ⟨g, hg, hcx⟩ := own_at HO.out hlt2
        have hx : L[k] < 128 := WL.out _ (List.getElem_mem hlt2)
        subst hg
        have HG := (HO.out.lt (g := g) rfl)
        have SN : Hid (wakL X (L.take (k + 1)) = wakW (wakL X (L.take k)) L[k]) := by show _ = _; rw [List.take_succ_eq_append_getElem hlt2, wakL_snoc]
        obtain ⟨a1, a2, a3⟩ := HX.out.wait W1.out hx
        have f0 := HX.out.fz
        have S3 := hid (HX.out.setw W1.out hx t0)
        generalize (wakL X (L.take k)).w L[k] = old at *
        obtain ⟨x, hxe⟩ : ∃ x, x = L[k] := ⟨_, rfl⟩
        rw [← hxe] at hcx hx SN a1 a2 a3 S3
        have hx2 : (x : Int) < 128 := by omega
        clear hxe
        go_wp2
        go_roundw
        case rel =>
          refine ⟨k + 1, _, by omega, by go_num, rfl, ?_, ?_, ?_⟩
          · rw [SN.out]; exact S3.out
          · exact HO.out.set3 hl _ _ _ _ _ _
          · exact HB.out.trans (but3 b _ _ _ _ _ _) (fun _ hx => Or.inl hx)
        case measure => simp [intOf]; omega
      · have ET : Hid (L.take k = L) := List.take_of_length_le (by omega)
        rw [ET.out] at HX W1
        obtain ⟨a1, a2, a3⟩ := HX.out.run W1.out hc
        have f0 := HX.out.fz
        have S3 := hid (HX.out.setr W1.out hc t0)
        generalize (wakL X L).r c = old at *
        have hc2 : (c : Int) < 256 := by omega
        go_wp2
        go_ret3
        exact ⟨_, _, rfl, HO.out.set3 hl _ _ _ _ _ _, S3.out, HB.out.trans (but3 b _ _ _ _ _ _) (fun _ hx => Or.inl hx)⟩
  · have EC : Hid (endL X t = []) := by show _ = _; unfold endL; rw [if_neg h0]
    have EC2 : Hid (endC X t = 0) := by show _ = _; unfold endC; rw [if_neg h0]
    have EX : Hid (endX X t = X) := by show _ = _; unfold endX; rw [if_neg h0]
    rw [EC.out, EX.out, EC2.out]
    have HE : Hid (endE X t = if tkB t then (if (X.w t.toNat).is then 7 else if stk X t.toNat = [] then 4 else 0) else 1) := rfl
    generalize endE X t = r at *
    cases h1 : tkB t with
    | false =>
      rw [h1] at IT HE
      have hr : r = 1 := HE.out
      subst hr
      clear h hi HE EC EC2 EX h0
      go_enter Try.func14, Try.ntmps14
      go_wp2_with (go_at_call 29; refine (IT.out _).mono ?_; rintro e w' ⟨rfl, hw⟩; rw [hw]; clear hw)
      go_ret3
      exact ⟨none, 0, rfl, OwnG.nil _ _ _, H.out, B0.out⟩
    | true =>
      rw [h1] at IT HE
      obtain ⟨n, hn, hlt⟩ := tk_nat h1
      subst hn
      have e0 : ((n : Int)).toNat = n := rfl
      rw [e0] at HE
      obtain ⟨_, _, c3⟩ := h.wait hi hlt
      have hl := h.lt
      cases h2 : (X.w n).is with
      | true =>
        rw [h2] at HE c3
        have hr : r = 7 := HE.out
        subst hr
        clear h hi HE EC EC2 EX h0 h1 h2 e0
        go_enter Try.func14, Try.ntmps14
        go_wp2_with (go_at_call 29; refine (IT.out _).mono ?_; rintro e w' ⟨rfl, hw⟩; rw [hw]; clear hw)
        go_ret3
        exact ⟨none, 0, rfl, OwnG.nil _ _ _, H.out, B0.out⟩
      | false =>
        rw [h2] at HE c3
        have hs : stk X n = [] := by
          refine Classical.byContradiction fun q => h0 ?_
          rw [HE.out]; simp [q]
        have hr : r = 4 := by rw [HE.out]; simp [hs]
        subst hr
        have TP := hid (top_any w b X h hi n)
        rw [hs] at TP
        clear h hi HE EC EC2 EX h0 h1 h2 e0 hs
        go_enter Try.func14, Try.ntmps14
        go_wp2_with (first | (go_at_call 29; refine (IT.out _).mono ?_; rintro e w' ⟨rfl, hw⟩; rw [hw]; clear hw) | (go_at_call 36; refine TP.out.mono ?_; unfold topE; rintro e w2 ⟨rfl, hb2⟩; have B2 := hid hb2; clear hb2))
        go_ret3
        exact ⟨none, 0, rfl, OwnG.nil _ _ _, H.out.below B2.out, But.of_below B2.out⟩
end Go.Proofs.Ytkhcinpcoabphaa
