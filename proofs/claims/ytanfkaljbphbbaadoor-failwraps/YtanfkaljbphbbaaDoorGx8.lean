/- Failures: the reference's Join. -/
import Derived.Test.YtanfkaljbphbbaaDoorGx7
namespace Go.Proofs.YtanfkaljbphbbaaDoor
open Go.RowKit

/-- What is joined so far: all, or too much. -/
structure GJ (w wk : World) (va : Value) (out : List Cr) (ll : List (List Cr)) (j : Nat) : Prop where
  s : OwnC wk w.heap.size va out
  sm : out.length ≤ 1024 → out = (neK ll j).flatten
  lg : 1024 < out.length → 1024 < (neK ll j).flatten.length
  bd : out.length ≤ 2048
  bl : Below w.heap.size w wk
  ge : gaE ll = gaE (ll.drop j)
theorem GJ.skip {w wk : World} {va : Value} {out : List Cr} {ll : List (List Cr)} {j : Nat} (h : GJ w wk va out ll j) (hj : j < ll.length) (h0 : ll[j].length = 0) : GJ w wk va out ll (j + 1) ∧ (neK ll (j + 1)).length = (neK ll j).length := by
  have e : neK ll (j + 1) = neK ll j := by rw [neK_succ hj, if_pos h0, List.append_nil]
  exact ⟨⟨h.s, by rw [e]; exact h.sm, by rw [e]; exact h.lg, h.bd, h.bl, by rw [h.ge, gaE_drop hj, if_pos h0]⟩, by rw [e]⟩
theorem neK_more {ll : List (List Cr)} {j : Nat} (hj : j < ll.length) (h0 : ¬ ll[j].length = 0) : (neK ll (j + 1)).length = (neK ll j).length + 1 := by
  rw [neK_succ hj, if_neg h0]; simp
theorem GJ.big {w wk w' : World} {va : Value} {out : List Cr} {ll : List (List Cr)} {j : Nat} (h : GJ w wk va out ll j) (hj : j < ll.length) (h0 : ¬ ll[j].length = 0) (hc : chk ll[j] = 0) (hb : 1024 < out.length) (b : Below wk.heap.size wk w') : GJ w w' va out ll (j + 1) := by
  have e : neK ll (j + 1) = neK ll j ++ [ll[j]] := by rw [neK_succ hj, if_neg h0]
  refine ⟨h.s.below b, fun hh => by omega, fun _ => ?_, h.bd, h.bl.trans (b.mono h.bl.size), by rw [h.ge, gaE_drop hj, if_neg h0, if_pos hc]⟩
  rw [e, List.flatten_append, List.length_append]
  have := h.lg hb
  omega
theorem GJ.next {w wk w' : World} {va va' : Value} {out : List Cr} {ll : List (List Cr)} {j : Nat} (h : GJ w wk va out ll j) (hj : j < ll.length) (h0 : ¬ ll[j].length = 0) (hc : chk ll[j] = 0) (hb : out.length ≤ 1024) (o : OwnC w' w.heap.size va' (out ++ ll[j])) (b : Below w.heap.size wk w') : GJ w w' va' (out ++ ll[j]) ll (j + 1) := by
  have e : neK ll (j + 1) = neK ll j ++ [ll[j]] := by rw [neK_succ hj, if_neg h0]
  have e2 : (neK ll (j + 1)).flatten = out ++ ll[j] := by rw [e, List.flatten_append, ← h.sm hb]; simp
  have hl := (chk_ok hc).1
  exact ⟨o, fun _ => e2.symm, fun hh => by rw [e2]; exact hh, by rw [List.length_append]; omega, h.bl.trans b, by rw [h.ge, gaE_drop hj, if_neg h0, if_pos hc]⟩
theorem GJ.res {w wk : World} {va : Value} {out : List Cr} {ll : List (List Cr)} {j : Nat} (h : GJ w wk va out ll j) (hj : ll.length ≤ j) : longL (out ++ [⟨10, (neL ll).length, ByteArray.empty⟩]) = arL 10 ByteArray.empty (neL ll) := by
  have e : neK ll j = neL ll := by unfold neK; rw [List.take_of_length_le hj]
  have hs := h.sm
  have hg := h.lg
  rw [e] at hs hg
  by_cases hb : out.length ≤ 1024
  · rw [hs hb]; exact longL_ar 10 ByteArray.empty (neL ll)
  · have := hg (by omega)
    unfold longL arL
    rw [if_pos (by rw [List.length_append]; simp; omega), if_pos (by omega)]
set_option maxHeartbeats 4000000 in
set_option maxRecDepth 100000 in
theorem rjoin_any (v : Value) (ll : List (List Cr)) (w : World) (h : FS w v ll) (ht : ∀ x ∈ ll, ∀ c ∈ x, c.text.size ≤ maxLen) (hx : ∀ x ∈ ll, x.length ≤ 1000000000000000) :
    Calls Tryd.prog 23 #[v] w fun e w' => AnsR w w' e (joinL ll) (joinE ll) := by
  obtain ⟨p, cap, rfl⟩ := h.form
  by_cases hb : 4096 < ll.length
  · have e1 : joinE ll = 3 := by unfold joinE; rw [if_pos hb]
    have e2 : joinL ll = [] := by unfold joinL; rw [e1]; simp
    rw [e1]
    have AN : Hid (∀ w', Below w.heap.size w w' → AnsR w w' (.returned (.tuple #[.slice none 0 0, .int .i64 3])) (joinL ll) 3) := fun w' b => ansR_nil e2 b
    clear h ht hx
    go_enter Tryd.func23, Tryd.ntmps23
    go_wp2
    go_ret2
    exact AN.out _ (Below.refl _ _)
  · have e1 : joinE ll = gaE ll := by unfold joinE; rw [if_neg hb]
    have HE : Hid (joinE ll = gaE ll) := e1
    have HLL : Hid (joinL ll = if gaE ll = 0 ∧ (neL ll).length ≠ 0 then arL 10 ByteArray.empty (neL ll) else []) := by show joinL ll = _; unfold joinL; rw [e1]
    have hnb : ¬ ((4096 : Int) < (ll.length : Int)) := by omega
    have HS : Hid (FS w (.slice p ll.length cap) ll) := h
    have CK : Hid (∀ j (hj : j < ll.length) w' v', CS w' v' ll[j] → _) := fun j hj w' v' cs => rcheck_any v' ll[j] w' cs (ht _ (List.getElem_mem hj)) (hx _ (List.getElem_mem hj))
    have LN : Hid (∀ w1 v' l, CS w1 v' l → l.length ≤ 1000000000000000 → _) := fun w1 v' l cs hl => long_any v' l w1 cs hl
    have HB : Hid (∀ j (hj : j < ll.length), ll[j].length ≤ 1000000000000000) := fun j hj => hx _ (List.getElem_mem hj)
    have J0 : Hid (GJ w (w.alloc (.cells #[] 64)) (.slice (some ⟨w.heap.size, 0, none⟩) 0 0) [] ll 0) := ⟨ownC_empty w, fun _ => by simp [neK, neL], fun hh => by simp at hh, by simp, (Below.refl _ _).alloc (Nat.le_refl _) _, rfl⟩
    clear h ht hx e1
    generalize joinL ll = JL at *
    generalize joinE ll = JE at *
    go_enter Tryd.func23, Tryd.ntmps23
    go_wp2
    go_loopw [4, 5, 6] (fun a n b wr => ∃ (j : Nat) (va : Value) (out : List Cr) (wk : World), j ≤ ll.length ∧ b = .int .i64 j ∧ n = .int .i64 (neK ll j).length ∧ va = a ∧ wk = wr ∧ Hid (GJ w wk va out ll j)) (fun _ _ b _ => ll.length - (intOf b).toNat)
    case atStart => exact ⟨0, _, [], _, Nat.zero_le _, rfl, by simp [neK, neL], rfl, rfl, J0⟩
    case round =>
      obtain ⟨j, va, out, wr, hj, rfl, rfl, rfl, rfl, HI⟩ := hrel
      clear J0
      have hnk := neK_le ll j
      by_cases hlt : j < ll.length
      · obtain ⟨X, o, pu, cu, rfl, hX, hc, hcs⟩ := HS.out.at hlt
        have hc2 := (HI.out.bl.cell (p := ⟨X, o + j, none⟩) hX).trans hc
        have hbj := HB.out j hlt
        by_cases h0 : ll[j].length = 0
        · obtain ⟨nx, hnx⟩ := HI.out.skip hlt h0
          have NX : Hid (GJ w wr va out ll (j + 1)) := nx
          have HN : Hid ((neK ll (j + 1)).length = (neK ll j).length) := hnx
          clear HI hcs hc nx hnx
          rw [h0] at hc2
          generalize (neK ll j).length = N at *
          go_wp2
          go_roundw
          case rel => exact ⟨j + 1, _, _, _, by omega, by go_num, by rw [HN.out], rfl, rfl, NX⟩
          case measure => simp [intOf]; omega
        · have CKJ := CK.out j hlt wr (.slice pu ll[j].length cu) (hcs.below HI.out.bl)
          have hlne : ¬ ((ll[j].length : Nat) : Int) = 0 := by omega
          have hlb : (((ll[j].length : Nat) : Int) == 0) = false := by simpa using hlne
          by_cases hok : chk ll[j] = 0
          · rw [hok] at CKJ
            have HN : Hid ((neK ll (j + 1)).length = (neK ll j).length + 1) := neK_more hlt h0
            have hbd := HI.out.bd
            have hlj := (chk_ok hok).1
            obtain ⟨po, co, rfl⟩ := HI.out.s.form
            have C5 : Hid (∀ w5, Below wr.heap.size wr w5 → w5.cell? ⟨X, o + j, none⟩ = some (.slice pu ll[j].length cu)) := fun w5 b => (b.cell (p := ⟨X, o + j, none⟩) (Nat.lt_of_lt_of_le hX HI.out.bl.size)).trans hc2
            by_cases hbig : 1024 < out.length
            · have NX : Hid (∀ w5, Below wr.heap.size wr w5 → GJ w w5 (.slice po out.length co) out ll (j + 1)) := fun w5 b5 => HI.out.big hlt h0 hok hbig b5
              have hbi : ¬ (out.length : Int) ≤ 1024 := by omega
              generalize ll[j].length = n at *
              generalize (neK ll j).length = N at *
              clear hcs hc HI CK hok C5
              go_wp2_with (go_at_call 15; refine CKJ.mono ?_; rintro e w5 ⟨rfl, hb5⟩; have B5 : Hid (Below wr.heap.size wr w5) := hb5; clear hb5)
              go_roundw
              case rel => exact ⟨j + 1, _, _, _, by omega, by go_num, by rw [HN.out]; go_num, rfl, rfl, NX.out _ B5.out⟩
              case measure => simp [intOf]; omega
            · have NX : Hid (∀ v' w5 w6, Below wr.heap.size wr w5 → OwnC w6 w.heap.size v' (out ++ ll[j]) → Below w.heap.size w5 w6 → GJ w w6 v' (out ++ ll[j]) ll (j + 1)) := fun v' w5 w6 b5 o6 b6 => HI.out.next hlt h0 hok (by omega) o6 ((b5.mono HI.out.bl.size).trans b6)
              have hbi : (out.length : Int) ≤ 1024 := by omega
              have LNL : Hid ((out.length + ll[j].length) * 32 ≤ 140737488355328) := by show (out.length + ll[j].length) * 32 ≤ 140737488355328; omega
              have OW : Hid (∀ w5, Below wr.heap.size wr w5 → OwnC w5 w.heap.size (.slice po out.length co) out ∧ w.heap.size ≤ w5.heap.size ∧ CS w5 (.slice pu ll[j].length cu) ll[j]) := fun w5 b => ⟨HI.out.s.below b, by have := HI.out.bl.size; have := b.size; omega, hcs.below (HI.out.bl.trans (b.mono HI.out.bl.size))⟩
              generalize (neK ll j).length = N at *
              clear hcs hc HI CK hok
              go_wp2_with (first | (go_at_call 15; refine CKJ.mono ?_; rintro e w5 ⟨rfl, hb5⟩; have B5 : Hid (Below wr.heap.size wr w5) := hb5; have c5 := C5.out _ hb5; clear hb5) | (at_builtin; refine append_crs rfl (.tmp 37) (.tmp 41) 23 rfl w.heap.size Tryd.underlying23 info_cr _ (.slice po out.length co) _ out ll[j] rfl rfl (OW.out _ B5.out).1 (OW.out _ B5.out).2.2 LNL.out (OW.out _ B5.out).2.1 ?_; intro v6 w6 ho6 hb6))
              go_roundw
              case rel => exact ⟨j + 1, _, _, _, by omega, by go_num, by rw [HN.out]; go_num, rfl, rfl, NX.out _ _ _ B5.out ho6 hb6⟩
              case measure => simp [intOf]; omega
          · have GE : Hid (gaE ll = chk ll[j]) := by show gaE ll = _; rw [HI.out.ge, gaE_drop hlt, if_neg h0, if_neg hok]
            have BL : Hid (Below w.heap.size w wr) := HI.out.bl
            have RS : Hid (JL = []) := by show JL = []; rw [HLL.out, GE.out, if_neg (fun h => hok h.1)]
            generalize chk ll[j] = ce at *
            have e1 : (ce == 0) = false := by simpa using hok
            have e2 : (ce != 0) = true := by simpa using hok
            generalize ll[j].length = n at *
            generalize (neK ll j).length = N at *
            clear hcs hc HI CK
            go_wp2_with (go_at_call 15; refine CKJ.mono ?_; rintro e w5 ⟨rfl, hb5⟩; have B5 : Hid (Below wr.heap.size wr w5) := hb5; clear hb5)
            go_ret2
            rw [HE.out, GE.out]
            exact ansR_nil RS.out (BL.out.trans (B5.out.mono BL.out.size))
      · have GE : Hid (gaE ll = 0) := by show gaE ll = 0; rw [HI.out.ge, List.drop_eq_nil_of_le (by omega), gaE]
        have EN : neK ll j = neL ll := by unfold neK; rw [List.take_of_length_le (by omega)]
        have BL : Hid (Below w.heap.size w wr) := HI.out.bl
        rw [EN]
        rw [EN] at hnk
        by_cases hz : (neL ll).length = 0
        · have RS : Hid (JL = []) := by show JL = []; rw [HLL.out, if_neg (fun h => h.2 hz)]
          rw [hz]
          clear HI
          go_wp2
          go_ret2
          rw [HE.out, GE.out]
          exact ansR_nil RS.out BL.out
        · have RS : Hid (JL = longL (out ++ [⟨10, (neL ll).length, ByteArray.empty⟩])) := by show JL = _; rw [HI.out.res (by omega), HLL.out, if_pos ⟨GE.out, hz⟩]
          have hz1 : (((neL ll).length : Int) == 0) = false := by rw [beq_eq_false_iff_ne]; omega
          have hz2 : ¬ ((neL ll).length : Int) = 0 := by omega
          have hbd := HI.out.bd
          have OW : Hid (OwnC wr w.heap.size va out) := HI.out.s
          have LNL : Hid ((out.length + 1) * 32 ≤ 140737488355328) := by show (out.length + 1) * 32 ≤ 140737488355328; omega
          have LN2 : Hid ((out ++ [(⟨10, (neL ll).length, ByteArray.empty⟩ : Cr)]).length ≤ 1000000000000000) := by show (out ++ [(⟨10, (neL ll).length, ByteArray.empty⟩ : Cr)]).length ≤ 1000000000000000; simp; omega
          clear HI
          generalize (neL ll).length = N at *
          go_wp2_with (first | (at_builtin; refine append_cr rfl (.tmp 45) (.tmp 48) 23 rfl w.heap.size Tryd.underlying23 info_cr _ _ _ va out ⟨10, N, ByteArray.empty⟩ _ rfl OW.out _ rfl rfl rfl LNL.out BL.out.size ?_; intro v4 w4 ho4 hb4; have O4 : Hid (CS w4 v4 (out ++ [⟨10, N, ByteArray.empty⟩])) := ho4.cs; have B4 : Hid (Below w.heap.size w w4) := BL.out.trans hb4; clear ho4 hb4) | (go_at_call 52; refine (LN.out _ _ _ O4.out LN2.out).mono ?_; rintro e w5 ⟨p5, c5, rfl, ho5, hb5⟩))
          go_ret2
          rw [HE.out, GE.out, RS.out]
          exact ⟨p5, c5, rfl, ho5, B4.out.trans (hb5.mono B4.out.size)⟩
end Go.Proofs.YtanfkaljbphbbaaDoor
