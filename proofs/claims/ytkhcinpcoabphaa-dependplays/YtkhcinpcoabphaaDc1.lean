/- Depend: Wait, End. -/
import Derived.Test.YtkhcinpcoabphaaDb9
namespace Go.Proofs.Ytkhcinpcoabphaa
open Go.RowKit

def wtE (X : Wb) (t c : Int) : Int := if askE X t c = 0 then (if (X.r c.toNat).is then (if cirW X t.toNat c.toNat = [] then 0 else 140) else 4) else askE X t c
def wtL (X : Wb) (t c : Int) : List Nat := if wtE X t c = 140 then cirW X t.toNat c.toNat else []
def wtX (X : Wb) (t c : Int) : Wb := if wtE X t c = 0 then waiW X t.toNat c.toNat else X
theorem askE_cases (X : Wb) (t c : Int) : askE X t c = 0 ∨ askE X t c = 1 ∨ askE X t c = 7 := by unfold askE; split <;> (try split) <;> simp
set_option maxRecDepth 100000 in
set_option maxHeartbeats 8000000 in
theorem wait_any (w : World) (b : Nat) (X : Wb) (h : WX w b X) (hi : WI X) (hmd : X.made ≤ 4611686018427387904) (t c : Int) : Calls Try.prog 9 #[.pointer (some ⟨b, 0, none⟩), .int .i64 t, .int .i64 c] w fun e w' => ∃ q cc, e = .returned (.tuple #[.slice q (wtL X t c).length cc, .int .i64 (wtE X t c)]) ∧ OwnG KI w' w.heap.size (.slice q (wtL X t c).length cc) (nI (wtL X t c)) ∧ WX w' b (wtX X t c) ∧ But (fun x => x = b) w w' := by
  have AS := hid (ask_any w b X h hi t c)
  have H := hid h
  have HA : Hid (askL X t c = if askE X t c = 0 then cirW X t.toNat c.toNat else []) := rfl
  have HE : Hid (wtE X t c = if askE X t c = 0 then (if (X.r c.toNat).is then (if cirW X t.toNat c.toNat = [] then 0 else 140) else 4) else askE X t c) := rfl
  have HL : Hid (wtL X t c = if wtE X t c = 140 then cirW X t.toNat c.toNat else []) := rfl
  have HX : Hid (wtX X t c = if wtE X t c = 0 then waiW X t.toNat c.toNat else X) := rfl
  have HO : Hid (askE X t c = 0 → tkB t = true ∧ clB c = true ∧ (X.w t.toNat).is = false) := askE_ok
  have h9 := askE_cases X t c
  generalize wtX X t c = Y at *
  generalize wtL X t c = R at *
  generalize wtE X t c = r at *
  generalize askL X t c = AL at *
  generalize askE X t c = a at *
  by_cases h1 : a = 0
  · subst h1
    obtain ⟨h2, h3, h4⟩ := HO.out rfl
    obtain ⟨n, hn, hlt⟩ := tk_nat h2
    obtain ⟨m, hm, hlm⟩ := cl_nat h3
    subst hn hm
    have e0 : ((n : Int)).toNat = n := rfl
    have e1 : ((m : Int)).toNat = m := rfl
    rw [e0, e1] at HA HE HL HX
    replace HA : Hid (AL = cirW X n m) := HA.out
    replace HE : Hid (r = if (X.r m).is then (if cirW X n m = [] then 0 else 140) else 4) := HE.out
    have CB : Hid (∀ W : World, WX W b X → W.cell? ⟨b, m * 3 + 2, none⟩ = some (.bool (X.r m).is)) := fun W k => (k.run hi hlm).2.2
    have CL := cirW_len hi (t := n) hlm
    have hl := h.lt
    cases h5 : (X.r m).is with
    | false =>
      rw [h5] at HE CB
      have hr : r = 4 := HE.out
      subst hr
      have HR : Hid (R = []) := HL.out
      have HY : Hid (Y = X) := HX.out
      rw [HR.out, HY.out]
      generalize nI AL = SI at *
      generalize AL.length = al at *
      clear h hi HE HX HL HR HY e0 e1 h2 h3 h4 h5 h9 HO
      go_enter Try.func9, Try.ntmps9
      go_wp2_with (go_at_call 10; refine AS.out.mono ?_; rintro e w2 ⟨q, cc, rfl, ho2, hb2⟩; have c2 := CB.out _ (H.out.below hb2); have B2 := hid hb2; clear ho2 hb2)
      go_ret2
      exact ⟨none, 0, rfl, OwnG.nil _ _ _, H.out.below B2.out, But.of_below B2.out⟩
    | true =>
      rw [h5] at HE CB
      replace HE : Hid (r = if cirW X n m = [] then 0 else 140) := HE.out
      rw [← HA.out] at HE HL CL
      by_cases h6 : AL = []
      · have hr : r = 0 := by rw [HE.out, if_pos h6]
        subst hr
        have HR : Hid (R = []) := HL.out
        have HY : Hid (Y = waiW X n m) := HX.out
        rw [HR.out, HY.out]
        have hal : AL.length = 0 := by rw [h6]; rfl
        rw [hal] at AS
        have NT := hid (fun W (k : WX W b X) => newTie_any W b X k hi hmd m)
        have SR : Hid (∀ W : World, WX W b ⟨X.runs, X.waits, X.made + 1⟩ → WX (((W.setCell ⟨b, 768 + n * 3, none⟩ (.int .i64 m)).setCell ⟨b, 768 + n * 3 + 1, none⟩ (.int .i64 ((X.made + 1 : Nat) : Int))).setCell ⟨b, 768 + n * 3 + 2, none⟩ (.bool true)) b (waiW X n m) ∧ (∃ v, W.cell? ⟨b, 768 + n * 3, none⟩ = some v) ∧ (∃ v, W.cell? ⟨b, 768 + n * 3 + 1, none⟩ = some v) ∧ (∃ v, W.cell? ⟨b, 768 + n * 3 + 2, none⟩ = some v) ∧ ∀ o, W.frozen? ⟨b, o, none⟩ = false) := fun W k => by
          have hi2 : WI ⟨X.runs, X.waits, X.made + 1⟩ := ⟨hi.lr, hi.lw, hi.ri, hi.wi, fun c hc => ⟨Nat.le_succ_of_le (hi.rm c hc).1, (hi.rm c hc).2⟩, fun t ht => ⟨Nat.le_succ_of_le (hi.wm t ht).1, (hi.wm t ht).2⟩, hi.rz, hi.wz, hi.en⟩
          obtain ⟨a1, a2, a3⟩ := k.wait hi2 hlt
          exact ⟨k.setw hi2 hlt ⟨m, X.made + 1, true⟩, ⟨_, a1⟩, ⟨_, a2⟩, ⟨_, a3⟩, k.fz⟩
        generalize ((X.made + 1 : Nat) : Int) = md at *
        generalize nI AL = SI at *
        clear h hi HE HX HL HR HY e0 e1 h2 h3 h4 h5 h6 h9 HO hal CL HA hmd
        go_enter Try.func9, Try.ntmps9
        go_wp2_with (go_at_call 10; refine AS.out.mono ?_; rintro e w2 ⟨q, cc, rfl, ho2, hb2⟩; have c2 := CB.out _ (H.out.below hb2); have B2 := hid hb2; have X2 := hid (H.out.below hb2); clear ho2 hb2)
        go_region_with (go_at_call 32; refine (NT.out _ (WX.drew X2.out)).mono ?_; rintro e w3 ⟨rfl, hx3, hb3⟩; obtain ⟨hs3, ⟨_, g1⟩, ⟨_, g2⟩, ⟨_, g3⟩, g4⟩ := SR.out _ hx3; have S3 := hid hs3; have B3 := hid hb3; clear hs3 hb3 hx3)
        all_goals
          go_wp2
          go_ret2
          exact ⟨none, 0, rfl, OwnG.nil _ _ _, S3.out, ((But.of_below (F := fun x => x = b) B2.out).trans (But.drewB B3.out) (fun _ hx => Or.inl hx)).trans (but3 b _ _ _ _ _ _) (fun _ hx => Or.inl hx)⟩
      · have hr : r = 140 := by rw [HE.out, if_neg h6]
        subst hr
        have HR : Hid (R = AL) := HL.out
        have HY : Hid (Y = X) := HX.out
        rw [HR.out, HY.out]
        have hal : (0 : Int) < AL.length := by have := List.length_pos_iff.2 h6; omega
        generalize nI AL = SI at *
        generalize AL.length = al at *
        clear h hi HE HX HL HR HY e0 e1 h2 h3 h4 h5 h6 h9 HO HA
        go_enter Try.func9, Try.ntmps9
        go_wp2_with (go_at_call 10; refine AS.out.mono ?_; rintro e w2 ⟨q, cc, rfl, ho2, hb2⟩; have c2 := CB.out _ (H.out.below hb2); have O2 := hid ho2; have B2 := hid hb2; clear ho2 hb2)
        go_ret2
        exact ⟨_, _, rfl, O2.out, H.out.below B2.out, But.of_below B2.out⟩
  · have hr : r = a := by rw [HE.out, if_neg h1]
    subst hr
    have HR : Hid (R = []) := by show _ = _; rw [HL.out, if_neg (by omega)]
    have HY : Hid (Y = X) := by show _ = _; rw [HX.out, if_neg h1]
    rw [HR.out, HY.out]
    have hne : (r != 0) = true := by simpa using h1
    generalize nI AL = SI at *
    generalize AL.length = al at *
    clear h hi HE HX HL HR HY h9 HO HA
    go_enter Try.func9, Try.ntmps9
    go_wp2_with (go_at_call 10; refine AS.out.mono ?_; rintro e w2 ⟨q, cc, rfl, ho2, hb2⟩; have B2 := hid hb2; clear ho2 hb2)
    go_ret2
    exact ⟨none, 0, rfl, OwnG.nil _ _ _, H.out.below B2.out, But.of_below B2.out⟩
end Go.Proofs.Ytkhcinpcoabphaa
