/- Failures: Token, Join. -/
import Derived.Test.YtaleagkhblokgaaDoorIx4
import Derived.Test.YtaleagkhblokgaaDoorHx5
import Derived.Deep.LoopGhost
import Derived.Test.YtaleagkhblokgaaDoorGx4
namespace Go.Proofs.YtaleagkhblokgaaDoor
open Go.RowKit

def knd (l : List Cr) (j : Nat) : Int := (l.getD j cr0).kind
/-- The place of the first of a kind so far. -/
def firS (l : List Cr) (k : Int) : Nat → Int
  | 0 => -1
  | m + 1 => if knd l m = k ∧ (firS l k m < 0 ∨ frA (whA l) m ≤ frA (whA l) (firS l k m)) then (m : Int) else firS l k m
theorem firS_lt (l : List Cr) (k : Int) : ∀ m, -1 ≤ firS l k m ∧ firS l k m < m
  | 0 => by simp [firS]
  | m + 1 => by
    have := firS_lt l k m
    rw [firS]
    split <;> omega
theorem firS_spec (l : List Cr) (k : Int) : ∀ m, (firS l k m < 0 ∧ ∀ j, j < m → knd l j ≠ k) ∨ (0 ≤ firS l k m ∧ firS l k m < m ∧ knd l (firS l k m).toNat = k ∧ ∀ j : Nat, j < m → knd l j = k → frA (whA l) (firS l k m) < frA (whA l) j ∨ (frA (whA l) (firS l k m) = frA (whA l) j ∧ (j : Int) ≤ firS l k m))
  | 0 => Or.inl ⟨by simp [firS], fun j hj => by omega⟩
  | m + 1 => by
    have ih := firS_spec l k m
    have hb := firS_lt l k m
    rw [firS]
    by_cases hk : knd l m = k
    · by_cases hf : firS l k m < 0 ∨ frA (whA l) m ≤ frA (whA l) (firS l k m)
      · rw [if_pos ⟨hk, hf⟩]
        right
        refine ⟨by omega, by omega, by simpa using hk, fun j hj hjk => ?_⟩
        by_cases e : j = m
        · subst e; right; exact ⟨rfl, Int.le_refl _⟩
        · rcases ih with ⟨_, hn⟩ | ⟨h0, _, _, hm⟩
          · exact absurd hjk (hn j (by omega))
          · have := hm j (by omega) hjk
            have hf2 : frA (whA l) m ≤ frA (whA l) (firS l k m) := by rcases hf with hf | hf; omega; exact hf
            omega
      · rw [if_neg (fun h => hf h.2)]
        rcases ih with ⟨h0, _⟩ | ⟨h0, h1, h2, hm⟩
        · exact absurd (Or.inl h0) hf
        · right
          refine ⟨h0, by omega, h2, fun j hj hjk => ?_⟩
          by_cases e : j = m
          · subst e; left; omega
          · exact hm j (by omega) hjk
    · rw [if_neg (fun h => hk h.1)]
      rcases ih with ⟨h0, hn⟩ | ⟨h0, h1, h2, hm⟩
      · left
        refine ⟨h0, fun j hj => ?_⟩
        by_cases e : j = m
        · subst e; exact hk
        · exact hn j (by omega)
      · right
        refine ⟨h0, by omega, h2, fun j hj hjk => ?_⟩
        by_cases e : j = m
        · subst e; exact absurd hjk hk
        · exact hm j (by omega) hjk
theorem knd_at {l : List Cr} {j : Nat} (hj : j < l.length) : knd l j = l[j].kind := by
  unfold knd; rw [List.getD_eq_getElem?_getD, List.getElem?_eq_getElem hj]; rfl
theorem hasK_fir (l : List Cr) (k : Int) : hasK l k = true ↔ 0 ≤ firS l k l.length := by
  rcases firS_spec l k l.length with ⟨h0, hn⟩ | ⟨h0, h1, h2, _⟩
  · constructor
    · intro h
      unfold hasK at h
      rw [List.any_eq_true] at h
      obtain ⟨c, hc, hk⟩ := h
      obtain ⟨j, hj, rfl⟩ := List.getElem_of_mem hc
      exact absurd (by rw [knd_at hj]; simpa using hk) (hn j hj)
    · intro h; omega
  · constructor
    · intro _; exact h0
    · intro _
      have hj : (firS l k l.length).toNat < l.length := by omega
      refine hasK_hit hj ?_
      rw [knd_at hj] at h2; simpa using h2
def firE (l : List Cr) (k : Int) : Int := if hasE l k = 0 then (if hasK l k = true then 0 else 4) else hasE l k
def firL (l : List Cr) (k : Int) : List Cr := if firE l k = 0 then subL l (firS l k l.length).toNat else []
theorem subL_len {l : List Cr} {j : Nat} (hj : j < l.length) : (subL l j).length ≤ l.length := by unfold subL; simp; omega
set_option maxHeartbeats 8000000 in
set_option maxRecDepth 100000 in
theorem first_any (v : Value) (l : List Cr) (k : Int) (w : World) (h : CS w v l) (ht : ∀ c ∈ l, c.text.size ≤ maxLen) (hlm : l.length ≤ 1000000000000000) (hv : FV w) :
    Calls Tryd.prog 24 #[v, .int .i64 k] w fun e w' => Ans w w' e (firL l k) (firE l k) := by
  have CK := checkBoth_any v l k w h ht hlm hv
  obtain ⟨p, cap, rfl⟩ := h.form
  by_cases hc : hasE l k = 0
  · have hc0 : chk l = 0 := by
      unfold hasE at hc
      split at hc
      · rename_i h0; exact h0
      · exact hc
    rw [hc] at CK
    have e1 : firE l k = if hasK l k = true then 0 else 4 := by unfold firE; rw [if_pos hc]
    have WH : Hid (∀ w', Below w.heap.size w w' → _) := fun w' b => wholes_any (.slice p l.length cap) l w' (h.below b) hc0
    have hl := (chk_ok hc0).1
    have HS : Hid (CS w (.slice p l.length cap) l) := h
    have FB : Hid (∀ j : Nat, j < l.length → 0 ≤ frA (whA l) j ∧ frA (whA l) j ≤ j) := fun j hj => whA_fb hj
    have FL : Hid (∀ m, -1 ≤ firS l k m ∧ firS l k m < m) := firS_lt l k
    have FIN1 : Hid (firS l k l.length < 0 → firE l k = 4 ∧ firL l k = []) := fun h0 => by
      have hk : ¬ hasK l k = true := fun hk => by have := (hasK_fir l k).1 hk; omega
      have e2 : firE l k = 4 := by rw [e1, if_neg hk]
      exact ⟨e2, by unfold firL; rw [e2]; rfl⟩
    have FIN2 : Hid (∀ F : Nat, firS l k l.length = F → firE l k = 0 ∧ firL l k = subL l F) := fun F hF => by
      have hk : hasK l k = true := (hasK_fir l k).2 (by omega)
      have e2 : firE l k = 0 := by rw [e1, if_pos hk]
      exact ⟨e2, by unfold firL; rw [if_pos e2, hF]; rfl⟩
    have FS1 : Hid (∀ m, firS l k (m + 1) = if knd l m = k ∧ (firS l k m < 0 ∨ frA (whA l) m ≤ frA (whA l) (firS l k m)) then (m : Int) else firS l k m) := fun m => by show _ = _; rw [firS]
    have FS0 : Hid (firS l k 0 = -1) := rfl
    generalize firE l k = fe at *
    generalize firL l k = fl at *
    clear h ht hv hc hc0 e1
    go_enter Tryd.func24, Tryd.ntmps24
    go_wp2_with fail
    refine CK.mono ?_
    rintro e w1 ⟨rfl, hb1⟩
    have B1 : Hid (Below w.heap.size w w1) := hb1
    clear hb1 CK
    go_wp2_with fail
    refine (WH.out _ B1.out).mono ?_
    rintro e w3 ⟨rfl, hb3, hwb, hwc⟩
    have B3 : Hid (Below w.heap.size w w3) := B1.out.trans (hb3.mono B1.out.size)
    have HWC : Hid (∀ (j : Nat), j < l.length → w3.cell? ⟨w1.heap.size, j * 2, none⟩ = some (.int .i64 (frA (whA l) j)) ∧ ∃ pp np cp, w3.cell? ⟨w1.heap.size, j * 2 + 1, none⟩ = some (.slice pp np cp)) := fun j hj => by
      obtain ⟨vp, c0, c1, hi, _⟩ := hwc j hj
      obtain ⟨pp, cp, rfl⟩ := hi.form
      exact ⟨c0, pp, _, cp, c1⟩
    have HG : Hid (w1.heap.size < w3.heap.size) := hwb.lt
    clear hb3 hwb hwc B1
    obtain ⟨g, hg⟩ : ∃ g, g = w1.heap.size := ⟨_, rfl⟩
    rw [← hg] at HWC HG ⊢
    clear hg WH
    go_wp2
    go_loopw [8, 21] (fun a b wl => ∃ (j : Nat) (F : Int) (wk : World), j ≤ l.length ∧ b = .int .i64 j ∧ a = .int .i64 F ∧ wk = wl ∧ Hid (F = firS l k j) ∧ Hid (Below w3.heap.size w3 wk)) (fun _ b _ => l.length - (intOf b).toNat)
    case atStart => exact ⟨0, _, _, Nat.zero_le _, rfl, rfl, rfl, FS0.out.symm, Below.refl _ _⟩
    case round =>
      obtain ⟨j, F, wr, hj, rfl, rfl, rfl, HF, HB⟩ := hrel
      have hFb := FL.out j
      rw [← HF.out] at hFb
      obtain ⟨hF1, hF2⟩ := hFb
      by_cases hlt : j < l.length
      · obtain ⟨c0, pp, np, cp, c1⟩ := HWC.out j hlt
        have d0 := (HB.out.cell (p := ⟨g, j * 2, none⟩) HG.out).trans c0
        have d1 := (HB.out.cell (p := ⟨g, j * 2 + 1, none⟩) HG.out).trans c1
        have hS := FS1.out j
        rw [← HF.out, knd_at hlt] at hS
        obtain ⟨q, hq⟩ : ∃ q : Int, q = frA (whA l) j := ⟨_, rfl⟩
        rw [← hq] at d0 hS
        have BW : Hid (Below w.heap.size w wr) := B3.out.trans (HB.out.mono B3.out.size)
        obtain ⟨X, o, rfl, x1, x2, x3⟩ := (HS.out.below BW.out).at hlt
        have hXl := block_lt_of_cell x1
        obtain ⟨f, hf⟩ : ∃ f, f = l[j] := ⟨_, rfl⟩
        rw [← hf] at x1 x2 x3 hS
        have AC : ∀ ob, (wr.alloc ob).cell? ⟨X, o + j * 3, none⟩ = some (.int .i64 f.kind) := fun ob => (((Below.refl _ wr).alloc (Nat.le_refl _) ob).cell (p := ⟨X, o + j * 3, none⟩) hXl).trans x1
        have BN : Hid (∀ ob n, Below w3.heap.size w3 ((wr.alloc ob).drewN n)) := fun ob n => below_drewN' (HB.out.alloc HB.out.size ob) n
        clear c0 c1 hf hq x2 x3 hXl
        cases hr : (f.kind == k) with
        | false =>
          have hr2 : ¬ f.kind = k := by simpa using hr
          rw [if_neg (fun h => hr2 h.1)] at hS
          have HN : Hid (F = firS l k (j + 1)) := hS.symm
          clear hS hr2 HF
          go_wp2
          go_quiet (fail)
          go_wp2
          all_goals
            go_roundw
            case rel => exact ⟨j + 1, _, _, by omega, by go_num, rfl, rfl, HN, BN.out _ _⟩
            case measure => simp [intOf]; omega
        | true =>
          have hr2 : f.kind = k := by simpa using hr
          by_cases hF0 : F < 0
          · obtain rfl : F = -1 := by omega
            rw [if_pos ⟨hr2, Or.inl hF0⟩] at hS
            have HN : Hid ((j : Int) = firS l k (j + 1)) := hS.symm
            clear hS hr2 HF
            go_wp2
            go_quiet (fail)
            go_wp2
            all_goals
              go_roundw
              case rel => exact ⟨j + 1, _, _, by omega, by go_num, rfl, rfl, HN, BN.out _ _⟩
              case measure => simp [intOf]; omega
          · obtain ⟨N, rfl⟩ : ∃ N : Nat, F = N := ⟨F.toNat, by omega⟩
            have hNl : N < l.length := by omega
            obtain ⟨b0, _, _, _, _⟩ := HWC.out N hNl
            have a0 := (HB.out.cell (p := ⟨g, N * 2, none⟩) HG.out).trans b0
            obtain ⟨y, hy⟩ : ∃ y : Int, y = frA (whA l) N := ⟨_, rfl⟩
            rw [← hy] at a0 hS
            have hgl : g < wr.heap.size := Nat.lt_of_lt_of_le HG.out HB.out.size
            have A0 : ∀ ob, (wr.alloc ob).cell? ⟨g, N * 2, none⟩ = some (.int .i64 y) := fun ob => (((Below.refl _ wr).alloc (Nat.le_refl _) ob).cell (p := ⟨g, N * 2, none⟩) hgl).trans a0
            have hN0 : decide ((N : Int) < 0) = false := by simp
            clear b0 hy a0 hgl
            by_cases hqy : q ≤ y
            · have hqd : decide (q ≤ y) = true := by simpa using hqy
              rw [if_pos ⟨hr2, Or.inr hqy⟩] at hS
              have HN : Hid ((j : Int) = firS l k (j + 1)) := hS.symm
              clear hS hr2 HF
              go_wp2
              go_quiet (fail)
              go_wp2
              all_goals
                go_roundw
                case rel => exact ⟨j + 1, _, _, by omega, by go_num, rfl, rfl, HN, BN.out _ _⟩
                case measure => simp [intOf]; omega
            · have hqd : decide (q ≤ y) = false := by simpa using hqy
              rw [if_neg (fun h => by rcases h.2 with h | h; omega; omega)] at hS
              have HN : Hid ((N : Int) = firS l k (j + 1)) := hS.symm
              clear hS hr2 HF
              go_wp2
              go_quiet (fail)
              go_wp2
              all_goals
                go_roundw
                case rel => exact ⟨j + 1, _, _, by omega, by go_num, rfl, rfl, HN, BN.out _ _⟩
                case measure => simp [intOf]; omega
      · obtain rfl : j = l.length := by omega
        have BW : Hid (Below w.heap.size w wr) := B3.out.trans (HB.out.mono B3.out.size)
        by_cases hF0 : F < 0
        · obtain rfl : F = -1 := by omega
          obtain ⟨rfl, rfl⟩ := FIN1.out (by rw [← HF.out]; omega)
          clear HF FIN1 FIN2
          go_wp2
          go_ret2
          exact ans_nil rfl BW.out
        · obtain ⟨N, rfl⟩ : ∃ N : Nat, F = N := ⟨F.toNat, by omega⟩
          obtain ⟨rfl, rfl⟩ := FIN2.out N HF.out.symm
          have hNl : N < l.length := by omega
          obtain ⟨b0, _, _, _, _⟩ := HWC.out N hNl
          have a0 := (HB.out.cell (p := ⟨g, N * 2, none⟩) HG.out).trans b0
          have hfb := FB.out N hNl
          obtain ⟨q, hq⟩ : ∃ q : Nat, frA (whA l) N = q := ⟨(frA (whA l) N).toNat, by omega⟩
          have hsub : subL l N = (l.drop q).take (N + 1 - q) := by unfold subL; rw [hq]; rfl
          rw [hq] at a0 hfb
          obtain ⟨X, o, rfl, _⟩ := HS.out.at hNl
          have hqk : q < N + 1 := by omega
          obtain ⟨hcs, hcp, _⟩ := (HS.out.below BW.out).cut hqk (by omega)
          have hcq : ¬ cap = q := by omega
          have CL : Hid (Calls Tryd.prog 44 #[Value.slice (some ⟨X, o + q * 3, none⟩) (N + 1 - q) (cap - q)] wr fun e w' => ∃ p cap, e = .returned (.slice p (subL l N).length cap) ∧ OwnC w' wr.heap.size (.slice p (subL l N).length cap) (subL l N) ∧ Below wr.heap.size wr w') := by
            rw [hsub]
            exact cloneF_any _ _ _ hcs (by simp; omega)
          have hN0 : decide ((N : Int) < 0) = false := by simp
          clear hcs hsub b0 hq HF FIN1 FIN2 HB
          go_wp2_with fail
          refine CL.out.mono ?_
          rintro e w5 ⟨p5, c5, rfl, ho5, hb5⟩
          have O5 : Hid (OwnC w5 w.heap.size (.slice p5 (subL l N).length c5) (subL l N)) := ho5.low BW.out.size
          have B5 : Hid (Below w.heap.size w w5) := BW.out.trans (hb5.mono BW.out.size)
          clear ho5 hb5
          go_wp2_with fail
          go_ret2
          exact ⟨_, _, rfl, O5.out, B5.out⟩
  · have e1 : firE l k = hasE l k := by unfold firE; rw [if_neg hc]
    have e2 : firL l k = [] := by unfold firL; rw [e1, if_neg hc]
    rw [e1, e2]
    clear h ht hv e1 e2
    generalize hasE l k = c at *
    have h1 : (c == 0) = false := by simpa using hc
    have h2 : (c != 0) = true := by simpa using hc
    go_enter Tryd.func24, Tryd.ntmps24
    go_wp2_with fail
    refine CK.mono ?_
    rintro e w1 ⟨rfl, hb1⟩
    have B1 : Hid (Below w.heap.size w w1) := hb1
    clear hb1 CK
    go_wp2_with fail
    go_ret2
    exact ans_nil rfl B1.out
set_option maxHeartbeats 2000000 in
theorem rsub_ok (v : Value) (l : List Cr) (k : Nat) (w : World) (h : CS w v l) (ht : ∀ c ∈ l, c.text.size ≤ maxLen) (hc : chk l = 0) (hk : k < l.length) :
    Calls Tryd.prog 45 #[v, .int .i64 k] w fun e w' => ∃ p cap, e = .returned (.slice p (subL l k).length cap) ∧ CS w' (.slice p (subL l k).length cap) (subL l k) ∧ Below w.heap.size w w' := by
  have BG := rbegins_ok v l w h ht hc
  have hl := (chk_ok hc).1
  have hfb := whA_fb hk
  obtain ⟨q, hq⟩ : ∃ q : Nat, frA (whA l) k = q := ⟨(frA (whA l) k).toNat, by omega⟩
  have hsub : subL l k = (l.drop q).take (k + 1 - q) := by unfold subL; rw [hq]; rfl
  have FC : Hid (((whA l).map (·.1)).getD k 0 = q) := by show _ = _; rw [frow_at hk, hq]
  have FW : Hid (k < ((whA l).map (·.1)).length) := by show k < _; simp [whA_len]; exact hk
  rw [hq] at hfb
  obtain ⟨p, cap, rfl⟩ := h.form
  obtain ⟨X, o, rfl, _⟩ := h.at hk
  have hqk : q < k + 1 := by omega
  obtain ⟨hcs, hcp, _⟩ := h.cut hqk (by omega)
  have hcq : ¬ cap = q := by omega
  have HL : Hid ((subL l k).length * 32 ≤ 140737488355328) := by show (subL l k).length * 32 ≤ 140737488355328; have := subL_len hk; omega
  rw [← hsub] at hcs
  have HC : Hid (∀ w', Below w.heap.size w w' → Calls Tryd.prog 9 #[Value.slice (some ⟨X, o + q * 3, none⟩) (k + 1 - q) (cap - q)] w' fun e w'' => ∃ p cap, e = .returned (.slice p (subL l k).length cap) ∧ OwnC w'' w'.heap.size (.slice p (subL l k).length cap) (subL l k) ∧ Below w'.heap.size w' w'') := fun w' b => copyFail_any _ _ w' (hcs.below b) HL.out
  clear h ht hc hcs hsub hq
  go_enter Tryd.func45, Tryd.ntmps45
  go_wp2_with fail
  refine BG.mono ?_
  rintro e w1 ⟨p1, c1, rfl, ho1, hb1⟩
  have B1 : Hid (Below w.heap.size w w1) := hb1
  obtain ⟨X1, o1, rfl, a1⟩ := ho1.is.at FW.out
  rw [FC.out] at a1
  clear hb1 BG ho1
  go_wp2_with fail
  refine (HC.out _ B1.out).mono ?_
  rintro e w2 ⟨p2, c2, rfl, ho2, hb2⟩
  have B2 : Hid (Below w.heap.size w w2) := B1.out.trans (hb2.mono B1.out.size)
  have O2 : Hid (CS w2 (.slice p2 (subL l k).length c2) (subL l k)) := ho2.cs
  clear hb2 ho2
  go_wp2_with fail
  go_ret
  exact ⟨_, _, rfl, O2.out, B2.out⟩
theorem ownI_one (w : World) (x : Int) : OwnI (w.alloc (.cells #[.int .i64 x] 3)) w.heap.size (.slice (some ⟨w.heap.size, 0, none⟩) 1 1) [x] :=
  ⟨rfl, Or.inr ⟨w.heap.size, 1, #[.int .i64 x], rfl, Nat.le_refl _, heap_alloc_new w _, Nat.le_refl _, by unfold maxLen; simp, rfl, rfl⟩⟩
theorem fir_FST {l : List Cr} {k : Int} (hk : hasK l k = true) : FST l.length (frA (whA l)) (fun x => knd l x.toNat = k) (firS l k l.length) := by
  rcases firS_spec l k l.length with ⟨h0, _⟩ | ⟨h0, h1, h2, h3⟩
  · have := (hasK_fir l k).1 hk; omega
  · refine ⟨⟨h0, h1⟩, h2, fun x hx0 hx1 hkx => ?_⟩
    have := h3 x.toNat (by omega) hkx
    rw [show ((x.toNat : Nat) : Int) = x by omega] at this
    exact this
end Go.Proofs.YtaleagkhblokgaaDoor
namespace Go.Proofs.YtaleagkhblokgaaDoor
open Go.RowKit

set_option maxHeartbeats 4000000 in
set_option maxRecDepth 100000 in
theorem join_any (v : Value) (ll : List (List Cr)) (w : World) (h : FS w v ll) (ht : ∀ x ∈ ll, ∀ c ∈ x, c.text.size ≤ maxLen) (hx : ∀ x ∈ ll, x.length ≤ 1000000000000000) (hl : (ll.length + 1) * 24 ≤ 140737488355328) (hv : FV w) :
    Calls Tryd.prog 34 #[v] w fun e w' => Ans w w' e (joinL ll) (joinE ll) := by
  obtain ⟨p, cap, rfl⟩ := h.form
  by_cases hb : 4096 < ll.length
  · have e1 : joinE ll = 3 := by unfold joinE; rw [if_pos hb]
    have e2 : joinL ll = [] := by unfold joinL; rw [e1]; simp
    rw [e1]
    have AN : Hid (∀ w', Below w.heap.size w w' → Ans w w' (.returned (.tuple #[.slice none 0 0, .int .i64 3])) (joinL ll) 3) := fun w' b => ans_nil e2 b
    clear h hv ht hx
    go_enter Tryd.func34, Tryd.ntmps34
    go_wp2
    go_ret2
    exact AN.out _ (Below.refl _ _)
  · have e1 : joinE ll = gaE ll := by unfold joinE; rw [if_neg hb]
    rw [e1]
    have GA := gather_any w _ ll h ht hx hl hv
    have hnb : ¬ ((4096 : Int) < (ll.length : Int)) := by omega
    by_cases hc : gaE ll = 0
    · have e3 : gaL ll = neL ll := by unfold gaL; rw [if_pos hc]
      have hnl := neL_len ll
      by_cases hz : (neL ll).length = 0
      · have e2 : joinL ll = [] := by unfold joinL; rw [if_neg (by intro h; exact h.2 hz)]
        rw [hc]
        rw [hc, e3, hz] at GA
        have AN : Hid (∀ w', Below w.heap.size w w' → Ans w w' (.returned (.tuple #[.slice none 0 0, .int .i64 0])) (joinL ll) 0) := fun w' b => ans_nil e2 b
        clear h hv ht hx
        go_enter Tryd.func34, Tryd.ntmps34
        go_wp2_with (go_at_call 55; refine GA.mono ?_; rintro e w2 ⟨p2, c2, rfl, ho2, hb2⟩)
        go_ret2
        exact AN.out _ hb2
      · have e2 : joinL ll = arL 10 ByteArray.empty (neL ll) := by unfold joinL; rw [if_pos ⟨by rw [e1]; exact hc, hz⟩]
        have hok : ∀ x ∈ neL ll, x.length ≤ 1024 := fun x hx => (chk_ok (gaE_ok hc x hx).2).1
        have AR : Hid (∀ w2 v', FS w2 v' (neL ll) → _) := fun w2 v' fs => around_any 10 ByteArray.empty w2 v' (neL ll) fs hok (by omega)
        rw [e2, hc]
        rw [hc, e3] at GA
        have hz1 : (((neL ll).length : Int) == 0) = false := by rw [beq_eq_false_iff_ne]; omega
        have hz2 : ¬ ((neL ll).length : Int) = 0 := by omega
        generalize arL 10 ByteArray.empty (neL ll) = R at *
        generalize neL ll = G at *
        clear h hv ht hx
        go_enter Tryd.func34, Tryd.ntmps34
        go_wp2_with (first | (go_at_call 55; refine GA.mono ?_; rintro e w2 ⟨p2, c2, rfl, ho2, hb2⟩; have O2 : Hid (FS w2 (.slice p2 G.length c2) G) := ho2; have B2 : Hid (Below w.heap.size w w2) := hb2; clear ho2 hb2) | (go_at_call 54; refine (AR.out w2 _ O2.out).mono ?_; rintro e w3 ⟨p3, c3, rfl, ho3, hb3⟩))
        go_ret2
        exact ⟨p3, c3, rfl, ho3.low B2.out.size, B2.out.trans (hb3.mono B2.out.size)⟩
    · have e2 : joinL ll = [] := by unfold joinL; rw [if_neg (by intro h; exact hc (by rw [← e1]; exact h.1))]
      have AN : Hid (∀ w', Below w.heap.size w w' → Ans w w' (.returned (.tuple #[.slice none 0 0, .int .i64 (gaE ll)])) (joinL ll) (gaE ll)) := fun w' b => ans_nil e2 b
      clear h hv ht hx
      generalize gaE ll = c at *
      have h1 : (c == 0) = false := by simpa using hc
      have h2 : (c != 0) = true := by simpa using hc
      go_enter Tryd.func34, Tryd.ntmps34
      go_wp2_with (go_at_call 55; refine GA.mono ?_; rintro e w2 ⟨p2, c2, rfl, ho2, hb2⟩)
      go_ret2
      exact AN.out _ hb2
end Go.Proofs.YtaleagkhblokgaaDoor
