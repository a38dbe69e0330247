/- Depend: the document's Runner, Waiters, wrong, free. -/
import Derived.Test.YtkhcinpcoabphaaDr1
namespace Go.Proofs.Ytkhcinpcoabphaa
open Go.RowKit

set_option maxHeartbeats 8000000 in
theorem rrunner_any {w : World} {P : Nat → Prop} {vr vw : Value} {l : List Ru} {X : Wb} (h : RR w P vr l (stk X)) (hi : WI X) (hvw : ∃ p n c, vw = .slice p n c) (c : Nat) : Calls Try.prog 27 #[.agg #[vr, vw], .int .i64 c] w fun e w' => e = .returned (.tuple #[.int .i64 (X.r c).to, .bool (X.r c).is]) ∧ Below w.heap.size w w' := by
  have hl := h.len (stk_task hi)
  obtain ⟨pw, nw, cw, rfl⟩ := hvw
  obtain ⟨p, cc, rfl⟩ := h.gs.gs.form
  obtain ⟨b0, b1⟩ := box2 (w := w) (a := .slice p l.length cc) (b := .slice pw nw cw) (t := 29)
  have BA : Hid (Below w.heap.size w (w.alloc (.cells #[.slice p l.length cc, .slice pw nw cw] 29))) := bal _ _
  have HG := hid (h.below BA.out)
  have HI := hid hi
  clear h hi
  go_enter Try.func27, Try.ntmps27
  go_wp2
  generalize w.alloc (.cells #[.slice p l.length cc, .slice pw nw cw] 29) = w1 at *
  go_loop [6] (fun v6 => ∃ k : Nat, k ≤ l.length ∧ v6 = .int .i64 k ∧ Hid (∀ j (hj : j < l.length), j < k → c ∉ stk X l[j].task)) (fun v6 => l.length - (intOf v6).toNat)
  case atStart => exact ⟨0, Nat.zero_le _, rfl, fun j _ hj => absurd hj (Nat.not_lt_zero _)⟩
  case round =>
    obtain ⟨k, hk, rfl, HN⟩ := hrel
    by_cases hlt : k < l.length
    · obtain ⟨Y, o, e1, c1, c2⟩ := HG.out.gs.gs.atR hlt
      subst e1
      have ST := hid (HG.out.st l[k] (List.getElem_mem hlt))
      have HN2 : Hid (c ∉ stk X l[k].task → ∀ j (hj : j < l.length), j < k + 1 → c ∉ stk X l[j].task) := fun hne j hj hjk => by
        by_cases e : j = k
        · subst e; exact hne
        · exact HN.out j hj (by omega)
      generalize l[k] = r at *
      obtain ⟨hne, hgp⟩ := ST.out
      have hrn : r.n = (stk X r.task).length := by rw [← nI_len]; exact hgp.gs.len_eq
      have hsl := stk_len HI.out r.task
      rw [hrn] at c2 hgp
      have G := hid hgp.gs
      have hki : (k : Int) < l.length := by omega
      have HM : Hid (∀ x, x ∈ stk X r.task → (X.r x).is = true ∧ (X.r x).to = r.task) := fun x hx => stk_mem.1 hx
      generalize stk X r.task = sk at *
      clear ST hne hgp hrn
      go_wp2
      go_loop [7] (fun v7 => ∃ j : Nat, j ≤ sk.length ∧ v7 = .int .i64 j ∧ Hid (∀ i (hi : i < sk.length), i < j → sk[i] ≠ c)) (fun v7 => sk.length - (intOf v7).toNat)
      case atStart => exact ⟨0, Nat.zero_le _, rfl, fun i _ hi => absurd hi (Nat.not_lt_zero _)⟩
      case round =>
        obtain ⟨j, hj, rfl, HJ⟩ := hrel
        by_cases hjl : j < sk.length
        · obtain ⟨Z, o2, e2, hcz⟩ := G.out.atI (k := j) (by rw [nI_len]; exact hjl)
          rw [e2] at c2
          have hcz2 : w1.cell? ⟨Z, o2 + j, none⟩ = some (.int .i64 sk[j]) := by rw [hcz]; simp [nI]
          have hmj : sk[j] ∈ sk := List.getElem_mem hjl
          have HJ2 : Hid (sk[j] ≠ c → ∀ i (hi : i < sk.length), i < j + 1 → sk[i] ≠ c) := fun hne i hi hij => by
            by_cases e : i = j
            · subst e; exact hne
            · exact HJ.out i hi (by omega)
          generalize sk[j] = x at *
          have hji : (j : Int) < sk.length := by omega
          by_cases hx : x = c
          · have E := hid (HM.out x hmj)
            rw [hx] at E hcz2
            have E1 := hid E.out.1
            have E2 := hid E.out.2
            clear hx hcz E hmj
            go_wp2
            go_ret2
            rw [E1.out, E2.out]
            exact ⟨rfl, BA.out⟩
          · have hxi : ¬ (x : Int) = c := by omega
            have HJ3 := hid (HJ2.out hx)
            clear hcz hmj
            go_wp2
            go_round
            case rel => exact ⟨j + 1, by omega, by go_num, HJ3⟩
            case measure => simp [intOf]; omega
        · have hnot : Hid (c ∉ sk) := fun hm => by
            obtain ⟨i, hi, e⟩ := List.getElem_of_mem hm
            exact HJ.out i hi (by omega) e
          have HN3 := hid (HN2.out hnot.out)
          have hji : ¬ (j : Int) < sk.length := by omega
          go_wp2
          go_round
          case rel => exact ⟨k + 1, by omega, by go_num, HN3⟩
          case measure => simp [intOf]; omega
    · have hSt : X.r c = t0 := HI.out.rz c (by
        cases e : (X.r c).is with
        | false => rfl
        | true =>
          have hm : c ∈ stk X (X.r c).to := stk_mem.2 ⟨e, rfl⟩
          obtain ⟨r, hr, e2⟩ := HG.out.al (X.r c).to (fun q => by rw [q] at hm; cases hm)
          obtain ⟨j, hj, rfl⟩ := List.getElem_of_mem hr
          exact absurd (by rw [e2]; exact hm) (HN.out j hj (by omega)))
      have E := hid hSt
      clear hSt
      go_wp2
      go_ret2
      rw [E.out]
      exact ⟨rfl, BA.out⟩
/-- The waiters, in their order. -/
theorem WW.wai {w : World} {P : Nat → Prop} {v : Value} {l : List Wa} {X : Wb} (h : WW w P v l X) (hi : WI X) (c : Nat) : (l.filter fun a => decide (a.c = c)).map Wa.t = wai X c := by
  refine (tl_eq hi.wi ⟨fun i => ?_, ?_⟩).symm
  · rw [List.mem_map, hit_iff]
    constructor
    · rintro ⟨a, ha, rfl⟩
      rw [List.mem_filter] at ha
      obtain ⟨h1, h2⟩ := (h.mem a.t a.c).1 ha.1
      exact ⟨h1, by rw [show (tiA X.waits a.t).to = a.c from h2]; simpa using ha.2⟩
    · rintro ⟨h1, h2⟩
      exact ⟨⟨i, c⟩, List.mem_filter.2 ⟨(h.mem i c).2 ⟨h1, h2⟩, by simp⟩, rfl⟩
  · rw [List.pairwise_map]
    exact h.up.filter _
set_option maxHeartbeats 8000000 in
theorem rwaiters_any {w : World} {P : Nat → Prop} {vr vw : Value} {l : List Wa} {X : Wb} (h : WW w P vw l X) (hi : WI X) (hvr : ∃ p n c, vr = .slice p n c) (c : Nat) : Calls Try.prog 28 #[.agg #[vr, vw], .int .i64 c] w fun e w' => ∃ q cc, e = .returned (.slice q (wai X c).length cc) ∧ OwnG KI w' w.heap.size (.slice q (wai X c).length cc) (nI (wai X c)) ∧ Below w.heap.size w w' := by
  have hl := h.len hi
  have HW := hid (h.wai hi c)
  obtain ⟨pr, nr, cr, rfl⟩ := hvr
  obtain ⟨p, c0, rfl⟩ := h.gs.gs.form
  obtain ⟨b0, b1⟩ := box2 (w := w) (a := .slice pr nr cr) (b := .slice p l.length c0) (t := 29)
  have BA : Hid (Below w.heap.size w (w.alloc (.cells #[.slice pr nr cr, .slice p l.length c0] 29))) := bal _ _
  have ZA : Hid ((w.alloc (.cells #[.slice pr nr cr, .slice p l.length c0] 29)).heap.size = w.heap.size + 1) := alloc_size _ _
  have HG := hid (h.gs.gs.below BA.out)
  clear h hi
  go_enter Try.func28, Try.ntmps28
  go_wp2
  generalize w.alloc (.cells #[.slice pr nr cr, .slice p l.length c0] 29) = w1 at *
  have B01 := hid (And.intro b0 b1)
  clear b0 b1
  go_loopw [5, 6] (fun v5 v6 wr => ∃ (k : Nat) (q : Option Addr) (cc : Nat) (S : List Int) (wk : World), k ≤ l.length ∧ v6 = .int .i64 k ∧ v5 = .slice q S.length cc ∧ wk = wr ∧ Hid (S = nI (((l.take k).filter fun a => decide (a.c = c)).map Wa.t)) ∧ Hid (OwnG KI wk w1.heap.size (.slice q S.length cc) S) ∧ Hid (Below w1.heap.size w1 wk)) (fun _ v6 _ => l.length - (intOf v6).toNat)
  case atStart => exact ⟨0, none, 0, [], _, Nat.zero_le _, rfl, rfl, rfl, rfl, OwnG.nil _ _ _, Below.refl _ _⟩
  case round =>
    obtain ⟨k, q, cc, S, wr, hk, rfl, rfl, rfl, HS, HO, HB⟩ := hrel
    have b1 : wr.cell? ⟨w.heap.size, 1, none⟩ = some (.slice p l.length c0) := (HB.out.cell (p := ⟨w.heap.size, 1, none⟩) (by rw [ZA.out]; show w.heap.size < w.heap.size + 1; omega)).trans B01.out.2
    have hSl : S.length ≤ 128 := by
      rw [HS.out, nI_len, List.length_map]
      have h1 := List.length_filter_le (fun a : Wa => decide (a.c = c)) (l.take k)
      have h2 : (l.take k).length ≤ l.length := by simp; omega
      omega
    have LS : Hid ((S.length + 1) * KI.B ≤ 140737488355328) := by show (S.length + 1) * 8 ≤ _; omega
    by_cases hlt : k < l.length
    · obtain ⟨Y, o, e1, c1, c2⟩ := (HG.out.below HB.out).atA hlt
      subst e1
      have TK : Hid (l.take (k + 1) = l.take k ++ [l[k]]) := List.take_succ_eq_append_getElem hlt
      generalize l[k] = r at *
      have hki : (k : Int) < l.length := by omega
      by_cases hc : r.c = c
      · have HS2 : Hid (S ++ [(r.t : Int)] = nI (((l.take (k + 1)).filter fun a => decide (a.c = c)).map Wa.t)) := by
          show _ = _
          rw [TK.out, List.filter_append, List.map_append]
          have : List.filter (fun a : Wa => decide (a.c = c)) [r] = [r] := by simp [hc]
          rw [this]
          show _ = nI (_ ++ [r.t])
          rw [nI_snoc, HS.out]
        have hci : (r.c : Int) = c := by omega
        clear hc
        go_wp2_with (at_builtin; refine append_g KI KI_ok rfl (.tmp 22) (.tmp 29) 35 rfl w1.heap.size Try.underlying35 wr _ _ (.slice q S.length cc) S (r.t : Int) _ rfl HO.out wr.heap.size rfl rfl rfl LS.out HB.out.size ?_; intro g5 cp5 w5 ho5 hb5 hk5 hg5; have O5 := hid ho5; have B5 : Hid (Below w1.heap.size w1 w5) := HB.out.trans hb5; clear ho5 hb5 hk5 hg5)
        go_roundw
        case rel => exact ⟨k + 1, some ⟨g5, 0, none⟩, cp5, S ++ [(r.t : Int)], _, by omega, by go_num, by rw [List.length_append]; rfl, rfl, HS2, by rw [List.length_append]; exact O5.out, B5⟩
        case measure => simp [intOf]; omega
      · have HS2 : Hid (S = nI (((l.take (k + 1)).filter fun a => decide (a.c = c)).map Wa.t)) := by
          show _ = _
          rw [TK.out, List.filter_append, List.map_append]
          have : List.filter (fun a : Wa => decide (a.c = c)) [r] = [] := by simp [hc]
          rw [this, HS.out]; simp
        have hci : ¬ (r.c : Int) = c := by omega
        go_wp2
        go_roundw
        case rel => exact ⟨k + 1, q, cc, S, _, by omega, by go_num, rfl, rfl, HS2, HO, HB⟩
        case measure => simp [intOf]; omega
    · have E : Hid (S = nI (wai X c)) := by
        show _ = _
        rw [HS.out, List.take_of_length_le (by omega), HW.out]
      have EL : Hid (S.length = (wai X c).length) := by show _ = _; rw [E.out, nI_len]
      have hki : ¬ (k : Int) < l.length := by omega
      go_wp2
      go_ret
      exact ⟨q, cc, by rw [← EL.out]; rfl, by rw [← EL.out, ← E.out]; exact HO.out.low BA.out.size, BA.out.trans (HB.out.mono BA.out.size)⟩
set_option maxHeartbeats 4000000 in
theorem wrong_any (t c : Int) (w : World) : Calls Try.prog 40 #[.int .i64 t, .int .i64 c] w fun e w' => e = .returned (.int .i64 (if tkB t && clB c then 0 else 1)) ∧ w' = w := by
  by_cases h1 : t < 0
  · have e : (tkB t && clB c) = false := by simp [tkB]; omega
    rw [e]
    go_enter Try.func40, Try.ntmps40
    go_wp2
    go_ret
    exact ⟨rfl, rfl⟩
  · by_cases h2 : 128 ≤ t
    · have e : (tkB t && clB c) = false := by simp [tkB]; omega
      rw [e]
      go_enter Try.func40, Try.ntmps40
      go_wp2
      go_ret
      exact ⟨rfl, rfl⟩
    · by_cases h3 : c < 0
      · have e : (tkB t && clB c) = false := by simp [tkB, clB]; omega
        rw [e]
        go_enter Try.func40, Try.ntmps40
        go_wp2
        go_ret
        exact ⟨rfl, rfl⟩
      · by_cases h4 : 256 ≤ c
        · have e : (tkB t && clB c) = false := by simp [tkB, clB]; omega
          rw [e]
          go_enter Try.func40, Try.ntmps40
          go_wp2
          go_ret
          exact ⟨rfl, rfl⟩
        · have e : (tkB t && clB c) = true := by simp [tkB, clB]; omega
          rw [e]
          go_enter Try.func40, Try.ntmps40
          go_wp2
          go_ret
          exact ⟨rfl, rfl⟩
/-- The document's web. -/
structure RV (w : World) (P : Nat → Prop) (vr vw : Value) (X : Wb) : Prop where
  rr : ∃ l, RR w P vr l (stk X)
  ww : ∃ m, WW w P vw m X
theorem RV.far {w w' : World} {P : Nat → Prop} {vr vw : Value} {X : Wb} (h : RV w P vr vw X) (hs : w.heap.size ≤ w'.heap.size) (k : ∀ x, x < w.heap.size → P x → w'.heap[x]? = w.heap[x]?) : RV w' P vr vw X := by
  obtain ⟨⟨l, h1⟩, m, h2⟩ := h
  exact ⟨⟨l, h1.far hs k⟩, m, h2.far hs k⟩
theorem RV.below {w w' : World} {P : Nat → Prop} {vr vw : Value} {X : Wb} (h : RV w P vr vw X) (k : Below w.heap.size w w') : RV w' P vr vw X := h.far k.size fun x hx _ => k.block x hx
theorem RV.imp {w : World} {P Q : Nat → Prop} {vr vw : Value} {X : Wb} (h : RV w P vr vw X) (k : ∀ x, x < w.heap.size → P x → Q x) : RV w Q vr vw X := by
  obtain ⟨⟨l, h1⟩, m, h2⟩ := h
  exact ⟨⟨l, h1.imp k⟩, m, h2.imp k⟩
theorem RV.forms {w : World} {P : Nat → Prop} {vr vw : Value} {X : Wb} (h : RV w P vr vw X) : (∃ p n c, vr = .slice p n c) ∧ ∃ p n c, vw = .slice p n c := by
  obtain ⟨⟨l, h1⟩, m, h2⟩ := h
  obtain ⟨p, c, e1⟩ := h1.gs.gs.form
  obtain ⟨q, d, e2⟩ := h2.gs.gs.form
  exact ⟨⟨p, _, c, e1⟩, q, _, d, e2⟩
set_option maxHeartbeats 4000000 in
theorem rfree_any {w : World} {P : Nat → Prop} {vr vw : Value} {X : Wb} (h : RV w P vr vw X) (hi : WI X) (t c : Int) : Calls Try.prog 34 #[.agg #[vr, vw], .int .i64 t, .int .i64 c] w fun e w' => e = .returned (.int .i64 (askE X t c)) ∧ Below w.heap.size w w' := by
  obtain ⟨⟨pr, nr, cr, rfl⟩, pw, nw, cw, rfl⟩ := h.forms
  have WR := hid (fun W => wrong_any t c W)
  have BA : Hid (Below w.heap.size w (w.alloc (.cells #[.slice pr nr cr, .slice pw nw cw] 29))) := bal _ _
  obtain ⟨b0, b1⟩ := box2 (w := w) (a := .slice pr nr cr) (b := .slice pw nw cw) (t := 29)
  obtain ⟨m, hm⟩ := h.ww
  cases h1 : (tkB t && clB c) with
  | false =>
    have E : Hid (askE X t c = 1) := by show _ = _; unfold askE; rw [h1]; rfl
    rw [E.out]
    rw [h1] at WR
    clear E h hm
    go_enter Try.func34, Try.ntmps34
    go_wp2_with (go_at_call 40; refine (WR.out _).mono ?_; rintro e w' ⟨rfl, hw⟩; rw [hw]; clear hw)
    go_ret
    exact ⟨rfl, BA.out⟩
  | true =>
    rw [h1] at WR
    rw [Bool.and_eq_true] at h1
    obtain ⟨n, hn, hlt⟩ := tk_nat h1.1
    subst hn
    have RW := hid (rwaiting_any (hm.below BA.out) hi ⟨pr, nr, cr, rfl⟩ n)
    have E : Hid (askE X n c = if (X.w n).is then 7 else 0) := by show _ = _; unfold askE; rw [h1.1, h1.2]; rfl
    rw [E.out]
    cases h2 : (X.w n).is with
    | true =>
      rw [h2] at RW
      clear E h hm h1 h2
      go_enter Try.func34, Try.ntmps34
      go_wp2_with (first | (go_at_call 40; refine (WR.out _).mono ?_; rintro e w' ⟨rfl, hw⟩; rw [hw]; clear hw) | (go_at_call 25; refine RW.out.mono ?_; rintro e w2 ⟨rfl, hb2⟩; have B2 := hid (bl3 BA.out hb2); clear hb2))
      go_ret
      exact ⟨rfl, B2.out⟩
    | false =>
      rw [h2] at RW
      clear E h hm h1 h2
      go_enter Try.func34, Try.ntmps34
      go_wp2_with (first | (go_at_call 40; refine (WR.out _).mono ?_; rintro e w' ⟨rfl, hw⟩; rw [hw]; clear hw) | (go_at_call 25; refine RW.out.mono ?_; rintro e w2 ⟨rfl, hb2⟩; have B2 := hid (bl3 BA.out hb2); clear hb2))
      go_ret
      exact ⟨rfl, B2.out⟩
end Go.Proofs.Ytkhcinpcoabphaa
