/- Depend: tied; stack, waiters, top; Stack, Waiters. -/
import Derived.Test.YtkhcinpcoabphaaDb5
namespace Go.Proofs.Ytkhcinpcoabphaa
open Go.RowKit

theorem box1 {w : World} {B : Nat} {v : Value} {t : TypeId} (h : w.heap[B]? = some (.cells #[v] t)) : w.cell? ⟨B, 0, none⟩ = some v := cell_of_row _ _ _ _ _ _ h
theorem alloc_size (w : World) (o : Obj) : (w.alloc o).heap.size = w.heap.size + 1 := by simp
theorem nI_snoc (l : List Nat) (k : Nat) : nI (l ++ [k]) = nI l ++ [(k : Int)] := by simp [nI]
set_option maxHeartbeats 8000000 in
theorem tied_any (ts : List Ti) (hi : INJ ts) (hn : ts.length ≤ 1000) (hpos : 0 < ts.length) (to : Nat) (p : Option Addr) (c : Nat) (w : World) (h : GS KT w (.slice p ts.length c) ts) : Calls Try.prog 41 #[.slice p ts.length c, .int .i64 to] w fun e w' => ∃ q cc, e = .returned (.slice q (tl ts to).length cc) ∧ OwnG KI w' w.heap.size (.slice q (tl ts to).length cc) (nI (tl ts to)) ∧ Below w.heap.size w w' := by
  have B0 : Hid (Below w.heap.size w (w.alloc (.cells #[.slice p ts.length c] 77))) := bal _ _
  have HB0 : Hid ((w.alloc (.cells #[.slice p ts.length c] 77)).heap[w.heap.size]? = some (.cells #[.slice p ts.length c] 77)) := heap_alloc_new _ _
  have C0 : (w.alloc (.cells #[.slice p ts.length c] 77)).cell? ⟨w.heap.size, 0, none⟩ = some (.slice p ts.length c) := box1 HB0.out
  have Z0 : Hid ((w.alloc (.cells #[.slice p ts.length c] 77)).heap.size = w.heap.size + 1) := alloc_size _ _
  have HG := hid (h.below B0.out)
  have HP : Hid (∀ x, (Value.slice p ts.length c).ownBlock = some x → x < w.heap.size) := fun x hx => h.lt hpos hx
  have HI := hid hi
  clear h hi hpos
  go_enter Try.func41, Try.ntmps41
  go_wp2
  generalize w.alloc (.cells #[.slice p ts.length c] 77) = w0 at *
  go_loopw [5, 10] (fun v5 v10 wr => ∃ (k : Nat) (q : Option Addr) (cc : Nat) (S : List Int) (wk : World), k ≤ ts.length ∧ v10 = .int .i64 k ∧ v5 = .slice q S.length cc ∧ wk = wr ∧ Hid (S = nI (hitL ts to k)) ∧ Hid (OwnG KI wk w0.heap.size (.slice q S.length cc) S) ∧ Hid (Below w0.heap.size w0 wk)) (fun _ v10 _ => ts.length - (intOf v10).toNat)
  case atStart => exact ⟨0, none, 0, [], _, Nat.zero_le _, rfl, rfl, rfl, rfl, OwnG.nil _ _ _, Below.refl _ _⟩
  case round =>
    obtain ⟨k, q, cc, S, wr, hk, rfl, rfl, rfl, HS0, HO, HB⟩ := hrel
    have HL : S.length ≤ 1000 := by have := hitL_len ts to k; rw [HS0.out, nI_len]; omega
    by_cases hlt : k < ts.length
    · obtain ⟨Y, o, e1, hY, c1, c2, c3⟩ := (HG.out.below HB.out).atT hlt
      have hsn := hitL_succ ts to k
      subst e1
      have hne : ¬ Y = wr.heap.size := by omega
      have BA := hid (fun ob => HB.out.alloc HB.out.size ob)
      have BO := hid (fun ob => HO.out.below (bal wr ob))
      have ZB : Hid (∀ ob, w0.heap.size ≤ (wr.alloc ob).heap.size) := fun ob => (BA.out ob).size
      have LS : Hid ((S.length + 1) * KI.B ≤ 140737488355328) := by show (S.length + 1) * 8 ≤ _; omega
      cases hs : (tiA ts k).is with
      | false =>
        have hh : hit ts to k = false := by simp [hit, hs]
        have HS : Hid (S = nI (hitL ts to (k + 1))) := by show _ = _; rw [hsn, hh]; exact HS0.out
        rw [hs] at c3
        generalize (tiA ts k).to = x1 at *
        generalize (tiA ts k).made = x2 at *
        clear hsn hh hs
        go_wp2
        go_roundw
        case rel => exact ⟨k + 1, _, _, S, _, by omega, by go_num, rfl, rfl, HS, BO.out _, BA.out _⟩
        case measure => simp [intOf]; omega
      | true =>
        rw [hs] at c3
        by_cases ht : (tiA ts k).to = to
        · have hh : hit ts to k = true := by simp [hit, hs, ht]
          have HS : Hid (S ++ [(k : Int)] = nI (hitL ts to (k + 1))) := by show _ = _; rw [hsn, hh, if_pos rfl, nI_snoc, HS0.out]
          rw [ht] at c1
          generalize (tiA ts k).made = x2 at *
          clear hsn hh hs ht
          go_wp2_with (at_builtin; refine append_g KI KI_ok rfl (.tmp 23) (.tmp 25) 35 rfl w0.heap.size Try.underlying35 _ _ _ (.slice q S.length cc) S (k : Int) _ rfl (BO.out _) (wr.heap.size + 1) (by simp) rfl rfl LS.out (ZB.out _) ?_; intro g2 cp2 w2 ho2 hb2 hk2 hg2; have O2 := hid ho2; have B2 : Hid (Below w0.heap.size w0 w2) := (BA.out _).trans hb2; clear ho2 hb2 hk2 hg2)
          go_roundw
          case rel => exact ⟨k + 1, some ⟨g2, 0, none⟩, cp2, S ++ [(k : Int)], _, by omega, by go_num, by rw [List.length_append]; rfl, rfl, HS, by rw [List.length_append]; exact O2.out, B2.out⟩
          case measure => simp [intOf]; omega
        · have hh : hit ts to k = false := by simp [hit, hs, ht]
          have HS : Hid (S = nI (hitL ts to (k + 1))) := by show _ = _; rw [hsn, hh]; exact HS0.out
          have ht2 : ¬ ((tiA ts k).to : Int) = to := by omega
          generalize (tiA ts k).to = x1 at *
          generalize (tiA ts k).made = x2 at *
          clear hsn hh hs ht
          go_wp2
          go_roundw
          case rel => exact ⟨k + 1, _, _, S, _, by omega, by go_num, rfl, rfl, HS, BO.out _, BA.out _⟩
          case measure => simp [intOf]; omega
    · have hkn : k = ts.length := by omega
      have HS : Hid (S = nI (hitL ts to ts.length)) := by show _ = _; rw [HS0.out, hkn]
      have hmf : ∀ (fn : Fn) (first cap : Array Value) (w : World), (Instr.makeFunc fn first cap).run Try.prog w = .ok (.func fn first cap) w := fun _ _ _ _ => rfl
      have ST := hid (sortT_any ts HI.out hn to w.heap.size p c wr w0.heap.size (.slice q S.length cc) ((HB.out.block _ (by rw [Z0.out]; omega)).trans HB0.out) (HG.out.below HB.out) (by rw [← HS.out]; exact HO.out) (by rw [Z0.out]; omega) (fun x hx => by have := HP.out x hx; rw [Z0.out]; omega) HB.out.size)
      have hle : ¬ ((k : Int) < ts.length) := by omega
      clear hkn hlt
      go_wp2_with (go_at_call 46; refine ST.out.mono ?_; rintro e w4 ⟨rfl, ho4, hb4⟩; have O4 := hid ho4; have B4 := hid hb4; clear ho4 hb4)
      go_ret
      have E : S.length = (tl ts to).length := by
        obtain ⟨p', c', e, _⟩ := O4.out.form
        injection e with _ e2 _
        rw [nI_len] at e2; exact e2
      exact ⟨q, cc, by rw [← E]; rfl, by rw [← E]; exact O4.out.low B0.out.size, B0.out.trans ((HB.out.trans B4.out).mono B0.out.size)⟩
theorem own_gs {w : World} {base : Nat} {v : Value} {l : List Nat} (h : OwnG KI w base v (nI l)) : GS KI w v (nI l) := h.gs KI_ok.len
set_option maxHeartbeats 4000000 in
theorem stack_any (w : World) (b : Nat) (X : Wb) (h : WX w b X) (hi : WI X) (t : Nat) : Calls Try.prog 31 #[.pointer (some ⟨b, 0, none⟩), .int .i64 t] w fun e w' => ∃ q cc, e = .returned (.slice q (stk X t).length cc) ∧ OwnG KI w' w.heap.size (.slice q (stk X t).length cc) (nI (stk X t)) ∧ Below w.heap.size w w' := by
  have TA := tied_any X.runs hi.ri (by rw [hi.lr]; omega) (by rw [hi.lr]; omega) t (some ⟨b, 0, none⟩) 256 w (by rw [hi.lr]; exact h.gsr hi)
  rw [hi.lr] at TA
  change Calls _ _ _ _ (fun e w' => ∃ q cc, e = .returned (.slice q (stk X t).length cc) ∧ OwnG KI w' w.heap.size (.slice q (stk X t).length cc) (nI (stk X t)) ∧ Below w.heap.size w w') at TA
  have T := hid TA
  clear TA
  generalize stk X t = L at *
  have hl := h.lt
  clear h hi
  go_enter Try.func31, Try.ntmps31
  go_wp2_with (go_at_call 41; refine T.out.mono ?_; rintro e w2 ⟨q, cc, rfl, ho2, hb2⟩; have O2 := hid ho2; have B2 := hid hb2; clear ho2 hb2)
  go_ret
  exact ⟨_, _, rfl, O2.out, B2.out⟩
set_option maxHeartbeats 4000000 in
theorem waiters_any (w : World) (b : Nat) (X : Wb) (h : WX w b X) (hi : WI X) (c : Nat) : Calls Try.prog 37 #[.pointer (some ⟨b, 0, none⟩), .int .i64 c] w fun e w' => ∃ q cc, e = .returned (.slice q (wai X c).length cc) ∧ OwnG KI w' w.heap.size (.slice q (wai X c).length cc) (nI (wai X c)) ∧ Below w.heap.size w w' := by
  have TA := tied_any X.waits hi.wi (by rw [hi.lw]; omega) (by rw [hi.lw]; omega) c (some ⟨b, 768, none⟩) 128 w (by rw [hi.lw]; exact h.gsw hi)
  rw [hi.lw] at TA
  change Calls _ _ _ _ (fun e w' => ∃ q cc, e = .returned (.slice q (wai X c).length cc) ∧ OwnG KI w' w.heap.size (.slice q (wai X c).length cc) (nI (wai X c)) ∧ Below w.heap.size w w') at TA
  have T := hid TA
  clear TA
  generalize wai X c = L at *
  have hl := h.lt
  clear h hi
  go_enter Try.func37, Try.ntmps37
  go_wp2_with (go_at_call 41; refine T.out.mono ?_; rintro e w2 ⟨q, cc, rfl, ho2, hb2⟩; have O2 := hid ho2; have B2 := hid hb2; clear ho2 hb2)
  go_ret
  exact ⟨_, _, rfl, O2.out, B2.out⟩
/-- The top of a stack, as top tells it. -/
def topE (L : List Nat) : Ending := .returned (.tuple #[.int .i64 ((L.getLast?.getD 0 : Nat) : Int), .bool (!L.isEmpty)])
set_option maxHeartbeats 4000000 in
theorem top_any (w : World) (b : Nat) (X : Wb) (h : WX w b X) (hi : WI X) (t : Nat) : Calls Try.prog 36 #[.pointer (some ⟨b, 0, none⟩), .int .i64 t] w fun e w' => e = topE (stk X t) ∧ Below w.heap.size w w' := by
  have ST := hid (stack_any w b X h hi t)
  have HL := stk_len hi t
  generalize stk X t = L at *
  have hl := h.lt
  clear h hi
  rcases List.eq_nil_or_concat L with rfl | ⟨M, x, rfl⟩
  · go_enter Try.func36, Try.ntmps36
    go_wp2_with (go_at_call 31; refine ST.out.mono ?_; rintro e w2 ⟨q, cc, rfl, ho2, hb2⟩; have B2 := hid hb2; clear ho2 hb2)
    go_ret2
    exact ⟨rfl, B2.out⟩
  · rw [List.concat_eq_append] at *
    have E : Hid (topE (M ++ [x]) = .returned (.tuple #[.int .i64 x, .bool true])) := by show _ = _; unfold topE; simp
    have LN : Hid ((M ++ [x]).length = M.length + 1) := by show _ = _; simp
    have AT : Hid (∀ (q : Option Addr) (cc : Nat) (w2 : World), OwnG KI w2 w.heap.size (.slice q (M.length + 1) cc) (nI (M ++ [x])) → ∃ g, q = some ⟨g, 0, none⟩ ∧ w2.cell? ⟨g, M.length, none⟩ = some (.int .i64 x)) := fun q cc w2 ho => by
      obtain ⟨Y, o, e1, hc⟩ := (own_gs ho).atI (k := M.length) (by rw [nI_len]; simp)
      have hne : (Value.slice q (M.length + 1) cc).ownBlock ≠ none := by rw [e1]; simp [Value.ownBlock]
      obtain ⟨g, cp, e2, _⟩ := ho.place hne
      rw [e1] at e2
      injection e2 with e2 _ _
      injection e2 with e2
      injection e2 with e3 e4 _
      subst e3 e4
      refine ⟨_, e1, ?_⟩
      rw [Nat.zero_add] at hc
      rw [hc]; simp [nI]
    rw [LN.out] at ST
    have HL2 : M.length + 1 ≤ 256 := by rw [← LN.out]; exact HL
    generalize topE (M ++ [x]) = r at *
    generalize nI (M ++ [x]) = S at *
    generalize M.length = m at *
    clear HL LN
    go_enter Try.func36, Try.ntmps36
    go_wp2_with (go_at_call 31; refine ST.out.mono ?_; rintro e w2 ⟨q, cc, rfl, ho2, hb2⟩; obtain ⟨g, hg, hcx⟩ := AT.out _ _ _ ho2; subst hg; have B2 := hid hb2; clear ho2 hb2)
    go_ret2
    exact ⟨E.out.symm, B2.out⟩
def stkO (X : Wb) (t : Int) : List Nat := if tkB t then stk X t.toNat else []
def waiO (X : Wb) (c : Int) : List Nat := if clB c then wai X c.toNat else []
set_option maxHeartbeats 4000000 in
theorem stackF_any (w : World) (b : Nat) (X : Wb) (h : WX w b X) (hi : WI X) (t : Int) : Calls Try.prog 21 #[.pointer (some ⟨b, 0, none⟩), .int .i64 t] w fun e w' => ∃ q cc, e = .returned (.tuple #[.slice q (stkO X t).length cc, .int .i64 (if tkB t then 0 else 1)]) ∧ OwnG KI w' w.heap.size (.slice q (stkO X t).length cc) (nI (stkO X t)) ∧ Below w.heap.size w w' := by
  have IC := hid (fun w' => isTask_any t w')
  have B0 := hid (Below.refl w.heap.size w)
  unfold stkO
  cases hc : tkB t with
  | false =>
    rw [hc] at IC
    clear h hi
    go_enter Try.func21, Try.ntmps21
    go_wp2_with (go_at_call 29; refine (IC.out _).mono ?_; rintro e w' ⟨rfl, hw⟩; rw [hw]; clear hw)
    go_ret2
    exact ⟨none, 0, rfl, OwnG.nil _ _ _, B0.out⟩
  | true =>
    rw [hc] at IC
    obtain ⟨n, hn, hlt⟩ := tk_nat hc
    subst hn
    have ST := hid (stack_any w b X h hi n)
    have e0 : ((n : Int)).toNat = n := rfl
    rw [e0]
    generalize stk X n = L at *
    clear h hi hc e0
    simp only [if_true]
    go_enter Try.func21, Try.ntmps21
    go_wp2_with (first | (go_at_call 29; refine (IC.out _).mono ?_; rintro e w' ⟨rfl, hw⟩; rw [hw]; clear hw) | (go_at_call 31; refine ST.out.mono ?_; rintro e w2 ⟨q, cc, rfl, ho2, hb2⟩; have O2 := hid ho2; have B2 := hid hb2; clear ho2 hb2))
    go_ret2
    exact ⟨_, _, rfl, O2.out, B2.out⟩
set_option maxHeartbeats 4000000 in
theorem waitersF_any (w : World) (b : Nat) (X : Wb) (h : WX w b X) (hi : WI X) (t : Int) : Calls Try.prog 24 #[.pointer (some ⟨b, 0, none⟩), .int .i64 t] w fun e w' => ∃ q cc, e = .returned (.tuple #[.slice q (waiO X t).length cc, .int .i64 (if clB t then 0 else 1)]) ∧ OwnG KI w' w.heap.size (.slice q (waiO X t).length cc) (nI (waiO X t)) ∧ Below w.heap.size w w' := by
  have IC := hid (fun w' => isCell_any t w')
  have B0 := hid (Below.refl w.heap.size w)
  unfold waiO
  cases hc : clB t with
  | false =>
    rw [hc] at IC
    clear h hi
    go_enter Try.func24, Try.ntmps24
    go_wp2_with (go_at_call 30; refine (IC.out _).mono ?_; rintro e w' ⟨rfl, hw⟩; rw [hw]; clear hw)
    go_ret2
    exact ⟨none, 0, rfl, OwnG.nil _ _ _, B0.out⟩
  | true =>
    rw [hc] at IC
    obtain ⟨n, hn, hlt⟩ := cl_nat hc
    subst hn
    have ST := hid (waiters_any w b X h hi n)
    have e0 : ((n : Int)).toNat = n := rfl
    rw [e0]
    generalize wai X n = L at *
    clear h hi hc e0
    simp only [if_true]
    go_enter Try.func24, Try.ntmps24
    go_wp2_with (first | (go_at_call 30; refine (IC.out _).mono ?_; rintro e w' ⟨rfl, hw⟩; rw [hw]; clear hw) | (go_at_call 37; refine ST.out.mono ?_; rintro e w2 ⟨q, cc, rfl, ho2, hb2⟩; have O2 := hid ho2; have B2 := hid hb2; clear ho2 hb2))
    go_ret2
    exact ⟨_, _, rfl, O2.out, B2.out⟩
end Go.Proofs.Ytkhcinpcoabphaa
