/- The walk of the reference's Tokens: all tokens of a text, or the first fault: what 'tkRes' says. -/
import Derived.Test.YthckmpjokabkcaaDoorOne4
namespace Go.Proofs.YthckmpjokabkcaaDoor
open Go.RowKit

/-- What holds at the head of each round: a place ahead of blank. -/
def RI (s : ByteArray) (base : Nat) (w0 : World) (X : List Tok × Int × Int) (v i : Value) (wr : World) : Prop :=
  ∃ (k f : Nat) (done : List Tok), k ≤ s.size ∧ i = .int .i64 k ∧ OwnT wr base v done ∧ done.length ≤ 8192 ∧ Below base w0 wr ∧ base ≤ wr.heap.size ∧ s.size + 1 ≤ k + f ∧ Hid (TRel s.data.toList X (k + pbGo false (s.data.toList.drop k)) f done)
theorem pb_tt {c : UInt8} {r : List UInt8} (h : (c.toNat : Int) = 10) : pbGo true (c :: r) = pbGo false (c :: r) := by rw [pb_nl h, pb_nl h]

set_option maxRecDepth 100000 in
set_option maxHeartbeats 8000000 in
theorem refTokens_any (s : ByteArray) (w : World) (hmax : s.size ≤ maxLen) :
    Calls Tryd.prog 9 #[.string s] w fun e w' => ∃ v, e = .returned (.tuple #[v, .agg #[.int .i64 (tkRes s.data.toList).2.1, .int .i64 (tkRes s.data.toList).2.2]]) ∧ OwnT w' (w.heap.size + 1) v (tkRes s.data.toList).1 ∧ Below w.heap.size w w' := by
  unfold maxLen at hmax
  by_cases hlong : 65536 < s.size
  · have HT : Hid (tkRes s.data.toList = ([], 0, 3)) := by show _ = _; unfold tkRes; rw [if_pos (by simpa using hlong)]
    obtain ⟨R, hR⟩ : ∃ R, R = tkRes s.data.toList := ⟨_, rfl⟩
    rw [← hR] at HT ⊢
    clear hR
    go_enter Tryd.func9, Tryd.ntmps9
    go_wp2
    refine bodyPost_ret (v := .tuple #[.slice none 0 0, .agg #[.int .i64 0, .int .i64 3]]) (by simp [results, Tryd.results9, go_sem]) rfl ⟨.slice none 0 0, by rw [HT.out], by rw [HT.out]; exact ownT_nil _ _, (Below.refl _ _).alloc (Nat.le_refl _) _⟩
  have hs : s.size ≤ 65536 := by omega
  have hl : s.data.toList.length = s.size := by simp
  obtain ⟨X, hX⟩ : ∃ X, X = tkGo s.data.toList (s.data.toList.length + 1) (pbGo false s.data.toList) 0 := ⟨_, rfl⟩
  have HTF : Hid (X.2.2 ≠ 0 → tkRes s.data.toList = ([], X.2)) := fun h => by rw [hX] at h ⊢; exact tkRes_f (by omega) h
  have HTT : Hid (X.2.2 = 0 → tkRes s.data.toList = (X.1, 0, 0)) := fun h => by rw [hX] at h ⊢; exact tkRes_t (by omega) h
  have HX : Hid (TRel s.data.toList X (0 + pbGo false (s.data.toList.drop 0)) (s.size + 1) []) := by
    show TRel _ _ _ _ _
    unfold TRel; rw [hX, hl, Nat.zero_add, List.drop_zero]; simp
  clear hX
  obtain ⟨R, hR⟩ : ∃ R, R = tkRes s.data.toList := ⟨_, rfl⟩
  rw [← hR] at HTF HTT ⊢
  clear hR
  have hb0 : Below (w.heap.size + 1) (w.alloc faultB) ((w.alloc (.cells #[.int .i64 0, .int .i64 0] 25)).alloc (.cells #[] 30)) := (Below.refl _ _).alloc (by simp) _
  have ho0 : OwnT ((w.alloc (.cells #[.int .i64 0, .int .i64 0] 25)).alloc (.cells #[] 30)) (w.heap.size + 1) (.slice (some ⟨w.heap.size + 1, 0, none⟩) 0 0) [] := by
    refine ⟨rfl, Or.inr ⟨w.heap.size + 1, 0, #[], rfl, Nat.le_refl _, ?_, Nat.le_refl _, by unfold maxLen; omega, rfl, rfl⟩⟩
    have := heap_alloc_new (w.alloc (.cells #[.int .i64 0, .int .i64 0] 25)) (.cells #[] 30)
    simpa using this
  go_enter Tryd.func9, Tryd.ntmps9
  go_wp2
  go_loopw [4, 5] (fun v i wr => RI s (w.heap.size + 1) (w.alloc faultB) X v i wr) (fun _ i _ => s.size - (intOf i).toNat)
  case atStart => exact ⟨0, s.size + 1, [], Nat.zero_le _, rfl, ho0, by simp, hb0, by simp, by omega, HX⟩
  case round =>
    obtain ⟨k, f, done, hk, rfl, ho, hdl, hb, hz, hf, HR⟩ := hrel
    clear hb0 HX ho0
    obtain ⟨c0, c1, f0, f1⟩ := faultCells w hb
    obtain ⟨ao, cv, rfl⟩ := ho.form
    by_cases hlt : k < s.size
    · have HD : Hid (s.data.toList.drop k = s[k] :: s.data.toList.drop (k + 1)) := drop_cons s k hlt
      have hc : (s[k].toNat : Int) ≤ 255 := by have := UInt8.toNat_lt s[k]; omega
      by_cases h35 : (s[k].toNat : Int) = 35
      · have HP : Hid (k + pbGo false (s.data.toList.drop k) = k + 1 + pbGo true (s.data.toList.drop (k + 1))) := by show _ = _; rw [HD.out, pb_cm h35]; omega
        clear HTF HTT HD
        go_wp2
        go_loop [5] (fun i => ∃ j : Nat, k ≤ j ∧ j ≤ s.size ∧ i = .int .i64 j ∧ Hid (k < j → k + pbGo false (s.data.toList.drop k) = j + pbGo true (s.data.toList.drop j))) (fun i => s.size - (intOf i).toNat)
        case atStart => exact ⟨k, Nat.le_refl _, hk, rfl, fun h => absurd h (Nat.lt_irrefl _)⟩
        case round =>
          obtain ⟨j, hj, hjs, rfl, HJ⟩ := hrel
          by_cases hjl : j < s.size
          · have HD2 : Hid (s.data.toList.drop j = s[j] :: s.data.toList.drop (j + 1)) := drop_cons s j hjl
            by_cases h10 : (s[j].toNat : Int) = 10
            · have hkj : k < j := by
                rcases Nat.lt_or_ge k j with h | h
                · exact h
                · exfalso; have : j = k := by omega
                  subst this; omega
              have HP2 : Hid (TRel s.data.toList X (j + pbGo false (s.data.toList.drop j)) f done) := by
                have e : k + pbGo false (s.data.toList.drop k) = j + pbGo false (s.data.toList.drop j) := by rw [HJ.out hkj, HD2.out, pb_tt h10]
                have := HR.out
                rw [e] at this; exact this
              have fin : RI s (w.heap.size + 1) (w.alloc faultB) X (.slice ao done.length cv) (.int .i64 (j : Int)) wr := ⟨j, f, done, by omega, rfl, ho, hdl, hb, hz, by omega, HP2⟩
              have FIN : Hid _ := fin
              clear fin HP2 HP HJ HD2 HR
              go_wp2
              go_roundw
              case rel => first | exact FIN.out | ((repeat apply Exists.intro); exact ⟨FIN.out, rfl⟩)
              case measure => simp [intOf]; omega
            · have h10' : ((s[j].toNat : Int) != 10) = true := by simpa using h10
              have fin : ∃ j' : Nat, k ≤ j' ∧ j' ≤ s.size ∧ Value.int .i64 ((j : Int) + 1) = .int .i64 j' ∧ Hid (k < j' → k + pbGo false (s.data.toList.drop k) = j' + pbGo true (s.data.toList.drop j')) := by
                refine ⟨j + 1, by omega, by omega, by go_num, fun _ => ?_⟩
                rcases Nat.lt_or_ge k j with h | h
                · rw [HJ.out h, HD2.out, pb_go h10 (Or.inl rfl)]; omega
                · have : j = k := by omega
                  subst this; exact HP.out
              have FIN : Hid _ := fin
              clear fin HP HJ HD2 HR
              go_wp2
              go_round
              case rel => first | exact FIN.out | ((repeat apply Exists.intro); exact ⟨FIN.out, rfl⟩)
              case measure => simp [intOf]; omega
          · have hkj : k < j := by omega
            have HP2 : Hid (TRel s.data.toList X (j + pbGo false (s.data.toList.drop j)) f done) := by
              have e : k + pbGo false (s.data.toList.drop k) = j + pbGo false (s.data.toList.drop j) := by rw [HJ.out hkj, drop_end s j (by omega)]; rfl
              have := HR.out
              rw [e] at this; exact this
            have fin : RI s (w.heap.size + 1) (w.alloc faultB) X (.slice ao done.length cv) (.int .i64 (j : Int)) wr := ⟨j, f, done, by omega, rfl, ho, hdl, hb, hz, by omega, HP2⟩
            have FIN : Hid _ := fin
            clear fin HP2 HP HJ HR
            go_wp2
            go_roundw
            case rel => first | exact FIN.out | ((repeat apply Exists.intro); exact ⟨FIN.out, rfl⟩)
            case measure => simp [intOf]; omega
      · have h35' : ((s[k].toNat : Int) == 35) = false := by simpa using h35
        by_cases hbl : (s[k].toNat : Int) = 9 ∨ (s[k].toNat : Int) = 10 ∨ (s[k].toNat : Int) = 13 ∨ (s[k].toNat : Int) = 32
        · have HP : Hid (TRel s.data.toList X (k + 1 + pbGo false (s.data.toList.drop (k + 1))) f done) := by
            have e : k + pbGo false (s.data.toList.drop k) = k + 1 + pbGo false (s.data.toList.drop (k + 1)) := by
              rw [HD.out]
              by_cases h10 : (s[k].toNat : Int) = 10
              · rw [pb_nl h10]; omega
              · rw [pb_go h10 (by omega)]; omega
            have := HR.out
            rw [e] at this; exact this
          clear HTF HTT HD HR
          have fin : RI s (w.heap.size + 1) (w.alloc faultB) X (.slice ao done.length cv) (.int .i64 ((k : Int) + 1)) wr := ⟨k + 1, f, done, by omega, by go_num, ho, hdl, hb, hz, by omega, HP⟩
          have FIN : Hid _ := fin
          clear fin
          rcases hbl with g | g | g | g
          all_goals
            go_wp2
            go_roundw
            case rel => first | exact FIN.out | ((repeat apply Exists.intro); exact ⟨FIN.out, rfl⟩)
            case measure => simp [intOf]; omega
        · have b9 : ((s[k].toNat : Int) == 9) = false := by simp; omega
          have b10 : ((s[k].toNat : Int) == 10) = false := by simp; omega
          have b13 : ((s[k].toNat : Int) == 13) = false := by simp; omega
          have b32 : ((s[k].toNat : Int) == 32) = false := by simp; omega
          have e0 : pbGo false (s.data.toList.drop k) = 0 := by rw [HD.out, pb_no (by omega)]
          rw [e0, Nat.add_zero] at HR
          clear e0 HD hbl
          obtain ⟨f', rfl⟩ : ∃ f', f = f' + 1 := ⟨f - 1, by omega⟩
          by_cases hmany : done.length = 8192
          · have HX2 := HR.out.many (by rw [hl]; exact hlt) hmany
            have HR2 : Hid (R = ([], (k : Int), 3)) := by show _ = _; rw [HTF.out (by rw [HX2]; simp), HX2]
            have hmany' : ((done.length : Int) == 8192) = true := by simp; omega
            clear HX2 HR HTF HTT
            go_wp2
            refine bodyPost_ret (v := .tuple #[.slice none 0 0, .agg #[.int .i64 k, .int .i64 3]]) (by simp [results, Tryd.results9, go_sem, c0, c1]) rfl ⟨.slice none 0 0, by rw [HR2.out], by rw [HR2.out]; exact ownT_nil _ _, ?_⟩
            exact ((((Below.refl _ _).alloc (Nat.le_refl _) _).trans (hb.mono (by omega))).setCell (Nat.le_refl _) _).setCell (Nat.le_refl _) _
          · have hmany' : ((done.length : Int) == 8192) = false := by simp; omega
            have C := one_any s k wr hs hlt
            by_cases hcode : (rt (s.data.toList.drop k)).code = 0
            · have hrl : 1 ≤ (rt (s.data.toList.drop k)).len ∧ (rt (s.data.toList.drop k)).len ≤ (s.data.toList.drop k).length := by
                have hd := drop_cons s k hlt
                rw [hd] at hcode ⊢
                exact rt_len hcode
              have HST : Hid (TRel s.data.toList X (k + (rt (s.data.toList.drop k)).len + pbGo false (s.data.toList.drop (k + (rt (s.data.toList.drop k)).len))) f' (done ++ [⟨(rt (s.data.toList.drop k)).kind, k, (rt (s.data.toList.drop k)).num, (rt (s.data.toList.drop k)).text⟩])) := HR.out.step (by rw [hl]; exact hlt) hmany hcode
              have hle : k + (rt (s.data.toList.drop k)).len ≤ s.size := by have := hrl.2; simp at this; omega
              have hge := hrl.1
              clear hrl HR HTF HTT
              have C2 : Calls Tryd.prog 25 #[.string s, .int .i64 k] wr fun e w' => e = .returned (.tuple #[.agg #[.int .i64 (rt (s.data.toList.drop k)).kind, .int .i64 k, .int .i64 (rt (s.data.toList.drop k)).num, .string ⟨(rt (s.data.toList.drop k)).text.toArray⟩], .int .i64 (k + (rt (s.data.toList.drop k)).len : Nat), .int .i64 0]) ∧ Below wr.heap.size wr w' := by
                refine C.mono fun e w' h => ?_
                obtain ⟨⟨a, b, c, t, en, he, hv⟩, hbb⟩ := h
                obtain ⟨r1, r2, r3, r4, r5⟩ := hv hcode
                refine ⟨?_, hbb⟩
                rw [he, hcode, r1, r2, r3, r4, r5]
              clear C hcode
              generalize rt (s.data.toList.drop k) = RR at C2 HST hle hge
              obtain ⟨rc, kd, nm, tx, ln⟩ := RR
              simp only at C2 HST hle hge
              go_wp2_with (first
                | (go_at_call 25; refine C2.mono ?_; rintro e w2 ⟨rfl, hb2⟩; obtain ⟨hc2, hf2⟩ := oldCells hb2; have hz2 := hb2.size)
                | (at_builtin; refine append_own_tok rfl (.tmp 75) (.tmp 77) 22 rfl (w.heap.size + 1) Tryd.underlying22 info_tok _ _ _ _ done ⟨kd, k, nm, tx⟩ _ rfl ((ho.below hb2).below ((Below.refl _ _).alloc (Nat.le_refl _) _)) (w2.heap.size + 1) (by simp) rfl rfl (by omega) (by simp; omega) ?_; intro v3 w3 ho3 hb3 hz3))
              have fin : RI s (w.heap.size + 1) (w.alloc faultB) X v3 (.int .i64 ((k : Int) + (ln : Int))) w3 := by
                refine ⟨k + ln, f', done ++ [⟨kd, k, nm, tx⟩], hle, by go_num, ho3, by simp; omega, ?_, by simp at hz3; omega, by omega, HST⟩
                exact ((hb.trans (hb2.mono hz)).alloc (by omega) _).trans hb3
              go_roundw
              case rel => first | exact fin | ((repeat apply Exists.intro); exact ⟨fin, rfl⟩)
              case measure => simp [intOf]; omega
            · have HX2 := HR.out.fault (by rw [hl]; exact hlt) hmany hcode
              have HR2 : Hid (R = ([], (k : Int), (rt (s.data.toList.drop k)).code)) := by show _ = _; rw [HTF.out (by rw [HX2]; exact hcode), HX2]
              clear HX2 HR HTF HTT
              have C2 : Calls Tryd.prog 25 #[.string s, .int .i64 k] wr fun e w' => ∃ (a b c : Int) (t : ByteArray) (en : Int), e = .returned (.tuple #[.agg #[.int .i64 a, .int .i64 b, .int .i64 c, .string t], .int .i64 en, .int .i64 (rt (s.data.toList.drop k)).code]) ∧ Below wr.heap.size wr w' := by
                refine C.mono fun e w' h => ?_
                obtain ⟨⟨a, b, c, t, en, he, hv⟩, hbb⟩ := h
                exact ⟨a, b, c, t, en, he, hbb⟩
              clear C
              generalize (rt (s.data.toList.drop k)).code = rc at C2 HR2 hcode
              have hcode1 : (rc == 0) = false := by simpa using hcode
              have hcode2 : (rc != 0) = true := by simpa using hcode
              have hwz : w.heap.size < wr.heap.size := by omega
              go_wp2_with (first
                | (go_at_call 25; refine C2.mono ?_; rintro e w2 ⟨va, vb, vc, vt, ven, rfl, hb2⟩; have g0 := (oldCells hb2).1 w.heap.size 0 hwz; have g1 := (oldCells hb2).1 w.heap.size 1 hwz; have g2 := (oldCells hb2).2 w.heap.size 0 hwz; have g3 := (oldCells hb2).2 w.heap.size 1 hwz; have hz2 := hb2.size; have hwz2 : w.heap.size < w2.heap.size := by omega))
              refine bodyPost_ret (v := .tuple #[.slice none 0 0, .agg #[.int .i64 k, .int .i64 rc]]) (by simp [results, Tryd.results9, go_sem, c0, c1, g0, g1, hwz2]) rfl ⟨.slice none 0 0, by rw [HR2.out], by rw [HR2.out]; exact ownT_nil _ _, ?_⟩
              exact (((((Below.refl _ _).alloc (Nat.le_refl _) _).trans (hb.mono (by omega))).trans (hb2.mono (by omega))).setCell (Nat.le_refl _) _ |>.setCell (Nat.le_refl _) _).alloc (by simp; omega) _
    · have HX2 := HR.out.stop (by rw [hl]; omega)
      have HR2 : Hid (R = (done, 0, 0)) := by show _ = _; rw [HTT.out (by rw [HX2]), HX2]
      clear HX2 HR HTF HTT
      go_wp2
      refine bodyPost_ret (v := .tuple #[.slice ao done.length cv, .agg #[.int .i64 0, .int .i64 0]]) (by simp [results, Tryd.results9, go_sem, c0, c1]) rfl ⟨_, by rw [HR2.out], ?_, ?_⟩
      · rw [HR2.out]
        exact ownT_setCell (ownT_setCell ho (by simp) _) (by simp) _
      · exact ((((Below.refl _ _).alloc (Nat.le_refl _) _).trans (hb.mono (by omega))).setCell (Nat.le_refl _) _).setCell (Nat.le_refl _) _
end Go.Proofs.YthckmpjokabkcaaDoor
