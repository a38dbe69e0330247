/- Values: the reader's add, walked. -/
import Derived.Test.YtahcllncjpaijaaDoorVs5
import Derived.Deep.Cut
import Derived.Deep.CutRange
import Derived.Deep.DeepCutAuto
import Derived.Test.YtahcllncjpaijaaDoorVo2
import Derived.Test.YtahcllncjpaijaaDoorVd1
import Derived.Deep.RegionHeld3
import Derived.BigRegion
import Derived.Deep.RegionLaw
namespace Go.Proofs.YtahcllncjpaijaaDoor
open Go.RowKit

theorem po_of_some {w' : World} {a x : Nat} {m : List Atm} {e : Ending} (h : PO w' a (some (m, x)) e) : ∃ v, e = .returned (.tuple #[v, .int .i64 ((a + x : Nat) : Int), .bool true]) ∧ AS w' v m := by
  rcases h with ⟨m', x', v, h1, h2, h3⟩ | ⟨h, _⟩
  · injection h1 with h1
    injection h1 with h1 h4
    subst h1 h4
    exact ⟨v, h2, h3⟩
  · cases h
theorem po_of_none {w' : World} {a : Nat} {e : Ending} (h : PO w' a none e) : ∃ v y, e = .returned (.tuple #[v, .int .i64 y, .bool false]) := by
  rcases h with ⟨m', x', v, h1, _⟩ | ⟨_, h⟩
  · cases h1
  · exact h
/-- Where the list's loop stands. -/
structure LI (f : List UInt8 → Option (List Atm × Nat)) (s : ByteArray) (a : Nat) (R : Option (List Atm × Nat)) (E n : Nat) (out : List Atm) : Prop where
  lo : a + 1 ≤ E
  hi : E ≤ s.size
  ol : out.length ≤ E
  nl : n ≤ E
  eq : ∃ k, s.size < E + k ∧ R = rpL f k out n (s.data.toList.drop E) (E - a)
theorem LI.full {f : List UInt8 → Option (List Atm × Nat)} {s : ByteArray} {a : Nat} {R : Option (List Atm × Nat)} {E n : Nat} {out : List Atm} (h : LI f s a R E n out) (ho : ¬ out.length < 1024) : R = none := by
  obtain ⟨k, hk, e⟩ := h.eq
  have := h.hi
  obtain ⟨j, rfl⟩ : ∃ j, k = j + 1 := ⟨k - 1, by omega⟩
  rw [e, rpL, if_neg ho]
theorem LI.no {f : List UInt8 → Option (List Atm × Nat)} {s : ByteArray} {a : Nat} {R : Option (List Atm × Nat)} {E n : Nat} {out : List Atm} (h : LI f s a R E n out) (hf : f (s.data.toList.drop E) = none) : R = none := by
  obtain ⟨k, hk, e⟩ := h.eq
  have := h.hi
  obtain ⟨j, rfl⟩ : ∃ j, k = j + 1 := ⟨k - 1, by omega⟩
  rw [e, rpL, hf]
  split <;> rfl
theorem getD_at (s : ByteArray) (k : Nat) (h : k < s.size) : s.data.toList[k]? = some s[k] := by
  rw [List.getElem?_eq_getElem (by simpa using h)]; rfl
theorem LI.step {f : List UInt8 → Option (List Atm × Nat)} {s : ByteArray} {a : Nat} {R : Option (List Atm × Nat)} {E n : Nat} {out : List Atm} (h : LI f s a R E n out) (ho : out.length < 1024) {m : List Atm} {x : Nat} (hf : f (s.data.toList.drop E) = some (m, x)) (hl : LenOk f) :
    E + x ≤ s.size ∧ 1 ≤ x ∧ (out ++ m).length ≤ E + x ∧
    (∀ hk : E + x < s.size, s[E + x] = 93 → R = some (out ++ m ++ [⟨3, ((n + 1 : Nat) : Int), 0, ByteArray.empty⟩], E + x + 1 - a)) ∧
    ((∀ hk : E + x < s.size, s[E + x] ≠ 93 ∧ (s[E + x] ≠ 44 ∨ ∀ hk2 : E + x + 1 < s.size, s[E + x + 1] ≠ 32)) → R = none) ∧
    (∀ hk : E + x + 1 < s.size, s[E + x] = 44 → s[E + x + 1] = 32 → LI f s a R (E + x + 2) (n + 1) (out ++ m)) := by
  obtain ⟨l1, l2, l3, l4⟩ := hl _ m x hf
  obtain ⟨k, hk, e⟩ := h.eq
  have h1 := h.lo
  have h2 := h.hi
  have h3 := h.ol
  have h4 := h.nl
  obtain ⟨j, rfl⟩ : ∃ j, k = j + 1 := ⟨k - 1, by omega⟩
  have hsl : s.data.toList.length = s.size := by simp
  rw [List.length_drop, hsl] at l2
  rw [rpL, if_pos ho, hf] at e
  simp only [List.drop_drop] at e
  have hd : ∀ i, (s.data.toList.drop (E + x))[i]? = s.data.toList[E + x + i]? := fun i => List.getElem?_drop ..
  have hh : (s.data.toList.drop (E + x)).head? = s.data.toList[E + x]? := by rw [List.head?_eq_getElem?, hd]; rfl
  refine ⟨by omega, l1, by rw [List.length_append]; omega, fun hk h93 => ?_, fun hno => ?_, fun hk h44 h32 => ?_⟩
  · rw [if_pos (by rw [hh, getD_at s _ hk, h93])] at e
    rw [e, show E - a + x + 1 = E + x + 1 - a by omega]
  · by_cases hk0 : E + x < s.size
    · obtain ⟨q1, q2⟩ := hno hk0
      rw [if_neg (by rw [hh, getD_at s _ hk0]; simp [q1]), if_neg ?_] at e
      · exact e
      · intro ht
        have t0 : (s.data.toList.drop (E + x))[0]? = some 44 := by
          have : ((s.data.toList.drop (E + x)).take 2)[0]? = some 44 := by rw [ht]; rfl
          rwa [List.getElem?_take_of_lt (by omega)] at this
        have t1 : (s.data.toList.drop (E + x))[1]? = some 32 := by
          have : ((s.data.toList.drop (E + x)).take 2)[1]? = some 32 := by rw [ht]; rfl
          rwa [List.getElem?_take_of_lt (by omega)] at this
        rw [hd, Nat.add_zero, getD_at s _ hk0] at t0
        rw [hd] at t1
        have hk1 : E + x + 1 < s.size := by
          rcases Nat.lt_or_ge (E + x + 1) s.size with hlt | hge
          · exact hlt
          · rw [List.getElem?_eq_none (by rw [hsl]; exact hge)] at t1; cases t1
        rw [getD_at s _ hk1] at t1
        injection t0 with t0
        injection t1 with t1
        rcases q2 with q2 | q2
        · exact q2 t0
        · exact q2 hk1 t1
    · rw [List.drop_of_length_le (by rw [hsl]; omega), if_neg (by simp), if_neg (by simp)] at e
      exact e
  · have ht : (s.data.toList.drop (E + x)).take 2 = [44, 32] := by
      rw [drop_cons' s _ (by omega), drop_cons' s _ hk, h44, h32]
      rfl
    rw [if_neg (by rw [hh, getD_at s _ (by omega), h44]; simp), if_pos ht] at e
    refine ⟨by omega, by omega, by rw [List.length_append]; omega, by omega, j, by omega, ?_⟩
    rw [e, show E - a + x + 2 = E + x + 2 - a by omega]
    rfl
theorem LI.stepP {f : List UInt8 → Option (List Atm × Nat)} {s : ByteArray} {a : Nat} {R : Option (List Atm × Nat)} {E n : Nat} {out : List Atm} (h : LI f s a R E n out) (ho : out.length < 1024) {m : List Atm} {x : Nat} (hf : f (s.data.toList.drop E) = some (m, x)) (hl : LenOk f) {P : Nat} (hP : P = E + x) :
    P ≤ s.size ∧ E < P ∧ (out ++ m).length ≤ P ∧
    (∀ hk : P < s.size, s[P] = 93 → R = some (out ++ m ++ [⟨3, ((n + 1 : Nat) : Int), 0, ByteArray.empty⟩], P + 1 - a)) ∧
    ((∀ hk : P < s.size, s[P] ≠ 93 ∧ (s[P] ≠ 44 ∨ ∀ hk2 : P + 1 < s.size, s[P + 1] ≠ 32)) → R = none) ∧
    (∀ (hk0 : P < s.size) (hk : P + 1 < s.size), s[P] = 44 → s[P + 1] = 32 → LI f s a R (P + 2) (n + 1) (out ++ m)) := by
  subst hP
  obtain ⟨s1, s2, s3, s4, s5, s6⟩ := h.step ho hf hl
  exact ⟨s1, by omega, s3, s4, s5, fun _ => s6⟩
set_option maxHeartbeats 16000000 in
set_option maxRecDepth 100000 in
theorem rparse_list (s : ByteArray) (a deep d : Nat) (w : World) (hs : s.size ≤ 100000) (ha : a < s.size) (hd : deep + d = 32) (hc : (s[a].toNat : Int) = 91)
    (IH : ∀ (b : Nat) (w' : World), b ≤ s.size → Calls Tryd.prog 35 #[.string s, .int .i64 b, .int .i64 ((deep : Int) + 1)] w' fun e w'' => PO w'' b (rpV d (s.data.toList.drop b)) e ∧ Below w'.heap.size w' w'') :
    Calls Tryd.prog 35 #[.string s, .int .i64 a, .int .i64 deep] w fun e w' => PO w' a (rpV (d + 1) (s.data.toList.drop a)) e ∧ Below w.heap.size w w' := by
  have hsl : s.data.toList.length = s.size := by simp
  have hcons := drop_cons' s a ha
  have hc' : s[a] = 91 := u8_of (n := 91) (by omega) hc
  have hR : rpV (d + 1) (s.data.toList.drop a) = if (s.data.toList.drop (a + 1)).head? = some 93 then some ([⟨3, 0, 0, ByteArray.empty⟩], 2) else rpL (rpV d) ((s.data.toList.drop a).length + 1) [] 0 (s.data.toList.drop (a + 1)) 1 := by
    rw [rpV, if_neg (by rw [hcons]; simp), if_neg (by rw [hcons, hc']; simp), if_pos (by rw [hcons, hc']; rfl), List.drop_drop]
  have hh : (s.data.toList.drop (a + 1)).head? = s.data.toList[a + 1]? := by rw [List.head?_eq_getElem?, List.getElem?_drop]
  by_cases h93 : ∃ h : a + 1 < s.size, (s[a + 1].toNat : Int) = 93
  · obtain ⟨h1, h93⟩ := h93
    have h93' : s[a + 1] = 93 := u8_of (n := 93) (by omega) h93
    have HY : Hid (rpV (d + 1) (s.data.toList.drop a) = some ([⟨3, 0, 0, ByteArray.empty⟩], 2)) := by
      show _ = _
      rw [hR, if_pos (by rw [hh, getD_at s _ h1, h93'])]
    have h93b : ((s[a + 1].toNat : Int) == 93) = true := by simpa using h93
    generalize rpV (d + 1) (s.data.toList.drop a) = R at *
    clear hR hcons hc' hh IH h93' hsl
    go_enter Tryd.func35, Tryd.ntmps35
    go_wp2_with fail
    have hz : w.heap.size + 1 = (w.alloc (.cells #[] 56)).heap.size := by simp
    refine bodyPost_ret (v := .tuple #[.slice (some ⟨w.heap.size + 1, 0, none⟩) 1 1, .int .i64 ((a : Int) + 1 + 1), .bool true]) (by simp [results, Tryd.results35, go_sem]) rfl ⟨po_some HY.out (by omega) ?_, ((Below.refl _ _).alloc (Nat.le_refl _) _).alloc (by simp) _⟩
    rw [hz]
    exact one_as _ ⟨3, 0, 0, ByteArray.empty⟩
  · have L0 : Hid (LI (rpV d) s a (rpV (d + 1) (s.data.toList.drop a)) (a + 1) 0 []) := by
      refine ⟨Nat.le_refl _, by omega, by simp, by omega, (s.data.toList.drop a).length + 1, by rw [List.length_drop, hsl]; omega, ?_⟩
      rw [hR, if_neg ?_, show a + 1 - a = 1 by omega]
      rw [hh]
      intro e
      have h1 : a + 1 < s.size := by
        rcases Nat.lt_or_ge (a + 1) s.size with hlt | hge
        · exact hlt
        · rw [List.getElem?_eq_none (by rw [hsl]; exact hge)] at e; cases e
      rw [getD_at s _ h1] at e
      injection e with e
      exact h93 ⟨h1, by rw [e]; rfl⟩
    have OW : Hid (OwnG KA (w.alloc (.cells #[] 56)) w.heap.size (.slice (some ⟨w.heap.size, 0, none⟩) 0 0) []) := OwnG.empty KA w
    have BW : Hid (Below w.heap.size w (w.alloc (.cells #[] 56))) := (Below.refl _ _).alloc (Nat.le_refl _) _
    have HI : Hid (∀ (b : Nat) (w' : World), b ≤ s.size → Calls Tryd.prog 35 #[.string s, .int .i64 b, .int .i64 ((deep : Int) + 1)] w' fun e w'' => PO w'' b (rpV d (s.data.toList.drop b)) e ∧ Below w'.heap.size w' w'') := IH
    generalize rpV (d + 1) (s.data.toList.drop a) = R at *
    have hcase : ¬ a + 1 < s.size ∨ (∃ h : a + 1 < s.size, ((s[a + 1].toNat : Int) == 93) = false) := by
      rcases Nat.lt_or_ge (a + 1) s.size with hlt | hge
      · exact Or.inr ⟨hlt, by simpa using fun e => h93 ⟨hlt, e⟩⟩
      · exact Or.inl (by omega)
    have HLB : Hid (LenOk (rpV d)) := rpV_len d
    clear hR hcons hc' hh IH h93 hsl
    go_enter Tryd.func35, Tryd.ntmps35
    go_upto_region 17 with fail
    generalize hW : World.alloc _ _ = W at *
    clear hW
    rcases hcase with hno | ⟨h1, h93⟩
    all_goals
      go_wp2_with fail
      go_loopw [10, 13, 14] (fun v10 v13 v14 wr => ∃ (E n c : Nat) (q : Option Addr) (out : List Atm) (wk : World), v10 = .int .i64 E ∧ v13 = .slice q out.length c ∧ v14 = .int .i64 n ∧ wk = wr ∧ E ≤ s.size ∧ n ≤ 100000 ∧ Hid (LI (rpV d) s a R E n out) ∧ Hid (OwnG KA wk w.heap.size (.slice q out.length c) out) ∧ Hid (Below w.heap.size w wk)) (fun v10 _ _ _ => s.size + 1 - (intOf v10).toNat)
      case atStart => exact ⟨a + 1, 0, 0, _, [], _, by go_num, rfl, rfl, rfl, by omega, by omega, L0, OW, BW⟩
      case round =>
        obtain ⟨E, n, c, q, out, wr, rfl, rfl, rfl, rfl, hE, hn, HL, HO, HB⟩ := hrel
        clear L0 OW BW
        by_cases ho : out.length < 1024
        · cases hf : rpV d (s.data.toList.drop E) with
          | none =>
            have HN : Hid (R = none) := HL.out.no hf
            have CA : Hid (∀ w', Calls Tryd.prog 35 #[.string s, .int .i64 E, .int .i64 ((deep : Int) + 1)] w' fun e w'' => PO w'' E none e ∧ Below w'.heap.size w' w'') := fun w' => by have := HI.out E w' hE; rw [hf] at this; exact this
            clear HI HL HO hf HLB
            go_wp2_with (go_at_call 35; refine (CA.out _).mono ?_; rintro e w1 ⟨hp, hb⟩; obtain ⟨v1, y1, rfl⟩ := po_of_none hp; have B1 : Hid (Below w.heap.size w w1) := HB.out.trans (hb.mono HB.out.size); clear hp hb)
            exact bodyPost_ret (v := .tuple #[.slice none 0 0, .int .i64 0, .bool false]) (by simp [results, Tryd.results35, go_sem]) rfl ⟨po_none HN.out _ _, B1.out⟩
          | some mx =>
            obtain ⟨m, x⟩ := mx
            obtain ⟨P, hP⟩ : ∃ P, P = E + x := ⟨_, rfl⟩
            obtain ⟨s1, hEP, s3, s4, s5, s6⟩ := HL.out.stepP ho hf HLB.out hP
            have CA : Hid (∀ w', Calls Tryd.prog 35 #[.string s, .int .i64 E, .int .i64 ((deep : Int) + 1)] w' fun e w'' => PO w'' E (some (m, x)) e ∧ Below w'.heap.size w' w'') := fun w' => by have := HI.out E w' hE; rw [hf] at this; exact this
            have LS : Hid ((out.length + m.length) * KA.B ≤ 140737488355328) := by show _ * 40 ≤ _; rw [List.length_append] at s3; omega
            have hna := HL.out.lo
            have L2 : Hid (((out ++ m).length + 1) * KA.B ≤ 140737488355328) := by show (_ + 1) * 40 ≤ _; omega
            have S4 : Hid (∀ hk : P < s.size, s[P] = 93 → R = some (out ++ m ++ [⟨3, ((n + 1 : Nat) : Int), 0, ByteArray.empty⟩], P + 1 - a)) := s4
            have S5 : Hid ((∀ hk : P < s.size, s[P] ≠ 93 ∧ (s[P] ≠ 44 ∨ ∀ hk2 : P + 1 < s.size, s[P + 1] ≠ 32)) → R = none) := s5
            have S6 : Hid _ := s6
            have HP : Hid (P = E + x) := hP
            clear HI HL hf HLB s4 s5 s6 hP
            go_upto_region 25 with (first
              | (go_at_call 35; refine (CA.out _).mono ?_; rintro e w1 ⟨hp, hb⟩; obtain ⟨v1, rfl, hv1⟩ := po_of_some hp; rw [← HP.out]; have B1 : Hid (Below w.heap.size w w1) := HB.out.trans (hb.mono HB.out.size); have O1 : Hid (OwnG KA w1 w.heap.size (.slice q out.length c) out) := HO.out.below hb; have V1 : Hid (AS w1 v1 m) := hv1; clear hp hb hv1 HO HB CA)
              | (at_builtin; refine append_gs KA KA_ok rfl (.tmp 107) (.tmp 108) 25 rfl w.heap.size Tryd.underlying25 w1 (.slice q out.length c) v1 out m rfl rfl O1.out V1.out LS.out B1.out.size ?_; intro v2 w2 ho2 hb2 _; have O2 : Hid (OwnG KA w2 w.heap.size v2 (out ++ m)) := ho2; have B2 : Hid (Below w.heap.size w w2) := B1.out.trans hb2; clear ho2 hb2 O1 B1 V1))
            all_goals
              obtain ⟨q2, c2, hv2, _⟩ := O2.out.form
              subst hv2
              clear LS HP s3
              by_cases hk : P < s.size
              · by_cases h93 : (s[P].toNat : Int) = 93
                · have HY : Hid _ := S4.out hk (u8_of (n := 93) (by omega) h93)
                  have h93b : ((s[P].toNat : Int) == 93) = true := by simpa using h93
                  clear S4 S5 S6
                  go_wp2_with (at_builtin; refine append_g KA KA_ok rfl (.tmp 122) (.tmp 125) 25 rfl w.heap.size Tryd.underlying25 _ _ _ (.slice q2 (out ++ m).length c2) (out ++ m) ⟨3, ((n + 1 : Nat) : Int), 0, ByteArray.empty⟩ _ rfl O2.out _ rfl rfl rfl L2.out B2.out.size ?_; intro g8 c8 w8 o8 b8 _ _; have A8 : Hid _ := OwnG.gs KA_ok.len o8; have B8 : Hid (Below w.heap.size w w8) := B2.out.trans b8; clear o8 b8)
                  exact bodyPost_ret (v := .tuple #[.slice (some ⟨g8, 0, none⟩) ((out ++ m).length + 1) c8, .int .i64 ((P : Int) + 1), .bool true]) (by simp [results, Tryd.results35, go_sem]) rfl ⟨po_some HY.out (by omega) A8.out, B8.out⟩
                · have n93 : ¬ s[P] = 93 := fun e => h93 (by rw [e]; rfl)
                  have h93b : ((s[P].toNat : Int) == 93) = false := by simpa using h93
                  by_cases hk2 : P + 1 < s.size
                  · by_cases h44 : (s[P].toNat : Int) = 44
                    · have h44b : ((s[P].toNat : Int) != 44) = false := by simpa using h44
                      by_cases h32 : (s[P + 1].toNat : Int) = 32
                      · have h32b : ((s[P + 1].toNat : Int) != 32) = false := by simpa using h32
                        have HY : Hid _ := S6.out hk hk2 (u8_of (n := 44) (by omega) h44) (u8_of (n := 32) (by omega) h32)
                        clear S4 S5 S6 n93
                        go_wp2_with fail
                        go_roundw
                        case rel => exact ⟨P + 2, n + 1, c2, q2, out ++ m, _, by go_num, by rw [List.length_append], by go_num, rfl, by omega, by have := HY.out.nl; have := HY.out.hi; omega, HY, O2, B2⟩
                        case measure => simp [intOf]; omega
                      · have h32b : ((s[P + 1].toNat : Int) != 32) = true := by simpa using h32
                        have HY : Hid (R = none) := S5.out (fun _ => ⟨n93, Or.inr (fun _ e => h32 (by rw [e]; rfl))⟩)
                        clear S4 S5 S6 n93
                        go_wp2_with fail
                        exact bodyPost_ret (v := .tuple #[.slice none 0 0, .int .i64 0, .bool false]) (by simp [results, Tryd.results35, go_sem]) rfl ⟨po_none HY.out _ _, B2.out⟩
                    · have h44b : ((s[P].toNat : Int) != 44) = true := by simpa using h44
                      have HY : Hid (R = none) := S5.out (fun _ => ⟨n93, Or.inl (fun e => h44 (by rw [e]; rfl))⟩)
                      clear S4 S5 S6 n93
                      go_wp2_with fail
                      exact bodyPost_ret (v := .tuple #[.slice none 0 0, .int .i64 0, .bool false]) (by simp [results, Tryd.results35, go_sem]) rfl ⟨po_none HY.out _ _, B2.out⟩
                  · have HY : Hid (R = none) := S5.out (fun _ => ⟨n93, Or.inr (fun h => absurd h hk2)⟩)
                    clear S4 S5 S6 n93
                    go_wp2_with fail
                    exact bodyPost_ret (v := .tuple #[.slice none 0 0, .int .i64 0, .bool false]) (by simp [results, Tryd.results35, go_sem]) rfl ⟨po_none HY.out _ _, B2.out⟩
              · have HY : Hid (R = none) := S5.out (fun h => absurd h hk)
                clear S4 S5 S6
                go_wp2_with fail
                exact bodyPost_ret (v := .tuple #[.slice none 0 0, .int .i64 0, .bool false]) (by simp [results, Tryd.results35, go_sem]) rfl ⟨po_none HY.out _ _, B2.out⟩
        · have HY : Hid (R = none) := HL.out.full ho
          clear HL HO HI HLB
          go_wp2_with fail
          exact bodyPost_ret (v := .tuple #[.slice none 0 0, .int .i64 0, .bool false]) (by simp [results, Tryd.results35, go_sem]) rfl ⟨po_none HY.out _ _, HB.out⟩
end Go.Proofs.YtahcllncjpaijaaDoor
namespace Go.Proofs.YtahcllncjpaijaaDoor
open Go.RowKit

theorem OwnG.ty {α : Type} {K : RK α} {w : World} {base : Nat} {v : Value} {l : List α} (h : OwnG K w base v l) {g : Nat} (hg : v.ownBlock = some g) : ∃ cur, w.heap[g]? = some (.cells cur K.ty) := by
  rcases h.2 with ⟨e, _⟩ | ⟨g', cap, cur, e, _, e3, _⟩
  · rw [e] at hg; cases hg
  · rw [e] at hg
    injection hg with hg
    have e9 : g' = g := hg
    subst e9
    exact ⟨cur, e3⟩
theorem OwnG.apart {α β : Type} {K : RK α} {J : RK β} {w : World} {base bas' : Nat} {v u : Value} {l : List α} {m : List β} (h : OwnG K w base v l) (k : OwnG J w bas' u m) (ht : K.ty ≠ J.ty) {g : Nat} (hg : u.ownBlock = some g) : v.ownBlock ≠ some g := fun e => by
  obtain ⟨c1, h1⟩ := h.ty e
  obtain ⟨c2, h2⟩ := k.ty hg
  rw [h1] at h2
  injection h2 with h2
  injection h2 with _ h2 _
  exact ht h2
theorem OwnG.notat {α : Type} {K : RK α} {w : World} {base B : Nat} {v : Value} {l : List α} {arr : Array Value} {t : TypeId} (h : OwnG K w base v l) (hB : w.heap[B]? = some (.cells arr t)) (ht : K.ty ≠ t) : v.ownBlock ≠ some B := fun e => by
  obtain ⟨c1, h1⟩ := h.ty e
  rw [h1] at hB
  injection hB with h2
  injection h2 with _ h2 _
  exact ht h2
/-- The reader: the atoms, how many members each open list has (the innermost last), the next number's sign. -/
structure RD (w : World) (base B : Nat) (v m : Value) (l : List Atm) (R : List Int) (sg : Int) : Prop where
  hp : w.heap[B]? = some (.cells #[v, m, .int .i64 sg] 94)
  bb : base ≤ B
  oa : OwnG KA w base v l
  oi : OwnG KI w base m R.reverse
theorem RD.lt {w : World} {base B : Nat} {v m : Value} {l : List Atm} {R : List Int} {sg : Int} (h : RD w base B v m l R sg) : B < w.heap.size := (Array.getElem?_eq_some_iff.1 h.hp).1
theorem RD.c0 {w : World} {base B : Nat} {v m : Value} {l : List Atm} {R : List Int} {sg : Int} (h : RD w base B v m l R sg) : w.cell? ⟨B, 0, none⟩ = some v := cell_of_row _ _ _ _ _ _ h.hp
theorem RD.c1 {w : World} {base B : Nat} {v m : Value} {l : List Atm} {R : List Int} {sg : Int} (h : RD w base B v m l R sg) : w.cell? ⟨B, 1, none⟩ = some m := cell_of_row _ _ _ _ _ _ h.hp
theorem RD.c2 {w : World} {base B : Nat} {v m : Value} {l : List Atm} {R : List Int} {sg : Int} (h : RD w base B v m l R sg) : w.cell? ⟨B, 2, none⟩ = some (.int .i64 sg) := cell_of_row _ _ _ _ _ _ h.hp
theorem RD.fz {w : World} {base B : Nat} {v m : Value} {l : List Atm} {R : List Int} {sg : Int} (h : RD w base B v m l R sg) (o : Nat) : w.frozen? ⟨B, o, none⟩ = false := by simp [World.frozen?, h.hp]
theorem RD.below {w w' : World} {base B : Nat} {v m : Value} {l : List Atm} {R : List Int} {sg : Int} (h : RD w base B v m l R sg) (b : Below w.heap.size w w') : RD w' base B v m l R sg :=
  ⟨(b.block B h.lt).trans h.hp, h.bb, h.oa.below b, h.oi.below b⟩
/-- The atoms laid anew. -/
theorem RD.put0 {w w1 : World} {base B : Nat} {v v1 m : Value} {l l1 : List Atm} {R : List Int} {sg : Int} (h : RD w base B v m l R sg) (k : ∀ j, j < w.heap.size → some j ≠ v.ownBlock → w1.heap[j]? = w.heap[j]?) (ho : OwnG KA w1 base v1 l1) (b : Below base w w1) :
    RD (w1.setCell ⟨B, 0, none⟩ v1) base B v1 m l1 R sg ∧ Below base w (w1.setCell ⟨B, 0, none⟩ v1) ∧ w1.cell? ⟨B, 0, none⟩ = some v ∧ w1.frozen? ⟨B, 0, none⟩ = false := by
  have hb : w1.heap[B]? = some (.cells #[v, m, .int .i64 sg] 94) := by
    rw [k B h.lt (fun e => h.oa.notat h.hp (by decide) e.symm)]; exact h.hp
  have oi1 : OwnG KI w1 base m R.reverse := h.oi.far (fun g hg => k g (h.oi.lt hg).2 (fun e => h.oa.apart h.oi (by decide) hg e.symm))
  refine ⟨⟨?_, h.bb, ho.far (fun g hg => Below.heap_setCell _ _ _ _ (fun e => ho.notat hb (by decide) (by rw [hg, e]))), oi1.far (fun g hg => Below.heap_setCell _ _ _ _ (fun e => oi1.notat hb (by decide) (by rw [hg, e])))⟩, b.setCell h.bb _, cell_of_row _ _ _ _ _ _ hb, by simp [World.frozen?, hb]⟩
  have := heap_setCell_same w1 B 0 _ _ v1 hb
  simpa using this
/-- The counts laid anew. -/
theorem RD.put1 {w w1 : World} {base B : Nat} {v m1 m : Value} {l : List Atm} {R R1 : List Int} {sg : Int} (h : RD w base B v m l R sg) (k : ∀ j, j < w.heap.size → some j ≠ m.ownBlock → w1.heap[j]? = w.heap[j]?) (ho : OwnG KI w1 base m1 R1.reverse) (b : Below base w w1) :
    RD (w1.setCell ⟨B, 1, none⟩ m1) base B v m1 l R1 sg ∧ Below base w (w1.setCell ⟨B, 1, none⟩ m1) ∧ w1.cell? ⟨B, 1, none⟩ = some m ∧ w1.frozen? ⟨B, 1, none⟩ = false := by
  have hb : w1.heap[B]? = some (.cells #[v, m, .int .i64 sg] 94) := by
    rw [k B h.lt (fun e => h.oi.notat h.hp (by decide) e.symm)]; exact h.hp
  have oa1 : OwnG KA w1 base v l := h.oa.far (fun g hg => k g (h.oa.lt hg).2 (fun e => h.oi.apart h.oa (by decide) hg e.symm))
  refine ⟨⟨?_, h.bb, oa1.far (fun g hg => Below.heap_setCell _ _ _ _ (fun e => oa1.notat hb (by decide) (by rw [hg, e]))), ho.far (fun g hg => Below.heap_setCell _ _ _ _ (fun e => ho.notat hb (by decide) (by rw [hg, e])))⟩, b.setCell h.bb _, cell_of_row _ _ _ _ _ _ hb, by simp [World.frozen?, hb]⟩
  have := heap_setCell_same w1 B 1 _ _ m1 hb
  simpa using this
theorem RD.put2 {w : World} {base B : Nat} {v m : Value} {l : List Atm} {R : List Int} {sg : Int} (h : RD w base B v m l R sg) (s1 : Int) : RD (w.setCell ⟨B, 2, none⟩ (.int .i64 s1)) base B v m l R s1 := by
  refine ⟨?_, h.bb, h.oa.far (fun g hg => Below.heap_setCell _ _ _ _ (fun e => h.oa.notat h.hp (by decide) (by rw [hg, e]))), h.oi.far (fun g hg => Below.heap_setCell _ _ _ _ (fun e => h.oi.notat h.hp (by decide) (by rw [hg, e])))⟩
  have := heap_setCell_same w B 2 _ _ (.int .i64 s1) h.hp
  simpa using this
/-- Where the counts lie. -/
theorem RD.mem {w : World} {base B : Nat} {v m : Value} {l : List Atm} {x : Int} {r : List Int} {sg : Int} (h : RD w base B v m l (x :: r) sg) : ∃ g c, m = .slice (some ⟨g, 0, none⟩) (r.length + 1) c ∧ r.length + 1 ≤ c ∧ w.cell? ⟨g, r.length, none⟩ = some (.int .i64 x) ∧ w.frozen? ⟨g, r.length, none⟩ = false := by
  obtain ⟨g, c, e, hc⟩ := h.oi.place (by
    rcases h.oi.2 with ⟨_, e⟩ | ⟨g, cap, cur, e, _⟩
    · simp at e
    · rw [e]; simp [Value.ownBlock])
  have hl : (x :: r).reverse.length = r.length + 1 := by simp
  rw [hl] at e hc
  refine ⟨g, c, e, hc, ?_, own_frozen (by have := h.oi; rw [e] at this; exact this) _⟩
  have h1 := own_int (by have := h.oi; rw [e] at this; exact this) hl.symm (j := r.length) (by simp)
  rw [h1]
  simp [List.getD]
/-- The innermost count is one more. -/
theorem RD.inc {w : World} {base B g n c : Nat} {v : Value} {l : List Atm} {x : Int} {r : List Int} {sg : Int} (h : RD w base B v (.slice (some ⟨g, 0, none⟩) n c) l (x :: r) sg) : RD (w.setCell ⟨g, r.length, none⟩ (.int .i64 (x + 1))) base B v (.slice (some ⟨g, 0, none⟩) n c) l (bump (x :: r)) sg ∧ Below base w (w.setCell ⟨g, r.length, none⟩ (.int .i64 (x + 1))) := by
  have hne : B ≠ g := fun e => h.oi.notat h.hp (by decide) (by rw [e]; rfl)
  have hs := h.oi.set1 rfl KI_ok.len (k := r.length) (x + 1) (.int .i64 (x + 1)) rfl
  have e : (x :: r).reverse.set r.length (x + 1) = (bump (x :: r)).reverse := by
    rw [bump, List.reverse_cons, List.reverse_cons, List.set_append_right _ _ (by simp)]
    simp
  rw [e] at hs
  exact ⟨⟨(Below.heap_setCell _ _ _ _ hne).trans h.hp, h.bb, h.oa.far (fun g' hg => Below.heap_setCell _ _ _ _ (fun e => h.oi.apart h.oa (by decide) hg (by rw [e]; rfl))), hs⟩, (Below.refl _ _).setCell (show base ≤ g from (h.oi.lt rfl).1) _⟩
end Go.Proofs.YtahcllncjpaijaaDoor
namespace Go.Proofs.YtahcllncjpaijaaDoor
open Go.RowKit

set_option maxHeartbeats 4000000 in
set_option maxRecDepth 100000 in
theorem radd_any (w : World) (base B : Nat) (v m : Value) (l : List Atm) (x : Int) (r : List Int) (sg : Int) (k n i : Int) (tx : ByteArray) (h : RD w base B v m l (x :: r) sg) (hl : l.length ≤ 1000000) (hr : r.length ≤ 1000000) (hx : 0 ≤ x ∧ x ≤ 1000000) :
    Calls Tryd.prog 63 #[.pointer (some ⟨B, 0, none⟩), .agg #[.int .i64 k, .int .i64 n, .int .i64 i, .string tx]] w fun e w' => e = .returned (.tuple #[]) ∧ ∃ v' m', RD w' base B v' m' (l ++ [⟨k, n, i, tx⟩]) (bump (x :: r)) sg ∧ Below base w w' := by
  obtain ⟨p, cv, hv, _⟩ := h.oa.form
  subst hv
  obtain ⟨g, c, hm, hc, cg, fg⟩ := h.mem
  subst hm
  have HB : Hid (base ≤ w.heap.size) := by have := h.lt; have := h.bb; show _ ≤ _; omega
  have LS : Hid ((l.length + 1) * KA.B ≤ 140737488355328) := by show (_ + 1) * 40 ≤ _; omega
  have H1 : Hid (RD w base B (.slice p l.length cv) (.slice (some ⟨g, 0, none⟩) (r.length + 1) c) l (x :: r) sg) := h
  have hw := h.lt
  have NX : Hid (∀ w0 w1 w8 g8 c8, Below w.heap.size w w0 → Below w0.heap.size w0 w1 → OwnG KA w8 base (.slice (some ⟨g8, 0, none⟩) (l.length + 1) c8) (l ++ [⟨k, n, i, tx⟩]) → Below base w1 w8 → (∀ j, j < w1.heap.size → some j ≠ (Value.slice p l.length cv).ownBlock → w8.heap[j]? = w1.heap[j]?) → RD (w8.setCell ⟨B, 0, none⟩ (.slice (some ⟨g8, 0, none⟩) (l.length + 1) c8)) base B (.slice (some ⟨g8, 0, none⟩) (l.length + 1) c8) (.slice (some ⟨g, 0, none⟩) (r.length + 1) c) (l ++ [⟨k, n, i, tx⟩]) (x :: r) sg ∧ Below base w (w8.setCell ⟨B, 0, none⟩ (.slice (some ⟨g8, 0, none⟩) (l.length + 1) c8)) ∧ w8.cell? ⟨B, 0, none⟩ = some (.slice p l.length cv) ∧ w8.frozen? ⟨B, 0, none⟩ = false) := fun w0 w1 w8 g8 c8 b0 b1 o8 b8 k8 => by
    have b01 : Below w.heap.size w w1 := b0.trans (b1.mono b0.size)
    have h1 := h.below b01
    obtain ⟨q1, q2, q3, q4⟩ := h1.put0 k8 o8 b8
    exact ⟨q1, (b01.mono HB.out).trans q2, q3, q4⟩
  have c0 := h.c0
  have HO : Hid (∀ w0, Below w.heap.size w w0 → w0.cell? ⟨B, 0, none⟩ = some (.slice p l.length cv) ∧ OwnG KA w0 base (.slice p l.length cv) l) := fun w0 b => ⟨(h.below b).c0, (h.below b).oa⟩
  have NB : Hid (∀ w1 w8 : World, w.heap.size < w1.heap.size → (∀ j, j < w1.heap.size → some j ≠ (Value.slice p l.length cv).ownBlock → w8.heap[j]? = w1.heap[j]?) → ∀ j, w8.cell? ⟨w.heap.size, j, none⟩ = w1.cell? ⟨w.heap.size, j, none⟩) := fun w1 w8 hz k8 j => World.cell?_of_block (k8 _ hz (fun e => Nat.lt_irrefl _ (h.oa.lt e.symm).2))
  clear h cg fg
  go_enter Tryd.func63, Tryd.ntmps63
  go_upto_region 1 with fail
  have BA : Hid (Below w.heap.size w (w.alloc (.cells #[.int .i64 k, .int .i64 n, .int .i64 i, .string tx] 56))) := (Below.refl _ _).alloc (Nat.le_refl _) _
  have X : ∀ j, (w.alloc (.cells #[.int .i64 k, .int .i64 n, .int .i64 i, .string tx] 56)).cell? ⟨w.heap.size, j, none⟩ = (#[.int .i64 k, .int .i64 n, .int .i64 i, .string tx] : Array Value)[j]? := fun j => cell_of_row _ _ _ _ _ _ (heap_alloc_new _ _)
  generalize hW : World.alloc _ _ = W at *
  have y0 : W.cell? ⟨w.heap.size, 0, none⟩ = some (.int .i64 k) := X 0
  have y1 : W.cell? ⟨w.heap.size, 1, none⟩ = some (.int .i64 n) := X 1
  have y2 : W.cell? ⟨w.heap.size, 2, none⟩ = some (.int .i64 i) := X 2
  have y3 : W.cell? ⟨w.heap.size, 3, none⟩ = some (.string tx) := X 3
  have c0W := (HO.out W BA.out).1
  have OW : Hid (OwnG KA W base (.slice p l.length cv) l) := (HO.out W BA.out).2
  have HZ : Hid (W.heap.size = w.heap.size + 1) := by show _ = _; rw [← hW]; simp
  have BZ : Hid (base ≤ W.heap.size) := by show _ ≤ _; have := HB.out; have := HZ.out; omega
  have hBW : B < W.heap.size := by have := HZ.out; omega
  have hnW := World.new_ne W ⟨B, 0, none⟩ c0W
  clear hW X c0 HO
  have hBb : B ≠ w.heap.size := by omega
  generalize w.heap.size = bb at *
  go_region_law ((refine step_append_g KA KA_ok (by rfl) (.tmp 8) (.tmp 10) 25 (by rfl) base Tryd.underlying25 _ _ _ _ (by first | exact heap_alloc_new _ _) (.slice p l.length cv) l ⟨k, n, i, tx⟩ _ (by rfl) (OwnG.below OW.out (by first | exact (Below.refl _ _).alloc (Nat.le_refl _) _ | exact ((Below.refl _ _).drew).alloc (Nat.le_refl _) _)) (by rfl) (by rfl) LS.out (by first | (simp; exact BZ.out) | (have := BZ.out; simp; omega)) ?_; intro g8 c8 w8 o8 b8 k8 q8; obtain ⟨n1, n2, n3, n4⟩ := NX.out _ _ w8 g8 c8 BA.out (by first | exact (Below.refl _ _).alloc (Nat.le_refl _) _ | exact ((Below.refl _ _).drew).alloc (Nat.le_refl _) _) o8 b8 k8; have N1 : Hid _ := n1; have N2 : Hid _ := n2; clear n1 n2 o8 b8 q8 k8))
  all_goals
    clear y0 y1 y2 y3 c0W hnW NX OW BZ BA
    have cc1 := N1.out.c1
    obtain ⟨g', c', e', _, cg, fg⟩ := N1.out.mem
    injection e' with e1 e2 e3
    injection e1 with e1
    injection e1 with e1 _ _
    subst e1 e3
    have hR : Hid _ := N1.out.inc
    generalize hV : World.setCell _ _ _ = V at *
    go_wp2
    go_region
    go_end0
    exact ⟨rfl, _, _, hR.out.1.below (Below.refl _ _).drew, (N2.out.trans hR.out.2).drew⟩
end Go.Proofs.YtahcllncjpaijaaDoor
