/- Values: any two held against each other (SameValue). -/
import Derived.Test.YtahcllncjpaijaaDoorPlain2
import Derived.Test.YtahcllncjpaijaaDoorVp2
import Derived.Test.YtahcllncjpaijaaDoorVd1
import Derived.Test.YtahcllncjpaijaaDoorVc1
namespace Go.Proofs.YtahcllncjpaijaaDoor
open Go.RowKit

theorem hid3 {p : Prop} (h : p) : Hid p := h
theorem dpVL_mem {u : Vt} {l : List Vt} (h : u ∈ l) : dpV u ≤ dpVL l := (dpVL_le l (dpVL l)).1 (Nat.le_refl _) u h
theorem len_le_szVL (ps : List Vt) : ps.length ≤ szVL ps := by
  induction ps with
  | nil => simp
  | cons t r ih => have := szV_pos t; rw [List.length_cons, szVL_cons]; omega
theorem AT_tr {t : Vt} (h : RT t) : AT (flV t) := by
  intro c hc
  have := flV_atB t h.wf c hc
  obtain ⟨k, n, i, tx⟩ := c
  have hb := atB_def k n i tx ▸ this
  show tx.size ≤ maxLen
  unfold maxLen
  split at hb
  · simp only [Bool.and_eq_true, decide_eq_true_eq] at hb; omega
  · split at hb
    · simp only [Bool.and_eq_true, decide_eq_true_eq] at hb; omega
    · split at hb
      · simp only [Bool.and_eq_true, decide_eq_true_eq] at hb; omega
      · cases hb
mutual
theorem prV_len : ∀ (t : Vt), wfV t → (prV t).length + 2 ≤ 20000 * szV t
  | .nd k i tx ps, h => by
    rw [wfV] at h
    have hb := atB_is h.1
    have hl := prVL_len ps h.2
    rw [prV, szV_nd]
    split
    · rename_i h1
      have hi : -9007199254740992 ≤ i ∧ i ≤ 9007199254740992 := by rcases hb with ⟨_, e, e'⟩ | ⟨e, _⟩ | e <;> omega
      have := Lib.itoa_length_le i (by omega) (by omega)
      omega
    · split
      · rename_i h1 h2
        have ht : tx.size ≤ 4096 := by rcases hb with ⟨e, _⟩ | ⟨_, e⟩ | e <;> omega
        have := qBs_len tx.data.toList
        have hs : tx.data.toList.length = tx.size := by simp
        unfold quo
        simp only [List.length_append, List.length_cons, List.length_nil]
        omega
      · simp only [List.length_append, List.length_cons, List.length_nil]
        omega
theorem prVL_len : ∀ (l : List Vt), wfVL l → (prVL l).length ≤ 20000 * szVL l
  | [], _ => by rw [prVL]; simp
  | t :: r, h => by
    rw [wfVL] at h
    have h1 := prV_len t h.1
    have h2 := prVS_len r h.2
    rw [prVL, szVL_cons, List.length_append]
    omega
theorem prVS_len : ∀ (l : List Vt), wfVL l → (prVS l).length ≤ 20000 * szVL l
  | [], _ => by rw [prVS]; simp
  | t :: r, h => by
    rw [wfVL] at h
    have h1 := prV_len t h.1
    have h2 := prVS_len r h.2
    rw [prVS, szVL_cons, List.length_cons, List.length_cons, List.length_append]
    omega
end
theorem prVS_app : ∀ (a b : List Vt), prVS (a ++ b) = prVS a ++ prVS b
  | [], b => by rw [prVS]; rfl
  | t :: r, b => by rw [List.cons_append, prVS, prVS, prVS_app r b]; simp
theorem prVL_snoc (a : List Vt) (t : Vt) : prVL (a ++ [t]) = prVL a ++ (if a.length = 0 then [] else [44, 32]) ++ prV t := by
  cases a with
  | nil => rw [List.nil_append, prVL, prVL, prVS]; simp
  | cons u r =>
    rw [List.cons_append, prVL, prVL, prVS_app, prVS, prVS, if_neg (by simp)]
    simp
theorem prVL_take {ps : List Vt} {i : Nat} (h : i < ps.length) : prVL (ps.take (i + 1)) = prVL (ps.take i) ++ (if i = 0 then [] else [44, 32]) ++ prV ps[i] := by
  have e : ps.take (i + 1) = ps.take i ++ [ps[i]] := by rw [List.take_add_one, List.getElem?_eq_getElem h]; rfl
  rw [e, prVL_snoc, List.length_take, Nat.min_eq_left (by omega)]
theorem szVL_take (ps : List Vt) (i : Nat) : szVL (ps.take i) ≤ szVL ps := szVL_take_le ps i
set_option maxHeartbeats 16000000 in
set_option maxRecDepth 100000 in
theorem rprint_tree : ∀ (d : Nat) (t : Vt), dpV t ≤ d → RT t → ∀ (v : Value) (w : World), AS w v (flV t) →
    Calls Tryd.prog 32 #[v] w fun e w' => e = .returned (.string ⟨(prV t).toArray⟩) ∧ Below w.heap.size w w'
  | 0, t, hd, _, _, _, _ => by have := dpV_pos t; omega
  | d + 1, .nd k ai tx ps, hd, hr, v, w, h => by
    have IH := rprint_tree d
    have hsz := hr.sz
    have WH : Hid (Calls Tryd.prog 49 #[v] w fun e w' => e = .returned (.agg #[.int .i64 k, .int .i64 (ps.length : Nat), .int .i64 ai, .string tx]) ∧ w' = w.alloc (.cells #[.int .i64 k, .int .i64 (ps.length : Nat), .int .i64 ai, .string tx] 56)) := rwholeX_any v (.nd k ai tx ps) w h (by omega)
    have hw := hr.wf
    rw [wfV] at hw
    have hb := atB_is hw.1
    obtain ⟨q, c, rfl⟩ := h.form
    have BA : Hid (∀ ob, Below w.heap.size w (w.alloc ob)) := fun ob => (Below.refl _ _).alloc (Nat.le_refl _) ob
    have BT : Hid (∀ w1 w2, Below w.heap.size w w1 → Below w1.heap.size w1 w2 → Below w.heap.size w w2) := fun w1 w2 b1 b2 => b1.trans (b2.mono b1.size)
    have BB : Hid (∀ w1 ob, Below w.heap.size w w1 → Below w.heap.size w (w1.alloc ob)) := fun w1 ob b => b.alloc b.size ob
    by_cases h1 : k = 1
    · subst h1
      have hi : -9007199254740992 ≤ ai ∧ ai ≤ 9007199254740992 := by rcases hb with ⟨_, e, e'⟩ | ⟨e, _⟩ | e <;> omega
      have IT : Hid (∀ w1, _) := fun w1 => ritoa_any ai w1 hi.1 hi.2
      have HP : Hid (prV (.nd 1 ai tx ps) = Lib.itoa ai) := by show _ = _; rw [prV, if_pos rfl]
      rw [HP.out]
      clear h hr hw hb hi IH HP
      generalize Lib.itoa ai = X at *
      go_enter Tryd.func32, Tryd.ntmps32
      go_wp2_with fail
      refine Calls.mono WH.out ?_
      rintro e w1 ⟨rfl, hw1⟩
      have B1 : Hid (Below w.heap.size w w1) := by rw [hw1]; exact BA.out _
      clear hw1 WH
      go_wp2_with fail
      refine Calls.mono (IT.out _) ?_
      rintro e w2 ⟨rfl, hb2⟩
      have B2 : Hid (Below w.heap.size w w2) := BT.out _ _ (BB.out _ _ B1.out) hb2
      clear hb2 IT B1
      go_wp2_with fail
      go_ret
      exact ⟨rfl, B2.out⟩
    by_cases h2 : k = 2
    · subst h2
      have ht : tx.size ≤ 4096 := by rcases hb with ⟨e, _⟩ | ⟨_, e⟩ | e <;> omega
      have QA : Hid (∀ w1, _) := fun w1 => refQuote_any tx w1 (by omega)
      have HP : Hid (prV (.nd 2 ai tx ps) = quo tx.data.toList) := by show _ = _; rw [prV, if_neg (by omega), if_pos rfl]
      rw [HP.out]
      clear h hr hw hb IH HP
      generalize quo tx.data.toList = X at *
      go_enter Tryd.func32, Tryd.ntmps32
      go_wp2_with fail
      refine Calls.mono WH.out ?_
      rintro e w1 ⟨rfl, hw1⟩
      have B1 : Hid (Below w.heap.size w w1) := by rw [hw1]; exact BA.out _
      clear hw1 WH
      go_wp2_with fail
      refine Calls.mono (QA.out _) ?_
      rintro e w2 ⟨rfl, hb2⟩
      have B2 : Hid (Below w.heap.size w w2) := BT.out _ _ (BB.out _ _ B1.out) hb2
      clear hb2 QA B1
      go_wp2_with fail
      go_ret
      exact ⟨rfl, B2.out⟩
    have hk1 : (k == 1) = false := by simp [h1]
    have hk2 : (k == 2) = false := by simp [h2]
    have HP : Hid (prV (.nd k ai tx ps) = 91 :: (prVL ps ++ [93])) := by show _ = _; rw [prV, if_neg h1, if_neg h2]
    have hps : ∀ u ∈ ps, RT u := hr.parts
    have hdp : ∀ u ∈ ps, dpV u ≤ d := fun u hu => by
      have h5 : dpV (.nd k ai tx ps) = dpVL ps + 1 := by rw [dpV]
      have h6 := dpVL_mem hu
      omega
    have hszp : szVL ps ≤ 1024 := by rw [szV_nd] at hsz; omega
    have MB : Hid (∀ w1, Below w.heap.size w w1 → Calls Tryd.prog 52 #[.slice q (flV (.nd k ai tx ps)).length c] w1 fun e w' => ∃ g M, e = .returned (.slice (some ⟨g, 0, none⟩) ps.length ps.length) ∧ OwnG KV w' w1.heap.size (.slice (some ⟨g, 0, none⟩) ps.length ps.length) M ∧ aL M = ps.map flV ∧ (∀ x ∈ M, OwnG KA w' w1.heap.size x.v x.a) ∧ Below w1.heap.size w1 w') := fun w1 b => rmembers_any _ (.nd k ai tx ps) w1 (h.below b) hr (AT_tr hr)
    have PR : Hid (∀ u ∈ ps, ∀ v w1, AS w1 v (flV u) → Calls Tryd.prog 32 #[v] w1 fun e w' => e = .returned (.string ⟨(prV u).toArray⟩) ∧ Below w1.heap.size w1 w') := fun u hu v w1 hv => IH u (hdp u hu) (hps u hu) v w1 hv
    have LN : Hid (∀ i, (prVL (ps.take i)).length ≤ 20000 * 1024) := fun i => by
      have h5 := prVL_len (ps.take i) ((wfVL_iff _).2 fun u hu => ((hps u (List.mem_of_mem_take hu)).wf))
      have h6 := szVL_take ps i
      show _ ≤ _
      omega
    have LP : Hid (∀ u ∈ ps, (prV u).length ≤ 20000 * 1024) := fun u hu => by
      have h5 := prV_len u (hps u hu).wf
      have h6 := (hps u hu).sz
      show _ ≤ _
      omega
    have hpl : ps.length ≤ 1024 := by have := len_le_szVL ps; omega
    rw [HP.out]
    generalize (flV (.nd k ai tx ps)).length = ln at *
    clear h hr hw hb IH HP hps hdp h1 h2
    go_enter Tryd.func32, Tryd.ntmps32
    go_wp2_with fail
    refine Calls.mono WH.out ?_
    rintro e w1 ⟨rfl, hw1⟩
    have B1 : Hid (Below w.heap.size w w1) := by rw [hw1]; exact BA.out _
    clear hw1 WH
    go_wp2_with fail
    refine Calls.mono (MB.out _ (BB.out _ _ B1.out)) ?_
    rintro e w2 ⟨g, M, rfl, hm1, hm2, hm3, hb2⟩
    have B2 : Hid (Below w.heap.size w w2) := BT.out _ _ (BB.out _ _ B1.out) hb2
    have hml : M.length = ps.length := by have := congrArg List.length hm2; rw [aL_len, List.length_map] at this; exact this
    have EL : Hid (∀ i (hi : i < ps.length), ∃ x : Vx, ∀ wk, Below w2.heap.size w2 wk → wk.cell? ⟨g, i, none⟩ = some (.slice x.q x.a.length x.c) ∧ AS wk (.slice x.q x.a.length x.c) (flV ps[i])) := fun i hi => by
      refine ⟨M[i]'(by rw [hml]; exact hi), fun wk b => ?_⟩
      obtain ⟨X, o, e1, hc⟩ := ((hm1.gs KV_ok.len).below b).atV (k := i) (by rw [hml]; exact hi)
      injection e1 with e1
      injection e1 with e1 e2 _
      subst e1 e2
      rw [Nat.zero_add] at hc
      have hx := hm3 (M[i]'(by rw [hml]; exact hi)) (List.getElem_mem _)
      have ha : (M[i]'(by rw [hml]; exact hi)).a = flV ps[i] := by
        have h5 := aL_at (L := M) (k := i) (by rw [hml]; exact hi)
        rw [← h5]
        have h6 : (aL M)[i]? = (ps.map flV)[i]? := by rw [hm2]
        rw [List.getElem?_eq_getElem (by rw [aL_len, hml]; exact hi), List.getElem?_map, List.getElem?_eq_getElem hi] at h6
        exact Option.some.inj h6
      refine ⟨hc, ?_⟩
      have h7 := (hx.gs KA_ok.len).below b
      unfold Vx.v at h7
      rw [← ha]; exact h7
    have J1 : Hid (Own (w2.alloc (.cells #[.int .u8 91] 5)) w2.heap.size (.slice (some ⟨w2.heap.size, 0, none⟩) 1 1) (91 :: prVL (ps.take 0))) := by
      have := own_lit w2 91
      rw [List.take_zero, prVL]; exact this
    have J2 : Hid (Below w2.heap.size w2 (w2.alloc (.cells #[.int .u8 91] 5))) := (Below.refl _ _).alloc (Nat.le_refl _) _
    have FIN : Hid (∀ wk, Below w2.heap.size w2 wk → Below w.heap.size w wk) := fun wk b => BT.out _ _ B2.out b
    have TK : Hid (∀ i (hi : i < ps.length), prVL (ps.take (i + 1)) = prVL (ps.take i) ++ (if i = 0 then [] else [44, 32]) ++ prV ps[i]) := fun i hi => prVL_take hi
    have PT : Hid (∀ i (hi : i < ps.length) v w1, AS w1 v (flV ps[i]) → Calls Tryd.prog 32 #[v] w1 fun e w' => e = .returned (.string ⟨(prV ps[i]).toArray⟩) ∧ Below w1.heap.size w1 w') := fun i hi v w1 a => PR.out _ (List.getElem_mem hi) v w1 a
    have LQ : Hid (∀ i (hi : i < ps.length), (prV ps[i]).length ≤ 20000 * 1024) := fun i hi => LP.out _ (List.getElem_mem hi)
    clear hm1 hm2 hm3 hb2 hml MB B1 PR LP B2 BT BB BA
    go_wp2_with fail
    go_loopw [5, 6] (fun v5 v6 wr => ∃ (i : Nat) (v : Value) (wk : World), v = v5 ∧ v6 = .int .i64 i ∧ wk = wr ∧ i ≤ ps.length ∧ Hid (Own wk w2.heap.size v (91 :: prVL (ps.take i))) ∧ Hid (Below w2.heap.size w2 wk)) (fun _ v6 _ => ps.length - (intOf v6).toNat)
    case atStart => exact ⟨0, _, _, rfl, rfl, rfl, Nat.zero_le _, J1, J2⟩
    case round =>
      obtain ⟨i, vb, wr, rfl, rfl, rfl, hi, HO, HB⟩ := hrel
      clear J1 J2
      have hL := LN.out i
      by_cases hlt : i < ps.length
      · have hltI : (i : Int) < (ps.length : Int) := by omega
        obtain ⟨x, hx⟩ := EL.out i hlt
        obtain ⟨hc, ha⟩ := hx wr HB.out
        have KX : Hid (∀ w', Below w2.heap.size wr w' → w'.cell? ⟨g, i, none⟩ = some (.slice x.q x.a.length x.c) ∧ AS w' (.slice x.q x.a.length x.c) (flV ps[i])) := fun w' b => hx w' (HB.out.trans b)
        clear hx
        have TKI := hid3 (TK.out i hlt)
        have P1 := hid3 (PT.out i hlt)
        have hQ := LQ.out i hlt
        have AXX := hid3 ha
        generalize prVL (ps.take i) = L0 at *
        generalize flV ps[i] = fl at *
        generalize prV ps[i] = pi at *
        generalize x.a.length = xl at *
        have hqs : (ByteArray.mk pi.toArray).size = pi.length := by show pi.toArray.size = _; simp
        have hqd : (ByteArray.mk pi.toArray).data.toList = pi := by simp
        generalize ByteArray.mk pi.toArray = qb at *
        have HQS := hid3 hqs
        have HQD := hid3 hqd
        have EL2 : Hid (∀ wk, Below wr.heap.size wr wk → AS wk (.slice x.q xl x.c) fl) := fun wk b => GS.below AXX.out b
        have HZ : Hid (w2.heap.size ≤ wr.heap.size) := HB.out.size
        clear EL TK PT LQ LN hqs hqd ha AXX
        by_cases hi0 : i = 0
        · have TZ : Hid (prVL (ps.take (i + 1)) = L0 ++ pi) := by show _ = _; rw [TKI.out, if_pos hi0, List.append_nil]
          have hI : ¬ (0 : Int) < (i : Int) := by omega
          clear TKI hi0
          have Q1 := hid3 (P1.out _ wr (EL2.out wr (Below.refl _ _)))
          have OW : Hid (∀ w', Below wr.heap.size wr w' → Own w' w2.heap.size vb (91 :: L0) ∧ w2.heap.size ≤ w'.heap.size) := fun w' b => ⟨HO.out.below b, Nat.le_trans HZ.out b.size⟩
          go_wp2_with (first
            | (go_at_call 32; refine Calls.mono Q1.out ?_; rintro e w8 ⟨rfl, hb8⟩)
            | (at_builtin; refine append_str_keep rfl (.tmp 34) (.tmp 39) 79 9 rfl w2.heap.size Tryd.underlying79 Tryd.underlying9 info_u8 _ (91 :: L0) rfl (OW.out _ hb8).1 qb rfl (by have := HQS.out; rw [List.length_cons]; omega) (OW.out _ hb8).2 ?_; intro v9 w9 ho9 hb9 hk9))
          have N1 : Hid (Own w9 w2.heap.size v9 (91 :: prVL (ps.take (i + 1)))) := by rw [HQD.out] at ho9; rw [TZ.out]; exact ho9
          have N2 : Hid (Below w2.heap.size w2 w9) := (HB.out.trans (hb8.mono HZ.out)).trans hb9
          clear ho9 hb9 hk9 hb8 Q1 P1 OW
          go_wp2_with fail
          go_roundw
          case rel => exact ⟨i + 1, _, _, rfl, by go_num, rfl, by omega, N1, N2⟩
          case measure => simp [intOf]; omega
        · have TZ : Hid (prVL (ps.take (i + 1)) = (L0 ++ [44, 32]) ++ pi) := by show _ = _; rw [TKI.out, if_neg hi0]
          have hI : (0 : Int) < (i : Int) := by omega
          clear TKI hi0
          have OW : Hid (∀ w7 v7 w', Own w7 w2.heap.size v7 (91 :: (L0 ++ [44, 32])) → w2.heap.size ≤ w7.heap.size → Below w7.heap.size w7 w' → Own w' w2.heap.size v7 (91 :: (L0 ++ [44, 32])) ∧ w2.heap.size ≤ w'.heap.size) := fun w7 v7 w' o z b => ⟨o.below b, Nat.le_trans z b.size⟩
          clear hc
          go_wp2_with (first
            | (at_builtin; refine append_str_keep rfl (.tmp 32) (.const (.string ⟨#[44, 32]⟩)) 79 9 rfl w2.heap.size Tryd.underlying79 Tryd.underlying9 info_u8 _ (91 :: L0) rfl HO.out _ rfl (by show (91 :: L0).length + 2 ≤ _; rw [List.length_cons]; omega) HZ.out ?_; intro v7 w7 ho7 hb7 hk7; obtain ⟨hc7, ha7⟩ := KX.out w7 hb7; have A7 := hid3 ha7; have Z7 := hid3 (Nat.le_trans HZ.out hb7.size); clear ha7 hk7)
            | (go_at_call 32; refine Calls.mono (P1.out _ w7 A7.out) ?_; rintro e w8 ⟨rfl, hb8⟩)
            | (at_builtin; refine append_str_keep rfl (.tmp 34) (.tmp 39) 79 9 rfl w2.heap.size Tryd.underlying79 Tryd.underlying9 info_u8 _ (91 :: (L0 ++ [44, 32])) rfl (OW.out w7 v7 _ ho7 Z7.out hb8).1 qb rfl (by have := HQS.out; rw [List.length_cons, List.length_append]; simp only [List.length_cons, List.length_nil]; omega) (OW.out w7 v7 _ ho7 Z7.out hb8).2 ?_; intro v9 w9 ho9 hb9 hk9))
          have N1 : Hid (Own w9 w2.heap.size v9 (91 :: prVL (ps.take (i + 1)))) := by rw [HQD.out] at ho9; rw [TZ.out]; exact ho9
          have N2 : Hid (Below w2.heap.size w2 w9) := ((HB.out.trans hb7).trans (hb8.mono Z7.out)).trans hb9
          clear ho9 hb9 hk9 hb8 hb7 ho7 P1 OW A7 Z7 KX hc7
          go_wp2_with fail
          go_roundw
          case rel => exact ⟨i + 1, _, _, rfl, by go_num, rfl, by omega, N1, N2⟩
          case measure => simp [intOf]; omega
      · obtain rfl : i = ps.length := by omega
        have TE : Hid (ps.take ps.length = ps) := List.take_length
        rw [TE.out] at HO hL
        have FE := hid3 (FIN.out wr HB.out)
        have HZ : Hid (w2.heap.size ≤ wr.heap.size) := HB.out.size
        have BX : Hid (∀ w', Below w2.heap.size wr w' → Below w.heap.size w w') := fun w' b => FIN.out w' (HB.out.trans b)
        obtain ⟨L0, hL0⟩ : ∃ L0, L0 = prVL ps := ⟨_, rfl⟩
        have HE : Hid (L0 = prVL ps) := hL0
        rw [← hL0] at HO hL
        clear hL0
        clear EL TK PT LQ LN TE FIN HB
        go_wp2_with (first
          | (at_builtin; refine append_bytes_keep rfl (.tmp 41) (.tmp 42) 79 rfl w2.heap.size Tryd.underlying79 info_u8 wr _ _ _ (91 :: L0) [93] _ rfl HO.out _ rfl rfl rfl (by simp; omega) HZ.out ?_; intro v9 w9 ho9 hb9 hz9 hk9)
          | (refine wpList_own_string rfl (.tmp 43) 79 9 rfl w2.heap.size _ _ rfl ho9 Tryd.underlying79 Tryd.underlying5 Tryd.underlying9 ?_))
        go_ret
        refine ⟨?_, BX.out _ hb9⟩
        rw [← HE.out]; rfl
end Go.Proofs.YtahcllncjpaijaaDoor
namespace Go.Proofs.YtahcllncjpaijaaDoor
open Go.RowKit

def atE (c d : Atm) : Bool := c.kind == d.kind && (c.n == d.n && (c.int == d.int && (c.text.toList == d.text.toList)))
/-- The same atoms? -/
def eqA : List Atm → List Atm → Bool
  | [], [] => true
  | c :: r, d :: s => atE c d && eqA r s
  | [], _ :: _ => false
  | _ :: _, [] => false
theorem eqA_len : ∀ (l m : List Atm), eqA l m = true → l.length = m.length
  | [], [], _ => rfl
  | c :: r, d :: s, h => by rw [eqA, Bool.and_eq_true] at h; simp [eqA_len r s h.2]
  | [], _ :: _, h => by simp [eqA] at h
  | _ :: _, [], h => by simp [eqA] at h
theorem atE_iff (c d : Atm) : atE c d = true ↔ c = d := by
  obtain ⟨k, n, i, t⟩ := c
  obtain ⟨k', n', i', t'⟩ := d
  unfold atE
  simp only [Bool.and_eq_true, beq_iff_eq, Atm.mk.injEq, ByteArray.toList_eq]
  constructor
  · rintro ⟨h1, h2, h4, h3⟩
    refine ⟨h1, h2, h4, ?_⟩
    obtain ⟨⟨a⟩⟩ := t
    obtain ⟨⟨b⟩⟩ := t'
    simp at h3
    rw [h3]
  · rintro ⟨h1, h2, h4, h3⟩; rw [h3]; exact ⟨h1, h2, h4, rfl⟩
theorem eqA_iff : ∀ (l m : List Atm), eqA l m = true ↔ l = m
  | [], [] => by simp [eqA]
  | c :: r, d :: s => by rw [eqA, Bool.and_eq_true, atE_iff, eqA_iff r s]; simp
  | [], _ :: _ => by simp [eqA]
  | _ :: _, [] => by simp [eqA]
theorem atE_cases {f g : Atm} (h : atE f g = false) : (f.kind == g.kind) = false ∨ ((f.kind == g.kind) = true ∧ (f.n == g.n) = false) ∨ ((f.kind == g.kind) = true ∧ (f.n == g.n) = true ∧ (f.int == g.int) = false) ∨ ((f.kind == g.kind) = true ∧ (f.n == g.n) = true ∧ (f.int == g.int) = true ∧ (f.text.toList == g.text.toList) = false) := by
  unfold atE at h
  cases h1 : (f.kind == g.kind) <;> cases h2 : (f.n == g.n) <;> cases h4 : (f.int == g.int) <;> cases h3 : (f.text.toList == g.text.toList) <;> simp_all
theorem atE_all {f g : Atm} (h : atE f g = true) : (f.kind == g.kind) = true ∧ (f.n == g.n) = true ∧ (f.int == g.int) = true ∧ (f.text.toList == g.text.toList) = true := by
  unfold atE at h
  simpa using h
theorem eqA_step {l m : List Atm} {k : Nat} (h1 : k < l.length) (h2 : k < m.length) : eqA (l.drop k) (m.drop k) = (atE l[k] m[k] && eqA (l.drop (k + 1)) (m.drop (k + 1))) := by
  rw [List.drop_eq_getElem_cons h1, List.drop_eq_getElem_cons h2, eqA]
set_option maxHeartbeats 4000000 in
theorem sameV_any (w : World) (v1 v2 : Value) (l m : List Atm) (h1 : AS w v1 l) (h2 : AS w v2 m) (hl : l.length ≤ 100000000000000000) :
    Calls Tryd.prog 10 #[v1, v2] w fun e w' => e = .returned (.bool (eqA l m)) ∧ ∃ n, w' = w.drewN n := by
  obtain ⟨p1, c1, rfl⟩ := h1.form
  obtain ⟨p2, c2, rfl⟩ := h2.form
  have A1 : Hid (AS w (.slice p1 l.length c1) l) := h1
  have A2 : Hid (AS w (.slice p2 m.length c2) m) := h2
  clear h1 h2
  by_cases hlm : l.length = m.length
  · have hml : m.length = l.length := hlm.symm
    have E0 : Hid (eqA l m = eqA (l.drop 0) (m.drop 0)) := by show _ = _; simp
    have EE : Hid (∀ k, l.length ≤ k → eqA (l.drop k) (m.drop k) = true) := fun k hk => by rw [List.drop_of_length_le hk, List.drop_of_length_le (by omega)]; rfl
    generalize eqA l m = r at *
    have HM : Hid (m.length = l.length) := hml
    rw [hml] at A2 ⊢
    clear hml hlm
    go_enter Tryd.func10, Tryd.ntmps10
    go_wp2
    go_loopw [5] (fun v5 wr => ∃ (k n : Nat), v5 = .int .i64 k ∧ k ≤ l.length ∧ wr = w.drewN n ∧ Hid (r = eqA (l.drop k) (m.drop k))) (fun v5 _ => l.length - (intOf v5).toNat)
    case atStart => exact ⟨0, 0, rfl, Nat.zero_le _, rfl, E0⟩
    case round =>
      obtain ⟨k, n, rfl, hk, rfl, HR⟩ := hrel
      clear E0
      by_cases hlt : k < l.length
      · obtain ⟨X1, o1, e1, x1, x2, x4, x3⟩ := A1.out.atA hlt
        obtain rfl : p1 = some ⟨X1, o1, none⟩ := e1
        obtain ⟨X2, o2, e2, y1, y2, y4, y3⟩ := A2.out.atA (k := k) (by rw [HM.out]; exact hlt)
        obtain rfl : p2 = some ⟨X2, o2, none⟩ := e2
        have HS := HR.out
        rw [eqA_step hlt (by rw [HM.out]; exact hlt)] at HS
        obtain ⟨f, hf⟩ : ∃ f, f = l[k] := ⟨_, rfl⟩
        rw [← hf] at x1 x2 x3 x4 HS
        obtain ⟨g, hg⟩ : ∃ g, g = m[k]'(by rw [HM.out]; exact hlt) := ⟨_, rfl⟩
        rw [← hg] at y1 y2 y3 y4 HS
        have HN : Hid (r = (atE f g && eqA (l.drop (k + 1)) (m.drop (k + 1)))) := HS
        clear hf hg HR HS
        cases hc : atE f g with
        | true =>
          obtain ⟨z1, z2, z4, z3⟩ := atE_all hc
          rw [hc] at HN
          clear hc
          go_wp2
          go_quiet (fail)
          go_wp2
          all_goals
            go_roundw
            case rel => exact ⟨k + 1, _, by go_num, by omega, rfl, HN.out.trans (by simp)⟩
            case measure => simp [intOf]; omega
        | false =>
          rw [hc] at HN
          have hr : r = false := HN.out
          subst hr
          rcases atE_cases hc with z1 | ⟨z1, z2⟩ | ⟨z1, z2, z4⟩ | ⟨z1, z2, z4, z3⟩
          all_goals
            clear hc
            go_wp2
            go_quiet (fail)
            go_wp2
            go_ret
            exact ⟨rfl, n + nq, by simp⟩
      · have hr : r = true := HR.out.trans (EE.out k (by omega))
        subst hr
        clear HR
        go_wp2
        go_ret
        exact ⟨rfl, n, rfl⟩
  · have hr : eqA l m = false := by
      cases h : eqA l m with
      | false => rfl
      | true => exact absurd (eqA_len l m h) hlm
    rw [hr]
    have z1 : ((l.length : Int) == (m.length : Int)) = false := by simp; omega
    have z2 : ((l.length : Int) != (m.length : Int)) = true := by simp; omega
    go_enter Tryd.func10, Tryd.ntmps10
    go_wp2
    go_ret
    exact ⟨rfl, 0, rfl⟩
end Go.Proofs.YtahcllncjpaijaaDoor
