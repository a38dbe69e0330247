/- Values, the reference: begins, walked. -/
import Derived.Test.YtbgeihgenckihaaDoorVb7
namespace Go.Proofs.YtbgeihgenckihaaDoor
open Go.RowKit

/-- What begins answers. -/
def AnsB (l : List Atm) (w w' : World) (e : Ending) : Prop := Below w.heap.size w w' ∧ ((depV l = 0 ∧ e = .returned (.tuple #[.slice none 0 0, .int .i64 0, .bool false])) ∨ ∃ t F q c, bV [] l = some [t] ∧ e = .returned (.tuple #[.slice q F.length c, .int .i64 (dpV t : Nat), .bool true]) ∧ OwnG KI w' w.heap.size (.slice q F.length c) F ∧ FrL F 0 [t] ∧ F.length = l.length)
set_option maxHeartbeats 16000000 in
set_option maxRecDepth 100000 in
theorem rbegins_any (v : Value) (l : List Atm) (w : World) (h : AS w v l) (ht : AT l) (hlm : l.length ≤ 1048576) :
    Calls Tryd.prog 65 #[v] w fun e w' => AnsB l w w' e := by
  obtain ⟨p, cap, rfl⟩ := h.form
  have HS : Hid (AS w (.slice p l.length cap) l) := h
  have HT : Hid (AT l) := ht
  have D0 : Hid (DI l 0 [] ∧ szVL [] = 0) := ⟨DI.start l, rfl⟩
  have R0 : Hid _ := R3.start w
  have NO : Hid (∀ w' e, Below w.heap.size w w' → depV l = 0 → e = .returned (.tuple #[.slice none 0 0, .int .i64 0, .bool false]) → AnsB l w w' e) := fun w' e b h1 h2 => ⟨b, Or.inl ⟨h1, h2⟩⟩
  clear h ht
  go_enter Tryd.func65, Tryd.ntmps65
  go_wp2_with fail
  go_loopw [5, 6, 7, 8] (fun v5 v6 v7 v8 wr => ∃ (k gf nf cf gs cs gd cd n : Nat) (F : List Int) (S : List Vt) (wk : World), v8 = .int .i64 k ∧ v5 = .slice (some ⟨gf, 0, none⟩) nf cf ∧ v6 = .slice (some ⟨gs, 0, none⟩) n cs ∧ v7 = .slice (some ⟨gd, 0, none⟩) n cd ∧ wk = wr ∧ k ≤ l.length ∧ Hid (n = S.length ∧ nf = F.length) ∧ Hid (DI l k S ∧ szVL S = k) ∧ Hid (R3 w wk gf cf gs cs gd cd F S)) (fun _ _ _ v8 _ => l.length - (intOf v8).toNat)
  case atStart => exact ⟨0, _, 0, 0, _, 0, _, 0, 0, [], [], _, rfl, rfl, rfl, rfl, rfl, Nat.zero_le _, ⟨rfl, rfl⟩, D0, R0⟩
  case round =>
    obtain ⟨k, gf, nf, cf, gs, cs, gd, cd, n, F, S, wr, rfl, rfl, rfl, rfl, rfl, hk, HNS, HD, HR⟩ := hrel
    clear D0 R0
    by_cases hlt : k < l.length
    · obtain ⟨X, o, e1, x0, x1, x2, x3⟩ := (HS.out.below HR.out.bl).atA hlt
      obtain rfl : p = some ⟨X, o, none⟩ := e1
      have hXl : Hid (X < wr.heap.size) := block_lt_of_cell x1
      have IA : Hid (∀ w1, _) := fun w1 => ratom_any l[k] w1 (HT.out _ (List.getElem_mem hlt))
      have NXk : Hid (okV S l[k] = true → DI l (k + 1) (stV S l[k]) ∧ szVL (stV S l[k]) = k + 1) := fun e => ⟨HD.out.1.next hlt e, DI.size HD.out.2 hlt e⟩
      have BADk : Hid (okV S l[k] = false → depV l = 0) := fun e => HD.out.1.bad hlt e
      have OK : Hid (okV S l[k] = (atB l[k] && decide (l[k].n ≤ S.length))) := rfl
      have AN : Hid (atB l[k] = true → 0 ≤ l[k].n) := fun e => (atB_n e).1
      have hS := HD.out.1.ls
      have HSZ : Hid (szVL S = k) := HD.out.2
      have BX : Hid (∀ w5, Below wr.heap.size wr w5 → Below w.heap.size w w5) := fun w5 b => HR.out.bl.trans (b.mono HR.out.bl.size)
      generalize l[k] = a at *
      clear HS HT HD
      obtain ⟨ak, hak⟩ : ∃ x, x = a.kind := ⟨_, rfl⟩
      obtain ⟨an, han⟩ : ∃ x, x = a.n := ⟨_, rfl⟩
      obtain ⟨ai, hai⟩ : ∃ x, x = a.int := ⟨_, rfl⟩
      obtain ⟨tx, htx⟩ : ∃ x, x = a.text := ⟨_, rfl⟩
      have IA : Hid (∀ w1, Calls Tryd.prog 70 #[.agg #[.int .i64 ak, .int .i64 an, .int .i64 ai, .string tx]] w1 fun e w' => e = .returned (.bool (atB a)) ∧ Below w1.heap.size w1 w') := by rw [hak, han, hai, htx]; exact IA.out
      rw [← hak] at x0
      rw [← han] at x1 AN
      rw [← hai] at x2
      rw [← htx] at x3
      have HAN : Hid (a.n = an) := han.symm
      clear hak han hai htx
      cases hab : atB a with
      | false =>
        rw [hab] at IA OK
        have HR0 : Hid (depV l = 0) := BADk.out (by rw [OK.out]; rfl)
        clear BADk NXk OK AN HR
        go_wp2_with fail
        refine Calls.mono (IA.out _) ?_
        rintro e w5 ⟨rfl, hb5⟩
        have B5 : Hid (Below w.heap.size w w5) := BX.out _ hb5
        clear hb5 IA
        go_wp2_with fail
        exact bodyPost_ret (v := .tuple #[.slice none 0 0, .int .i64 0, .bool false]) (by simp [results, Tryd.results65, go_sem]) rfl (NO.out _ _ B5.out HR0.out rfl)
      | true =>
        rw [hab] at IA OK
        have hn0 := AN.out hab
        obtain ⟨N, rfl⟩ : ∃ N : Nat, an = N := ⟨an.toNat, by omega⟩
        have hN := HAN.out
        by_cases hcs : N ≤ S.length
        · have hgt : ¬ (N : Int) > (n : Int) := by have := HNS.out.1; omega
          have okt : okV S a = true := by rw [OK.out, hN]; simp; omega
          have D5 : Hid _ := NXk.out okt
          have hcut : cutV S a = n - N := by unfold cutV; rw [hN, HNS.out.1]; simp
          obtain ⟨m, hm⟩ : ∃ m, m = n - N := ⟨_, rfl⟩
          rw [← hm] at hcut
          have hmI : (n : Int) - (N : Int) = (m : Int) := by have := HNS.out.1; omega
          have hmn : m ≤ n := by omega
          have hmN : n - m = N := by have := HNS.out.1; omega
          have hnb : n ≤ 1048576 := by have := HNS.out.1; omega
          have hnS : Hid (m ≤ S.length) := by have := HNS.out.1; show _ ≤ _; omega
          have hnS2 := hnS.out
          have OKT : Hid (okV S a = true ∧ cutV S a = m) := ⟨okt, hcut⟩
          obtain rfl : nf = F.length := HNS.out.2
          have hFl : F.length ≤ 1048576 := by rw [HR.out.fl, HSZ.out]; omega
          have LSs : Hid (((begL 0 (S.take m)).length + 1) * KI.B ≤ 140737488355328) := by show (_ + 1) * 8 ≤ _; rw [begL_len, List.length_take]; omega
          have LSd : Hid (((dsV (S.take m)).length + 1) * KI.B ≤ 140737488355328) := by show (_ + 1) * 8 ≤ _; rw [dsV_len, List.length_take]; omega
          have LSf : Hid ((F.length + 1) * KI.B ≤ 140737488355328) := by show (_ + 1) * 8 ≤ _; omega
          have R5 : Hid (∀ w5, Below wr.heap.size wr w5 → R3 w w5 gf cf gs cs gd cd F S) := fun w5 b => HR.out.below b
          have CUTS : Hid (∀ w5, R3 w w5 gf cf gs cs gd cd F S → OwnG KI w5 w.heap.size (.slice (some ⟨gs, 0, none⟩) m cs) (begL 0 (S.take m))) := fun w5 r => by
            have := r.s.cut KI_ok.len m (by rw [begL_len]; exact hnS.out)
            rw [begL_take] at this; exact this
          have CUTD : Hid (∀ (w5 w6 : World), R3 w w5 gf cf gs cs gd cd F S → (∀ k, k < w5.heap.size → some k ≠ (Value.slice (some ⟨gs, 0, none⟩) m cs).ownBlock → w6.heap[k]? = w5.heap[k]?) → OwnG KI w6 w.heap.size (.slice (some ⟨gd, 0, none⟩) m cd) (dsV (S.take m))) := fun w5 w6 r k6 => by
            have := (own_keep r.d k6 (Ne.symm r.n3)).cut KI_ok.len m (by rw [dsV_len]; exact hnS.out)
            rw [dsV_take] at this; exact this
          have KEF : Hid (∀ (w5 w6 w7 : World), R3 w w5 gf cf gs cs gd cd F S → (∀ k, k < w5.heap.size → some k ≠ (Value.slice (some ⟨gs, 0, none⟩) m cs).ownBlock → w6.heap[k]? = w5.heap[k]?) → (∀ k, k < w6.heap.size → some k ≠ (Value.slice (some ⟨gd, 0, none⟩) m cd).ownBlock → w7.heap[k]? = w6.heap[k]?) → OwnG KI w7 w.heap.size (.slice (some ⟨gf, 0, none⟩) F.length cf) F) := fun w5 w6 w7 r k6 k7 => own_keep (own_keep r.f k6 r.n1) k7 r.n2
          have HLS : Hid ((begL 0 (S.take m)).length + 1 = (stV S a).length ∧ (dsV (S.take m)).length + 1 = (stV S a).length) := by
            have : (stV S a).length = (S.take m).length + 1 := by unfold stV; rw [hcut]; simp
            exact ⟨by rw [begL_len, this], by rw [dsV_len, this]⟩
          have hkk : k + 1 ≤ l.length := hlt
          clear NXk BADk OK AN hab hm hcs okt hcut hN HAN
          by_cases hN0 : N = 0
          · subst hN0
            obtain rfl : m = n := by omega
            have EB : Hid ((k : Int) = ((szVL (S.take m) : Nat) : Int) ∧ (1 : Int) = ((dpVL (S.drop m) : Nat) : Int) + 1) := by
              have e1 : S.length ≤ m := by have := HNS.out.1; omega
              exact ⟨by rw [List.take_of_length_le e1, HSZ.out], by rw [List.drop_eq_nil_of_le e1]; simp [dpVL]⟩
            clear HR hmN hmn hmI
            go_wp2_with fail
            refine Calls.mono (IA.out _) ?_
            rintro e w5 ⟨rfl, hb5⟩
            have r5 : Hid (R3 w w5 gf cf gs cs gd cd F S) := R5.out _ hb5
            have Z5 : Hid (w.heap.size ≤ w5.heap.size) := r5.out.bl.size
            clear hb5 IA R5
            go_wp2_with (at_builtin; first
              | (refine append_g KI KI_ok rfl (.tmp 76) (.tmp 78) 99 rfl w.heap.size Tryd.underlying99 w5 _ _ (.slice (some ⟨gs, 0, none⟩) m cs) (begL 0 (S.take m)) (k : Int) _ rfl (CUTS.out _ r5.out) _ rfl rfl rfl LSs.out Z5.out ?_; intro g6 c6 w6 o6 b6 k6 q6; have H6 : Hid (_ ∧ _ ∧ _ ∧ _) := ⟨o6, b6, k6, q6⟩; clear o6 b6 k6 q6)
              | (refine append_g KI KI_ok rfl (.tmp 80) (.tmp 83) 99 rfl w.heap.size Tryd.underlying99 w6 _ _ (.slice (some ⟨gd, 0, none⟩) m cd) (dsV (S.take m)) 1 _ rfl (CUTD.out _ _ r5.out H6.out.2.2.1) _ rfl rfl rfl LSd.out (Nat.le_trans Z5.out H6.out.2.1.size) ?_; intro g7 c7 w7 o7 b7 k7 q7; have H7 : Hid (_ ∧ _ ∧ _ ∧ _) := ⟨o7, b7, k7, q7⟩; clear o7 b7 k7 q7)
              | (refine append_g KI KI_ok rfl (.tmp 85) (.tmp 87) 99 rfl w.heap.size Tryd.underlying99 w7 _ _ (.slice (some ⟨gf, 0, none⟩) F.length cf) F (k : Int) _ rfl (KEF.out _ _ _ r5.out H6.out.2.2.1 H7.out.2.2.1) _ rfl rfl rfl LSf.out (Nat.le_trans Z5.out (Nat.le_trans H6.out.2.1.size H7.out.2.1.size)) ?_; intro g8 c8 w8 o8 b8 k8 q8; have H8 : Hid (_ ∧ _ ∧ _ ∧ _) := ⟨o8, b8, k8, q8⟩; clear o8 b8 k8 q8))
            have R8 : Hid (R3 w w8 g8 c8 g6 c6 g7 c7 (F ++ [(k : Int)]) (stV S a)) := by
              have h6 := H6.out
              have h7 := H7.out
              have h8 := H8.out
              rw [EB.out.1] at h6 h8
              rw [EB.out.2] at h7
              rw [EB.out.1]
              exact r5.out.next OKT.out.1 OKT.out.2 h6.1 h6.2.1 h6.2.2.1 h6.2.2.2 h7.1 h7.2.1 h7.2.2.1 h7.2.2.2 h8.1 h8.2.1 h8.2.2.1 h8.2.2.2
            have HLx : Hid ((begL 0 (S.take m)).length + 1 = (stV S a).length ∧ F.length + 1 = (F ++ [(k : Int)]).length) := ⟨HLS.out.1, by simp⟩
            have hdd : (dsV (S.take m)).length + 1 = (begL 0 (S.take m)).length + 1 := by rw [HLS.out.1, HLS.out.2]
            clear H6 H7 H8
            go_roundw
            case rel => exact ⟨k + 1, g8, F.length + 1, c8, g6, c6, g7, c7, (begL 0 (S.take m)).length + 1, _, _, _, by go_num, rfl, rfl, by rw [hdd], rfl, hkk, HLx, D5, R8⟩
            case measure => simp [intOf]; omega
          · have hNp : (N : Int) > 0 := by omega
            have hml : m < S.length := by have := HNS.out.1; omega
            have DB : Hid (∀ j, mxE S j ≤ 1048576) := fun j => by have h1 := mxE_sz (S := S) (j := j); rw [HSZ.out] at h1; omega
            have HnS : Hid (n = S.length) := HNS.out.1
            have hmn2 : m < n := by have := HnS.out; omega
            clear HR HNS
            go_wp2_with fail
            refine Calls.mono (IA.out _) ?_
            rintro e w5 ⟨rfl, hb5⟩
            have r5 : Hid (R3 w w5 gf cf gs cs gd cd F S) := R5.out _ hb5
            have Z5 : Hid (w.heap.size ≤ w5.heap.size) := r5.out.bl.size
            have cb : w5.cell? ⟨gs, m, none⟩ = some (.int .i64 ((szVL (S.take m) : Nat) : Int)) := by
              have h1 := own_int r5.out.s (by rw [begL_len]) (j := m) (by rw [begL_len]; exact hml)
              rw [begL_cut hml] at h1; exact h1
            have CD : Hid (∀ j (hj : j < S.length), w5.cell? ⟨gd, j, none⟩ = some (.int .i64 ((dpV S[j] : Nat) : Int))) := fun j hj => by
              have h1 := own_int r5.out.d (by rw [dsV_len]) (j := j) (by rw [dsV_len]; exact hj)
              rw [h1]; simp [dsV, List.getD, List.getElem?_eq_getElem hj]
            have hcs5 : n ≤ cs := by
              obtain ⟨g0, c0, e0, hc0⟩ := r5.out.s.place (by simp [Value.ownBlock])
              injection e0 with _ e1 e2
              rw [begL_len] at hc0
              have := HnS.out; omega
            have hcd5 : n ≤ cd := by
              obtain ⟨g0, c0, e0, hc0⟩ := r5.out.d.place (by simp [Value.ownBlock])
              injection e0 with _ e1 e2
              rw [dsV_len] at hc0
              have := HnS.out; omega
            obtain ⟨bb, hbb⟩ : ∃ bb : Nat, bb = szVL (S.take m) := ⟨_, rfl⟩
            rw [← hbb] at cb
            have HBB : Hid (bb = szVL (S.take m)) := hbb
            clear hb5 IA R5 hbb
            go_wp2_with fail
            go_loopw [11, 12] (fun v11 v12 wx => ∃ (j : Nat) (d : Int) (wk : World), v12 = .int .i64 j ∧ v11 = .int .i64 d ∧ wk = wx ∧ wk = w5 ∧ j ≤ N ∧ Hid (d = (mxE S j : Nat))) (fun _ v12 _ => N - (intOf v12).toNat)
            case atStart => exact ⟨0, 0, _, rfl, rfl, rfl, rfl, Nat.zero_le _, (by show _ = _; simp [mxE, dpVL])⟩
            case round =>
              obtain ⟨j, d, wj, rfl, rfl, rfl, rfl, hj, HDJ⟩ := hrel
              have hdb : 0 ≤ d ∧ d ≤ 1048576 := by have h1 := DB.out j; have h2 := HDJ.out; omega
              obtain ⟨hd1, hd2⟩ := hdb
              by_cases hjl : j < N
              · obtain ⟨i, hi⟩ : ∃ i, i = n - 1 - j := ⟨_, rfl⟩
                have hiI : (n : Int) - 1 - (j : Int) = (i : Int) := by omega
                have hin : i < n := by omega
                have his : i < S.length := by have := HnS.out; omega
                have cj := CD.out i his
                have hnx : Hid (mxE S (j + 1) = max (mxE S j) (dpV S[i])) := by
                  have e : i = S.length - 1 - j := by have := HnS.out; omega
                  have := mxE_next (S := S) (j := j) (by have := HnS.out; omega)
                  simp only [e]; exact this
                have hdp : dpV S[i] ≤ 1048576 := by have h1 := DB.out (j + 1); have h2 := hnx.out; omega
                generalize dpV S[i] = dj at *
                have HX : Hid (∀ x : Int, x = max d dj → x = (mxE S (j + 1) : Nat)) := fun x hx => by have h1 := hnx.out; have h2 := HDJ.out; omega
                clear hnx HDJ hi
                go_wp2_with fail
                go_roundw
                case rel => exact ⟨j + 1, _, _, by go_num, rfl, rfl, rfl, hjl, HX.out _ (by first | rfl | omega | (split <;> omega))⟩
                case measure => simp [intOf]; omega
              · have hdf : Hid (d + 1 = ((dpVL (S.drop m) : Nat) : Int) + 1) := by
                  have e : mxE S j = dpVL (S.drop m) := by unfold mxE; rw [show S.length - j = m by have := HnS.out; omega]
                  show _ = _; rw [HDJ.out, e]
                have EB : Hid ((bb : Int) = ((szVL (S.take m) : Nat) : Int)) := by show _ = _; rw [HBB.out]
                clear HDJ CD DB HBB
                go_wp2_with (at_builtin; first
                  | (refine append_g KI KI_ok rfl (.tmp 76) (.tmp 78) 99 rfl w.heap.size Tryd.underlying99 wj _ _ (.slice (some ⟨gs, 0, none⟩) m cs) (begL 0 (S.take m)) (bb : Int) _ rfl (CUTS.out _ r5.out) _ rfl rfl rfl LSs.out Z5.out ?_; intro g6 c6 w6 o6 b6 k6 q6; have H6 : Hid (_ ∧ _ ∧ _ ∧ _) := ⟨o6, b6, k6, q6⟩; clear o6 b6 k6 q6)
                  | (refine append_g KI KI_ok rfl (.tmp 80) (.tmp 83) 99 rfl w.heap.size Tryd.underlying99 w6 _ _ (.slice (some ⟨gd, 0, none⟩) m cd) (dsV (S.take m)) (d + 1) _ rfl (CUTD.out _ _ r5.out H6.out.2.2.1) _ rfl rfl rfl LSd.out (Nat.le_trans Z5.out H6.out.2.1.size) ?_; intro g7 c7 w7 o7 b7 k7 q7; have H7 : Hid (_ ∧ _ ∧ _ ∧ _) := ⟨o7, b7, k7, q7⟩; clear o7 b7 k7 q7)
                  | (refine append_g KI KI_ok rfl (.tmp 85) (.tmp 87) 99 rfl w.heap.size Tryd.underlying99 w7 _ _ (.slice (some ⟨gf, 0, none⟩) F.length cf) F (bb : Int) _ rfl (KEF.out _ _ _ r5.out H6.out.2.2.1 H7.out.2.2.1) _ rfl rfl rfl LSf.out (Nat.le_trans Z5.out (Nat.le_trans H6.out.2.1.size H7.out.2.1.size)) ?_; intro g8 c8 w8 o8 b8 k8 q8; have H8 : Hid (_ ∧ _ ∧ _ ∧ _) := ⟨o8, b8, k8, q8⟩; clear o8 b8 k8 q8))
                have R8 : Hid (R3 w w8 g8 c8 g6 c6 g7 c7 (F ++ [(bb : Int)]) (stV S a)) := by
                  have h6 := H6.out
                  have h7 := H7.out
                  have h8 := H8.out
                  rw [EB.out] at h6 h8
                  rw [hdf.out] at h7
                  rw [EB.out]
                  exact r5.out.next OKT.out.1 OKT.out.2 h6.1 h6.2.1 h6.2.2.1 h6.2.2.2 h7.1 h7.2.1 h7.2.2.1 h7.2.2.2 h8.1 h8.2.1 h8.2.2.1 h8.2.2.2
                have HLx : Hid ((begL 0 (S.take m)).length + 1 = (stV S a).length ∧ F.length + 1 = (F ++ [(bb : Int)]).length) := ⟨HLS.out.1, by simp⟩
                have hdd : (dsV (S.take m)).length + 1 = (begL 0 (S.take m)).length + 1 := by rw [HLS.out.1, HLS.out.2]
                clear H6 H7 H8
                go_roundw
                case rel => exact ⟨k + 1, g8, F.length + 1, c8, g6, c6, g7, c7, (begL 0 (S.take m)).length + 1, _, _, _, by go_num, rfl, rfl, by rw [hdd], rfl, hkk, HLx, D5, R8⟩
                case measure => simp [intOf]; omega
        · have hgt : (N : Int) > (n : Int) := by have := HNS.out.1; omega
          have HR0 : Hid (depV l = 0) := BADk.out (by rw [OK.out, hN]; simp; omega)
          clear BADk NXk OK AN HR hab hcs hN HAN
          go_wp2_with fail
          refine Calls.mono (IA.out _) ?_
          rintro e w5 ⟨rfl, hb5⟩
          have B5 : Hid (Below w.heap.size w w5) := BX.out _ hb5
          clear hb5 IA
          go_wp2_with fail
          exact bodyPost_ret (v := .tuple #[.slice none 0 0, .int .i64 0, .bool false]) (by simp [results, Tryd.results65, go_sem]) rfl (NO.out _ _ B5.out HR0.out rfl)
    · have hke : k = l.length := by omega
      have HD2 : Hid (DI l l.length S ∧ szVL S = l.length) := by rw [← hke]; exact HD.out
      clear hke HD
      by_cases h1 : S.length = 1
      · obtain ⟨t, rfl⟩ := List.length_eq_one_iff.1 h1
        obtain rfl : n = 1 := HNS.out.1
        obtain rfl : nf = F.length := HNS.out.2
        have cd0 : wr.cell? ⟨gd, 0, none⟩ = some (.int .i64 ((dpV t : Nat) : Int)) := own_int HR.out.d (by simp [dsV]) (j := 0) (by simp [dsV])
        have FN : Hid (∀ w', Below wr.heap.size wr w' → AnsB l w w' (.returned (.tuple #[.slice (some ⟨gf, 0, none⟩) F.length cf, .int .i64 ((dpV t : Nat) : Int), .bool true]))) := fun w' b => by
          refine ⟨HR.out.bl.trans (b.mono HR.out.bl.size), Or.inr ⟨t, F, _, cf, ?_, rfl, HR.out.f.below b, HR.out.fr, by rw [HR.out.fl]; exact HD2.out.2⟩⟩
          rw [HD2.out.1.eq, List.drop_length, bV]
        have BR : Hid (Below wr.heap.size wr wr) := Below.refl _ _
        have BD : Hid (Below wr.heap.size wr wr.drew) := (Below.refl _ _).drew
        generalize dpV t = dt at *
        clear HR HD2 HNS h1
        go_wp2_with fail
        go_region
        all_goals
          go_wp2_with fail
          exact bodyPost_ret (v := .tuple #[.slice (some ⟨gf, 0, none⟩) F.length cf, .int .i64 (dt : Nat), .bool true]) (by simp [results, Tryd.results65, go_sem]) rfl (FN.out _ (by first | exact BD.out | exact BR.out))
      · have hn1 : ¬ (n : Int) = 1 := by have := HNS.out.1; omega
        have HR0 : Hid (depV l = 0) := by rw [HD2.out.1.fin, if_neg h1]; rfl
        have B5 : Hid (Below w.heap.size w wr) := HR.out.bl
        clear HR HD2 HNS h1
        go_wp2_with fail
        exact bodyPost_ret (v := .tuple #[.slice none 0 0, .int .i64 0, .bool false]) (by simp [results, Tryd.results65, go_sem]) rfl (NO.out _ _ B5.out HR0.out rfl)
end Go.Proofs.YtbgeihgenckihaaDoor
