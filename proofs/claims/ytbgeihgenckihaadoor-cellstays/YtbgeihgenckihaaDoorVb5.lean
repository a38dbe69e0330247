/- Values: how deep, walked; Check. -/
import Derived.Test.YtbgeihgenckihaaDoorVb4
namespace Go.Proofs.YtbgeihgenckihaaDoor
open Go.RowKit

/-- The texts of a row may be. -/
def AT (l : List Atm) : Prop := ∀ c ∈ l, c.text.size ≤ maxLen
set_option maxHeartbeats 8000000 in
set_option maxRecDepth 100000 in
theorem depthOf_any (v : Value) (l : List Atm) (w : World) (h : AS w v l) (ht : AT l) (hlm : l.length ≤ 1048576) :
    Calls Tryd.prog 63 #[v] w fun e w' => e = .returned (.int .i64 (depV l)) ∧ Below w.heap.size w w' := by
  obtain ⟨p, cap, rfl⟩ := h.form
  have HS : Hid (AS w (.slice p l.length cap) l) := h
  have HT : Hid (AT l) := ht
  have NX : Hid (∀ k S (hk : k < l.length), DI l k S → szVL S = k → okV S l[k] = true → DI l (k + 1) (stV S l[k]) ∧ szVL (stV S l[k]) = k + 1) := fun k S hk hd hz hc => ⟨hd.next hk hc, DI.size hz hk hc⟩
  have BAD : Hid (∀ k S (hk : k < l.length), DI l k S → okV S l[k] = false → depV l = 0) := fun k S hk hd hc => hd.bad hk hc
  have FIN : Hid (∀ S, DI l l.length S → depV l = if S.length = 1 then (dpVL S : Nat) else 0) := fun S hd => hd.fin
  have D0 : Hid (DI l 0 [] ∧ szVL [] = 0) := ⟨DI.start l, rfl⟩
  obtain ⟨R, hR⟩ : ∃ R, R = depV l := ⟨_, rfl⟩
  rw [← hR] at BAD FIN ⊢
  clear h ht hR
  go_enter Tryd.func63, Tryd.ntmps63
  go_wp2_with fail
  go_loopw [3, 12] (fun v3 v12 wr => ∃ (k n c : Nat) (q : Option Addr) (S : List Vt) (wk : World), v12 = .int .i64 k ∧ v3 = .slice q n c ∧ wk = wr ∧ k ≤ l.length ∧ Hid (n = S.length) ∧ Hid (DI l k S ∧ szVL S = k) ∧ Hid (OwnG KI wk w.heap.size (.slice q n c) (dsV S) ∧ Below w.heap.size w wk)) (fun _ v12 _ => l.length - (intOf v12).toNat)
  case atStart => exact ⟨0, 0, 0, none, [], _, rfl, rfl, rfl, Nat.zero_le _, rfl, D0, OwnG.nil _ _ _, Below.refl _ _⟩
  case round =>
    obtain ⟨k, n, c, q, S, wr, rfl, rfl, rfl, hk, HNS, HD, HO⟩ := hrel
    clear D0
    by_cases hlt : k < l.length
    · obtain ⟨X, o, e1, x0, x1, x2, x3⟩ := (HS.out.below HO.out.2).atA hlt
      obtain rfl : p = some ⟨X, o, none⟩ := e1
      have IA : Hid (∀ w1, _) := fun w1 => isAtom_any l[k] w1 (HT.out _ (List.getElem_mem hlt))
      have AL : Hid (∀ ob, Below wr.heap.size wr (wr.alloc ob)) := fun ob => (Below.refl _ _).alloc (Nat.le_refl _) ob
      have NXk : Hid (okV S l[k] = true → DI l (k + 1) (stV S l[k]) ∧ szVL (stV S l[k]) = k + 1) := NX.out k S hlt HD.out.1 HD.out.2
      have BADk : Hid (okV S l[k] = false → R = 0) := BAD.out k S hlt HD.out.1
      have OK : Hid (okV S l[k] = (atB l[k] && decide (l[k].n ≤ S.length))) := rfl
      have AN : Hid (atB l[k] = true → 0 ≤ l[k].n) := fun e => (atB_n e).1
      have hS := HD.out.1.ls
      have DB : Hid (∀ m j, mxD S m j ≤ 1048576) := fun m j => by have h1 := dpVL_sub (S := S) (m := m) (j := j); have h2 := dpVL_sz S; rw [HD.out.2] at h2; omega
      generalize l[k] = a at *
      clear HS HT NX BAD FIN HD
      obtain ⟨ak, hak⟩ : ∃ x, x = a.kind := ⟨_, rfl⟩
      obtain ⟨an, han⟩ : ∃ x, x = a.n := ⟨_, rfl⟩
      obtain ⟨ai, hai⟩ : ∃ x, x = a.int := ⟨_, rfl⟩
      obtain ⟨tx, htx⟩ : ∃ x, x = a.text := ⟨_, rfl⟩
      have IA : Hid (∀ w1, Calls Tryd.prog 67 #[.agg #[.int .i64 ak, .int .i64 an, .int .i64 ai, .string tx]] w1 fun e w' => e = .returned (.bool (atB a)) ∧ Below w1.heap.size w1 w') := by rw [hak, han, hai, htx]; exact IA.out
      rw [← hak] at x0
      rw [← han] at x1 AN
      rw [← hai] at x2
      rw [← htx] at x3
      have HAN : Hid (a.n = an) := han.symm
      clear hak han hai htx
      cases hab : atB a with
      | false =>
        rw [hab] at IA OK
        have HR : Hid (R = 0) := BADk.out (by rw [OK.out]; rfl)
        have B0 : Hid (Below w.heap.size w wr) := HO.out.2
        clear BADk NXk OK AN HO
        go_wp2_with fail
        refine Calls.mono (IA.out _) ?_
        rintro e w5 ⟨rfl, hb5⟩
        have B5 : Hid (Below w.heap.size w w5) := (B0.out.trans ((AL.out _).mono B0.out.size)).trans (hb5.mono (by have h1 := B0.out.size; have h2 := (AL.out (.cells #[.int .i64 ak, .int .i64 an, .int .i64 ai, .string tx] 77)).size; omega))
        clear hb5 IA
        go_wp2_with fail
        go_ret
        exact ⟨by rw [HR.out]; rfl, B5.out⟩
      | true =>
        rw [hab] at IA OK
        have hn0 := AN.out hab
        obtain ⟨N, rfl⟩ : ∃ N : Nat, an = N := ⟨an.toNat, by omega⟩
        have hN := HAN.out
        by_cases hcs : N ≤ S.length
        · have hgt : ¬ (N : Int) > (n : Int) := by have := HNS.out; omega
          obtain ⟨DN, SN⟩ := NXk.out (by rw [OK.out, hN]; simp; omega)
          have hcut : cutV S a = n - N := by unfold cutV; rw [hN, HNS.out]; simp
          have D5 : Hid (DI l (k + 1) (stV S a) ∧ szVL (stV S a) = k + 1) := ⟨DN, SN⟩
          have DS : Hid (dsV (stV S a) = dsV (S.take (n - N)) ++ [((dpVL (S.drop (n - N)) : Nat) : Int) + 1]) := by have := dsV_st S a; rw [hcut] at this; exact this
          obtain ⟨m, hm⟩ : ∃ m, m = n - N := ⟨_, rfl⟩
          rw [← hm] at DS
          have hmI : (n : Int) - (N : Int) = (m : Int) := by have := HNS.out; omega
          have hmn : m ≤ n := by omega
          have hnb : n ≤ 1048576 := by have := HNS.out; omega
          have hmN : n - m = N := by have := HNS.out; omega
          clear hN HAN
          clear NXk BADk OK AN hab DN SN hcut hm hcs
          rcases HO.out.1.2 with ⟨e, _⟩ | ⟨g, cp, cur, e1, e2, e3, e4, e5, e6, e7⟩
          · injection e with e1 e2 e3
            subst e1 e2 e3
            obtain rfl : m = 0 := by omega
            obtain rfl : N = 0 := by omega
            have hS0 : S = [] := List.length_eq_zero_iff.1 HNS.out.symm
            rw [hS0] at DS
            have DS2 : Hid (dsV (stV S a) = [1]) := by rw [hS0]; exact DS.out
            have O5 : Hid (∀ w5, Below wr.heap.size wr w5 → Below w.heap.size w w5) := fun w5 b => HO.out.2.trans (b.mono HO.out.2.size)
            have C0 : Hid (∀ ob w5, Below (wr.alloc ob).heap.size (wr.alloc ob) w5 → Below wr.heap.size wr w5) := fun ob w5 b => (AL.out ob).trans (b.mono (AL.out ob).size)
            have LS : Hid ((([] : List Int).length + 1) * KI.B ≤ 140737488355328) := by show (0 + 1) * 8 ≤ _; omega
            clear DS HO hS0
            go_wp2_with fail
            refine Calls.mono (IA.out _) ?_
            rintro e w5 ⟨rfl, hb5⟩
            have y1 : w5.cell? ⟨wr.heap.size, 1, none⟩ = some (.int .i64 0) := (hb5.cell (p := ⟨wr.heap.size, 1, none⟩) (by simp)).trans (cell_of_row _ _ _ _ _ _ (heap_alloc_new wr _))
            have B5 : Hid (Below w.heap.size w w5) := O5.out _ (C0.out _ _ hb5)
            clear hb5 IA C0 O5
            go_wp2_with fail
            go_loopw [7, 35] (fun v7 v35 wx => ∃ (wk : World), v35 = .int .i64 0 ∧ v7 = .int .i64 0 ∧ wk = wx ∧ wk = w5) (fun _ _ _ => 0)
            case atStart => exact ⟨_, rfl, rfl, rfl, rfl⟩
            case round =>
              obtain ⟨wj, rfl, rfl, rfl, rfl⟩ := hrel
              go_wp2_with (at_builtin; refine append_g KI KI_ok rfl (.tmp 45) (.tmp 48) 99 rfl w.heap.size Tryd.underlying99 wj _ _ (.slice none 0 0) [] 1 _ rfl (OwnG.nil _ _ _) _ rfl rfl rfl LS.out B5.out.size ?_; intro g2 c2 w6 ho6 hb6 hk6 hg6)
              have H6 : Hid (OwnG KI w6 w.heap.size (.slice (some ⟨g2, 0, none⟩) 1 c2) (dsV (stV S a)) ∧ Below w.heap.size w w6) := ⟨by rw [DS2.out]; exact ho6, B5.out.trans hb6⟩
              have HL6 : Hid (1 = (stV S a).length) := by show _ = _; rw [← dsV_len (stV S a), DS2.out]; rfl
              clear ho6 hb6 hk6 hg6 DS2
              go_roundw
              case rel => exact ⟨k + 1, 1, c2, _, stV S a, _, by go_num, rfl, rfl, hlt, HL6, D5, H6⟩
              case measure => simp [intOf]; omega
          · injection e1 with e1 e8 e9
            subst e1 e9
            have hnc : n ≤ c := by rw [e8]; exact e4
            have O5 : Hid (∀ w5, Below wr.heap.size wr w5 → OwnG KI w5 w.heap.size (.slice (some ⟨g, 0, none⟩) n c) (dsV S) ∧ Below w.heap.size w w5) := fun w5 b => ⟨HO.out.1.below b, HO.out.2.trans (b.mono HO.out.2.size)⟩
            clear e2 e3 e4 e5 e6 e7 e8 HO
            have C0 : Hid (∀ ob w5, Below (wr.alloc ob).heap.size (wr.alloc ob) w5 → Below wr.heap.size wr w5) := fun ob w5 b => (AL.out ob).trans (b.mono (AL.out ob).size)
            go_wp2_with fail
            refine Calls.mono (IA.out _) ?_
            rintro e w5 ⟨rfl, hb5⟩
            have y1 : w5.cell? ⟨wr.heap.size, 1, none⟩ = some (.int .i64 N) := (hb5.cell (p := ⟨wr.heap.size, 1, none⟩) (by simp)).trans (cell_of_row _ _ _ _ _ _ (heap_alloc_new wr _))
            have B5 : Hid (Below wr.heap.size wr w5) := C0.out _ _ hb5
            clear hb5 IA C0
            have O6 := O5.out w5 B5.out
            have CJ : Hid (∀ j (hj : m + j < S.length), w5.cell? ⟨g, m + j, none⟩ = some (.int .i64 ((dpV S[m + j] : Nat) : Int))) := fun j hj => by
              have h1 := own_int O6.1 (by rw [dsV_len]; exact HNS.out) (j := m + j) (by rw [dsV_len]; exact hj)
              rw [h1]; simp [dsV, List.getD, List.getElem?_eq_getElem hj]
            have OW : Hid (∀ c', c' = c → OwnG KI w5 w.heap.size (.slice (some ⟨g, 0, none⟩) m c') (dsV (S.take m))) := fun c' hc' => by
              subst hc'
              have := O6.1.cut KI_ok.len m (by rw [dsV_len, ← HNS.out]; exact hmn)
              rw [dsV_take] at this; exact this
            have LS : Hid (((dsV (S.take m)).length + 1) * KI.B ≤ 140737488355328) := by show (_ + 1) * 8 ≤ _; rw [dsV_len, List.length_take]; omega
            have BS : Hid (w.heap.size ≤ w5.heap.size) := O6.2.size
            have B6 : Hid (Below w.heap.size w w5) := O6.2
            clear O6 O5 B5
            go_wp2_with fail
            all_goals
              go_loopw [7, 35] (fun v7 v35 wx => ∃ (j : Nat) (d : Int) (wk : World), v35 = .int .i64 j ∧ v7 = .int .i64 d ∧ wk = wx ∧ wk = w5 ∧ j ≤ N ∧ Hid (d = (mxD S m j : Nat))) (fun _ v35 _ => N - (intOf v35).toNat)
              case atStart => exact ⟨0, 0, _, rfl, rfl, rfl, rfl, Nat.zero_le _, (by show _ = _; simp [mxD, dpVL])⟩
              case round =>
                obtain ⟨j, d, wj, rfl, rfl, rfl, rfl, hj, HDJ⟩ := hrel
                have hdb : 0 ≤ d ∧ d ≤ 1048576 := by have h1 := DB.out m j; have h2 := HDJ.out; omega
                obtain ⟨hd1, hd2⟩ := hdb
                by_cases hjl : j < N
                · first
                  | (exfalso; omega)
                  | (have hjs : m + j < S.length := by have := HNS.out; omega
                     have cj := CJ.out j hjs
                     have hnx : Hid (mxD S m (j + 1) = max (mxD S m j) (dpV S[m + j])) := mxD_next hjs
                     have hdp : dpV S[m + j] ≤ 1048576 := by have h1 := DB.out m (j + 1); have h2 := hnx.out; omega
                     generalize dpV S[m + j] = dj at *
                     have HX : Hid (∀ x : Int, x = max d dj → x = (mxD S m (j + 1) : Nat)) := fun x hx => by have h1 := hnx.out; have h2 := HDJ.out; omega
                     clear hnx HDJ
                     go_wp2_with fail
                     go_roundw
                     case rel => exact ⟨j + 1, _, _, by go_num, rfl, rfl, rfl, hjl, HX.out _ (by first | rfl | omega | (split <;> omega))⟩
                     case measure => simp [intOf]; omega)
                · have hdf : Hid (d = ((dpVL (S.drop m) : Nat) : Int)) := by show _ = _; rw [HDJ.out, mxD_all (by have := HNS.out; omega)]
                  rw [← hdf.out] at DS
                  clear hdf HDJ CJ DB
                  go_wp2_with (at_builtin; refine append_g KI KI_ok rfl (.tmp 45) (.tmp 48) 99 rfl w.heap.size Tryd.underlying99 wj _ _ (.slice (some ⟨g, 0, none⟩) m _) (dsV (S.take m)) (d + 1) _ rfl (OW.out _ (by omega)) _ rfl rfl rfl LS.out BS.out ?_; intro g2 c2 w6 ho6 hb6 hk6 hg6)
                  have H6 : Hid (OwnG KI w6 w.heap.size (.slice (some ⟨g2, 0, none⟩) ((dsV (S.take m)).length + 1) c2) (dsV (stV S a)) ∧ Below w.heap.size w w6) := ⟨by rw [DS.out]; exact ho6, B6.out.trans hb6⟩
                  have HL6 : Hid ((dsV (S.take m)).length + 1 = (stV S a).length) := by show _ = _; rw [← dsV_len (stV S a), DS.out, List.length_append]; rfl
                  clear ho6 hb6 hk6 hg6 DS
                  go_roundw
                  case rel => exact ⟨k + 1, _, c2, _, stV S a, _, by go_num, rfl, rfl, hlt, HL6, D5, H6⟩
                  case measure => simp [intOf]; omega
        · have hgt : (N : Int) > (n : Int) := by have := HNS.out; omega
          have HR : Hid (R = 0) := BADk.out (by rw [OK.out, hN]; simp; omega)
          have B0 : Hid (Below w.heap.size w wr) := HO.out.2
          have C0 : Hid (∀ ob w5, Below (wr.alloc ob).heap.size (wr.alloc ob) w5 → Below w.heap.size w w5) := fun ob w5 b => (B0.out.trans ((AL.out ob).mono B0.out.size)).trans (b.mono (by have h1 := B0.out.size; have h2 := (AL.out ob).size; omega))
          clear hN HAN
          clear BADk NXk OK AN HO hab hcs
          go_wp2_with fail
          refine Calls.mono (IA.out _) ?_
          rintro e w5 ⟨rfl, hb5⟩
          have y1 : w5.cell? ⟨wr.heap.size, 1, none⟩ = some (.int .i64 N) := (hb5.cell (p := ⟨wr.heap.size, 1, none⟩) (by simp)).trans (cell_of_row _ _ _ _ _ _ (heap_alloc_new wr _))
          have B5 : Hid (Below w.heap.size w w5) := C0.out _ _ hb5
          clear hb5 IA C0
          go_wp2_with fail
          go_ret
          exact ⟨by rw [HR.out]; rfl, B5.out⟩
    · have hke : k = l.length := by omega
      have HF : Hid (R = if S.length = 1 then (dpVL S : Nat) else 0) := FIN.out S (by rw [← hke]; exact HD.out.1)
      clear hke
      by_cases h1 : S.length = 1
      · have hn : n = 1 := by rw [HNS.out, h1]
        subst hn
        rw [if_pos h1] at HF
        obtain ⟨X, o, e1, x0⟩ := (HO.out.1.gs KI_ok.len).atI (k := 0) (by rw [dsV_len]; omega)
        obtain rfl : q = some ⟨X, o, none⟩ := e1
        have e2 : (dsV S)[0]'(by rw [dsV_len]; omega) = R := by
          rw [HF.out, dsV_at (by omega)]
          match S, h1 with
          | [t], _ => simp [dpVL]
        rw [e2, Nat.add_zero] at x0
        clear e2 HF h1
        have B1 : Hid (Below w.heap.size w wr) := HO.out.2
        clear HO HD
        go_wp2_with fail
        go_ret
        exact ⟨rfl, B1.out⟩
      · rw [if_neg h1] at HF
        have hn : ¬ (n : Int) = 1 := by have := HNS.out; omega
        have B1 : Hid (Below w.heap.size w wr) := HO.out.2
        clear HO HD h1
        go_wp2_with fail
        go_ret
        exact ⟨by rw [HF.out]; rfl, B1.out⟩
end Go.Proofs.YtbgeihgenckihaaDoor
