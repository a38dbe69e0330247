/- Names, the reference: Check. -/
import Derived.Test.YtffabehipcomfaaDoorPu2
namespace Go.Proofs.YtffabehipcomfaaDoor
open Go.RowKit

/-- How far deepest has come. -/
structure DI (w wk : World) (g cs : Nat) (S : List Int) (k : Nat) (l : List Opn) : Prop where
  s : OwnG KI wk w.heap.size (.slice (some ⟨g, 0, none⟩) S.length cs) S
  bl : Below w.heap.size w wk
  wl : walkN S.length (nsO (l.drop k)) = some 1
  dp : dpS [] (nsO l) = dpS S (nsO (l.drop k))
  bd : ∀ x ∈ S, 0 ≤ x ∧ x ≤ k
  ls : S.length ≤ k
theorem own_cap {w : World} {base g n cap : Nat} {S : List Int} (h : OwnG KI w base (.slice (some ⟨g, 0, none⟩) n cap) S) : S.length ≤ cap := by
  obtain ⟨p, c, e, hc⟩ := h.form
  injection e with _ _ e; omega
set_option maxHeartbeats 8000000 in
set_option maxRecDepth 100000 in
theorem rdeep_any (v : Value) (l : List Opn) (w : World) (h : OS w v l) (hlm : l.length ≤ 256) (hw : walkN 0 (nsO l) = some 1) :
    Calls Tryd.prog 65 #[v] w fun e w' => e = .returned (.int .i64 (deepO l)) ∧ Below w.heap.size w w' := by
  obtain ⟨p, cap, rfl⟩ := h.form
  have HS : Hid (OS w (.slice p l.length cap) l) := h
  have HW : Hid (walkN 0 (nsO l) = some 1) := hw
  have HD : Hid (deepO l = (dpS [] (nsO l)).getD 0 0) := rfl
  generalize deepO l = dv at *
  clear h hw
  have D0 : Hid (DI w (w.alloc (.cells #[] 3)) w.heap.size 0 [] 0 l) := ⟨OwnG.empty KI w, (Below.refl _ _).alloc (Nat.le_refl _) _, HW.out, rfl, (fun x hx => by simp at hx), Nat.le_refl _⟩
  go_enter Tryd.func65, Tryd.ntmps65
  go_wp2
  go_loopw [3, 4] (fun v3 v4 wr => ∃ (k g cs : Nat) (S : List Int) (wk : World), v4 = .int .i64 k ∧ v3 = .slice (some ⟨g, 0, none⟩) S.length cs ∧ wk = wr ∧ k ≤ l.length ∧ Hid (DI w wk g cs S k l)) (fun _ v4 _ => l.length - (intOf v4).toNat)
  case atStart => exact ⟨0, _, 0, [], _, rfl, rfl, rfl, Nat.zero_le _, D0⟩
  case round =>
    obtain ⟨k, g, cs, S, wr, rfl, rfl, rfl, hk, HI⟩ := hrel
    clear D0
    by_cases hlt : k < l.length
    · obtain ⟨X, o, e1, x1, x2, x3, x4⟩ := (HS.out.below HI.out.bl).atO hlt
      obtain rfl : p = some ⟨X, o, none⟩ := e1
      have hwl := HI.out.wl
      have hdp := HI.out.dp
      rw [drop_op hlt, show nsO (l[k] :: l.drop (k + 1)) = l[k].n :: nsO (l.drop (k + 1)) from rfl] at hwl hdp
      obtain ⟨c, hcc⟩ : ∃ c, c = l[k] := ⟨_, rfl⟩
      rw [← hcc] at x1 x2 x3 x4 hwl hdp
      obtain ⟨⟨hn0, hcn⟩, hwn⟩ := walk_step hwl
      obtain ⟨m, hm⟩ : ∃ m : Nat, c.n = m := ⟨c.n.toNat, by omega⟩
      have hmS : m ≤ S.length := by omega
      rw [hm] at x2
      have HWN : Hid (walkN (S.length - m + 1 : Nat) (nsO (l.drop (k + 1))) = some 1) := by
        show walkN _ _ = _
        rw [show ((S.length - m + 1 : Nat) : Int) = S.length + (1 - c.n) by omega]; exact hwn
      have HDN : Hid (dpS [] (nsO l) = dpS (S.take (S.length - m) ++ [mxL (S.drop (S.length - m)) + 1]) (nsO (l.drop (k + 1)))) := by
        show dpS [] (nsO l) = _
        rw [hdp, dpS, show c.n.toNat = m by omega]
      have hcap : S.length ≤ cs := own_cap HI.out.s
      have hSk : S.length ≤ k := HI.out.ls
      have hkl : k ≤ 1024 := by omega
      clear hcc hwl hdp hcn hwn hn0 hm
      go_wp2
      go_loop [3, 5, 6] (fun v5 v7 v8 => ∃ (j q : Nat), v8 = .int .i64 j ∧ v5 = .slice (some ⟨g, 0, none⟩) q cs ∧ q + j = S.length ∧ j ≤ m ∧ v7 = .int .i64 (mxL (S.drop q))) (fun _ _ v8 => m - (intOf v8).toNat)
      case atStart => exact ⟨0, S.length, rfl, rfl, rfl, Nat.zero_le _, by simp [mxL]⟩
      case round =>
        obtain ⟨j, q, rfl, rfl, hq, hj, rfl⟩ := hrel
        have bd := mxL_bd (S.drop q) k (by omega) (fun x hx => (HI.out.bd x (List.mem_of_mem_drop hx)).2)
        obtain ⟨bd1, bd2⟩ := bd
        by_cases hjm : j < m
        · obtain ⟨q', rfl⟩ : ∃ q', q = q' + 1 := ⟨q - 1, by omega⟩
          have cq := own_int HI.out.s rfl (j := q') (by omega)
          have MD : Hid _ := mxL_drop (S := S) (q := q') (by omega)
          have be := HI.out.bd _ (mem_getD (S := S) (j := q') (by omega))
          generalize S.getD q' 0 = y at *
          generalize mxL (S.drop (q' + 1)) = z at *
          go_wp2
          go_round
          case rel => exact ⟨j + 1, q', by go_num, rfl, by omega, by omega, by rw [MD.out]; congr 1; split <;> omega⟩
          case measure => simp [intOf]; omega
        · have hqe : q = S.length - m := by omega
          obtain ⟨S0, hS0⟩ : ∃ S0, S0 = S.take q := ⟨_, rfl⟩
          have hS0l : S0.length = q := by rw [hS0]; simp; omega
          have C0 : Hid (OwnG KI wr w.heap.size (.slice (some ⟨g, 0, none⟩) q cs) S0) := by show OwnG _ _ _ _ _; rw [hS0]; exact HI.out.s.cut KI_ok.len q (by omega)
          have LS : Hid ((S0.length + 1) * KI.B ≤ 140737488355328) := by show (S0.length + 1) * 8 ≤ _; omega
          have ZB : Hid (w.heap.size ≤ wr.heap.size) := HI.out.bl.size
          have NXT : Hid (∀ g1 c1 w6, OwnG KI w6 w.heap.size (.slice (some ⟨g1, 0, none⟩) (S0.length + 1) c1) (S0 ++ [mxL (S.drop q) + 1]) → Below w.heap.size wr w6 → DI w w6 g1 c1 (S0 ++ [mxL (S.drop q) + 1]) (k + 1) l) := fun g1 c1 w6 ho hb => by
            refine ⟨by rw [List.length_append]; exact ho, HI.out.bl.trans hb, ?_, ?_, ?_, by simp; omega⟩
            · have := HWN.out; rw [List.length_append, hS0l, hqe]; exact this
            · have := HDN.out; rw [← hqe, ← hS0] at this; exact this
            · intro x hx
              rw [List.mem_append, List.mem_singleton] at hx
              rcases hx with hx | hx
              · rw [hS0] at hx
                have := HI.out.bd x (List.mem_of_mem_take hx); omega
              · omega
          have hne : Hid ((S0 ++ [mxL (S.drop q) + 1]).length = S0.length + 1) := by show _ = _; simp
          generalize mxL (S.drop q) = z at *
          clear hS0 hS0l hqe
          go_wp2_with (at_builtin; refine append_g KI KI_ok rfl (.tmp 36) (.tmp 39) 100 rfl w.heap.size Tryd.underlying100 _ _ _ (.slice (some ⟨g, 0, none⟩) q cs) S0 (z + 1) _ rfl C0.out _ rfl rfl rfl LS.out ZB.out ?_; intro g1 c1 w6 ho6 hb6 hk6 hg6)
          go_roundw
          case rel => exact ⟨k + 1, g1, c1, S0 ++ [z + 1], _, by go_num, by rw [hne.out], rfl, by omega, NXT.out _ _ _ ho6 hb6⟩
          case measure => simp [intOf]; omega
    · have hwl := HI.out.wl
      have hdp := HI.out.dp
      rw [List.drop_eq_nil_of_le (by omega)] at hwl hdp
      simp only [nsO, List.map_nil, walkN, dpS] at hwl hdp
      have hS1 : S.length = 1 := by injection hwl with hwl; omega
      have c0 := own_int HI.out.s rfl (j := 0) (by omega)
      have HV : Hid (dv = S.getD 0 0) := by show dv = _; rw [HD.out]; unfold nsO; rw [hdp]
      generalize S.getD 0 0 = y at *
      have B0 : Hid (Below w.heap.size w wr) := HI.out.bl
      clear HI hwl hdp HD
      go_wp2
      go_ret
      exact ⟨ret_int HV.out.symm, B0.out⟩
end Go.Proofs.YtffabehipcomfaaDoor
namespace Go.Proofs.YtffabehipcomfaaDoor
open Go.RowKit

set_option maxHeartbeats 4000000 in
theorem rcheck_any (v : Value) (l : List Opn) (w : World) (h : OS w v l) (ht : ∀ c ∈ l, c.text.size ≤ maxLen) (_hlm : l.length ≤ 1000000000000000) :
    Calls Tryd.prog 44 #[v] w fun e w' => e = .returned (.int .i64 (chkO l)) ∧ Below w.heap.size w w' := by
  have hlm := _hlm
  have HC : Hid (chkO l = if 256 < l.length then 3 else if wholeB l = true ∧ boundB l = true then (if longB l = true ∨ 32 < deepO l then 3 else 0) else 5) := rfl
  by_cases hl : 256 < l.length
  · obtain ⟨p, cap, rfl⟩ := h.form
    rw [if_pos hl] at HC
    generalize chkO l = r at *
    have hl2 : (l.length : Int) > 256 := by omega
    clear h ht
    go_enter Tryd.func44, Tryd.ntmps44
    go_wp2
    go_ret
    exact ⟨ret_int HC.out.symm, Below.refl _ _⟩
  · rw [if_neg hl] at HC
    have hl2 : ¬ (l.length : Int) > 256 := by omega
    cases hwh : wholeB l with
    | false =>
      have BG : Hid _ := begins_bad v l w h ht (by omega) hwh
      rw [hwh] at HC
      obtain ⟨p, cap, rfl⟩ := h.form
      generalize chkO l = r at *
      clear h ht hwh
      go_enter Tryd.func44, Tryd.ntmps44
      go_wp2_with fail
      refine Calls.mono BG.out ?_
      rintro e w1 ⟨p1, n1, c1, rfl, hb1⟩
      have B1 : Hid (Below w.heap.size w w1) := hb1
      clear hb1
      go_wp2_with fail
      go_ret
      exact ⟨ret_int (by rw [HC.out]; rfl), B1.out⟩
    | true =>
      have BG : Hid _ := begins_ok v l w h ht (by omega) hwh
      rw [hwh] at HC
      have IB : Hid (∀ w1, Below w.heap.size w w1 → _) := fun w1 b => rbound_any v l w1 (h.below b) ht (by omega) hwh
      have ID : Hid (∀ w1, Below w.heap.size w w1 → _) := fun w1 b => rdeep_any v l w1 (h.below b) (by omega) (wholeB_ok hwh).2
      obtain ⟨p, cap, rfl⟩ := h.form
      have HS : Hid (OS w (.slice p l.length cap) l) := h
      have HH : Hid (∀ k (h : k < l.length), 4096 < l[k].text.size → longB l = true) := fun k h => longB_hit h
      have HM : Hid ((∀ k (h : k < l.length), l[k].text.size ≤ 4096) → longB l = false) := longB_iff.2
      generalize chkO l = r at *
      generalize boundB l = rb at *
      generalize longB l = rl at *
      generalize deepO l = rd at *
      clear h ht hwh
      cases rb with
      | false =>
        clear HH HM
        go_enter Tryd.func44, Tryd.ntmps44
        go_wp2_with fail
        refine Calls.mono BG.out ?_
        rintro e w1 ⟨p1, c1, rfl, _, hb1⟩
        have B1 : Hid (Below w.heap.size w w1) := hb1
        clear hb1
        go_wp2_with fail
        refine Calls.mono (IB.out _ B1.out) ?_
        rintro e w2 ⟨rfl, hb2⟩
        have B2 : Hid (Below w.heap.size w w2) := B1.out.trans (hb2.mono B1.out.size)
        clear hb2
        go_wp2_with fail
        go_ret
        exact ⟨ret_int (by rw [HC.out]; rfl), B2.out⟩
      | true =>
        rw [if_pos ⟨rfl, rfl⟩] at HC
        go_enter Tryd.func44, Tryd.ntmps44
        go_wp2_with fail
        refine Calls.mono BG.out ?_
        rintro e w1 ⟨p1, c1, rfl, _, hb1⟩
        have B1 : Hid (Below w.heap.size w w1) := hb1
        clear hb1
        go_wp2_with fail
        refine Calls.mono (IB.out _ B1.out) ?_
        rintro e w2 ⟨rfl, hb2⟩
        have B2 : Hid (Below w.heap.size w w2) := B1.out.trans (hb2.mono B1.out.size)
        have HS2 : Hid (OS w2 (.slice p l.length cap) l) := HS.out.below B2.out
        clear hb2 HS B1 BG IB
        go_wp2_with fail
        go_loop [5] (fun v5 => ∃ (k : Nat), v5 = .int .i64 k ∧ k ≤ l.length ∧ Hid (∀ i (h : i < l.length), i < k → l[i].text.size ≤ 4096)) (fun v5 => l.length - (intOf v5).toNat)
        case atStart => exact ⟨0, rfl, Nat.zero_le _, fun i _ h => by omega⟩
        case round =>
          obtain ⟨k, rfl, hk, HW⟩ := hrel
          by_cases hlt : k < l.length
          · obtain ⟨X, o, e1, x1, x2, x3, x4⟩ := HS2.out.atO hlt
            obtain rfl : p = some ⟨X, o, none⟩ := e1
            have HK : Hid (4096 < l[k].text.size → rl = true) := HH.out k hlt
            have HK2 : Hid (l[k].text.size ≤ 4096 → ∀ i (h : i < l.length), i < k + 1 → l[i].text.size ≤ 4096) := fun h0 i hi hik => by
              by_cases e : i = k
              · subst e; exact h0
              · exact HW.out i hi (by omega)
            obtain ⟨c, hc⟩ : ∃ c, c = l[k] := ⟨_, rfl⟩
            rw [← hc] at x1 x2 x3 x4 HK HK2
            clear hc
            by_cases hs : 4096 < c.text.size
            · have hs2 : (c.text.size : Int) > 4096 := by omega
              have hr := HK.out hs
              subst hr
              clear HK HK2 HH HM
              go_wp2_with fail
              go_ret
              exact ⟨ret_int (by rw [HC.out]; simp), B2.out⟩
            · have hs2 : ¬ (c.text.size : Int) > 4096 := by omega
              have H3 : Hid _ := HK2.out (by omega)
              go_wp2_with fail
              go_round
              case rel => exact ⟨k + 1, by go_num, by omega, H3⟩
              case measure => simp [intOf]; omega
          · have hr := HM.out (fun i hi => HW.out i hi (by omega))
            subst hr
            clear HH HM
            go_wp2_with fail
            refine Calls.mono (ID.out _ B2.out) ?_
            rintro e w3 ⟨rfl, hb3⟩
            have B3 : Hid (Below w.heap.size w w3) := B2.out.trans (hb3.mono B2.out.size)
            clear hb3
            by_cases hd : 32 < rd
            · have hd2 : rd > 32 := hd
              go_wp2_with fail
              go_ret
              exact ⟨ret_int (by rw [HC.out]; simp [hd]), B3.out⟩
            · have hd2 : ¬ rd > 32 := hd
              go_wp2_with fail
              go_ret
              exact ⟨ret_int (by rw [HC.out]; simp [hd]), B3.out⟩
end Go.Proofs.YtffabehipcomfaaDoor
