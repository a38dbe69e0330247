/- Graph: Round of the program. -/
import Derived.Test.YtghkhceplpjegaaYf4
import Derived.Test.YtghkhceplpjegaaYe5
import Derived.Test.YtghkhceplpjegaaYg1
namespace Go.Proofs.Ytghkhceplpjegaa
open Go.RowKit

set_option maxRecDepth 100000 in
set_option maxHeartbeats 4000000 in
theorem Components_any (w : World) (n : Int) (v : Value) (l : List (Int × Int)) (hv : GS KE w v l) : Calls Try.prog 22 #[.agg #[.int .i64 n, v]] w fun e w' => AnsP w (cmA n l) (chkG n l) e w' := by
  obtain ⟨p, c, rfl⟩ := hv.form
  generalize hW : w.alloc (.cells #[.int .i64 n, .slice p l.length c] 24) = W
  obtain ⟨bw, c0⟩ := graph_boxF w n p l.length c hW
  have BW := hid bw
  have C0 := hid c0
  have CK := hid (check_any W n _ l (hv.below bw))
  obtain ⟨d0, d1⟩ := c0 W (Below.refl _ _)
  clear bw c0
  by_cases h0 : chkG n l = 0
  · obtain ⟨N, E, rfl, rfl, hg⟩ := chkG_ok h0
    rw [cmA_ok hg, h0]
    rw [h0] at CK
    have CM := hid (fun W' (hb : Below W.heap.size W W') => components_any W' N _ E hg ((hv.below BW.out).below hb))
    rw [eI_len] at C0 CK CM d1 hW ⊢
    obtain ⟨m, hm⟩ : ∃ m, m = E.length := ⟨_, rfl⟩
    rw [← hm] at C0 CK CM d1 hW ⊢
    clear h0 hg hv hm
    go_enter Try.func22, Try.ntmps22
    go_wp2_with (first | (go_at_call 31; refine CK.out.mono ?_; rintro e w6 ⟨rfl, hb6⟩; have B6 := hid hb6; obtain ⟨g0, g1⟩ := C0.out _ hb6; clear hb6) | (go_at_call 50; refine (CM.out _ B6.out).mono ?_; rintro e w7 ⟨p7, c7, v7, rfl, l7, o7, r7, b7⟩; have A7 : Hid (AnsP w (cmL N E) 0 (.returned (.tuple #[.slice p7 (cmL N E).length c7, .int .i64 0])) w7) := ⟨p7, c7, v7, rfl, l7, o7.gs KS_ok.len, fun i hi => (r7 i hi).gs KI_ok.len, bl3 BW.out (bl3 B6.out b7)⟩; clear l7 o7 r7 b7))
    go_ret2
    exact A7.out
  · rw [cmA_no h0]
    generalize chkG n l = r at *
    have b1 : (r != 0) = true := by simp [h0]
    go_enter Try.func22, Try.ntmps22
    go_wp2_with (go_at_call 31; refine CK.out.mono ?_; rintro e w6 ⟨rfl, hb6⟩; have B6 := hid hb6; clear hb6)
    go_ret2
    exact AnsP.none (bl3 BW.out B6.out)
/-- Its nodes go round. -/
def gB (E : List (Nat × Nat)) (p : List Nat) : Bool := decide (1 < p.length) || decide ((hdN p, hdN p) ∈ E)
def gT (E : List (Nat × Nat)) (Q : List (List Nat)) : List Nat := Q.flatMap fun p => if gB E p then p else []
theorem gT_snoc (E : List (Nat × Nat)) (Q : List (List Nat)) (p : List Nat) : gT E (Q ++ [p]) = gT E Q ++ if gB E p then p else [] := by unfold gT; rw [List.flatMap_append]; simp
theorem cm_mem {N : Nat} {E : List (Nat × Nat)} {p : List Nat} : p ∈ cmL N E ↔ ∃ r, r < N ∧ lst E r = true ∧ p = prt N E r := by
  unfold cmL
  rw [List.mem_map]
  constructor
  · rintro ⟨r, hr, rfl⟩
    obtain ⟨h1, h2⟩ := ris_mem.1 hr
    exact ⟨r, h1, h2, rfl⟩
  · rintro ⟨r, h1, h2, rfl⟩
    exact ⟨r, ris_mem.2 ⟨h1, h2⟩, rfl⟩
theorem gT_mem {N : Nat} {E : List (Nat × Nat)} (hg : GOK N E) {x : Nat} : x ∈ gT E (cmL N E) ↔ x < N ∧ wyB E (-1) [x] x = true := by
  unfold gT
  rw [List.mem_flatMap]
  constructor
  · rintro ⟨p, hp, hx⟩
    obtain ⟨r, hr, _, rfl⟩ := cm_mem.1 hp
    by_cases hb : gB E (prt N E r) = true
    · rw [if_pos hb] at hx
      obtain ⟨h1, h2⟩ := prt_mem.1 hx
      refine ⟨h1, (rn_iff hg h1).2 ?_⟩
      unfold gB at hb
      rw [Bool.or_eq_true, decide_eq_true_eq, decide_eq_true_eq] at hb
      rcases hb with hb | hb
      · exact Or.inr (by rw [← prt_same h2]; exact hb)
      · match hq : prt N E r with
        | [] => rw [hq] at hx; cases hx
        | [a] =>
          rw [hq] at hx hb
          rw [List.mem_singleton] at hx
          subst hx
          exact Or.inl hb
        | a :: b :: t => exact Or.inr (by rw [← prt_same h2, hq]; simp)
    · rw [if_neg hb] at hx; cases hx
  · rintro ⟨h1, h2⟩
    obtain ⟨s1, s2, s3, s4⟩ := prt_hd (E := E) h1
    have hx : x ∈ prt N E x := prt_mem.2 ⟨h1, sc.refl _ _⟩
    refine ⟨prt N E x, cm_mem.2 ⟨_, s3, s2, s4⟩, ?_⟩
    have hb : gB E (prt N E x) = true := by
      unfold gB
      rw [Bool.or_eq_true, decide_eq_true_eq, decide_eq_true_eq]
      rcases (rn_iff hg h1).1 h2 with e | e
      · match hq : prt N E x with
        | [] => rw [hq] at hx; cases hx
        | [a] =>
          rw [hq, List.mem_singleton] at hx
          subst hx
          exact Or.inr e
        | a :: b :: t => exact Or.inl (by simp)
      · exact Or.inl e
    rw [if_pos hb]
    exact hx
theorem gT_nodup {N : Nat} {E : List (Nat × Nat)} : (gT E (cmL N E)).Nodup := by
  unfold gT List.Nodup
  rw [List.pairwise_flatMap]
  constructor
  · intro p hp
    obtain ⟨r, _, _, rfl⟩ := cm_mem.1 hp
    split
    · exact (ris_up _ _).imp fun h => Nat.ne_of_lt h
    · exact List.Pairwise.nil
  · unfold cmL
    rw [List.pairwise_map]
    refine List.Pairwise.imp_of_mem ?_ (ris_up N (lst E))
    intro a b ha hb hab x hx y hy e
    have hx2 : x ∈ prt N E a := by
      split at hx
      · exact hx
      · cases hx
    have hy2 : y ∈ prt N E b := by
      split at hy
      · exact hy
      · cases hy
    rw [← e] at hy2
    have s1 := (prt_mem.1 hx2).2
    have s2 := (prt_mem.1 hy2).2
    exact lst_iff.1 (ris_mem.1 hb).2 a hab (s2.trans s1.symm)
theorem gT_sorted {N : Nat} {E : List (Nat × Nat)} (hg : GOK N E) : (nI (gT E (cmL N E))).mergeSort (fun x y => decide (x ≤ y)) = nI (rnL N E) := by
  refine int_ris (srt_up (nI_nodup gT_nodup)) fun x => ?_
  rw [srt_mem, nI_mem]
  constructor
  · rintro ⟨k, hk, e⟩
    obtain ⟨h1, h2⟩ := (gT_mem hg).1 hk
    exact ⟨k, e, h1, h2⟩
  · rintro ⟨k, e, h1, h2⟩
    exact ⟨k, (gT_mem hg).2 ⟨h1, h2⟩, e⟩
theorem contI_any (w : World) (v : Value) (l : List Int) (x : Int) (hv : GS KI w v l) (hl : l.length ≤ 1000000) : Calls Try.prog 52 #[v, .int .i64 x] w fun e w' => e = .returned (.bool (decide (x ∈ l))) ∧ w' = w := by
  rcases hv with ⟨h, rfl⟩ | ⟨X, o, cap, rfl, hX, hcp, hc⟩
  · rcases h with rfl | ⟨a, c, rfl⟩
    · refine (Try.slices_Contains_int_empty none 0 x w).mono ?_
      rintro e w' ⟨rfl, rfl⟩
      exact ⟨by simp, rfl⟩
    · refine (Try.slices_Contains_int_empty (some a) c x w).mono ?_
      rintro e w' ⟨rfl, rfl⟩
      exact ⟨by simp, rfl⟩
  · refine (Try.slices_Contains_int X o l.length cap l x w (Nat.le_refl _) (by omega) fun j hj => ?_).mono ?_
    · have := hc j hj 0 (.int .i64 l[j]) rfl
      rw [show KI.W = 1 from rfl, Nat.mul_one] at this
      rw [List.getD_eq_getElem?_getD, List.getElem?_eq_getElem hj]
      exact this
    · rintro e w' ⟨rfl, rfl⟩
      refine ⟨?_, rfl⟩
      rw [List.take_length]
      congr 2
      rw [Bool.eq_iff_iff]
      simp
end Go.Proofs.Ytghkhceplpjegaa
namespace Go.Proofs.Ytghkhceplpjegaa
open Go.RowKit

theorem gT_len {E : List (Nat × Nat)} (Q : List (List Nat)) (j : Nat) : (gT E (Q.take j)).length ≤ (gT E Q).length := by
  have e : gT E Q = gT E (Q.take j) ++ gT E (Q.drop j) := by unfold gT; rw [← List.flatMap_append, List.take_append_drop]
  rw [e, List.length_append]
  omega
/-- While nodes that go round are gathered. -/
structure RG (w : World) (q : Option Addr) (c : Nat) (T : List Nat) (W : World) : Prop where
  bl : Below w.heap.size w W
  od : OwnG KI W w.heap.size (.slice q T.length c) (nI T)
set_option maxRecDepth 100000 in
set_option maxHeartbeats 16000000 in
theorem Round_any (w : World) (n : Int) (v : Value) (l : List (Int × Int)) (hv : GS KE w v l) : Calls Try.prog 24 #[.agg #[.int .i64 n, v]] w fun e w' => AnsI w (rnA n l) (chkG n l) e w' := by
  obtain ⟨p, c, rfl⟩ := hv.form
  generalize hW : w.alloc (.cells #[.int .i64 n, .slice p l.length c] 24) = W
  obtain ⟨bw, c0⟩ := graph_boxF w n p l.length c hW
  have BW := hid bw
  have C0 := hid c0
  have CK := hid (check_any W n _ l (hv.below bw))
  obtain ⟨d0, d1⟩ := c0 W (Below.refl _ _)
  clear bw c0
  by_cases h0 : chkG n l = 0
  · obtain ⟨N, E, rfl, rfl, hg⟩ := chkG_ok h0
    rw [rnA_ok hg, h0]
    rw [h0] at CK
    have LN := hid (fun W' (hb : Below W.heap.size W W') => lanesOf_any W' N _ E hg ((hv.below BW.out).below hb))
    have CM := hid (fun W' (hb : Below W.heap.size W W') => components_any W' N _ E hg ((hv.below BW.out).below hb))
    rw [eI_len] at C0 CK CM LN d1 hW ⊢
    obtain ⟨m, hm⟩ : ∃ m, m = E.length := ⟨_, rfl⟩
    rw [← hm] at C0 CK CM LN d1 hW ⊢
    have HG := hid hg
    have NB : N ≤ 4096 := hg.n
    have SRT := hid (gT_sorted hg)
    have QL : Hid ((cmL N E).length ≤ 4096) := by show _ ≤ _; unfold cmL; rw [List.length_map]; have := ris_len N (lst E); omega
    have QM := hid (fun p (hp : p ∈ cmL N E) => (by
      obtain ⟨r, hr, _, rfl⟩ := cm_mem.1 hp
      obtain ⟨a, t, e, _, _, ha⟩ := prt_head (E := E) hr
      exact ⟨ris_len _ _, a, t, e, ha⟩ : p.length ≤ N ∧ ∃ a t, p = a :: t ∧ a < N))
    have RL : Hid ((nI (gT E (cmL N E))).mergeSort (fun x y => decide (x ≤ y)) = nI (rnL N E)) := SRT.out
    have TQ : Hid ((gT E (cmL N E)).length ≤ 4096) := by
      have h9 := nodup_leN (N := N) gT_nodup fun x hx => ((gT_mem (N := N) hg).1 hx).1
      show _ ≤ _
      omega
    clear SRT h0 hg hv hm
    generalize cmL N E = Q at *
    generalize rnL N E = rn at *
    go_enter Try.func24, Try.ntmps24
    go_upto_region 7 with (first | (go_at_call 31; refine CK.out.mono ?_; rintro e w6 ⟨rfl, hb6⟩; have B6 := hid hb6; obtain ⟨g0, g1⟩ := C0.out _ hb6; clear hb6) | (go_at_call 34; refine (LN.out _ B6.out).mono ?_; rintro e w7 ⟨la, vsA, rfl, hz7, hb7⟩; have B7 := hid (bl3 B6.out hb7); have Z7 := hid hz7; obtain ⟨k0, k1⟩ := C0.out _ B7.out; clear hz7 hb7) | (go_at_call 50; refine (CM.out _ B7.out).mono ?_; rintro e w8 ⟨p8, c8, v8, rfl, l8, o8, r8, b8⟩; have B8 := hid (bl3 B7.out b8); have Z8 := hid (Z7.out.below b8); have O8 := hid (o8.gs KS_ok.len); have R8 := hid r8; have L8 := hid l8; clear o8 r8 b8 l8))
    have BB := hid (bl3 BW.out B8.out)
    have ql := QL.out
    obtain ⟨qn, hqn⟩ : ∃ qn, qn = Q.length := ⟨_, rfl⟩
    have MQ : Hid (Q.length = qn) := hqn.symm
    rw [← hqn] at O8 ql ⊢
    have ZC := hid (fun wr (hb : Below w8.heap.size w8 wr) i (hi : i < N) => LZ.cell (A := nx N E) (Z8.out.below hb) hi)
    have GQ := hid (fun wr (hb : Below w8.heap.size w8 wr) j (hj : j < v8.length) => GS.atS (O8.out.below hb) hj)
    have GR := hid (fun wr (hb : Below w8.heap.size w8 wr) i (hi : i < Q.length) => ((R8.out i hi).gs KI_ok.len).below hb)
    have G0 : Hid (RG w8 none 0 (gT E (Q.take 0)) w8) := ⟨Below.refl _ _, OwnG.nil _ _ _⟩
    clear hW d0 d1 g0 g1 k0 k1 C0 CK CM LN B6 B7 B8 Z7 Z8 O8 R8 BW QL hqn
    go_loopw [6, 19] (fun v6 v19 wr => ∃ (j : Nat) (T : List Nat) (q : Option Addr) (cq : Nat) (wk : World), v19 = .int .i64 j ∧ v6 = .slice q T.length cq ∧ wk = wr ∧ j ≤ qn ∧ Hid (T = gT E (Q.take j)) ∧ Hid (RG w8 q cq T wk)) (fun _ v19 _ => qn - (intOf v19).toNat)
    case atStart => exact ⟨0, [], none, 0, _, rfl, rfl, rfl, Nat.zero_le _, rfl, G0.out⟩
    case round =>
      obtain ⟨j, T, q, cq, wr, rfl, rfl, rfl, hj, HT, HR⟩ := hrel
      clear G0
      by_cases hlt : j < qn
      · have j1 : j < Q.length := by have := MQ.out; omega
        have jv : j < v8.length := by have := MQ.out; have := L8.out; omega
        obtain ⟨Y, o, e1, c1⟩ := GQ.out wr HR.out.bl j jv
        have gr := GR.out wr HR.out.bl j j1
        have eg : v8.getD j sl0 = v8[j] := by simp [List.getD, jv]
        have eq : Q.getD j [] = Q[j] := by simp [List.getD, j1]
        rw [eg, eq] at gr
        obtain ⟨hpl, a, t, ea, haN⟩ := QM.out _ (List.getElem_mem j1)
        have HTn : Hid (gT E (Q.take (j + 1)) = T ++ if gB E Q[j] then Q[j] else []) := by show _ = _; rw [List.take_succ_eq_append_getElem j1, gT_snoc, HT.out]
        have TL : T.length ≤ 4096 := by rw [HT.out]; exact Nat.le_trans (gT_len Q j) TQ.out
        have TL2 : Hid ((T ++ if gB E Q[j] then Q[j] else []).length ≤ 4096) := by rw [← HTn.out]; exact Nat.le_trans (gT_len Q (j + 1)) TQ.out
        have hji : (j : Int) < (qn : Nat) := by omega
        have GBE : Hid (gB E Q[j] = (decide (1 < Q[j].length) || decide ((hdN Q[j], hdN Q[j]) ∈ E))) := rfl
        have GBx : Hid (∀ W', Below wr.heap.size wr W' → GS KI W' (slV v8[j]) (nI Q[j])) := fun W' hb => gr.below hb
        generalize Q[j] = P at *
        generalize v8[j] = sv at *
        subst e1
        have gr0 := gr
        have esv : slV sv = .slice sv.1 P.length sv.2.2 := by
          obtain ⟨x, y, e⟩ := gr.form
          rw [nI_len] at e
          have e : Value.slice sv.1 sv.2.1 sv.2.2 = .slice x P.length y := e
          injection e with e1 e2 e3
          show Value.slice sv.1 sv.2.1 sv.2.2 = _
          rw [e2]
        rw [esv] at c1 gr GBx
        generalize sv.1 = sp at *
        generalize sv.2.2 = scp at *
        have hPn : P.length ≤ 4096 := by omega
        have D1 : Hid (∀ nq, Below wr.heap.size wr (wr.drewN nq)) := fun nq => drew_below wr nq
        have AS := hid (fun (W' : World) (hb : Below wr.heap.size wr W') => HR.out.od.below hb)
        clear eg eq gr0 esv
        have LS : Hid (((nI T).length + (nI P).length) * KI.B ≤ 140737488355328) := by show (_ + _) * 8 ≤ _; rw [nI_len, nI_len]; omega
        have BS : Hid (∀ W', Below wr.heap.size wr W' → w8.heap.size ≤ W'.heap.size) := fun W' hb => (bl3 HR.out.bl hb).size
        have NX : Hid (∀ W' w9 q9 c9, Below wr.heap.size wr W' → OwnG KI w9 w8.heap.size (.slice q9 (nI T ++ nI P).length c9) (nI T ++ nI P) → Below w8.heap.size W' w9 → RG w8 q9 c9 (T ++ P) w9) := fun W' w9 q9 c9 hb h1 h2 => ⟨(bl3 HR.out.bl hb).trans h2, by
          have e : (nI T ++ nI P).length = (T ++ P).length := by rw [← nI_app, nI_len]
          rw [nI_app, ← e]
          exact h1⟩
        have LTP : Hid ((nI T ++ nI P).length = (T ++ P).length) := by show _ = _; rw [← nI_app, nI_len]
        have T1 : (nI T).length = T.length := nI_len T
        have P1 : (nI P).length = P.length := nI_len P
        by_cases h1 : 1 < P.length
        · have gb : gB E P = true := by rw [GBE.out, decide_eq_true h1]; rfl
          rw [gb, if_pos rfl] at HTn TL2
          have h1i : (1 : Int) < (P.length : Nat) := by omega
          obtain ⟨pl, hpl2⟩ : ∃ pl, pl = P.length := ⟨_, rfl⟩
          have PLE := hid hpl2
          have TLE := hid (rfl : T.length = T.length)
          clear HR gr T1 P1 ea
          go_wp2_with fail
          go_quiet (fail)
          go_wp2_with (at_builtin; refine append_gs KI KI_ok rfl (.tmp 38) (.tmp 39) 25 rfl w8.heap.size Try.underlying25 _ _ _ (nI T) (nI P) rfl rfl (AS.out _ (D1.out _)) (GBx.out _ (D1.out _)) LS.out (BS.out _ (D1.out _)) ?_; intro v9 w9 ho9 hb9 _; obtain ⟨q9, c9, rfl, _⟩ := ho9.form; have N9 := hid (NX.out _ w9 q9 c9 (D1.out _) ho9 hb9); clear ho9 hb9)
          go_roundw
          case rel => exact ⟨j + 1, T ++ P, q9, c9, _, by go_num, by rw [← LTP.out, List.length_append], rfl, by omega, by show _ = _; exact HTn.out.symm, N9.out⟩
          case measure => simp [intOf]; omega
        · subst ea
          have ht : t = [] := by
            cases t with
            | nil => rfl
            | cons b t => simp at h1
          subst ht
          obtain ⟨x0, g0⟩ := ZC.out wr HR.out.bl a haN
          have hz0 := gr.atI (k := 0) (by simp [nI])
          obtain ⟨Y2, o2, e2, c2⟩ := hz0
          have c2 : wr.cell? ⟨Y2, o2, none⟩ = some (.int .i64 (a : Nat)) := c2
          have hai : (a : Int) < (N : Nat) := by omega
          have GBa : Hid (gB E [a] = decide ((a, a) ∈ E)) := by
            show _ = _
            rw [GBE.out]
            have e1 : decide (1 < ([a] : List Nat).length) = false := by simp
            rw [e1]
            rfl
          have CTN : Hid (∀ nq, Calls Try.prog 52 #[.slice (vsA.getD a sl0).1 (nx N E a).length (vsA.getD a sl0).2.2, .int .i64 (a : Nat)] (wr.drewN nq) fun e w' => e = .returned (.bool (decide ((a, a) ∈ E))) ∧ w' = wr.drewN nq) := fun nq => by
            have h9 := contI_any (wr.drewN nq) _ (nI (nx N E a)) (a : Nat) (g0.below (drew_below wr nq)) (by rw [nI_len]; have := nx_len N E a; omega)
            have e9 : decide (((a : Nat) : Int) ∈ nI (nx N E a)) = decide ((a, a) ∈ E) := by
              rw [Bool.eq_iff_iff, decide_eq_true_eq, decide_eq_true_eq, ← nx_mem HG.out, nI_mem]
              constructor
              · rintro ⟨k, hk, e⟩
                have : a = k := by omega
                rw [this]; exact this ▸ hk
              · intro hk; exact ⟨a, hk, rfl⟩
            rw [e9] at h9
            exact h9
          generalize (vsA.getD a sl0).1 = pk at *
          generalize (vsA.getD a sl0).2.2 = ck at *
          generalize (nx N E a).length = ln at *
          have hlen1 : ([a] : List Nat).length = 1 := rfl
          rw [hlen1] at c1 gr GBx
          subst e2
          cases hb : decide ((a, a) ∈ E) with
          | true =>
            rw [hb] at CTN GBa
            rw [GBa.out, if_pos rfl] at HTn TL2
            obtain ⟨P, hP⟩ : ∃ P, P = [a] := ⟨_, rfl⟩
            rw [← hP] at GBx LS NX LTP HTn
            clear HR gr T1 P1 g0 hb hP GBE GBa hlen1
            go_wp2_with fail
            go_quiet ((go_at_call 52; exact Calls.quiet_of_same (CTN.out _)))
            go_wp2_with (at_builtin; refine append_gs KI KI_ok rfl (.tmp 38) (.tmp 39) 25 rfl w8.heap.size Try.underlying25 _ _ _ (nI T) (nI P) rfl rfl (AS.out _ (D1.out _)) (GBx.out _ (D1.out _)) LS.out (BS.out _ (D1.out _)) ?_; intro v9 w9 ho9 hb9 _; obtain ⟨q9, c9, rfl, _⟩ := ho9.form; have N9 := hid (NX.out _ w9 q9 c9 (D1.out _) ho9 hb9); clear ho9 hb9)
            go_roundw
            case rel => exact ⟨j + 1, T ++ P, q9, c9, _, by go_num, by rw [← LTP.out, List.length_append], rfl, by omega, by show _ = _; exact HTn.out.symm, N9.out⟩
            case measure => simp [intOf]; omega
          | false =>
            rw [hb] at CTN GBa
            rw [GBa.out] at HTn
            have HTn2 : Hid (gT E (Q.take (j + 1)) = T) := by show _ = _; rw [HTn.out]; simp
            have HR2 := hid (fun nq => (⟨bl3 HR.out.bl (D1.out nq), AS.out _ (D1.out nq)⟩ : RG w8 q cq T (wr.drewN nq)))
            clear gr T1 P1 g0 hb GBE GBa HTn LS NX LTP hlen1
            go_wp2_with fail
            go_quiet ((go_at_call 52; exact Calls.quiet_of_same (CTN.out _)))
            go_wp2_with fail
            go_roundw
            case rel => exact ⟨j + 1, T, q, cq, _, by go_num, rfl, rfl, by omega, by show _ = _; exact HTn2.out.symm, HR2.out _⟩
            case measure => simp [intOf]; omega
      · obtain rfl : j = qn := by omega
        have HTf : Hid (T = gT E Q) := by show _ = _; rw [HT.out, List.take_of_length_le (by rw [MQ.out]; exact Nat.le_refl _)]
        have TL : T.length ≤ 4096 := by rw [HTf.out]; exact TQ.out
        have SO := hid (sortI_any HR.out.od (by rw [nI_len]; omega))
        have EL : Hid (T.length = rn.length) := by
          have e := congrArg List.length RL.out
          rw [List.length_mergeSort, nI_len, nI_len, ← HTf.out] at e
          exact e
        have FIN : Hid (∀ w9, OwnG KI w9 w8.heap.size (.slice q T.length cq) ((nI T).mergeSort fun x y => decide (x ≤ y)) → But (fun x => (Value.slice q T.length cq).ownBlock = some x) wr w9 → GS KI w9 (.slice q rn.length cq) (nI rn) ∧ Below w.heap.size w w9) := fun w9 h1 h2 => by
          rw [HTf.out, RL.out] at h1
          refine ⟨by rw [← EL.out, HTf.out]; exact h1.gs KI_ok.len, (bl3 BB.out HR.out.bl).trans (h2.below (bl3 BB.out HR.out.bl).size fun x hx => ?_)⟩
          have := (HR.out.od.lt hx).1
          have := BB.out.size
          omega
        clear HR HT HTf
        go_wp2_with (go_at_call 53; refine SO.out.mono ?_; rintro e w9 ⟨rfl, o9, b9⟩; have F9 := hid (FIN.out w9 o9 b9); clear o9 b9)
        go_ret2
        exact ⟨q, cq, by rw [nI_len, EL.out]; rfl, by rw [nI_len]; exact F9.out.1, F9.out.2⟩
  · rw [rnA_no h0]
    generalize chkG n l = r at *
    have b1 : (r != 0) = true := by simp [h0]
    go_enter Try.func24, Try.ntmps24
    go_wp2_with (go_at_call 31; refine CK.out.mono ?_; rintro e w6 ⟨rfl, hb6⟩; have B6 := hid hb6; clear hb6)
    go_ret2
    exact AnsI.none (bl3 BW.out B6.out)
end Go.Proofs.Ytghkhceplpjegaa
