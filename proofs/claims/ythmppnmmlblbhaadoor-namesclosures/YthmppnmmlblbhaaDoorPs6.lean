/- Names: sureOf's visits, walked. -/
import Derived.Test.YthmppnmmlblbhaaDoorPs5
import Derived.Test.YthmppnmmlblbhaaDoorRl1
import Derived.BigRegion
import Derived.Deep.RegionLaw
import Derived.Deep.RegionWith
import Derived.Deep.CutRange
import Derived.Deep.DeepCutAuto
namespace Go.Proofs.YthmppnmmlblbhaaDoor
open Go.RowKit Go.Maps

theorem SU.mid {l : List Opn} {g base k : Nat} {F : Nat → Prop} {w : World} (h : SU l g base k F w) (hk : k < l.length) : ∃ B, MD l g base k B F w ((w.setCell ⟨g, k, none⟩ (.map (some w.heap.size))).alloc (.map #[] 0)) w.heap.size ∧ SA ((w.setCell ⟨g, k, none⟩ (.map (some w.heap.size))).alloc (.map #[] 0)) w.heap.size 0 p0f ∧ w.cell? ⟨g, k, none⟩ = some (.map none) ∧ w.frozen? ⟨g, k, none⟩ = false := by
  obtain ⟨B, h0, h1, h2, h3, h4⟩ := h
  have hl : (mRow B l.length).length = l.length := mRow_len (by omega)
  have hgl : g < w.heap.size := (h1.lt rfl).2
  have hlo : ∀ x ∈ B, x < w.heap.size := fun x hx => by
    obtain ⟨j, hj, rfl⟩ := List.getElem_of_mem hx
    have := (h2 j (by omega)).lt
    simpa [List.getD, List.getElem?_eq_getElem hj] using this
  obtain ⟨ws, hws⟩ : ∃ ws, ws = w.setCell ⟨g, k, none⟩ (.map (some w.heap.size)) := ⟨_, rfl⟩
  have hsz : ws.heap.size = w.heap.size := by rw [hws]; exact set_size _ _ _ _
  have AL : Below ws.heap.size ws (ws.alloc (.map #[] 0)) := (Below.refl _ _).alloc (Nat.le_refl _) _
  have b1 : But (fun x => x = g) w ws := by rw [hws]; exact ⟨rfl, rfl, rfl, by rw [set_size]; exact Nat.le_refl _, fun x hx hn => set_far hn⟩
  have hrow : OwnG KM ws base (.slice (some ⟨g, 0, none⟩) l.length l.length) (mRow (B ++ [w.heap.size]) l.length) := by
    have := h1.set1 rfl KM_ok.len (k := k) (some w.heap.size) (.map (some w.heap.size)) rfl
    rw [← h0, mRow_set (by omega), h0, ← hws] at this
    exact this
  refine ⟨B, ?_, ?_, ?_, ?_⟩
  · rw [← hws]
    exact ⟨h0, hrow.below AL, fun j hj => ((h2 j hj).far (b1.block _ (h2 j hj).lt (h3 _ (memB (by omega))))).below AL, h3, Nat.le_refl _, hlo, hgl, h4, b1.trans (But.of_below (F := fun _ => False) AL) (fun _ h => h.elim)⟩
  · rw [← hws, ← hsz]; exact SA.made ws
  · rw [own_map h1 hl.symm (j := k) (by rw [hl]; exact hk)]
    unfold mRow
    rw [List.getD_eq_getElem?_getD, List.getElem?_append_right (by simp [h0]), List.getElem?_replicate]
    split <;> rfl
  · have := h1; unfold OwnG at this; rw [hl] at this
    exact World.ownsRow.frozenAt this k
theorem sum_two {a b c : Int} {C : List Nat} {L : List Int} (h : L = [a, b, c]) : C.getD a.toNat 0 + C.getD b.toNat 0 ≤ (L.map fun x => C.getD x.toNat 0).sum := by subst h; simp
theorem sum_mem {C : List Nat} {L : List Int} {j : Nat} (h : j < L.length) : C.getD (L.getD j 0).toNat 0 ≤ (L.map fun x => C.getD x.toNat 0).sum := by
  induction L generalizing j with
  | nil => simp at h
  | cons a r ih =>
    cases j with
    | zero => simp
    | succ j =>
      have := ih (j := j) (by simpa using h)
      simp only [List.getD_cons_succ, List.map_cons, List.sum_cons]; omega
set_option maxHeartbeats 8000000 in
set_option maxRecDepth 100000 in
theorem sureV_any (l : List Opn) (k bs be g base : Nat) (F : Nat → Prop) (vp ve : Value) (w : World) (hwh : wholeB l = true) (ht : ∀ c ∈ l, c.text.size ≤ maxLen) (hk : k < l.length) (hlm : l.length ≤ 256)
    (U : SU l g base k F w) (cs : w.cell? ⟨bs, 0, none⟩ = some (.slice (some ⟨g, 0, none⟩) l.length l.length)) (ce : w.cell? ⟨be, 0, none⟩ = some ve) (hbs : bs ≠ g) (hbe : be ≠ g) (hP : IS w vp (ptO l k)) (hap : ∀ x, vp.ownBlock = some x → x ≠ g) (hE : OS w ve l) (hX : ∀ x, ve.ownBlock = some x → x ≠ g) :
    Calls Tryd.prog 85 (#[.int .i64 k, vp] ++ #[.pointer (some ⟨bs, 0, none⟩), .pointer (some ⟨be, 0, none⟩)]) w fun e w' => e = .returned (.tuple #[]) ∧ ∃ F', SU l g base (k + 1) F' w' ∧ (∀ x, F' x → F x ∨ w.heap.size ≤ x) ∧ But F w w' := by
  obtain ⟨ha, hw⟩ := wholeB_ok hwh
  obtain ⟨hpl, hpb⟩ := ptO_len hw hk
  have hopB := ha _ (List.getElem_mem hk)
  obtain ⟨B, M0, S0, cg, fg⟩ := U.mid hk
  have hPl : (ptO l k).length ≤ 256 := by
    have := (whA_PB (nsO l) k (by rw [whA_len, nsO_len]; exact hk)).1
    show ((whA (nsO l)).getD k (0, [])).2.length ≤ 256
    omega
  have hcb := cuS_bd l hk
  obtain ⟨p2, c2, rfl⟩ := hE.form
  obtain ⟨X2, o2, rfl, xk, _, _, tk⟩ := hE.atO hk
  obtain ⟨p1, c1, rfl⟩ := hP.form
  have ne2 : X2 ≠ g := hX X2 rfl
  have hgl := M0.gl
  rw [← opA_eq hk] at xk tk
  -- what is read, in whatever world in which the row alone has turned
  have RD : Hid (∀ wx, But (fun x => x = g) w wx → wx.cell? ⟨bs, 0, none⟩ = some (.slice (some ⟨g, 0, none⟩) l.length l.length) ∧ wx.cell? ⟨be, 0, none⟩ = some (.slice (some ⟨X2, o2, none⟩) l.length c2) ∧ wx.cell? ⟨X2, o2 + k * 4, none⟩ = some (.int .i64 (opA l k).kind) ∧ wx.cell? ⟨X2, o2 + k * 4 + 3, none⟩ = some (.string (opA l k).text) ∧ IS wx (.slice p1 (ptO l k).length c1) (ptO l k)) := fun wx b =>
    ⟨(World.cell?_of_block (w := w) (a := ⟨bs, 0, none⟩) (b.block bs (block_lt_of_cell cs) hbs)).trans cs, (World.cell?_of_block (w := w) (a := ⟨be, 0, none⟩) (b.block be (block_lt_of_cell ce) hbe)).trans ce, (World.cell?_of_block (w := w) (a := ⟨X2, _, none⟩) (b.block X2 (block_lt_of_cell xk) ne2)).trans xk, (World.cell?_of_block (w := w) (a := ⟨X2, _, none⟩) (b.block X2 (block_lt_of_cell tk) ne2)).trans tk, hP.blk b.size (fun x hx hl => b.block x hl (hap x hx))⟩
  have htx : (opA l k).text.size ≤ maxLen := by rw [opA_eq hk]; exact ht _ (List.getElem_mem hk)
  have HS : Hid (suS l k (sK l k) = suS l k (sK l k)) := rfl
  have HPB : Hid (∀ x ∈ ptO l k, 0 ≤ x ∧ x < k) := hpb
  have PL : Hid ((opA l k).kind ≠ 5 → ((ptO l k).length : Int) = oprt (opA l k).kind) := fun h5 => by rw [hpl, opA_eq hk]; exact opB_n2 hopB (by rw [← opA_eq hk]; exact h5)
  have hmm := @run_makeMap Tryd.prog
  clear hE hP ha hw hwh U hopB ht hX hap xk tk cs ce
  have csx := (RD.out w (But.refl _ _)).1
  obtain ⟨P, hPP⟩ : ∃ P, P = ptO l k := ⟨_, rfl⟩
  have HPP : Hid (P = ptO l k) := hPP
  rw [← hPP] at RD HPB PL hPl
  obtain ⟨kd, hkd⟩ : ∃ kd, kd = (opA l k).kind := ⟨_, rfl⟩
  obtain ⟨tx, htxx⟩ : ∃ tx, tx = (opA l k).text := ⟨_, rfl⟩
  have HKD : Hid (kd = (opA l k).kind) := hkd
  have HTX : Hid (tx = (opA l k).text) := htxx
  rw [← hkd, ← htxx] at RD
  rw [← hkd] at PL
  rw [← htxx] at htx
  rw [← hPP]
  clear hPP hkd htxx hpl hpb
  go_enter Tryd.func85, Tryd.ntmps85
  go_upto_region 1 with fail
  obtain ⟨w1, hw1⟩ : ∃ w1, w1 = (w.setCell ⟨g, k, none⟩ (.map (some w.heap.size))).alloc (.map #[] 0) := ⟨_, rfl⟩
  rw [← hw1] at M0 S0 ⊢
  have MH : Hid (MD l g base k B F w w1 w.heap.size) := M0
  have SH : Hid (SA w1 w.heap.size 0 p0f) := S0
  obtain ⟨d1, d2, d3, d4, d5⟩ := RD.out w1 M0.bt
  obtain ⟨ck, cj⟩ := M0.cells hk
  have CJ : Hid _ := cj
  have HP5 : Hid (IS w1 (.slice p1 P.length c1) P) := d5
  clear M0 S0 hw1 cg fg csx d5 cj
  by_cases k3 : kd = 3
  · have k3b : (kd == 3) = true := by simpa using k3
    have AD : Hid (∀ n, Calls Tryd.prog 41 #[.map (some w.heap.size), .string tx] (w1.drewN n) fun e w' => e = .returned (.tuple #[]) ∧ SA w' w.heap.size 1 (fun x => p0f x || decide (x = tx)) ∧ But (fun x => x = w.heap.size) w1 w') := fun n => by
      refine (add_any w.heap.size 0 p0f tx (w1.drewN n) (SH.out.far rfl) htx (by unfold maxLen; omega)).mono ?_
      rintro e w' ⟨rfl, h1, h2⟩
      exact ⟨rfl, h1, ⟨h2.os, h2.tape, h2.output, h2.size, h2.block⟩⟩
    have FN : Hid (∀ w', SA w' w.heap.size 1 (fun x => p0f x || decide (x = tx)) → But (fun x => x = w.heap.size) w1 w' → ∃ F', SU l g base (k + 1) F' w' ∧ (∀ x, F' x → F x ∨ w.heap.size ≤ x) ∧ But F w w') := fun w' h1 h2 => by
      refine (MH.out.step h2).fin (h1.congr (fun s => ?_)) (by unfold cuS; omega)
      unfold suS
      rw [← HKD.out, if_pos k3, ← HTX.out]
      simp [p0f]
    clear CJ HP5 RD
    go_wp2_with fail
    refine wp_region_lastL default _ (by simp) (by kernel_rfl) (by kernel_rfl) (by kernel_rfl) (fun _ _ h => by cases h) (fun t ht => by cases ht; decide) ?_
    dsimp only [muteL, lastO, mute]
    repeat (go_big_quiet_step (fail))
    refine wpQuiet_nil ?_
    intro nq
    refine ⟨41, #[.map (some w.heap.size), .string tx], (by rw [execOp_call_go]; go_simp), (AD.out nq).mono ?_⟩
    rintro e w2 ⟨rfl, h1, h2⟩
    refine ⟨_, rfl, ?_⟩
    go_wp2_with fail
    go_end0
    exact ⟨rfl, FN.out _ h1 h2⟩
  · have k3b : (kd == 3) = false := by simpa using k3
    have HH : Hid (∀ w2, But (fun x => x = w.heap.size) w1 w2 → MD l g base k B F w w2 w.heap.size ∧ w2.cell? ⟨bs, 0, none⟩ = some (.slice (some ⟨g, 0, none⟩) l.length l.length) ∧ w2.cell? ⟨g, k, none⟩ = some (.map (some w.heap.size)) ∧ ∀ X o, p1 = some ⟨X, o, none⟩ → ∀ j, j < P.length → ∃ q : Nat, w2.cell? ⟨X, o + j, none⟩ = some (.int .i64 q) ∧ q < k ∧ P.getD j 0 = q ∧ qP l k j = q ∧ w2.cell? ⟨g, q, none⟩ = some (.map (some (B.getD q 0))) ∧ SA w2 (B.getD q 0) ((cK l k).getD q 0) ((sK l k).getD q p0f) ∧ w.heap.size ≠ B.getD q 0) := fun w2 h2 => by
      have M2 := MH.out.step h2
      obtain ⟨e1, _, _, _, e5⟩ := RD.out w2 M2.bt
      obtain ⟨ck2, cj2⟩ := M2.cells hk
      refine ⟨M2, e1, ck2, fun X o hp j hj => ?_⟩
      obtain ⟨X', o', hp', hc⟩ := e5.atI hj
      rw [hp] at hp'; cases hp'
      obtain ⟨h0, h1⟩ := HPB.out P[j] (List.getElem_mem hj)
      obtain ⟨q, hq⟩ := Int.eq_ofNat_of_zero_le h0
      rw [hq] at hc h1
      obtain ⟨x1, x2, x3⟩ := cj2 q (by omega)
      have hg : P.getD j 0 = q := by simp [List.getD, hj, hq]
      exact ⟨q, hc, by omega, hg, by unfold qP; rw [← HPP.out, hg]; rfl, x1, x2, x3⟩
    have CU : Hid (cuS l k (cK l k) = (P.map fun x => (cK l k).getD x.toNat 0).sum + 1) := by unfold cuS; rw [← HPP.out]; rfl
    have CB : Hid (cuS l k (cK l k) ≤ k + 1) := hcb
    have AA : Hid (∀ (b2 n1 n2 : Nat) (s1 s2 : ByteArray → Bool) (wx : World), SA wx w.heap.size n1 s1 → SA wx b2 n2 s2 → w.heap.size ≠ b2 → n1 + n2 < 1000000 → ∀ n, Calls Tryd.prog 86 #[.map (some w.heap.size), .map (some b2)] (wx.drewN n) fun e w' => e = .returned (.tuple #[]) ∧ SA w' w.heap.size (n1 + n2) (fun s => s1 s || s2 s) ∧ But (fun x => x = w.heap.size) wx w') := fun b2 n1 n2 s1 s2 wx h1 h2 h3 h4 n => by
      refine (addAll_any w.heap.size b2 n1 n2 s1 s2 (wx.drewN n) (h1.far rfl) (h2.far rfl) h3 h4).mono ?_
      rintro e w' ⟨rfl, h1, h2⟩
      exact ⟨rfl, h1, ⟨h2.os, h2.tape, h2.output, h2.size, h2.block⟩⟩
    clear RD HPB hcb CJ
    by_cases k14 : kd = 14
    · have k14b : (kd == 14) = true := by simpa using k14
      have hl3 : P.length = 3 := by
        have := PL.out (by omega)
        rw [k14] at this
        have e : oprt 14 = 3 := by decide
        omega
      obtain ⟨X1, o1, rfl, _⟩ := HP5.out.atI (k := 0) (by omega)
      obtain ⟨_, _, _, G1⟩ := HH.out w1 (But.refl _ _)
      obtain ⟨q0, c0, l0, g0, e0, m0, s0, n0⟩ := G1 X1 o1 rfl 0 (by omega)
      have hs2 : ∀ j, j < 3 → (cK l k).getD (qP l k j) 0 ≤ (P.map fun x => (cK l k).getD x.toNat 0).sum := fun j hj => by
        have := sum_mem (C := cK l k) (L := P) (j := j) (by omega)
        unfold qP; rw [← HPP.out]; exact this
      have ht2 : (cK l k).getD (qP l k 0) 0 + (cK l k).getD (qP l k 1) 0 ≤ (P.map fun x => (cK l k).getD x.toNat 0).sum := by
        unfold qP; rw [← HPP.out]
        match P, hl3 with
        | [a, b, c], _ => exact sum_two rfl
      have HT2 : Hid _ := ht2
      have hb0 := hs2 0 (by omega)
      rw [e0] at hb0
      have A1 := AA.out (B.getD q0 0) 0 ((cK l k).getD q0 0) p0f ((sK l k).getD q0 p0f) w1 SH.out s0 n0 (by have := CU.out; have := CB.out; omega)
      have A1H : Hid _ := A1
      have E0 : Hid (qP l k 0 = q0) := e0
      rw [Nat.add_zero] at c0
      have hq0 : q0 < l.length := by omega
      clear A1 s0 G1 g0 e0 hs2 ht2 HP5 hb0 n0
      rw [hl3]
      go_wp2_with fail
      refine wp_region_lastL default _ (by simp) (by kernel_rfl) (by kernel_rfl) (by kernel_rfl) (fun _ _ h => by cases h) (fun t ht => by cases ht; decide) ?_
      dsimp only [muteL, lastO, mute]
      repeat (go_big_quiet_step (fail))
      refine wpQuiet_nil ?_
      intro nq
      refine ⟨86, #[.map (some w.heap.size), .map (some (B.getD q0 0))], (by rw [execOp_call_go]; go_simp), (A1H.out nq).mono ?_⟩
      rintro e w2 ⟨rfl, h1, h2⟩
      refine ⟨_, rfl, ?_⟩
      obtain ⟨M2, f1, f2, G2⟩ := HH.out w2 h2
      obtain ⟨q1, c1', l1, g1, e1, m1, s1, n1⟩ := G2 X1 o1 rfl 1 (by omega)
      obtain ⟨q2, c2', l2, g2, e2, m2, s2, n2⟩ := G2 X1 o1 rfl 2 (by omega)
      have ht2 := HT2.out
      rw [E0.out, e1] at ht2
      have AB : Hid (∀ n, Calls Tryd.prog 87 #[.map (some w.heap.size), .map (some (B.getD q1 0)), .map (some (B.getD q2 0))] (w2.drewN n) fun e w' => e = .returned (.tuple #[]) ∧ ∃ F', SU l g base (k + 1) F' w' ∧ (∀ x, F' x → F x ∨ w.heap.size ≤ x) ∧ But F w w') := fun n => by
        refine (addBoth_any w.heap.size _ _ _ _ _ _ _ _ (w2.drewN n) (h1.far rfl) (s1.far rfl) (s2.far rfl) n1 n2 (by have := CU.out; have := CB.out; omega)).mono ?_
        rintro e w' ⟨rfl, x1, x2⟩
        refine ⟨rfl, (M2.step ⟨x2.os, x2.tape, x2.output, x2.size, x2.block⟩).fin (x1.congr (fun s => ?_)) (by have := CU.out; omega)⟩
        unfold suS
        rw [← HKD.out, if_neg k3, if_pos k14, E0.out, e1, e2]
        simp [p0f]
      have hq1 : q1 < l.length := by omega
      have hq2 : q2 < l.length := by omega
      clear s1 s2 g1 g2 e1 e2 h1 h2 M2 G2 ht2 n1 n2 HT2 d1 ck
      simp only [Act.put, List.setIfInBounds_toArray, List.set_cons_succ, List.set_cons_zero]
      go_wp2_with fail
      refine wp_region_lastL default _ (by simp) (by kernel_rfl) (by kernel_rfl) (by kernel_rfl) (fun _ _ h => by cases h) (fun t ht => by cases ht; decide) ?_
      dsimp only [muteL, lastO, mute]
      repeat (go_big_quiet_step (fail))
      refine wpQuiet_nil ?_
      intro nq
      refine ⟨87, #[.map (some w.heap.size), .map (some (B.getD q1 0)), .map (some (B.getD q2 0))], (by rw [execOp_call_go]; go_simp), (AB.out nq).mono ?_⟩
      rintro e w3 ⟨rfl, h3⟩
      refine ⟨_, rfl, ?_⟩
      have H3 : Hid _ := h3
      clear h3
      go_wp2_with fail
      go_end0
      exact ⟨rfl, H3.out⟩
    · have k14b : (kd == 14) = false := by simpa using k14
      by_cases k15 : kd = 15
      · have k15b : (kd == 15) = true := by simpa using k15
        have hl3 : P.length = 2 := by
          have := PL.out (by omega)
          rw [k15] at this
          have e : oprt 15 = 2 := by decide
          omega
        obtain ⟨X1, o1, rfl, _⟩ := HP5.out.atI (k := 0) (by omega)
        obtain ⟨_, _, _, G1⟩ := HH.out w1 (But.refl _ _)
        obtain ⟨q0, c0, l0, g0, e0, m0, s0, n0⟩ := G1 X1 o1 rfl 0 (by omega)
        have hb0 : (cK l k).getD (qP l k 0) 0 ≤ (P.map fun x => (cK l k).getD x.toNat 0).sum := by
          have := sum_mem (C := cK l k) (L := P) (j := 0) (by omega)
          unfold qP; rw [← HPP.out]; exact this
        rw [e0] at hb0
        have A1 := AA.out (B.getD q0 0) 0 ((cK l k).getD q0 0) p0f ((sK l k).getD q0 p0f) w1 SH.out s0 n0 (by have := CU.out; have := CB.out; omega)
        have A1H : Hid _ := A1
        have FN : Hid (∀ w', SA w' w.heap.size (0 + (cK l k).getD q0 0) (fun s => p0f s || (sK l k).getD q0 p0f s) → But (fun x => x = w.heap.size) w1 w' → ∃ F', SU l g base (k + 1) F' w' ∧ (∀ x, F' x → F x ∨ w.heap.size ≤ x) ∧ But F w w') := fun w' h1 h2 => by
          refine (MH.out.step h2).fin (h1.congr (fun s => ?_)) (by have := CU.out; omega)
          unfold suS
          rw [← HKD.out, if_neg k3, if_neg k14, if_pos k15, e0]
          simp [p0f]
        rw [Nat.add_zero] at c0
        have hq0 : q0 < l.length := by omega
        clear A1 s0 G1 g0 e0 HP5 hb0 n0
        rw [hl3]
        go_wp2_with fail
        refine wp_region_lastL default _ (by simp) (by kernel_rfl) (by kernel_rfl) (by kernel_rfl) (fun _ _ h => by cases h) (fun t ht => by cases ht; decide) ?_
        dsimp only [muteL, lastO, mute]
        repeat (go_big_quiet_step (fail))
        refine wpQuiet_nil ?_
        intro nq
        refine ⟨86, #[.map (some w.heap.size), .map (some (B.getD q0 0))], (by rw [execOp_call_go]; go_simp), (A1H.out nq).mono ?_⟩
        rintro e w2 ⟨rfl, h1, h2⟩
        refine ⟨_, rfl, ?_⟩
        have H1 : Hid _ := FN.out w2 h1 h2
        clear h1 h2
        go_wp2_with fail
        go_end0
        exact ⟨rfl, H1.out⟩
      · have k15b : (kd == 15) = false := by simpa using k15
        have J0 : Hid (SA w1 w.heap.size (((P.take 0).map fun x => (cK l k).getD x.toNat 0).sum) (fun s => (P.take 0).any fun x => (sK l k).getD x.toNat p0f s) ∧ But (fun x => x = w.heap.size) w1 w1) := ⟨SH.out.congr (fun s => by simp [p0f]), But.refl _ _⟩
        have HLE : Hid (∀ j, j < P.length → ((P.take (j + 1)).map fun x => (cK l k).getD x.toNat 0).sum = ((P.take j).map fun x => (cK l k).getD x.toNat 0).sum + (cK l k).getD (P.getD j 0).toNat 0) := fun j hj => by
          rw [List.take_succ_eq_append_getElem hj, List.map_append, List.sum_append, show P.getD j 0 = P[j] by simp [List.getD, hj]]
          simp only [List.map_cons, List.map_nil, List.sum_cons, List.sum_nil, Nat.add_zero]
        have HLA : Hid (∀ j s, j < P.length → ((P.take (j + 1)).any fun x => (sK l k).getD x.toNat p0f s) = (((P.take j).any fun x => (sK l k).getD x.toNat p0f s) || (sK l k).getD (P.getD j 0).toNat p0f s)) := fun j s hj => by
          rw [List.take_succ_eq_append_getElem hj, List.any_append]
          simp [List.getD, hj]
        have HLB : Hid (∀ j, ((P.take j).map fun x => (cK l k).getD x.toNat 0).sum ≤ (P.map fun x => (cK l k).getD x.toNat 0).sum) := fun j => by
          have := congrArg (fun L => (List.map (fun x : Int => (cK l k).getD x.toNat 0) L).sum) (List.take_append_drop j P)
          simp only [List.map_append, List.sum_append] at this
          show _ ≤ _
          omega
        clear d1 ck
        go_wp2_with fail
        go_loopw [19] (fun v19 wr => ∃ (j : Nat) (wj : World), v19 = .int .i64 j ∧ wj = wr ∧ j ≤ P.length ∧ Hid (SA wj w.heap.size (((P.take j).map fun x => (cK l k).getD x.toNat 0).sum) (fun s => (P.take j).any fun x => (sK l k).getD x.toNat p0f s) ∧ But (fun x => x = w.heap.size) w1 wj)) (fun v19 _ => P.length - (intOf v19).toNat)
        case atStart => exact ⟨0, _, rfl, rfl, Nat.zero_le _, J0⟩
        case round =>
          obtain ⟨j, wj, rfl, rfl, hj, HJ⟩ := hrel
          clear J0
          by_cases hjl : j < P.length
          · obtain ⟨X1, o1, rfl, _⟩ := HP5.out.atI (k := j) hjl
            obtain ⟨_, f1, f2, G1⟩ := HH.out wj HJ.out.2
            obtain ⟨q0, c0, l0, g0, e0, m0, s0, n0⟩ := G1 X1 o1 rfl j hjl
            have A1 := AA.out (B.getD q0 0) _ ((cK l k).getD q0 0) _ ((sK l k).getD q0 p0f) wj HJ.out.1 s0 n0 (by
              have := CU.out; have := CB.out; have := HLB.out (j + 1); have h5 := HLE.out j hjl
              rw [g0, Int.toNat_natCast] at h5; omega)
            have A1H : Hid _ := A1
            have NX : Hid (∀ w', SA w' w.heap.size (((P.take j).map fun x => (cK l k).getD x.toNat 0).sum + (cK l k).getD q0 0) (fun s => ((P.take j).any fun x => (sK l k).getD x.toNat p0f s) || (sK l k).getD q0 p0f s) → But (fun x => x = w.heap.size) wj w' → SA w' w.heap.size (((P.take (j + 1)).map fun x => (cK l k).getD x.toNat 0).sum) (fun s => (P.take (j + 1)).any fun x => (sK l k).getD x.toNat p0f s) ∧ But (fun x => x = w.heap.size) w1 w') := fun w' h1 h2 => by
              refine ⟨?_, HJ.out.2.trans h2 (fun x hx => Or.inl hx)⟩
              have h5 := HLE.out j hjl
              rw [g0, Int.toNat_natCast] at h5
              rw [h5]
              exact h1.congr (fun s => by rw [HLA.out j s hjl, g0, Int.toNat_natCast])
            have hq0 : q0 < l.length := by omega
            clear A1 s0 G1 g0 e0 HP5 n0 HJ
            go_wp2_with fail
            refine wp_region_lastL default _ (by simp) (by kernel_rfl) (by kernel_rfl) (by kernel_rfl) (fun _ _ h => by cases h) (fun t ht => by cases ht; decide) ?_
            dsimp only [muteL, lastO, mute]
            repeat (go_big_quiet_step (fail))
            refine wpQuiet_nil ?_
            intro nq
            refine ⟨86, #[.map (some w.heap.size), .map (some (B.getD q0 0))], (by rw [execOp_call_go]; go_simp), (A1H.out nq).mono ?_⟩
            rintro e w2 ⟨rfl, h1, h2⟩
            refine ⟨_, rfl, ?_⟩
            have H1 : Hid _ := NX.out w2 h1 h2
            clear h1 h2
            go_wp2_with fail
            go_roundw
            case rel => exact ⟨j + 1, _, by go_num, rfl, by omega, H1⟩
            case measure => simp [intOf]; omega
          · have hje : j = P.length := by omega
            have FN : Hid (∃ F', SU l g base (k + 1) F' wj ∧ (∀ x, F' x → F x ∨ w.heap.size ≤ x) ∧ But F w wj) := by
              refine (MH.out.step HJ.out.2).fin (HJ.out.1.congr (fun s => ?_)) (by have := CU.out; have := HLB.out j; omega)
              unfold suS
              rw [← HKD.out, if_neg k3, if_neg k14, if_neg k15, ← HPP.out, hje, List.take_length]
            clear HJ
            go_wp2_with fail
            go_end0
            exact ⟨rfl, FN.out⟩
end Go.Proofs.YthmppnmmlblbhaaDoor
