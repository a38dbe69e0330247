/- Values, the reference: operations of two. -/
import Derived.Test.YtpiikidpgjmmbaaDoorVg1
namespace Go.Proofs.YtpiikidpgjmmbaaDoor
open Go.RowKit

theorem vt_trees' {M : List Vx} {t : Vt} (h : aL M = t.ps.map flV) (hr : RT t) (hx : AT (flV t)) : VT M := by
  have h1 : VT (mbR 0 0 t.ps) := mbR_vt hr hx
  exact h1.of (by rw [h, mbR_aL])
set_option maxHeartbeats 32000000 in
set_option maxRecDepth 100000 in
theorem rdo2_any (kd : Int) (X o cap : Nat) (q1 q2 : Option Addr) (c1 c2 : Nat) (a b : Vt) (w : World) (h : PA w X o q1 c1 q2 c2 a b) (ha : RT a) (hb : RT b) (at1 : AT (flV a)) (at2 : AT (flV b)) (hkd : kd = 6 ∨ kd = 7 ∨ kd = 8 ∨ kd = 9 ∨ kd = 10 ∨ kd = 12 ∨ kd = 13) :
    Calls Tryd.prog 29 #[.int .i64 kd, .slice (some ⟨X, o, none⟩) 2 cap] w fun e w' => AnsR w w' e (do2T kd a b) := by
  have hs1 := ha.sz
  have hs2 := hb.sz
  have W1 : Hid (∀ w1, Below w.heap.size w w1 → _) := fun w1 k => rwholeX_any _ a w1 (h.below k).a1 (by omega)
  have W2 : Hid (∀ w1, Below w.heap.size w w1 → _) := fun w1 k => rwholeX_any _ b w1 (h.below k).a2 (by omega)
  have y1 := h.x0
  have y2 := h.x1
  have hX := block_lt_of_cell y1
  have HBA : Hid (∀ W ob, Below w.heap.size w W → Below w.heap.size w (World.alloc W ob)) := fun W ob k => k.alloc k.size _
  have HBD : Hid (∀ W : World, Below w.heap.size w W → Below w.heap.size w W.drew) := fun W k => k.drew
  have HBR : Hid (Below w.heap.size w w) := Below.refl _ _
  have HBS : Hid (∀ (W : World) b o v, w.heap.size ≤ b → Below w.heap.size w W → Below w.heap.size w (W.setCell ⟨b, o, none⟩ v)) := fun W b o v hb k => k.setCell hb _
  have XS : Hid (∀ w1, Below w.heap.size w w1 → w1.cell? ⟨X, o, none⟩ = some (.slice q1 (szV a) c1) ∧ w1.cell? ⟨X, o + 1, none⟩ = some (.slice q2 (szV b) c2)) := fun w1 k => ⟨(h.below k).x0, (h.below k).x1⟩
  have CP : Hid (∀ w1, Below w.heap.size w w1 → _) := fun w1 k => rcompare_any (szV a) a b _ _ w1 (Nat.le_refl _) (h.below k).a1 (h.below k).a2 ha hb at1 at2
  have MB1 : Hid (∀ w1, Below w.heap.size w w1 → _) := fun w1 k => rmembers_any _ a w1 (h.below k).a1 ha at1
  have MB2 : Hid (∀ w1, Below w.heap.size w w1 → _) := fun w1 k => rmembers_any _ b w1 (h.below k).a2 hb at2
  have TX : Hid (∀ w1, _) := fun w1 => rtext_any (a.tx ++ b.tx) w1 (by have h3 := ha.text; have h4 := hb.text; rw [ByteArray.size_append]; unfold maxLen; omega)
  have lp1 : a.ps.length ≤ 1024 := by have h3 := memT_len (t := a); have h4 := szV_ps a; omega
  have lp2 : b.ps.length ≤ 1024 := by have h3 := memT_len (t := b); have h4 := szV_ps b; omega
  have RA : Hid (∀ t ∈ a.ps, RT t) := ha.parts
  have LF : Hid (∀ w1 v' M1 M2, OwnG KV w1 w.heap.size v' (M1 ++ M2) → aL M1 = a.ps.map flV → aL M2 = b.ps.map flV → (∀ x ∈ M1 ++ M2, AS w1 x.v x.a) → Calls Tryd.prog 48 #[v'] w1 fun e w' => AnsR w1 w' e (lstT (a.ps ++ b.ps))) := fun w1 v' M1 M2 ho e1 e2 hav => by
    have l1 : M1.length = a.ps.length := by rw [← aL_len M1, e1, List.length_map]
    have l2 : M2.length = b.ps.length := by rw [← aL_len M2, e2, List.length_map]
    have he : aL (M1 ++ M2) = (a.ps ++ b.ps).map flV := by
      unfold aL at e1 e2 ⊢
      rw [List.map_append, List.map_append, e1, e2]
    have hr : ∀ t ∈ a.ps ++ b.ps, RT t := fun t ht => by
      rcases List.mem_append.1 ht with e | e
      · exact ha.parts t e
      · exact hb.parts t e
    have vt : VT (M1 ++ M2) := VT_app (vt_trees' e1 ha at1) (vt_trees' e2 hb at2) (by omega)
    have := made_any v' _ w1 ⟨ho.gs KV_ok.len, hav⟩ vt (fun x hx => by rw [he] at hx; obtain ⟨t, ht, e⟩ := List.mem_map.1 hx; rw [← e]; exact (hr t ht).chk) (by rw [List.length_append]; omega)
    rw [he] at this
    exact this.mono fun e w' h => h.toR hr
  have NM : Hid (∀ n w1, _) := fun n w1 => rnumber_any n w1
  have tz1 := ha.text
  have tz2 := hb.text
  obtain ⟨j1, j2⟩ := ha.int
  obtain ⟨j3, j4⟩ := hb.int
  have HD : Hid (do2T kd a b = if kd = 6 then (if a.k = 1 ∧ b.k = 1 then numT (a.i + b.i) else none) else if kd = 7 then (if a.k = 1 ∧ b.k = 1 then numT (a.i - b.i) else none) else if kd = 8 then (if a.k = 1 ∧ b.k = 1 then numT (a.i * b.i) else none) else if kd = 9 then (if a.k = 2 ∧ b.k = 2 then txtT (a.tx ++ b.tx) else if a.k = 3 ∧ b.k = 3 then lstT (a.ps ++ b.ps) else none) else if kd = 10 then (if a.k = 3 ∧ b.k = 1 ∧ 0 ≤ b.i then a.ps[b.i.toNat]? else none) else if kd = 12 then numT (if cmpV a b < 0 then 1 else 0) else numT (if cmpV a b = 0 then 1 else 0)) := rfl
  generalize do2T kd a b = r at *
  generalize cmpV a b = cv at *
  obtain ⟨k1, i1, t1, ps⟩ := a
  obtain ⟨k2, i2, t2, qs⟩ := b
  have HD2 : Hid (r = if kd = 6 then (if k1 = 1 ∧ k2 = 1 then numT (i1 + i2) else none) else if kd = 7 then (if k1 = 1 ∧ k2 = 1 then numT (i1 - i2) else none) else if kd = 8 then (if k1 = 1 ∧ k2 = 1 then numT (i1 * i2) else none) else if kd = 9 then (if k1 = 2 ∧ k2 = 2 then txtT (t1 ++ t2) else if k1 = 3 ∧ k2 = 3 then lstT (ps ++ qs) else none) else if kd = 10 then (if k1 = 3 ∧ k2 = 1 ∧ 0 ≤ i2 then ps[i2.toNat]? else none) else if kd = 12 then numT (if cv < 0 then 1 else 0) else numT (if cv = 0 then 1 else 0)) := HD.out
  clear HD
  simp only [Vt.k, Vt.i, Vt.tx, Vt.ps] at W1 W2 MB1 MB2 TX LF lp1 lp2 tz1 tz2 j1 j2 j3 j4 RA
  generalize szV (Vt.nd k1 i1 t1 ps) = n1 at *
  generalize szV (Vt.nd k2 i2 t2 qs) = n2 at *
  obtain ⟨m1, hm1⟩ : ∃ m1, m1 = ps.length := ⟨_, rfl⟩
  obtain ⟨m2, hm2⟩ : ∃ m2, m2 = qs.length := ⟨_, rfl⟩
  have HM1 : Hid (m1 = ps.length) := hm1
  have HM2 : Hid (m2 = qs.length) := hm2
  rw [← hm1] at W1 MB1 lp1
  rw [← hm2] at W2 MB2 lp2
  have ek5 : (kd == 5) = false := by simp; omega
  have ek11 : (kd == 11) = false := by simp; omega
  clear h ha hb hm1 hm2 at1 at2
  go_enter Tryd.func29, Tryd.ntmps29
  go_upto_region 9 with fail
  go_cut [7, 8] (fun v5 v6 wc => ∃ b5 b6 wk, v5 = .pointer (some ⟨b5, 0, none⟩) ∧ v6 = .pointer (some ⟨b6, 0, none⟩) ∧ wk = wc ∧ wk.cell? ⟨b5, 0, none⟩ = some (.int .i64 k1) ∧ wk.cell? ⟨b5, 1, none⟩ = some (.int .i64 (m1 : Nat)) ∧ wk.cell? ⟨b5, 2, none⟩ = some (.int .i64 i1) ∧ wk.cell? ⟨b5, 3, none⟩ = some (.string t1) ∧ wk.cell? ⟨b6, 0, none⟩ = some (.int .i64 k2) ∧ wk.cell? ⟨b6, 2, none⟩ = some (.int .i64 i2) ∧ wk.cell? ⟨b6, 3, none⟩ = some (.string t2) ∧ Hid (Below w.heap.size w wk))
  case first =>
    go_region_held3 (fun w1 => w1.cell? ⟨X, o, none⟩ = some (.slice q1 n1 c1) ∧ w1.cell? ⟨X, o + 1, none⟩ = some (.slice q2 n2 c2)) (first | exact XS.out _ (by repeat (first | exact HBR.out | refine HBA.out _ _ ?_ | refine HBD.out _ ?_ | refine HBS.out _ _ _ _ (by omega) ?_)) | go_keep) (first | (go_at_call 49; (have _hq : Mk3 := by assumption); refine Calls.mono (W2.out _ ?_) ?_; (focus (repeat (first | exact HBR.out | refine HBA.out _ _ ?_ | refine HBD.out _ ?_))); rintro e w4 ⟨rfl, rfl⟩) | (go_at_call 49; refine Calls.mono (W1.out _ ?_) ?_; (focus (repeat (first | exact HBR.out | refine HBA.out _ _ ?_ | refine HBD.out _ ?_))); rintro e w3 ⟨rfl, rfl⟩; have HM3 : Mk3 := mk3))
    all_goals
      go_wp2_with fail
      go_meet
      refine ⟨_, _, _, rfl, rfl, rfl, by simp [go_sem], by simp [go_sem], by simp [go_sem], by simp [go_sem], by simp [go_sem], by simp [go_sem], by simp [go_sem], ?_⟩
      (repeat (first | exact HBR.out | refine HBA.out _ _ ?_ | refine HBD.out _ ?_ | refine HBS.out _ _ _ _ (by omega) ?_))
  case rest =>
    obtain ⟨b5, b6, wk, rfl, rfl, rfl, z1, z11, z2, z5, z3, z4, z6, HB⟩ := hcut
    clear W1 W2 y1 y2 HBA HBD HBR HBS ek5 ek11
    have NO : Hid (∀ w', Below w.heap.size w w' → r = none → AnsR w w' (.returned (.tuple #[.slice none 0 0, .bool false])) r) := fun w' bw hn => by rw [hn]; exact AnsT.toR (AnsT.nil bw)
    have BW : Hid (∀ w1, Below wk.heap.size wk w1 → Below w.heap.size w w1) := fun w1 k => HB.out.trans (k.mono HB.out.size)
    have BRk : Hid (Below wk.heap.size wk wk) := Below.refl _ _
    have BDk : Hid (Below wk.heap.size wk wk.drew) := (Below.refl _ _).drew
    have ZS : Hid (∀ w1, Below wk.heap.size wk w1 → w1.cell? ⟨X, o, none⟩ = some (.slice q1 n1 c1) ∧ w1.cell? ⟨X, o + 1, none⟩ = some (.slice q2 n2 c2)) := fun w1 k => XS.out _ (HB.out.trans (k.mono HB.out.size))
    obtain ⟨x0, x1⟩ := ZS.out wk BRk.out
    rcases hkd with rfl | rfl | rfl | rfl | rfl | rfl | rfl
    · clear CP MB1 MB2 TX LF RA HM1 HM2 ZS
      by_cases e1 : k1 = 1
      · subst e1
        by_cases e2 : k2 = 1
        · subst e2
          have HR : Hid (r = numT (i1 + i2)) := by show _ = _; rw [HD2.out]; simp
          have N1 : Hid (∀ w1, _) := fun w1 => NM.out (i1 + i2) w1
          rw [← HR.out] at N1
          clear HR HD2 NO NM
          go_wp2_with fail
          refine Calls.mono (N1.out _) ?_
          rintro e w3 hans
          obtain ⟨p3, c3, rfl, ho3, hb3⟩ := hans.low HB.out
          have H3 : Hid (OwnG KA w3 w.heap.size (.slice p3 (outL r).length c3) (outL r) ∧ Below w.heap.size w w3) := ⟨ho3, hb3⟩
          clear ho3 hb3 hans N1
          go_wp2_with fail
          exact bodyPost_ret (v := .tuple #[.slice p3 (outL r).length c3, .bool r.isSome]) (by simp [results, Tryd.results29, go_sem]) rfl (AnsT.toR ⟨p3, c3, rfl, H3.out⟩)
        · have e2b : (k2 != 1) = true := by simp [e2]
          have HR : Hid (r = none) := by show _ = _; rw [HD2.out]; simp [e2]
          clear HD2 NM
          go_wp2_with fail
          exact bodyPost_ret (v := .tuple #[.slice none 0 0, .bool false]) (by simp [results, Tryd.results29, go_sem]) rfl (NO.out _ HB.out HR.out)
      · have e1b : (k1 != 1) = true := by simp [e1]
        have HR : Hid (r = none) := by show _ = _; rw [HD2.out]; simp [e1]
        clear HD2 NM
        go_wp2_with fail
        exact bodyPost_ret (v := .tuple #[.slice none 0 0, .bool false]) (by simp [results, Tryd.results29, go_sem]) rfl (NO.out _ HB.out HR.out)
    · clear CP MB1 MB2 TX LF RA HM1 HM2 ZS
      by_cases e1 : k1 = 1
      · subst e1
        by_cases e2 : k2 = 1
        · subst e2
          have HR : Hid (r = numT (i1 - i2)) := by show _ = _; rw [HD2.out]; simp
          have N1 : Hid (∀ w1, _) := fun w1 => NM.out (i1 - i2) w1
          rw [← HR.out] at N1
          clear HR HD2 NO NM
          go_wp2_with fail
          refine Calls.mono (N1.out _) ?_
          rintro e w3 hans
          obtain ⟨p3, c3, rfl, ho3, hb3⟩ := hans.low HB.out
          have H3 : Hid (OwnG KA w3 w.heap.size (.slice p3 (outL r).length c3) (outL r) ∧ Below w.heap.size w w3) := ⟨ho3, hb3⟩
          clear ho3 hb3 hans N1
          go_wp2_with fail
          exact bodyPost_ret (v := .tuple #[.slice p3 (outL r).length c3, .bool r.isSome]) (by simp [results, Tryd.results29, go_sem]) rfl (AnsT.toR ⟨p3, c3, rfl, H3.out⟩)
        · have e2b : (k2 != 1) = true := by simp [e2]
          have HR : Hid (r = none) := by show _ = _; rw [HD2.out]; simp [e2]
          clear HD2 NM
          go_wp2_with fail
          exact bodyPost_ret (v := .tuple #[.slice none 0 0, .bool false]) (by simp [results, Tryd.results29, go_sem]) rfl (NO.out _ HB.out HR.out)
      · have e1b : (k1 != 1) = true := by simp [e1]
        have HR : Hid (r = none) := by show _ = _; rw [HD2.out]; simp [e1]
        clear HD2 NM
        go_wp2_with fail
        exact bodyPost_ret (v := .tuple #[.slice none 0 0, .bool false]) (by simp [results, Tryd.results29, go_sem]) rfl (NO.out _ HB.out HR.out)
    · clear CP MB1 MB2 TX LF RA HM1 HM2 ZS
      by_cases e1 : k1 = 1
      · subst e1
        by_cases e2 : k2 = 1
        · subst e2
          have HR : Hid (r = numT (i1 * i2)) := by show _ = _; rw [HD2.out]; simp
          obtain ⟨pr, hpr⟩ : ∃ pr, pr = i1 * i2 := ⟨_, rfl⟩
          rw [← hpr] at HR
          have N1 : Hid (∀ w1, _) := fun w1 => NM.out pr w1
          rw [← HR.out] at N1
          have A1 : Hid (∀ w1, _) := fun w1 => rsize_any i1 w1 j1 j2
          have A2 : Hid (∀ w1, _) := fun w1 => rsize_any i2 w1 j3 j4
          have MBG : Hid (i2 ≠ 0 → ((9007199254740992 / (i2.natAbs : Int) < (i1.natAbs : Int)) ↔ ¬ (-9007199254740992 ≤ pr ∧ pr ≤ 9007199254740992))) := fun e => by have := mul_big i2 i1 e; rw [Int.mul_comm, ← hpr] at this; exact this
          have NN : Hid (¬ (-9007199254740992 ≤ pr ∧ pr ≤ 9007199254740992) → r = none) := fun e => by rw [HR.out, numT_none e]
          have BN : Hid (∀ n, Below w.heap.size w (wk.drewN n)) := fun n => HB.out.trans ⟨rfl, rfl, rfl, Nat.le_refl _, fun _ _ => rfl⟩
          have FIN : Hid (∀ w1 w' e, Below w.heap.size w w1 → AnsT w1 w' e r → AnsR w w' e r) := fun w1 w' e b h => AnsT.toR (h.low b)
          clear HR HD2 NM
          by_cases f1 : i1 = 0
          · subst f1
            rw [Int.zero_mul] at hpr
            subst hpr
            clear MBG NN A1 A2
            go_wp2_with fail
            go_quiet (fail)
            go_wp2_with fail
            refine Calls.mono (N1.out _) ?_
            rintro e w3 hans
            obtain ⟨p3, c3, rfl, ho3, hb3⟩ := hans.low (BN.out _)
            have H3 : Hid (OwnG KA w3 w.heap.size (.slice p3 (outL r).length c3) (outL r) ∧ Below w.heap.size w w3) := ⟨ho3, hb3⟩
            clear ho3 hb3 hans
            go_wp2_with fail
            exact bodyPost_ret (v := .tuple #[.slice p3 (outL r).length c3, .bool r.isSome]) (by simp [results, Tryd.results29, go_sem]) rfl (AnsT.toR ⟨p3, c3, rfl, H3.out⟩)
          · have f1b : (i1 != 0) = true := by simp [f1]
            by_cases f2 : i2 = 0
            · subst f2
              rw [Int.mul_zero] at hpr
              subst hpr
              clear MBG NN A1 A2
              go_wp2_with fail
              go_quiet (fail)
              go_wp2_with fail
              refine Calls.mono (N1.out _) ?_
              rintro e w3 hans
              obtain ⟨p3, c3, rfl, ho3, hb3⟩ := hans.low (BN.out _)
              have H3 : Hid (OwnG KA w3 w.heap.size (.slice p3 (outL r).length c3) (outL r) ∧ Below w.heap.size w w3) := ⟨ho3, hb3⟩
              clear ho3 hb3 hans
              go_wp2_with fail
              exact bodyPost_ret (v := .tuple #[.slice p3 (outL r).length c3, .bool r.isSome]) (by simp [results, Tryd.results29, go_sem]) rfl (AnsT.toR ⟨p3, c3, rfl, H3.out⟩)
            · have f2b : (i2 != 0) = true := by simp [f2]
              have hMB := MBG.out f2
              have hxp : 0 < i2.natAbs := by omega
              have hxm : i2.natAbs ≤ 9007199254740992 := by omega
              have hym : i1.natAbs ≤ 9007199254740992 := by omega
              obtain ⟨xa, hxa⟩ : ∃ n, n = i2.natAbs := ⟨_, rfl⟩
              obtain ⟨ya, hya⟩ : ∃ n, n = i1.natAbs := ⟨_, rfl⟩
              rw [← hxa] at A2 hMB hxp hxm
              rw [← hya] at A1 hMB hym
              have hq : (9007199254740992 : Int) / (xa : Int) = ((9007199254740992 / xa : Nat) : Int) := (Int.natCast_ediv 9007199254740992 xa).symm
              have hqm : 9007199254740992 / xa ≤ 9007199254740992 := Nat.div_le_self _ _
              rw [hq] at hMB
              obtain ⟨qq, hqq⟩ : ∃ n, n = 9007199254740992 / xa := ⟨_, rfl⟩
              rw [← hqq] at hMB hq hqm
              have hxn : ¬ (xa : Int) = 0 := by omega
              have hxn2 : ((xa : Int) == 0) = false := by simp; omega
              have htd : (9007199254740992 : Int).tdiv (xa : Int) = (qq : Int) := by rw [Int.tdiv_eq_ediv_of_nonneg (by omega)]; exact hq
              by_cases hbig : -9007199254740992 ≤ pr ∧ pr ≤ 9007199254740992
              · have hle : ¬ (ya : Int) > (qq : Int) := fun e => (hMB.1 e) hbig
                obtain ⟨hb1, hb2⟩ := hbig
                have hprx : i1 * i2 = pr := hpr.symm
                clear MBG NN hMB hxa hya hqq hpr NO
                go_wp2_with fail
                go_quiet (first | (go_at_call 54; first | exact Calls.quiet_of_same (A1.out _) | exact Calls.quiet_of_same (A2.out _)))
                go_wp2_with fail
                refine Calls.mono (N1.out _) ?_
                rintro e w3 hans
                obtain ⟨p3, c3, rfl, ho3, hb3⟩ := hans.low (BN.out _)
                have H3 : Hid (OwnG KA w3 w.heap.size (.slice p3 (outL r).length c3) (outL r) ∧ Below w.heap.size w w3) := ⟨ho3, hb3⟩
                clear ho3 hb3 hans
                go_wp2_with fail
                exact bodyPost_ret (v := .tuple #[.slice p3 (outL r).length c3, .bool r.isSome]) (by simp [results, Tryd.results29, go_sem]) rfl (AnsT.toR ⟨p3, c3, rfl, H3.out⟩)
              · have hgt : (ya : Int) > (qq : Int) := hMB.2 hbig
                have HR : Hid (r = none) := NN.out hbig
                clear MBG NN hMB hxa hya hqq hpr hbig N1
                go_wp2_with fail
                go_quiet (first | (go_at_call 54; first | exact Calls.quiet_of_same (A1.out _) | exact Calls.quiet_of_same (A2.out _)))
                go_wp2_with fail
                exact bodyPost_ret (v := .tuple #[.slice none 0 0, .bool false]) (by simp [results, Tryd.results29, go_sem]) rfl (NO.out _ (BN.out _) HR.out)
        · have e2b : (k2 != 1) = true := by simp [e2]
          have HR : Hid (r = none) := by show _ = _; rw [HD2.out]; simp [e2]
          clear HD2 NM
          go_wp2_with fail
          exact bodyPost_ret (v := .tuple #[.slice none 0 0, .bool false]) (by simp [results, Tryd.results29, go_sem]) rfl (NO.out _ HB.out HR.out)
      · have e1b : (k1 != 1) = true := by simp [e1]
        have HR : Hid (r = none) := by show _ = _; rw [HD2.out]; simp [e1]
        clear HD2 NM
        go_wp2_with fail
        exact bodyPost_ret (v := .tuple #[.slice none 0 0, .bool false]) (by simp [results, Tryd.results29, go_sem]) rfl (NO.out _ HB.out HR.out)
    · clear CP NM RA
      by_cases e1 : k1 = 2
      · subst e1
        by_cases e2 : k2 = 2
        · subst e2
          have HR : Hid (r = txtT (t1 ++ t2)) := by show _ = _; rw [HD2.out]; simp
          have hsum : t1.size + t2.size ≤ 9223372036854775807 := by omega
          have T1 : Hid _ := TX.out wk
          clear NO HD2 MB1 MB2 LF TX
          go_wp2_with fail
          refine Calls.mono T1.out ?_
          rintro e w3 hans
          obtain ⟨p3, c3, rfl, ht3⟩ := AnsV.toT hans
          have A3 : Hid (AnsT w w3 (.returned (.tuple #[.slice p3 (txtL (t1 ++ t2)).length c3, .bool (txtE (t1 ++ t2) == 0)])) r) := by rw [HR.out]; exact ht3.low HB.out
          clear ht3 hans T1 HR
          generalize txtL (t1 ++ t2) = tl at *
          generalize txtE (t1 ++ t2) = te at *
          go_wp2_with fail
          exact bodyPost_ret (v := .tuple #[.slice p3 tl.length c3, .bool (te == 0)]) (by simp [results, Tryd.results29, go_sem]) rfl (AnsT.toR A3.out)
        · have e2b : (k2 == 2) = false := by simp [e2]
          have HR : Hid (r = none) := by show _ = _; rw [HD2.out]; simp [e2]
          clear HD2 MB1 MB2 LF TX
          go_wp2_with fail
          exact bodyPost_ret (v := .tuple #[.slice none 0 0, .bool false]) (by simp [results, Tryd.results29, go_sem]) rfl (NO.out _ HB.out HR.out)
      · have e1b : (k1 == 2) = false := by simp [e1]
        by_cases e3 : k1 = 3
        · subst e3
          by_cases e4 : k2 = 3
          · subst e4
            have HR : Hid (r = lstT (ps ++ qs)) := by show _ = _; rw [HD2.out]; simp
            have XW : Hid (∀ w1, Below w.heap.size w w1 → w1.cell? ⟨X, o, none⟩ = some (.slice q1 n1 c1) ∧ w1.cell? ⟨X, o + 1, none⟩ = some (.slice q2 n2 c2)) := XS.out
            rw [← HR.out] at LF
            have LNM : Hid (∀ M : List Vx, aL M = qs.map flV → m2 = M.length) := fun M e => by rw [← aL_len M, e, List.length_map]; exact HM2.out
            have LSM : Hid (∀ M1 M2 : List Vx, aL M1 = ps.map flV → aL M2 = qs.map flV → (M1.length + M2.length) * KV.B ≤ 140737488355328) := fun M1 M2 e1 e2 => by
              have l1 : M1.length = ps.length := by rw [← aL_len M1, e1, List.length_map]
              have l2 : M2.length = qs.length := by rw [← aL_len M2, e2, List.length_map]
              have h1 := HM1.out
              have h2 := HM2.out
              show _ * 24 ≤ _; omega
            have APA : Hid (∀ (w4 w8 : World) g n c (M1 M2 : List Vx), OwnG KV w4 w.heap.size (.slice (some ⟨g, 0, none⟩) n c) M1 → (∀ x ∈ M1, OwnG KA w4 w.heap.size x.v x.a) → (∀ x ∈ M2, OwnG KA w4 w.heap.size x.v x.a) → (∀ k, k < w4.heap.size → some k ≠ (Value.slice (some ⟨g, 0, none⟩) n c).ownBlock → w8.heap[k]? = w4.heap[k]?) → ∀ x ∈ M1 ++ M2, AS w8 x.v x.a) := fun w4 w8 g n c M1 M2 ho h1 h2 hk x hx => by
              have ox : OwnG KA w4 w.heap.size x.v x.a := by
                rcases List.mem_append.1 hx with e | e
                · exact h1 x e
                · exact h2 x e
              exact (ox.far (fun gg hg => hk gg (ox.lt hg).2 (own_apart (by decide) ox ho hg))).gs KA_ok.len
            clear NO HD2 TX XS HR
            go_wp2_with fail
            clear z1 z11 z2 z5 z3 z4 z6
            go_region_held3 (fun w1 => w1.cell? ⟨X, o, none⟩ = some (.slice q1 n1 c1) ∧ w1.cell? ⟨X, o + 1, none⟩ = some (.slice q2 n2 c2)) (go_keep) (first | (go_at_call 52; (have _hq : Mk3 := by assumption); refine Calls.mono (MB2.out _ ?_) ?_; (first | exact BW.out _ B3.out | exact BW.out _ B3.out.drew); rintro e w4 ⟨gg', M2, rfl, ho4, eq2, hea4, hb4⟩; have EQ2 : Hid _ := eq2; have B4 : Hid (Below wk.heap.size wk w4) := (by first | exact B3.out.trans (hb4.mono B3.out.size) | exact B3.out.drew.trans (hb4.mono B3.out.size)); have O34 : Hid (OwnG KV w4 w.heap.size (.slice (some ⟨gg, 0, none⟩) m1 m1) M1 ∧ ∀ x ∈ M1, OwnG KA w4 w.heap.size x.v x.a) := (by first | exact ⟨OwnG.below (w := w3) O3.out.1 hb4, fun x hx => OwnG.below (w := w3) (O3.out.2 x hx) hb4⟩ | exact ⟨OwnG.below (w := w3.drew) (OwnG.below (w := w3) O3.out.1 ((Below.refl _ _).drew)) hb4, fun x hx => OwnG.below (w := w3.drew) (OwnG.below (w := w3) (O3.out.2 x hx) ((Below.refl _ _).drew)) hb4⟩); have O4 : Hid (OwnG KV w4 w.heap.size (.slice (some ⟨gg', 0, none⟩) m2 m2) M2 ∧ ∀ x ∈ M2, OwnG KA w4 w.heap.size x.v x.a) := (by first | exact ⟨ho4.low (BW.out _ B3.out).size, fun x hx => (hea4 x hx).low (BW.out _ B3.out).size⟩ | exact ⟨ho4.low (BW.out _ B3.out.drew).size, fun x hx => (hea4 x hx).low (BW.out _ B3.out.drew).size⟩); obtain ⟨u3, u4⟩ := ZS.out _ B4.out; have HM4 : Mk4 := mk4; clear hb4 ho4 eq2 hea4) | (go_at_call 52; refine Calls.mono (MB1.out _ ?_) ?_; (first | exact BW.out _ BRk.out | exact BW.out _ BDk.out); rintro e w3 ⟨gg, M1, rfl, ho3, eq1, hea3, hb3⟩; have EQ1 : Hid _ := eq1; have B3 : Hid (Below wk.heap.size wk w3) := (by first | exact hb3 | exact BDk.out.trans (hb3.mono BDk.out.size)); have O3 : Hid (OwnG KV w3 w.heap.size (.slice (some ⟨gg, 0, none⟩) m1 m1) M1 ∧ ∀ x ∈ M1, OwnG KA w3 w.heap.size x.v x.a) := (by first | exact ⟨ho3.low (BW.out _ BRk.out).size, fun x hx => (hea3 x hx).low (BW.out _ BRk.out).size⟩ | exact ⟨ho3.low (BW.out _ BDk.out).size, fun x hx => (hea3 x hx).low (BW.out _ BDk.out).size⟩); obtain ⟨u1, u2⟩ := ZS.out _ B3.out; have HM3 : Mk3 := mk3; clear hb3 ho3 eq1 hea3) | (go_at_call 48; refine Calls.mono (LF.out _ _ M1 M2 ?_ EQ1.out EQ2.out ?_) ?_; (first | exact O8.out.1 | exact OwnG.below (w := w8) O8.out.1 ((Below.refl _ _).drew)); (first | exact O8.out.2 | exact fun x hx => GS.below (w := w8) (O8.out.2 x hx) ((Below.refl _ _).drew)); rintro e w9 hans; have HA : Hid (AnsR w w9 e r) := (by first | exact hans.low B8.out | exact hans.low B8.out.drew); obtain ⟨p9, n9, c9, rfl, ho9, hb9⟩ := HA.out; have H9 : Hid (_ ∧ Below w.heap.size w w9) := ⟨ho9, hb9⟩; obtain ⟨u7, u8⟩ := XW.out _ hb9; clear ho9 hb9 hans HA) | ((have _hq4 : Mk4 := by assumption); refine step_append_gs KV KV_ok (by rfl) (.tmp 139) (.tmp 143) 22 (by rfl) w.heap.size Tryd.underlying22 _ (.slice (some ⟨gg, 0, none⟩) m1 m1) M1 M2 gg' 0 m2 m2 (by rfl) (by first | exact O34.out.1 | exact OwnG.below (w := w4) O34.out.1 ((Below.refl _ _).drew)) (by rfl) (LNM.out _ EQ2.out) (by first | exact O4.out.1.gs KV_ok.len | exact (OwnG.below (w := w4) O4.out.1 ((Below.refl _ _).drew)).gs KV_ok.len) (LSM.out _ _ EQ1.out EQ2.out) (by first | exact (BW.out _ B4.out).size | exact (BW.out _ B4.out.drew).size) ?_; intro v8 w8 ho8 hb8 hk8; obtain ⟨p8, n8, c8, rfl⟩ := form3 ho8; have O8 : Hid (OwnG KV w8 w.heap.size (.slice p8 n8 c8) (M1 ++ M2) ∧ ∀ x ∈ M1 ++ M2, AS w8 x.v x.a) := ⟨ho8, APA.out w4 w8 gg m1 m1 M1 M2 O34.out.1 O34.out.2 O4.out.2 hk8⟩; have B8 : Hid (Below w.heap.size w w8) := (by first | exact (BW.out _ B4.out).trans hb8 | exact (BW.out _ B4.out.drew).trans hb8); obtain ⟨u5, u6⟩ := XW.out _ B8.out; clear ho8 hb8 hk8) | fail)
            all_goals
              go_wp2_with fail
              exact bodyPost_ret (v := .tuple #[.slice p9 n9 c9, .bool r.isSome]) (by simp [results, Tryd.results29, go_sem]) rfl ⟨p9, n9, c9, rfl, H9.out.1, H9.out.2⟩
          · have e4b : (k2 == 3) = false := by simp [e4]
            have HR : Hid (r = none) := by show _ = _; rw [HD2.out]; simp [e4]
            clear HD2 MB1 MB2 LF TX
            go_wp2_with fail
            exact bodyPost_ret (v := .tuple #[.slice none 0 0, .bool false]) (by simp [results, Tryd.results29, go_sem]) rfl (NO.out _ HB.out HR.out)
        · have e3b : (k1 == 3) = false := by simp [e3]
          have HR : Hid (r = none) := by show _ = _; rw [HD2.out]; simp [e1, e3]
          clear HD2 MB1 MB2 LF TX
          go_wp2_with fail
          exact bodyPost_ret (v := .tuple #[.slice none 0 0, .bool false]) (by simp [results, Tryd.results29, go_sem]) rfl (NO.out _ HB.out HR.out)
    · clear CP NM MB2 LF TX HM2
      have NOI : Hid (¬ (k1 = 3 ∧ k2 = 1 ∧ 0 ≤ i2 ∧ i2 < (m1 : Int)) → r = none) := fun hn => by
        rw [HD2.out]
        by_cases e : k1 = 3 ∧ k2 = 1 ∧ 0 ≤ i2
        · simp only [e, and_self, if_true]
          rw [List.getElem?_eq_none (by have := HM1.out; omega)]; simp
        · simp [e]
      by_cases e1 : k1 = 3
      · subst e1
        by_cases e2 : k2 = 1
        · subst e2
          by_cases e3 : i2 < 0
          · have HR : Hid (r = none) := NOI.out (by omega)
            clear HD2
            go_wp2_with fail
            exact bodyPost_ret (v := .tuple #[.slice none 0 0, .bool false]) (by simp [results, Tryd.results29, go_sem]) rfl (NO.out _ HB.out HR.out)
          · by_cases e4 : i2 ≥ (m1 : Int)
            · have HR : Hid (r = none) := NOI.out (by omega)
              clear HD2
              go_wp2_with fail
              exact bodyPost_ret (v := .tuple #[.slice none 0 0, .bool false]) (by simp [results, Tryd.results29, go_sem]) rfl (NO.out _ HB.out HR.out)
            · obtain ⟨i, rfl⟩ : ∃ i : Nat, i2 = i := ⟨i2.toNat, by omega⟩
              have hi : i < m1 := by omega
              have hi' : i < ps.length := by have := HM1.out; omega
              have YES : Hid (∀ w' p n cc, n = szV ps[i] → OwnG KA w' w.heap.size (.slice p n cc) (flV ps[i]) → Below w.heap.size w w' → AnsR w w' (.returned (.tuple #[.slice p n cc, .bool true])) r) := fun w' p n cc hn o1 bw => by
                have : r = some ps[i] := by rw [HD2.out]; simp [hi']
                rw [this]
                exact ⟨p, n, cc, rfl, fun t ht => by injection ht with ht; subst ht; exact ⟨hn, o1⟩, bw⟩
              have RWi : Hid (∀ w1 g M, OwnG KV w1 w.heap.size (.slice (some ⟨g, 0, none⟩) m1 m1) M → aL M = ps.map flV → (∀ x ∈ M, OwnG KA w1 w.heap.size x.v x.a) → ∃ q c, w1.cell? ⟨g, i, none⟩ = some (.slice q (szV ps[i]) c) ∧ OwnG KA w1 w.heap.size (.slice q (szV ps[i]) c) (flV ps[i])) := fun w1 g M ho he hea => by
                have hl : M.length = ps.length := by rw [← aL_len M, he, List.length_map]
                obtain ⟨X', o', e, hc⟩ := (ho.gs KV_ok.len).atV (k := i) (by omega)
                injection e with e
                injection e with e1 e2 _
                subst e1 e2
                have e1 : M[i].a = flV ps[i] := by
                  have := aL_at (L := M) (k := i) (by omega)
                  rw [← this]; simp [he]
                have h5 := hea M[i] (List.getElem_mem (by omega))
                unfold Vx.v at h5
                rw [Nat.zero_add] at hc
                rw [e1] at hc h5
                exact ⟨M[i].q, M[i].c, hc, h5⟩
              have ZS2 : Hid (∀ w1, Below wk.heap.size wk w1 → w1.cell? ⟨X, o, none⟩ = some (.slice q1 n1 c1) ∧ w1.cell? ⟨b6, 2, none⟩ = some (.int .i64 (i : Int))) := fun w1 k => ⟨(ZS.out _ k).1, (k.cell (p := ⟨b6, 2, none⟩) (block_lt_of_cell z4)).trans z4⟩
              have HSI : Hid (∀ n, n = szV ps[i] → n = szV ps[i]) := fun n h => h
              generalize ps[i] = pi at *
              obtain ⟨si, hsi⟩ : ∃ si, si = szV pi := ⟨_, rfl⟩
              rw [← hsi] at YES RWi
              have YES2 : Hid (∀ w' p cc, OwnG KA w' w.heap.size (.slice p si cc) (flV pi) → Below w.heap.size w w' → AnsR w w' (.returned (.tuple #[.slice p si cc, .bool true])) r) := fun w' p cc => YES.out w' p si cc rfl
              clear NO NOI HM1 XS HD2 HSI hsi YES RA
              have hiI : (i : Int) < (m1 : Int) := by omega
              go_wp2_with fail
              go_region_with (first | (go_at_call 52; refine Calls.mono (MB1.out _ ?_) ?_; (first | exact BW.out _ BRk.out | exact BW.out _ BDk.out); rintro e w3 ⟨gg, M1, rfl, ho3, eq1, hea3, hb3⟩; have B3 : Hid (Below wk.heap.size wk w3) := (by first | exact hb3 | exact BDk.out.trans (hb3.mono BDk.out.size)); obtain ⟨q3, c3, y3, ho33⟩ := RWi.out w3 gg M1 (by first | exact ho3.low (BW.out _ BRk.out).size | exact ho3.low (BW.out _ BDk.out).size) eq1 (by first | exact fun x hx => (hea3 x hx).low (BW.out _ BRk.out).size | exact fun x hx => (hea3 x hx).low (BW.out _ BDk.out).size); have O3 : Hid (OwnG KA w3 w.heap.size (.slice q3 si c3) (flV pi)) := ho33; obtain ⟨u1, u2⟩ := ZS2.out _ B3.out; clear hb3 ho3 eq1 hea3 ho33))
              all_goals
                go_wp2_with fail
                exact bodyPost_ret (v := .tuple #[.slice q3 si c3, .bool true]) (by simp [results, Tryd.results29, go_sem]) rfl (by first | exact YES2.out _ _ _ O3.out (BW.out _ B3.out) | exact YES2.out _ _ _ (OwnG.below (w := w3) O3.out ((Below.refl _ _).drew)) (BW.out _ B3.out.drew))
        · have e2b : (k2 != 1) = true := by simp [e2]
          have HR : Hid (r = none) := NOI.out (fun h => e2 h.2.1)
          clear HD2
          go_wp2_with fail
          exact bodyPost_ret (v := .tuple #[.slice none 0 0, .bool false]) (by simp [results, Tryd.results29, go_sem]) rfl (NO.out _ HB.out HR.out)
      · have e1b : (k1 != 3) = true := by simp [e1]
        have HR : Hid (r = none) := NOI.out (fun h => e1 h.1)
        clear HD2
        go_wp2_with fail
        exact bodyPost_ret (v := .tuple #[.slice none 0 0, .bool false]) (by simp [results, Tryd.results29, go_sem]) rfl (NO.out _ HB.out HR.out)
    · clear MB1 MB2 TX LF RA HM1 HM2
      have HR : Hid (r = numT (if cv < 0 then 1 else 0)) := by show _ = _; rw [HD2.out]; simp
      have C1 : Hid (∀ w1, Below wk.heap.size wk w1 → _) := fun w1 k => CP.out w1 (BW.out _ k)
      clear HD2 NO CP XS
      go_wp2_with fail
      go_region_held3 (fun w1 => w1.cell? ⟨X, o, none⟩ = some (.slice q1 n1 c1) ∧ w1.cell? ⟨X, o + 1, none⟩ = some (.slice q2 n2 c2)) (go_keep) (first | (go_at_call 51; refine Calls.mono (C1.out _ ?_) ?_; (first | exact BRk.out | exact BDk.out); rintro e w3 ⟨rfl, b3⟩; have B3 : Hid (Below wk.heap.size wk w3) := (by first | exact b3 | exact BDk.out.trans (b3.mono BDk.out.size)); obtain ⟨u1, u2⟩ := ZS.out _ B3.out; clear b3))
      all_goals
        by_cases hc : cv < 0
        · rw [if_pos hc] at HR
          have N1 : Hid (∀ w1, _) := fun w1 => NM.out 1 w1
          rw [← HR.out] at N1
          have hcb : 0 = 0 := rfl
          clear HR NM
          go_wp2_with fail
          refine Calls.mono (N1.out _) ?_
          rintro e w4 hans
          obtain ⟨p4, c4, rfl, ho4, hb4⟩ := hans.low (BW.out _ B3.out)
          have H4 : Hid (OwnG KA w4 w.heap.size (.slice p4 (outL r).length c4) (outL r) ∧ Below w.heap.size w w4) := ⟨ho4, hb4⟩
          clear ho4 hb4 hans N1
          go_wp2_with fail
          exact bodyPost_ret (v := .tuple #[.slice p4 (outL r).length c4, .bool r.isSome]) (by simp [results, Tryd.results29, go_sem]) rfl (AnsT.toR ⟨p4, c4, rfl, H4.out⟩)
        · rw [if_neg hc] at HR
          have N1 : Hid (∀ w1, _) := fun w1 => NM.out 0 w1
          rw [← HR.out] at N1
          have hcb : 0 = 0 := rfl
          clear HR NM
          go_wp2_with fail
          refine Calls.mono (N1.out _) ?_
          rintro e w4 hans
          obtain ⟨p4, c4, rfl, ho4, hb4⟩ := hans.low (BW.out _ B3.out)
          have H4 : Hid (OwnG KA w4 w.heap.size (.slice p4 (outL r).length c4) (outL r) ∧ Below w.heap.size w w4) := ⟨ho4, hb4⟩
          clear ho4 hb4 hans N1
          go_wp2_with fail
          exact bodyPost_ret (v := .tuple #[.slice p4 (outL r).length c4, .bool r.isSome]) (by simp [results, Tryd.results29, go_sem]) rfl (AnsT.toR ⟨p4, c4, rfl, H4.out⟩)
    · clear MB1 MB2 TX LF RA HM1 HM2
      have HR : Hid (r = numT (if cv = 0 then 1 else 0)) := by show _ = _; rw [HD2.out]; simp
      have C1 : Hid (∀ w1, Below wk.heap.size wk w1 → _) := fun w1 k => CP.out w1 (BW.out _ k)
      clear HD2 NO CP XS
      go_wp2_with fail
      go_region_held3 (fun w1 => w1.cell? ⟨X, o, none⟩ = some (.slice q1 n1 c1) ∧ w1.cell? ⟨X, o + 1, none⟩ = some (.slice q2 n2 c2)) (go_keep) (first | (go_at_call 51; refine Calls.mono (C1.out _ ?_) ?_; (first | exact BRk.out | exact BDk.out); rintro e w3 ⟨rfl, b3⟩; have B3 : Hid (Below wk.heap.size wk w3) := (by first | exact b3 | exact BDk.out.trans (b3.mono BDk.out.size)); obtain ⟨u1, u2⟩ := ZS.out _ B3.out; clear b3))
      all_goals
        by_cases hc : cv = 0
        · rw [if_pos hc] at HR
          have N1 : Hid (∀ w1, _) := fun w1 => NM.out 1 w1
          rw [← HR.out] at N1
          have hcb : (cv == 0) = true := by simp [hc]
          clear HR NM
          go_wp2_with fail
          refine Calls.mono (N1.out _) ?_
          rintro e w4 hans
          obtain ⟨p4, c4, rfl, ho4, hb4⟩ := hans.low (BW.out _ B3.out)
          have H4 : Hid (OwnG KA w4 w.heap.size (.slice p4 (outL r).length c4) (outL r) ∧ Below w.heap.size w w4) := ⟨ho4, hb4⟩
          clear ho4 hb4 hans N1
          go_wp2_with fail
          exact bodyPost_ret (v := .tuple #[.slice p4 (outL r).length c4, .bool r.isSome]) (by simp [results, Tryd.results29, go_sem]) rfl (AnsT.toR ⟨p4, c4, rfl, H4.out⟩)
        · rw [if_neg hc] at HR
          have N1 : Hid (∀ w1, _) := fun w1 => NM.out 0 w1
          rw [← HR.out] at N1
          have hcb : (cv == 0) = false := by simp [hc]
          clear HR NM
          go_wp2_with fail
          refine Calls.mono (N1.out _) ?_
          rintro e w4 hans
          obtain ⟨p4, c4, rfl, ho4, hb4⟩ := hans.low (BW.out _ B3.out)
          have H4 : Hid (OwnG KA w4 w.heap.size (.slice p4 (outL r).length c4) (outL r) ∧ Below w.heap.size w w4) := ⟨ho4, hb4⟩
          clear ho4 hb4 hans N1
          go_wp2_with fail
          exact bodyPost_ret (v := .tuple #[.slice p4 (outL r).length c4, .bool r.isSome]) (by simp [results, Tryd.results29, go_sem]) rfl (AnsT.toR ⟨p4, c4, rfl, H4.out⟩)
end Go.Proofs.YtpiikidpgjmmbaaDoor
