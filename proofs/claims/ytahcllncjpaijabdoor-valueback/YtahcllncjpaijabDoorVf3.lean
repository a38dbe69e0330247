/- Values: operations: lists, items, joins. -/
import Derived.Test.YtahcllncjpaijabDoorVf2
namespace Go.Proofs.YtahcllncjpaijabDoor
open Go.RowKit

/-- A list more, at a step of a region that draws its order. -/
theorem step_append_gs {α : Type} {P : Program} (K : RK α) (hk : K.Ok P) {ops : Array Oper} {o : Oper} {a : Act} {C : Act → World → Prop} {Q : Exit → Act → World → Prop} {E : Prop} (hgd : o.guard = none) (s x : Operand) (t : TypeId)
    (ho : o.op = .call { callee := .builtin .append, args := #[s, x], argTypes := #[t, t] })
    (base : Nat) (ht : P.underlying t = some (.slice K.ty))
    (w1 : World) (v : Value) (l m : List α) (X oX n c : Nat) (hs : a.eval s = v) (hown : OwnG K w1 base v l)
    (hx : a.eval x = .slice (some ⟨X, oX, none⟩) n c) (hn : n = m.length) (hm : GS K w1 (.slice (some ⟨X, oX, none⟩) n c) m)
    (hlen : (l.length + m.length) * K.B ≤ 140737488355328) (hbase : base ≤ w1.heap.size)
    (h : ∀ v' w', OwnG K w' base v' (l ++ m) → Below base w1 w' → (∀ k, k < w1.heap.size → some k ≠ v.ownBlock → w'.heap[k]? = w1.heap[k]?) → C (a.put o.dst v') w') :
    if Region.wanted o (yielded ops a.tmps) = true then Oper.wp P o a w1 C Q else E := by
  obtain ⟨i0, hi0, hz0, hz1, hz2⟩ := hk.info
  have hpb := hk.posB
  subst hn
  have hlm : l.length + m.length ≤ 140737488355328 := Nat.le_trans (Nat.le_mul_of_pos_right _ hpb) hlen
  have one : ∀ u ∈ m.flatMap K.f, u.oneCell' = true := fun u hu => by
    obtain ⟨f, _, hf⟩ := List.mem_flatMap.1 hu
    exact hk.one f u hf
  have hw : Region.wanted o (yielded ops a.tmps) = true := by simp [Region.wanted, hgd]
  rw [if_pos hw]
  refine wp_append_own w1 s x t ho base K.ty i0 K.z K.W K.B ht hi0 hz0 hz1 hz2 hk.zs hk.pos v l.length (l.flatMap K.f) hs hown ⟨X, oX, none⟩ m.length c (m.flatMap K.f) hx (RK.flat_len hk.len m) (hm.news hk.len hk.pos) one
    (by unfold maxLen; omega) hlen hbase ?_
  intro v' w' ho' hg _
  refine h v' w' ?_ ((Below.refl base w1).grown hg hbase (fun q hq => (hown.lt hq).1)) (fun k hk hne => hg.block k hk hne)
  unfold OwnG
  rw [List.length_append, List.flatMap_append]
  exact ho'
set_option maxHeartbeats 4000000 in
theorem opList_any (v : Value) (L : List Vx) (ts : List Vt) (w : World) (h : VR w v L) (ht : VT L) (he : aL L = ts.map flV) (hr : ∀ t ∈ ts, RT t) (hlm : L.length ≤ 4096) :
    Calls Tryd.prog 42 #[v] w fun e w' => AnsT w w' e (lstT ts) := by
  have LO : Hid (Calls Tryd.prog 22 #[v] w fun e w' => AnsT w w' e (lstT ts)) := by
    have := listOf_any v L w h ht (fun a ha => by rw [he] at ha; obtain ⟨t, ht', e⟩ := List.mem_map.1 ha; rw [← e]; exact (hr t ht').chk) hlm
    rw [he, (lokL_lst hr).1, (lokL_lst hr).2] at this
    exact this
  obtain ⟨p, cap, rfl⟩ := h.gs.form
  generalize lstT ts = r at *
  clear h ht he hr
  go_enter Tryd.func42, Tryd.ntmps42
  go_wp2_with fail
  refine Calls.mono LO.out ?_
  rintro e w1 ⟨p1, c1, rfl, ho1, hb1⟩
  have H1 : Hid (OwnG KA w1 w.heap.size (.slice p1 (outL r).length c1) (outL r) ∧ Below w.heap.size w w1) := ⟨ho1, hb1⟩
  clear ho1 hb1 LO
  go_wp2_with fail
  exact bodyPost_ret (v := .tuple #[.slice p1 (outL r).length c1, .bool r.isSome]) (by simp [results, Tryd.results42, go_sem]) rfl ⟨p1, c1, rfl, H1.out⟩
theorem do2T_item (a b : Vt) : do2T 10 a b = if a.k = 3 ∧ b.k = 1 ∧ 0 ≤ b.i then a.ps[b.i.toNat]? else none := by
  unfold do2T; simp
theorem do2T_join (a b : Vt) : do2T 9 a b = if a.k = 2 ∧ b.k = 2 then txtT (a.tx ++ b.tx) else if a.k = 3 ∧ b.k = 3 then lstT (a.ps ++ b.ps) else none := by
  unfold do2T; simp
theorem mbR_mem {X o i : Nat} {t : Vt} (hi : i < t.ps.length) {w : World} {n c : Nat} (h : AS w (.slice (some ⟨X, o, none⟩) n c) (flV t)) : AS w (.slice (some ⟨X, o + szVL (t.ps.take i) * 4, none⟩) (szV t.ps[i]) (szV t.ps[i])) (flV t.ps[i]) := by
  have := mbR_vr h ((mbR X o t.ps)[i]'(by rw [mbR_len]; exact hi)) (List.getElem_mem _)
  rw [mbR_get X o t.ps i hi] at this
  exact this
set_option maxHeartbeats 16000000 in
set_option maxRecDepth 100000 in
theorem item_any (X o cap : Nat) (q1 q2 : Option Addr) (c1 c2 : Nat) (a b : Vt) (w : World) (h : PA w X o q1 c1 q2 c2 a b) (ha : RT a) (hb : RT b) :
    Calls Tryd.prog 47 #[.slice (some ⟨X, o, none⟩) 2 cap] w fun e w' => AnsT w w' e (do2T 10 a b) := by
  have hs1 := ha.sz
  have hs2 := hb.sz
  have W1 : Hid (∀ w1, Below w.heap.size w w1 → _) := fun w1 k => wholeX_any _ a w1 (h.below k).a1 (by omega)
  have W2 : Hid (∀ w1, Below w.heap.size w w1 → _) := fun w1 k => wholeX_any _ b w1 (h.below k).a2 (by omega)
  have y1 := h.x0
  have y2 := h.x1
  have hX := block_lt_of_cell y1
  have HBA : Hid (∀ W ob, Below w.heap.size w W → Below w.heap.size w (World.alloc W ob)) := fun W ob k => k.alloc k.size _
  have HBD : Hid (∀ W : World, Below w.heap.size w W → Below w.heap.size w W.drew) := fun W k => k.drew
  have HBR : Hid (Below w.heap.size w w) := Below.refl _ _
  have HBS : Hid (∀ (W : World) b o v, w.heap.size ≤ b → Below w.heap.size w W → Below w.heap.size w (W.setCell ⟨b, o, none⟩ v)) := fun W b o v hb k => k.setCell hb _
  have XS : Hid (∀ w1, Below w.heap.size w w1 → w1.cell? ⟨X, o, none⟩ = some (.slice q1 (szV a) c1) ∧ w1.cell? ⟨X, o + 1, none⟩ = some (.slice q2 (szV b) c2)) := fun w1 k => ⟨(h.below k).x0, (h.below k).x1⟩
  have MB : Hid (∀ w1, Below w.heap.size w w1 → _) := fun w1 k => membersOf_any _ a w1 (h.below k).a1 ha
  have CL : Hid (∀ w1 i (hi : i < a.ps.length) Y u n c, Below w.heap.size w w1 → Value.slice q1 (szV a) c1 = .slice (some ⟨Y, u, none⟩) n c → Calls Tryd.prog 20 #[.slice (some ⟨Y, u + szVL (a.ps.take i) * 4, none⟩) (szV a.ps[i]) (szV a.ps[i])] w1 fun e w' => ∃ p cap, e = .returned (.slice p (szV a.ps[i]) cap) ∧ OwnG KA w' w1.heap.size (.slice p (szV a.ps[i]) cap) (flV a.ps[i]) ∧ Below w1.heap.size w1 w') := fun w1 i hi Y u n c k e => by
    have h1 := (h.below k).a1
    rw [e] at h1
    have h2 := mbR_mem hi h1
    have h3 := (ha.parts _ (List.getElem_mem hi)).sz
    exact cloneA_any w1 _ (flV a.ps[i]) h2 (by show szV a.ps[i] ≤ _; omega)
  have RW : Hid (∀ w1 Y u g i (hi : i < a.ps.length), OwnG KV w1 w.heap.size (.slice (some ⟨g, 0, none⟩) a.ps.length a.ps.length) (mbR Y u a.ps) → w1.cell? ⟨g, i, none⟩ = some (.slice (some ⟨Y, u + szVL (a.ps.take i) * 4, none⟩) (szV a.ps[i]) (szV a.ps[i]))) := fun w1 Y u g i hi ho => by
    obtain ⟨X', o', e, hc⟩ := (ho.gs KV_ok.len).atV (k := i) (by rw [mbR_len]; exact hi)
    injection e with e
    injection e with e1 e2 _
    subst e1 e2
    rw [Nat.zero_add, mbR_get Y u a.ps i hi] at hc
    exact hc
  have HD : Hid (do2T 10 a b = if a.k = 3 ∧ b.k = 1 ∧ 0 ≤ b.i then a.ps[b.i.toNat]? else none) := do2T_item a b
  have lp1 : a.ps.length ≤ 1024 := by have h3 := memT_len (t := a); have h4 := szV_ps a; omega
  obtain ⟨j1, j2⟩ := hb.int
  generalize do2T 10 a b = r at *
  obtain ⟨k1, i1, t1, ps⟩ := a
  obtain ⟨k2, i2, t2, qs⟩ := b
  have HD2 : Hid (r = if k1 = 3 ∧ k2 = 1 ∧ 0 ≤ i2 then ps[i2.toNat]? else none) := HD.out
  clear HD
  simp only [Vt.k, Vt.i, Vt.tx, Vt.ps] at W1 W2 MB CL RW lp1 j1 j2
  generalize szV (Vt.nd k1 i1 t1 ps) = n1 at *
  generalize szV (Vt.nd k2 i2 t2 qs) = n2 at *
  obtain ⟨m1, hm1⟩ : ∃ m1, m1 = ps.length := ⟨_, rfl⟩
  have HM1 : Hid (m1 = ps.length) := hm1
  rw [← hm1] at W1 MB lp1
  generalize qs.length = m2 at *
  clear h ha hb hm1
  go_enter Tryd.func47, Tryd.ntmps47
  go_upto_region 1 with fail
  go_cut [4, 5] (fun v5 v6 wc => ∃ b5 b6 wk, v5 = .pointer (some ⟨b5, 0, none⟩) ∧ v6 = .pointer (some ⟨b6, 0, none⟩) ∧ wk = wc ∧ wk.cell? ⟨b5, 0, none⟩ = some (.int .i64 k1) ∧ wk.cell? ⟨b5, 1, none⟩ = some (.int .i64 (m1 : Nat)) ∧ wk.cell? ⟨b5, 2, none⟩ = some (.int .i64 i1) ∧ wk.cell? ⟨b5, 3, none⟩ = some (.string t1) ∧ wk.cell? ⟨b6, 0, none⟩ = some (.int .i64 k2) ∧ wk.cell? ⟨b6, 2, none⟩ = some (.int .i64 i2) ∧ wk.cell? ⟨b6, 3, none⟩ = some (.string t2) ∧ Hid (Below w.heap.size w wk))
  case first =>
    go_region_held3 (fun w1 => w1.cell? ⟨X, o, none⟩ = some (.slice q1 n1 c1) ∧ w1.cell? ⟨X, o + 1, none⟩ = some (.slice q2 n2 c2)) (first | exact XS.out _ (by repeat (first | exact HBR.out | refine HBA.out _ _ ?_ | refine HBD.out _ ?_ | refine HBS.out _ _ _ _ (by omega) ?_)) | go_keep) (first | (go_at_call 18; (have _hq : Mk3 := by assumption); refine Calls.mono (W2.out _ ?_) ?_; (focus (repeat (first | exact HBR.out | refine HBA.out _ _ ?_ | refine HBD.out _ ?_))); rintro e w4 ⟨rfl, rfl⟩) | (go_at_call 18; refine Calls.mono (W1.out _ ?_) ?_; (focus (repeat (first | exact HBR.out | refine HBA.out _ _ ?_ | refine HBD.out _ ?_))); rintro e w3 ⟨rfl, rfl⟩; have HM3 : Mk3 := mk3))
    all_goals
      go_wp2_with fail
      go_meet
      refine ⟨_, _, _, rfl, rfl, rfl, by simp [go_sem], by simp [go_sem], by simp [go_sem], by simp [go_sem], by simp [go_sem], by simp [go_sem], by simp [go_sem], ?_⟩
      (repeat (first | exact HBR.out | refine HBA.out _ _ ?_ | refine HBD.out _ ?_ | refine HBS.out _ _ _ _ (by omega) ?_))
  case rest =>
    obtain ⟨b5, b6, wk, rfl, rfl, rfl, z1, z11, z2, z5, z3, z4, z6, HB⟩ := hcut
    clear W1 W2 y1 y2
    have NO : Hid (∀ w', Below w.heap.size w w' → ¬ (k1 = 3 ∧ k2 = 1 ∧ 0 ≤ i2 ∧ i2 < (m1 : Int)) → AnsT w w' (.returned (.tuple #[.slice none 0 0, .bool false])) r) := fun w' bw hn => by
      rw [HD2.out]
      by_cases e : k1 = 3 ∧ k2 = 1 ∧ 0 ≤ i2
      · rw [if_pos e, List.getElem?_eq_none (by have := HM1.out; omega)]; exact AnsT.nil bw
      · rw [if_neg e]; exact AnsT.nil bw
    by_cases e1 : k1 = 3
    · subst e1
      by_cases e2 : k2 = 1
      · subst e2
        by_cases e3 : i2 < 0
        · go_wp2_with fail
          exact bodyPost_ret (v := .tuple #[.slice none 0 0, .bool false]) (by simp [results, Tryd.results47, go_sem]) rfl (NO.out _ HB.out (by omega))
        · by_cases e4 : i2 ≥ (m1 : Int)
          · go_wp2_with fail
            exact bodyPost_ret (v := .tuple #[.slice none 0 0, .bool false]) (by simp [results, Tryd.results47, go_sem]) rfl (NO.out _ HB.out (by omega))
          · obtain ⟨i, rfl⟩ : ∃ i : Nat, i2 = i := ⟨i2.toNat, by omega⟩
            have hi : i < m1 := by omega
            have hi' : i < ps.length := by have := HM1.out; omega
            have YES : Hid (∀ w' p cc, OwnG KA w' w.heap.size (.slice p (szV ps[i]) cc) (flV ps[i]) → Below w.heap.size w w' → AnsT w w' (.returned (.tuple #[.slice p (szV ps[i]) cc, .bool true])) r) := fun w' p cc o1 bw => by
              have : r = some ps[i] := by rw [HD2.out]; simp [hi']
              rw [this]
              exact ⟨p, cc, rfl, o1, bw⟩
            have CLi : Hid (∀ w1 Y u n c, Below w.heap.size w w1 → Value.slice q1 n1 c1 = .slice (some ⟨Y, u, none⟩) n c → _) := fun w1 Y u n c => CL.out w1 i hi' Y u n c
            have RWi : Hid (∀ w1 Y u g, _ → _) := fun w1 Y u g => RW.out w1 Y u g i hi'
            rw [← HM1.out] at RWi
            have x0 := (XS.out _ HB.out).1
            have ZS : Hid (∀ w1, Below wk.heap.size wk w1 → w1.cell? ⟨X, o, none⟩ = some (.slice q1 n1 c1) ∧ w1.cell? ⟨b6, 2, none⟩ = some (.int .i64 (i : Int))) := fun w1 k => ⟨(XS.out _ (HB.out.trans (k.mono HB.out.size))).1, (k.cell (p := ⟨b6, 2, none⟩) (block_lt_of_cell z4)).trans z4⟩
            have BW : Hid (∀ w1, Below wk.heap.size wk w1 → Below w.heap.size w w1) := fun w1 k => HB.out.trans (k.mono HB.out.size)
            have BRk : Hid (Below wk.heap.size wk wk) := Below.refl _ _
            have BDk : Hid (Below wk.heap.size wk wk.drew) := (Below.refl _ _).drew
            have HSP : Hid (szV ps[i] = szV ps[i]) := rfl
            generalize hpi : ps[i] = pi at *
            generalize hsi : szV pi = si at *
            generalize szVL (ps.take i) = so at *
            clear CL RW NO HM1 XS hpi hsi HSP HD2
            have hiI : (i : Int) < (m1 : Int) := by omega
            go_wp2_with fail
            go_region_with (first | (go_at_call 19; refine Calls.mono (MB.out _ ?_) ?_; (first | exact BW.out _ BRk.out | exact BW.out _ BDk.out); rintro e w3 ⟨Y, u, nn, cc, gg, eq1, rfl, ho3, hb3⟩; have EQ1 : Hid _ := eq1; have B3 : Hid (Below wk.heap.size wk w3) := (by first | exact hb3 | exact BDk.out.trans (hb3.mono BDk.out.size)); have y3 := RWi.out w3 Y u gg (ho3.low (by first | exact (BW.out _ BRk.out).size | exact (BW.out _ BDk.out).size)); obtain ⟨u1, u2⟩ := ZS.out _ B3.out; clear hb3 ho3 eq1) | (go_at_call 20; refine Calls.mono (CLi.out _ Y u nn cc ?_ EQ1.out) ?_; (first | exact BW.out _ B3.out | exact BW.out _ B3.out.drew); rintro e w4 ⟨p4, c4, rfl, ho4, hb4⟩; have B4 : Hid (Below wk.heap.size wk w4) := (by first | exact B3.out.trans (hb4.mono B3.out.size) | exact B3.out.drew.trans (hb4.mono B3.out.size)); have O4 : Hid (OwnG KA w4 w.heap.size (.slice p4 si c4) (flV pi)) := ho4.low (by first | exact (BW.out _ B3.out).size | exact (BW.out _ B3.out.drew).size); obtain ⟨u3, u4⟩ := ZS.out _ B4.out; clear hb4 ho4))
            all_goals
              go_wp2_with fail
              exact bodyPost_ret (v := .tuple #[.slice p4 si c4, .bool true]) (by simp [results, Tryd.results47, go_sem]) rfl (YES.out _ _ _ O4.out (BW.out _ B4.out))
      · have e2b : (k2 != 1) = true := by simp [e2]
        go_wp2_with fail
        exact bodyPost_ret (v := .tuple #[.slice none 0 0, .bool false]) (by simp [results, Tryd.results47, go_sem]) rfl (NO.out _ HB.out (by omega))
    · have e1b : (k1 != 3) = true := by simp [e1]
      go_wp2_with fail
      exact bodyPost_ret (v := .tuple #[.slice none 0 0, .bool false]) (by simp [results, Tryd.results47, go_sem]) rfl (NO.out _ HB.out (by omega))
end Go.Proofs.YtahcllncjpaijabDoor
