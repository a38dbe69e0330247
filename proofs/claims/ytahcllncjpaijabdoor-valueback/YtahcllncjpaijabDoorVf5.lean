/- Values: which operation; what Do answers. -/
import Derived.Test.YtahcllncjpaijabDoorVf3
namespace Go.Proofs.YtahcllncjpaijabDoor
open Go.RowKit

/-- A mark: the second call of a region has been. -/
def Mk4 : Prop := True
theorem mk4 : Mk4 := trivial
theorem form3 {α : Type} {K : RK α} {w : World} {base : Nat} {v : Value} {l : List α} (h : OwnG K w base v l) : ∃ p n c, v = .slice p n c := by
  obtain ⟨p, c, e, _⟩ := h.form
  exact ⟨p, _, c, e⟩
theorem RT.text {t : Vt} (h : RT t) : t.tx.size ≤ 4096 := by
  have h1 := h.wf
  cases t with
  | nd k i tx ps =>
    rw [wfV] at h1
    have h2 := h1.1
    unfold atB at h2
    show tx.size ≤ 4096
    split at h2
    · simp at h2; rw [h2.2]; decide
    · split at h2
      · simp at h2; exact h2.2
      · split at h2
        · simp at h2; rw [h2.2]; decide
        · cases h2
theorem VT_app {L M : List Vx} (h1 : VT L) (h2 : VT M) (hn : (L.length + M.length) * 24 ≤ 140737488355328) : VT (L ++ M) := by
  refine ⟨by rw [List.length_append]; exact hn, fun x hx => ?_, fun x hx => ?_⟩
  · rcases List.mem_append.1 hx with e | e
    · exact h1.l x e
    · exact h2.l x e
  · rcases List.mem_append.1 hx with e | e
    · exact h1.t x e
    · exact h2.t x e
theorem AnsV.toT {w w' : World} {e : Ending} {s : ByteArray} (h : AnsV w w' e (txtL s) (txtE s)) : ∃ p c, e = .returned (.tuple #[.slice p (txtL s).length c, .int .i64 (txtE s)]) ∧ AnsT w w' (.returned (.tuple #[.slice p (txtL s).length c, .bool (txtE s == 0)])) (txtT s) := by
  obtain ⟨p, c, h1, h2, h3⟩ := h
  obtain ⟨e1, e2⟩ := txtL_txt s
  refine ⟨p, c, h1, p, c, by rw [e1, e2], by rw [← e1]; exact h2, h3⟩
set_option maxHeartbeats 16000000 in
set_option maxRecDepth 100000 in
theorem join_any (X o cap : Nat) (q1 q2 : Option Addr) (c1 c2 : Nat) (a b : Vt) (w : World) (h : PA w X o q1 c1 q2 c2 a b) (ha : RT a) (hb : RT b) (at1 : AT (flV a)) (at2 : AT (flV b)) :
    Calls Tryd.prog 46 #[.slice (some ⟨X, o, none⟩) 2 cap] w fun e w' => AnsT w w' e (do2T 9 a b) := by
  have hs1 := ha.sz
  have hs2 := hb.sz
  have W1 : Hid (∀ w1, Below w.heap.size w w1 → _) := fun w1 k => wholeX_any _ a w1 (h.below k).a1 (by omega)
  have W2 : Hid (∀ w1, Below w.heap.size w w1 → _) := fun w1 k => wholeX_any _ b w1 (h.below k).a2 (by omega)
  have y1 := h.x0
  have y2 := h.x1
  have hX := block_lt_of_cell y1
  have HBA : Hid (∀ W ob, Below w.heap.size w W → Below w.heap.size w (World.alloc W ob)) := fun W ob k => k.alloc k.size _
  have HBD : Hid (∀ W : World, Below w.heap.size w W → Below w.heap.size w W.drew) := fun W k => k.drew
  have HBR : Hid (Below w.heap.size w w) := Below.refl _ _
  have HBS : Hid (∀ (W : World) b o v, w.heap.size ≤ b → Below w.heap.size w W → Below w.heap.size w (W.setCell ⟨b, o, none⟩ v)) := fun W b o v hb k => k.setCell hb _
  have XS : Hid (∀ w1, Below w.heap.size w w1 → w1.cell? ⟨X, o, none⟩ = some (.slice q1 (szV a) c1) ∧ w1.cell? ⟨X, o + 1, none⟩ = some (.slice q2 (szV b) c2)) := fun w1 k => ⟨(h.below k).x0, (h.below k).x1⟩
  have MB1 : Hid (∀ w1, Below w.heap.size w w1 → _) := fun w1 k => membersOf_any _ a w1 (h.below k).a1 ha
  have MB2 : Hid (∀ w1, Below w.heap.size w w1 → _) := fun w1 k => membersOf_any _ b w1 (h.below k).a2 hb
  have TX : Hid (∀ w1, _) := fun w1 => text_any (a.tx ++ b.tx) w1 (by have h3 := ha.text; have h4 := hb.text; rw [ByteArray.size_append]; unfold maxLen; omega)
  have lp1 : a.ps.length ≤ 1024 := by have h3 := memT_len (t := a); have h4 := szV_ps a; omega
  have lp2 : b.ps.length ≤ 1024 := by have h3 := memT_len (t := b); have h4 := szV_ps b; omega
  have LF : Hid (∀ w1 v' Y u n c Y' u' n' c', Below w.heap.size w w1 → Value.slice q1 (szV a) c1 = .slice (some ⟨Y, u, none⟩) n c → Value.slice q2 (szV b) c2 = .slice (some ⟨Y', u', none⟩) n' c' → OwnG KV w1 w.heap.size v' (mbR Y u a.ps ++ mbR Y' u' b.ps) → Calls Tryd.prog 22 #[v'] w1 fun e w' => AnsT w1 w' e (lstT (a.ps ++ b.ps))) := fun w1 v' Y u n c Y' u' n' c' k e1 e2 ho => by
    have g1 := (h.below k).a1
    have g2 := (h.below k).a2
    rw [e1] at g1
    rw [e2] at g2
    have hl : (mbR Y u a.ps ++ mbR Y' u' b.ps).length = a.ps.length + b.ps.length := by rw [List.length_append, mbR_len, mbR_len]
    have he : aL (mbR Y u a.ps ++ mbR Y' u' b.ps) = (a.ps ++ b.ps).map flV := by
      unfold aL
      rw [List.map_append, List.map_append]
      have h1 := mbR_aL Y u a.ps
      have h2 := mbR_aL Y' u' b.ps
      unfold aL at h1 h2
      rw [h1, h2]
    have hr : ∀ t ∈ a.ps ++ b.ps, RT t := fun t ht => by
      rcases List.mem_append.1 ht with e | e
      · exact ha.parts t e
      · exact hb.parts t e
    have vr : VR w1 v' (mbR Y u a.ps ++ mbR Y' u' b.ps) := ⟨ho.gs KV_ok.len, fun x hx => by
      rcases List.mem_append.1 hx with e | e
      · exact mbR_vr g1 x e
      · exact mbR_vr g2 x e⟩
    have vt : VT (mbR Y u a.ps ++ mbR Y' u' b.ps) := VT_app (mbR_vt ha at1) (mbR_vt hb at2) (by rw [mbR_len, mbR_len]; omega)
    have := listOf_any v' _ w1 vr vt (fun x hx => by rw [he] at hx; obtain ⟨t, ht, e⟩ := List.mem_map.1 hx; rw [← e]; exact (hr t ht).chk) (by rw [hl]; omega)
    rw [he, (lokL_lst hr).1, (lokL_lst hr).2] at this
    exact this
  have HD : Hid (do2T 9 a b = if a.k = 2 ∧ b.k = 2 then txtT (a.tx ++ b.tx) else if a.k = 3 ∧ b.k = 3 then lstT (a.ps ++ b.ps) else none) := do2T_join a b
  have tz1 := ha.text
  have tz2 := hb.text
  generalize do2T 9 a b = r at *
  obtain ⟨k1, i1, t1, ps⟩ := a
  obtain ⟨k2, i2, t2, qs⟩ := b
  have HD2 : Hid (r = if k1 = 2 ∧ k2 = 2 then txtT (t1 ++ t2) else if k1 = 3 ∧ k2 = 3 then lstT (ps ++ qs) else none) := HD.out
  clear HD
  simp only [Vt.k, Vt.i, Vt.tx, Vt.ps] at W1 W2 MB1 MB2 TX LF lp1 lp2 tz1 tz2
  generalize szV (Vt.nd k1 i1 t1 ps) = n1 at *
  generalize szV (Vt.nd k2 i2 t2 qs) = n2 at *
  obtain ⟨m1, hm1⟩ : ∃ m1, m1 = ps.length := ⟨_, rfl⟩
  obtain ⟨m2, hm2⟩ : ∃ m2, m2 = qs.length := ⟨_, rfl⟩
  have LSs : Hid (∀ Y u Y' u', ((mbR Y u ps).length + (mbR Y' u' qs).length) * KV.B ≤ 140737488355328) := fun Y u Y' u' => by rw [mbR_len, mbR_len]; show _ * 24 ≤ _; omega
  have LN2 : Hid (∀ Y' u', m2 = (mbR Y' u' qs).length) := fun Y' u' => by rw [mbR_len]; exact hm2
  rw [← hm1] at W1 MB1 lp1
  rw [← hm2] at W2 MB2 lp2
  clear h ha hb hm1 hm2 at1 at2
  go_enter Tryd.func46, Tryd.ntmps46
  go_upto_region 1 with fail
  go_cut [4, 5] (fun v5 v6 wc => ∃ b5 b6 wk, v5 = .pointer (some ⟨b5, 0, none⟩) ∧ v6 = .pointer (some ⟨b6, 0, none⟩) ∧ wk = wc ∧ wk.cell? ⟨b5, 0, none⟩ = some (.int .i64 k1) ∧ wk.cell? ⟨b5, 1, none⟩ = some (.int .i64 (m1 : Nat)) ∧ wk.cell? ⟨b5, 2, none⟩ = some (.int .i64 i1) ∧ wk.cell? ⟨b5, 3, none⟩ = some (.string t1) ∧ wk.cell? ⟨b6, 0, none⟩ = some (.int .i64 k2) ∧ wk.cell? ⟨b6, 2, none⟩ = some (.int .i64 i2) ∧ wk.cell? ⟨b6, 3, none⟩ = some (.string t2) ∧ Hid (Below w.heap.size w wk))
  case first =>
    go_region_held3 (fun w1 => w1.cell? ⟨X, o, none⟩ = some (.slice q1 n1 c1) ∧ w1.cell? ⟨X, o + 1, none⟩ = some (.slice q2 n2 c2)) (first | exact XS.out _ (by repeat (first | exact HBR.out | refine HBA.out _ _ ?_ | refine HBD.out _ ?_ | refine HBS.out _ _ _ _ (by omega) ?_)) | go_keep) (first | (go_at_call 18; (have _hq : Mk3 := by assumption); refine Calls.mono (W2.out _ ?_) ?_; (focus (repeat (first | exact HBR.out | refine HBA.out _ _ ?_ | refine HBD.out _ ?_))); rintro e w4 ⟨rfl, rfl⟩) | (go_at_call 18; refine Calls.mono (W1.out _ ?_) ?_; (focus (repeat (first | exact HBR.out | refine HBA.out _ _ ?_ | refine HBD.out _ ?_))); rintro e w3 ⟨rfl, rfl⟩; have HM3 : Mk3 := mk3))
    all_goals
      go_wp2_with fail
      go_meet
      refine ⟨_, _, _, rfl, rfl, rfl, by simp [go_sem], by simp [go_sem], by simp [go_sem], by simp [go_sem], by simp [go_sem], by simp [go_sem], by simp [go_sem], ?_⟩
      (repeat (first | exact HBR.out | refine HBA.out _ _ ?_ | refine HBD.out _ ?_ | refine HBS.out _ _ _ _ (by omega) ?_))
  case rest =>
    obtain ⟨b5, b6, wk, rfl, rfl, rfl, z1, z11, z2, z5, z3, z4, z6, HB⟩ := hcut
    clear W1 W2 y1 y2
    have NO : Hid (∀ w', Below w.heap.size w w' → r = none → AnsT w w' (.returned (.tuple #[.slice none 0 0, .bool false])) r) := fun w' bw hn => by rw [hn]; exact AnsT.nil bw
    by_cases e1 : k1 = 2
    · subst e1
      by_cases e2 : k2 = 2
      · subst e2
        have HR : Hid (r = txtT (t1 ++ t2)) := by show _ = _; rw [HD2.out, if_pos ⟨rfl, rfl⟩]
        have hsum : t1.size + t2.size ≤ 9223372036854775807 := by omega
        have T1 : Hid _ := TX.out wk
        clear NO HD2 MB1 MB2 LF TX
        go_wp2_with fail
        refine Calls.mono T1.out ?_
        rintro e w3 hans
        obtain ⟨p3, c3, rfl, ht3⟩ := AnsV.toT hans
        have A3 : Hid (AnsT w w3 (.returned (.tuple #[.slice p3 (txtL (t1 ++ t2)).length c3, .bool (txtE (t1 ++ t2) == 0)])) r) := by rw [HR.out]; exact ht3.low HB.out
        clear ht3 hans T1 HR
        generalize txtL (t1 ++ t2) = tl at *
        generalize txtE (t1 ++ t2) = te at *
        go_wp2_with fail
        exact bodyPost_ret (v := .tuple #[.slice p3 tl.length c3, .bool (te == 0)]) (by simp [results, Tryd.results46, go_sem]) rfl A3.out
      · have e2b : (k2 == 2) = false := by simp [e2]
        have HR : Hid (r = none) := by show _ = _; rw [HD2.out, if_neg (fun h => e2 h.2), if_neg (fun h => by have := h.1; omega)]
        clear HD2 MB1 MB2 LF TX
        go_wp2_with fail
        exact bodyPost_ret (v := .tuple #[.slice none 0 0, .bool false]) (by simp [results, Tryd.results46, go_sem]) rfl (NO.out _ HB.out HR.out)
    · have e1b : (k1 == 2) = false := by simp [e1]
      by_cases e3 : k1 = 3
      · subst e3
        by_cases e4 : k2 = 3
        · subst e4
          have HR : Hid (r = lstT (ps ++ qs)) := by show _ = _; rw [HD2.out, if_neg (fun h => e1 h.1), if_pos ⟨rfl, rfl⟩]
          have ZS : Hid (∀ w1, Below wk.heap.size wk w1 → w1.cell? ⟨X, o, none⟩ = some (.slice q1 n1 c1) ∧ w1.cell? ⟨X, o + 1, none⟩ = some (.slice q2 n2 c2)) := fun w1 k => XS.out _ (HB.out.trans (k.mono HB.out.size))
          have BW : Hid (∀ w1, Below wk.heap.size wk w1 → Below w.heap.size w w1) := fun w1 k => HB.out.trans (k.mono HB.out.size)
          have BRk : Hid (Below wk.heap.size wk wk) := Below.refl _ _
          have BDk : Hid (Below wk.heap.size wk wk.drew) := (Below.refl _ _).drew
          obtain ⟨x0, x1⟩ := ZS.out wk BRk.out
          have XW : Hid (∀ w1, Below w.heap.size w w1 → w1.cell? ⟨X, o, none⟩ = some (.slice q1 n1 c1) ∧ w1.cell? ⟨X, o + 1, none⟩ = some (.slice q2 n2 c2)) := XS.out
          rw [← HR.out] at LF
          clear NO HD2 TX XS HR HBA HBD HBR HBS
          go_wp2_with fail
          clear z1 z11 z2 z5 z3 z4 z6
          go_region_held3 (fun w1 => w1.cell? ⟨X, o, none⟩ = some (.slice q1 n1 c1) ∧ w1.cell? ⟨X, o + 1, none⟩ = some (.slice q2 n2 c2)) (go_keep) (first | (go_at_call 19; (have _hq : Mk3 := by assumption); refine Calls.mono (MB2.out _ ?_) ?_; (first | exact BW.out _ B3.out | exact BW.out _ B3.out.drew); rintro e w4 ⟨Y', u', nn', cc', gg', eq2, rfl, ho4, hb4⟩; have EQ2 : Hid _ := eq2; have B4 : Hid (Below wk.heap.size wk w4) := (by first | exact B3.out.trans (hb4.mono B3.out.size) | exact B3.out.drew.trans (hb4.mono B3.out.size)); have O34 : Hid (OwnG KV w4 w.heap.size (.slice (some ⟨gg, 0, none⟩) m1 m1) (mbR Y u ps)) := (by first | exact OwnG.below (w := w3) O3.out hb4 | exact OwnG.below (w := w3.drew) (OwnG.below (w := w3) O3.out ((Below.refl _ _).drew)) hb4); have O4 : Hid (OwnG KV w4 w.heap.size (.slice (some ⟨gg', 0, none⟩) m2 m2) (mbR Y' u' qs)) := ho4.low (by first | exact (BW.out _ B3.out).size | exact (BW.out _ B3.out.drew).size); obtain ⟨u3, u4⟩ := ZS.out _ B4.out; have HM4 : Mk4 := mk4; clear hb4 ho4 eq2) | (go_at_call 19; refine Calls.mono (MB1.out _ ?_) ?_; (first | exact BW.out _ BRk.out | exact BW.out _ BDk.out); rintro e w3 ⟨Y, u, nn, cc, gg, eq1, rfl, ho3, hb3⟩; have EQ1 : Hid _ := eq1; have B3 : Hid (Below wk.heap.size wk w3) := (by first | exact hb3 | exact BDk.out.trans (hb3.mono BDk.out.size)); have O3 : Hid (OwnG KV w3 w.heap.size (.slice (some ⟨gg, 0, none⟩) m1 m1) (mbR Y u ps)) := ho3.low (by first | exact (BW.out _ BRk.out).size | exact (BW.out _ BDk.out).size); obtain ⟨u1, u2⟩ := ZS.out _ B3.out; have HM3 : Mk3 := mk3; clear hb3 ho3 eq1) | (go_at_call 22; refine Calls.mono (LF.out _ _ Y u nn cc Y' u' nn' cc' ?_ EQ1.out EQ2.out ?_) ?_; (first | exact B8.out | exact B8.out.drew); (first | exact O8.out | exact OwnG.below (w := w8) O8.out ((Below.refl _ _).drew)); rintro e w9 hans; have HA : Hid (AnsT w w9 e r) := (by first | exact hans.low B8.out | exact hans.low B8.out.drew); obtain ⟨p9, c9, rfl, ho9, hb9⟩ := HA.out; have H9 : Hid (OwnG KA w9 w.heap.size (.slice p9 (outL r).length c9) (outL r) ∧ Below w.heap.size w w9) := ⟨ho9, hb9⟩; obtain ⟨u7, u8⟩ := XW.out _ hb9; clear ho9 hb9 hans HA) | ((have _hq4 : Mk4 := by assumption); refine step_append_gs KV KV_ok (by rfl) (.tmp 49) (.tmp 53) 24 (by rfl) w.heap.size Tryd.underlying24 _ (.slice (some ⟨gg, 0, none⟩) m1 m1) (mbR Y u ps) (mbR Y' u' qs) gg' 0 m2 m2 (by rfl) (by first | exact O34.out | exact OwnG.below (w := w4) O34.out ((Below.refl _ _).drew)) (by rfl) (LN2.out _ _) (by first | exact O4.out.gs KV_ok.len | exact (OwnG.below (w := w4) O4.out ((Below.refl _ _).drew)).gs KV_ok.len) (LSs.out _ _ _ _) (by first | exact (BW.out _ B4.out).size | exact (BW.out _ B4.out.drew).size) ?_; intro v8 w8 ho8 hb8 _; obtain ⟨p8, n8, c8, rfl⟩ := form3 ho8; have O8 : Hid (OwnG KV w8 w.heap.size (.slice p8 n8 c8) (mbR Y u ps ++ mbR Y' u' qs)) := ho8; have B8 : Hid (Below w.heap.size w w8) := (by first | exact (BW.out _ B4.out).trans hb8 | exact (BW.out _ B4.out.drew).trans hb8); obtain ⟨u5, u6⟩ := XW.out _ B8.out; clear ho8 hb8) | fail)
          all_goals
            go_wp2_with fail
            exact bodyPost_ret (v := .tuple #[.slice p9 (outL r).length c9, .bool r.isSome]) (by simp [results, Tryd.results46, go_sem]) rfl ⟨p9, c9, rfl, H9.out⟩
        · have e4b : (k2 == 3) = false := by simp [e4]
          have HR : Hid (r = none) := by show _ = _; rw [HD2.out, if_neg (fun h => e1 h.1), if_neg (fun h => e4 h.2)]
          clear HD2 MB1 MB2 LF TX
          go_wp2_with fail
          exact bodyPost_ret (v := .tuple #[.slice none 0 0, .bool false]) (by simp [results, Tryd.results46, go_sem]) rfl (NO.out _ HB.out HR.out)
      · have e3b : (k1 == 3) = false := by simp [e3]
        have HR : Hid (r = none) := by show _ = _; rw [HD2.out, if_neg (fun h => e1 h.1), if_neg (fun h => e3 h.1)]
        clear HD2 MB1 MB2 LF TX
        go_wp2_with fail
        exact bodyPost_ret (v := .tuple #[.slice none 0 0, .bool false]) (by simp [results, Tryd.results46, go_sem]) rfl (NO.out _ HB.out HR.out)
end Go.Proofs.YtahcllncjpaijabDoor
namespace Go.Proofs.YtahcllncjpaijabDoor
open Go.RowKit

/-- A value of new memory, whether there is one, and an error. -/
def AnsD (w w' : World) (e : Ending) (r : Option Vt) (err : Int) : Prop := ∃ p c, e = .returned (.tuple #[.slice p (outL r).length c, .bool r.isSome, .int .i64 err]) ∧ OwnG KA w' w.heap.size (.slice p (outL r).length c) (outL r) ∧ Below w.heap.size w w'
theorem AnsD.no {w w' : World} (b : Below w.heap.size w w') (err : Int) : AnsD w w' (.returned (.tuple #[.slice none 0 0, .bool false, .int .i64 err])) none err := ⟨.none, 0, rfl, OwnG.nil _ _ _, b⟩
theorem doO_bad {kind : Int} {A : List (List Atm)} (h : doE kind A ≠ 0) : doO kind A = none := by unfold doO; rw [if_neg h]
theorem doO_ok {kind : Int} {ts : List Vt} (hr : ∀ t ∈ ts, RT t) (h : doE kind (ts.map flV) = 0) : doO kind (ts.map flV) = doT kind ts := by unfold doO; rw [if_pos h, treeA_map hr]
theorem eqFn (n : Nat) (w : World) : Sem.run Tryd.prog (binOp .eql 68 (.func (.func n) #[] #[]) .nilFunc) w = .ok (.bool false) w := by kernel_rfl
theorem eqFnNil (w : World) : Sem.run Tryd.prog (binOp .eql 68 .nilFunc .nilFunc) w = .ok (.bool true) w := by kernel_rfl
theorem operation_list (w : World) : Calls Tryd.prog 28 #[.int .i64 5] w fun e w' => e = .returned (.tuple #[.int .i64 (-1), .func (.func 42) #[] #[]]) ∧ w' = w := by
  go_enter Tryd.func28, Tryd.ntmps28
  go_wp2_with fail
  exact bodyPost_ret (v := .tuple #[.int .i64 (-1), .func (.func 42) #[] #[]]) (by simp [results, Tryd.results28, go_sem]) rfl ⟨rfl, rfl⟩
theorem operation_add (w : World) : Calls Tryd.prog 28 #[.int .i64 6] w fun e w' => e = .returned (.tuple #[.int .i64 (2), .func (.func 43) #[] #[]]) ∧ w' = w := by
  go_enter Tryd.func28, Tryd.ntmps28
  go_wp2_with fail
  exact bodyPost_ret (v := .tuple #[.int .i64 (2), .func (.func 43) #[] #[]]) (by simp [results, Tryd.results28, go_sem]) rfl ⟨rfl, rfl⟩
theorem operation_sub (w : World) : Calls Tryd.prog 28 #[.int .i64 7] w fun e w' => e = .returned (.tuple #[.int .i64 (2), .func (.func 44) #[] #[]]) ∧ w' = w := by
  go_enter Tryd.func28, Tryd.ntmps28
  go_wp2_with fail
  exact bodyPost_ret (v := .tuple #[.int .i64 (2), .func (.func 44) #[] #[]]) (by simp [results, Tryd.results28, go_sem]) rfl ⟨rfl, rfl⟩
theorem operation_mul (w : World) : Calls Tryd.prog 28 #[.int .i64 8] w fun e w' => e = .returned (.tuple #[.int .i64 (2), .func (.func 45) #[] #[]]) ∧ w' = w := by
  go_enter Tryd.func28, Tryd.ntmps28
  go_wp2_with fail
  exact bodyPost_ret (v := .tuple #[.int .i64 (2), .func (.func 45) #[] #[]]) (by simp [results, Tryd.results28, go_sem]) rfl ⟨rfl, rfl⟩
theorem operation_join (w : World) : Calls Tryd.prog 28 #[.int .i64 9] w fun e w' => e = .returned (.tuple #[.int .i64 (2), .func (.func 46) #[] #[]]) ∧ w' = w := by
  go_enter Tryd.func28, Tryd.ntmps28
  go_wp2_with fail
  exact bodyPost_ret (v := .tuple #[.int .i64 (2), .func (.func 46) #[] #[]]) (by simp [results, Tryd.results28, go_sem]) rfl ⟨rfl, rfl⟩
theorem operation_item (w : World) : Calls Tryd.prog 28 #[.int .i64 10] w fun e w' => e = .returned (.tuple #[.int .i64 (2), .func (.func 47) #[] #[]]) ∧ w' = w := by
  go_enter Tryd.func28, Tryd.ntmps28
  go_wp2_with fail
  exact bodyPost_ret (v := .tuple #[.int .i64 (2), .func (.func 47) #[] #[]]) (by simp [results, Tryd.results28, go_sem]) rfl ⟨rfl, rfl⟩
theorem operation_size (w : World) : Calls Tryd.prog 28 #[.int .i64 11] w fun e w' => e = .returned (.tuple #[.int .i64 (1), .func (.func 48) #[] #[]]) ∧ w' = w := by
  go_enter Tryd.func28, Tryd.ntmps28
  go_wp2_with fail
  exact bodyPost_ret (v := .tuple #[.int .i64 (1), .func (.func 48) #[] #[]]) (by simp [results, Tryd.results28, go_sem]) rfl ⟨rfl, rfl⟩
theorem operation_less (w : World) : Calls Tryd.prog 28 #[.int .i64 12] w fun e w' => e = .returned (.tuple #[.int .i64 (2), .func (.func 49) #[] #[]]) ∧ w' = w := by
  go_enter Tryd.func28, Tryd.ntmps28
  go_wp2_with fail
  exact bodyPost_ret (v := .tuple #[.int .i64 (2), .func (.func 49) #[] #[]]) (by simp [results, Tryd.results28, go_sem]) rfl ⟨rfl, rfl⟩
theorem operation_same (w : World) : Calls Tryd.prog 28 #[.int .i64 13] w fun e w' => e = .returned (.tuple #[.int .i64 (2), .func (.func 50) #[] #[]]) ∧ w' = w := by
  go_enter Tryd.func28, Tryd.ntmps28
  go_wp2_with fail
  exact bodyPost_ret (v := .tuple #[.int .i64 (2), .func (.func 50) #[] #[]]) (by simp [results, Tryd.results28, go_sem]) rfl ⟨rfl, rfl⟩
theorem operation_none (k : Int) (w : World) (h : k < 5 ∨ 13 < k) : Calls Tryd.prog 28 #[.int .i64 k] w fun e w' => e = .returned (.tuple #[.int .i64 0, .nilFunc]) ∧ w' = w := by
  have h5 : (k == 5) = false := by simp; omega
  have h6 : (k == 6) = false := by simp; omega
  have h7 : (k == 7) = false := by simp; omega
  have h8 : (k == 8) = false := by simp; omega
  have h9 : (k == 9) = false := by simp; omega
  have h10 : (k == 10) = false := by simp; omega
  have h11 : (k == 11) = false := by simp; omega
  have h12 : (k == 12) = false := by simp; omega
  have h13 : (k == 13) = false := by simp; omega
  go_enter Tryd.func28, Tryd.ntmps28
  go_wp2_with fail
  exact bodyPost_ret (v := .tuple #[.int .i64 0, .nilFunc]) (by simp [results, Tryd.results28, go_sem]) rfl ⟨rfl, rfl⟩
end Go.Proofs.YtahcllncjpaijabDoor
