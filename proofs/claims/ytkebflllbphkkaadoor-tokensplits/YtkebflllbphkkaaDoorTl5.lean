/- Tokens: the law TokenStays. -/
import Derived.Test.YtkebflllbphkkaaDoorTl4
namespace Go.Proofs.YtkebflllbphkkaaDoor
open Go.RowKit

/-- A slice of cracks as a cell. -/
structure Vf where
  p : Option Addr
  n : Nat
  c : Nat
def KV : RK Vf := ⟨30, 1, 24, .slice none 0 0, fun x => [.slice x.p x.n x.c]⟩
theorem KV_ok : KV.Ok Tryd.prog :=
  ⟨fun _ => rfl, fun x u hu => by simp [KV] at hu; subst hu; rfl, rfl, by decide, by decide, info_parts' (by kernel_rfl)⟩
theorem kv_no : ¬ okT (.cells #[] KV.ty (0, 0)) := by unfold okT KV; decide
/-- Why the token at that place of the order is cancelled. -/
def whyI (T : Tr) (i : Nat) : List Cr := (T.n (T.n (T.od.getD i 0)).bw).why
/-- The failures that were told, so far. -/
structure WY (w : World) (base : Nat) (v : Value) (T : Tr) (k : Nat) (Ls : List Vf) : Prop where
  ow : OwnG KV w base v Ls
  ln : Ls.length = k
  ea : ∀ i (h : i < Ls.length), OwnC w 0 (.slice Ls[i].p Ls[i].n Ls[i].c) (whyI T i)
theorem WY.kp {w w' : World} {base k : Nat} {v : Value} {T : Tr} {Ls : List Vf} (h : WY w base v T k Ls) (q : Kp w w') : WY w' base v T k Ls := ⟨h.ow.kp q kv_no, h.ln, fun i hi => ownC_g ((h.ea i hi).g.kp q kc_no)⟩
def nmO (T : Tr) : List ByteArray := T.od.map (fun p => (T.n p).name)
theorem nmO_at {T : Tr} {k : Nat} (h : k < T.od.length) : (nmO T)[k]? = some (T.n (T.od.getD k 0)).name := by
  unfold nmO
  simp [List.getD, h]
theorem od_mem {T : Tr} {k : Nat} (h : k < T.od.length) : T.od.getD k 0 ∈ T.od := by
  simp only [List.getD, List.getElem?_eq_getElem h]
  exact List.getElem_mem h
theorem ext_od {T U : Tr} (h : Ext T U) {k : Nat} (hk : k < T.od.length) : U.od.getD k 0 = T.od.getD k 0 := by
  obtain ⟨s, hs⟩ := h.od
  simp only [List.getD]
  rw [← hs, List.getElem?_append_left hk]
theorem ext_why {T U : Tr} (hi : Inv T) (h : Ext T U) {k : Nat} (hk : k < T.od.length) : whyI U k = whyI T k := by
  unfold whyI
  rw [ext_od h hk]
  have hm := od_mem hk
  rw [h.bw _ hm, h.why _ (hi.bw _ hm)]
theorem ext_nm {T U : Tr} (hi : Inv T) (h : Ext T U) : (nmO U).take T.od.length = nmO T := by
  obtain ⟨s, hs⟩ := h.od
  unfold nmO
  rw [← hs, List.map_append, List.take_left' (by simp)]
  refine List.map_congr_left (fun p hp => ?_)
  exact h.nm p (hi.lt p hp)
theorem gs_take {α : Type} {K : RK α} {w : World} {g n c m : Nat} {l : List α} (h : GS K w (.slice (some ⟨g, 0, none⟩) n c) l) (hm : m ≤ l.length) : GS K w (.slice (some ⟨g, 0, none⟩) m c) (l.take m) := by
  by_cases hz : m = 0
  · subst hz
    exact Or.inl ⟨Or.inr ⟨_, _, rfl⟩, by simp⟩
  · rcases h with ⟨_, rfl⟩ | ⟨X, o, cap, e, hX, hc, hq⟩
    · simp at hm; omega
    · injection e with e1 e2 e3
      injection e1 with e1
      injection e1 with e1 e4 _
      subst e1 e3 e4
      refine Or.inr ⟨g, 0, c, by rw [List.length_take, Nat.min_eq_left hm], hX, by rw [List.length_take]; omega, fun k hk j u hu => ?_⟩
      have hk2 : k < l.length := by rw [List.length_take] at hk; omega
      refine hq k hk2 j u ?_
      rw [List.getElem_take] at hu
      exact hu
set_option maxHeartbeats 4000000 in
theorem order_ps {w0 W : World} {base b : Nat} {T : Tr} (h : PS w0 W base b T) :
    Calls Tryd.prog 9 #[.pointer (some ⟨b, 0, none⟩)] W fun e w' => ∃ g, e = .returned (.slice (some ⟨g, 0, none⟩) T.od.length T.od.length) ∧ OwnG KS w' W.heap.size (.slice (some ⟨g, 0, none⟩) T.od.length T.od.length) (nmO T) ∧ PS w0 w' base b T ∧ Below W.heap.size W w' := by
  have hP := h
  obtain ⟨F, h1, h2⟩ := h
  obtain ⟨cb, mb, nv, ov, L, t, e⟩ := h1.ex
  refine (order_any W b cb mb nv ov L T t h1.inv.lt).mono ?_
  rintro e w' ⟨rfl, q1, q2⟩
  exact ⟨_, rfl, q1, hP.below q2, q2⟩
theorem done_ps {w0 W : World} {base b : Nat} {T : Tr} (h : PS w0 W base b T) (s : ByteArray) (hs : s.size ≤ maxLen) {p : Nat} (hp : plO T.nms s = some p) :
    Calls Tryd.prog 17 #[.pointer (some ⟨b, 0, none⟩), .string s] W fun e w' => e = .returned (.tuple #[.bool (decide (p ∈ T.od)), .int .i64 0]) ∧ w' = W := by
  obtain ⟨F, h1, h2⟩ := h
  obtain ⟨cb, mb, nv, ov, L, t, e⟩ := h1.ex
  refine (done_any W b cb mb nv ov L T t s hs).mono ?_
  rintro e w' ⟨rfl, hw⟩
  rw [hp]
  exact ⟨rfl, hw⟩
theorem PS.inv {w0 wk : World} {base b : Nat} {T : Tr} (h : PS w0 wk base b T) : Inv T := by obtain ⟨_, q, _⟩ := h; exact q.inv
theorem PS.sz {w0 wk : World} {base b : Nat} {T : Tr} (h : PS w0 wk base b T) : base ≤ wk.heap.size := by obtain ⟨_, q, _⟩ := h; exact q.sz
theorem PS.nm {w0 wk : World} {base b : Nat} {T : Tr} (h : PS w0 wk base b T) {p : Nat} (hp : p < T.ns.length) : plO T.nms (T.n p).name = some p ∧ (T.n p).name.size ≤ maxLen := ⟨plO_at h.inv.nm hp, size1 _ (h.inv.nk p hp)⟩
/-- At the head of the second loop. -/
structure SL (w0 wk : World) (base b n g : Nat) (vs : Value) (T U : Tr) (Ls : List Vf) : Prop where
  ps : PS w0 wk base b U
  ex : Ext T U
  wa : OwnG KS wk 0 (.slice (some ⟨g, 0, none⟩) n n) (nmO T)
  wy : WY wk 0 vs T n Ls
theorem SL.lc {w0 wk w' : World} {base b n g : Nat} {vs : Value} {T U : Tr} {Ls : List Vf} (h : SL w0 wk base b n g vs T U Ls) (k : Kp wk w') {V : Tr} (hx : Ext U V) (hp : PS w0 w' base b V) : SL w0 w' base b n g vs T V Ls := ⟨hp, h.ex.trans hx, h.wa.kp k ks_no, h.wy.kp k⟩
theorem SL.below {w0 wk w' : World} {base b n g : Nat} {vs : Value} {T U : Tr} {Ls : List Vf} (h : SL w0 wk base b n g vs T U Ls) (k : Below wk.heap.size wk w') : SL w0 w' base b n g vs T U Ls := h.lc (Kp.of_below k) (Ext.refl _) (h.ps.below k)
set_option maxHeartbeats 32000000 in
set_option maxRecDepth 100000 in
theorem stays_any (w0 : World) (va vb : Value) (la lb : List Cx) (hA : ARG w0 va la) (hB : ARG w0 vb lb) (hfb : FB w0 w0.heap.size) :
    Calls Tryd.prog 3 #[va, vb] w0 fun e w' => e = .returned (.bool true) ∧ Below w0.heap.size w0 w' := by
  obtain ⟨pa, ca, rfl⟩ := hA.gs.form
  obtain ⟨pb, cb, rfl⟩ := hB.gs.form
  obtain ⟨base, hbase⟩ : ∃ base, base = w0.heap.size := ⟨_, rfl⟩
  have WK : Hid (Calls Tryd.prog 7 #[] w0 fun e w' => e = .returned (.bool true) ∧ Below base w0 w') := works_any w0 base (by omega) (by rw [hbase]; exact hfb)
  have PL : Hid (∀ w, Below base w0 w → Calls Tryd.prog 8 #[.slice pa la.length ca] w fun e w' => PlR w0 base w' e) := fun w hb => played_any w0 w base _ la hA hbase hb ((by rw [hbase] at hb ⊢; exact hfb.below hb))
  have HB := hid hB
  have HBS := hid hbase
  have hlen := hB.len
  rw [← hbase]
  clear hA hB hfb hbase
  go_enter Tryd.func3, Tryd.ntmps3
  go_upto_region 6 with (first | (go_at_call 7; refine WK.out.mono ?_; rintro e w1 ⟨rfl, q⟩; have B1 := hid q; clear q) | (go_at_call 8; refine (PL.out w1 B1.out).mono ?_; rintro e w2 ⟨b, T, rfl, q⟩; have P2 := hid q; clear q))
  have OR := hid (order_ps P2.out)
  clear WK PL B1
  go_upto_region 8 with (go_at_call 9; refine OR.out.mono ?_; rintro e w3 ⟨g, rfl, q1, q2, q3⟩; have O3 := hid q1; have P3 := hid q2; clear q1 q2 q3)
  clear OR P2
  have hinv := P3.out.inv
  have hol : T.od.length ≤ 256 := Nat.le_trans (nodup_len _ _ hinv.nd hinv.lt) hinv.len
  have HI := hid hinv
  clear hinv
  have S0 : Hid (WY w3 w3.heap.size (.slice none 0 0) T 0 [] ∧ Below w3.heap.size w3 w3) := ⟨⟨OwnG.nil _ _ _, rfl, fun i hi => by simp at hi⟩, Below.refl _ _⟩
  obtain ⟨n, hn⟩ : ∃ n, n = T.od.length := ⟨_, rfl⟩
  rw [← hn] at O3 hol ⊢
  have HN := hid hn
  clear hn
  go_wp2_with fail
  go_loopw [7, 31] (fun v7 v31 wr => ∃ (k : Nat) (vs : Value) (Ls : List Vf) (wk : World), v31 = .int .i64 k ∧ vs = v7 ∧ wk = wr ∧ k ≤ n ∧ Hid (WY wk w3.heap.size vs T k Ls ∧ Below w3.heap.size w3 wk)) (fun _ v31 _ => n - (intOf v31).toNat)
  case atStart => exact ⟨0, _, [], _, rfl, rfl, rfl, Nat.zero_le _, S0⟩
  case round =>
    obtain ⟨k, vs, Ls, wr, rfl, rfl, rfl, hk, HS⟩ := hrel
    clear S0
    by_cases hlt : k < n
    · have hkT : k < T.od.length := by rw [← HN.out]; exact hlt
      have hmem := od_mem hkT
      have hpl := HI.out.lt _ hmem
      obtain ⟨hnp, hns⟩ := P3.out.nm hpl
      have e0 : wr.cell? ⟨g, k, none⟩ = some (.string (T.n (T.od.getD k 0)).name) := by
        have hkl : k < (nmO T).length := by unfold nmO; simp; exact hkT
        obtain ⟨X', o', e', _, hc'⟩ := ((O3.out.below HS.out.2).gs KS_ok.len).at hkl
        injection e' with e'
        injection e' with e1 e2 _
        subst e1 e2
        have := hc' 0 _ rfl
        rw [show KS.W = 1 from rfl, Nat.mul_one, Nat.zero_add, Nat.add_zero] at this
        rw [this]
        have := nmO_at hkT
        rw [List.getElem?_eq_getElem hkl] at this
        injection this with this
        rw [this]
      have FA : Hid (Calls Tryd.prog 10 #[.pointer (some ⟨b, 0, none⟩), .string (T.n (T.od.getD k 0)).name] wr fun e w' => ∃ pu cu, e = .returned (.tuple #[.slice pu (whyI T k).length cu, .int .i64 0]) ∧ OwnC w' wr.heap.size (.slice pu (whyI T k).length cu) (whyI T k) ∧ Below wr.heap.size wr w') := by
        refine (fail_ps (P3.out.below HS.out.2) _ hns hnp hmem).mono ?_
        rintro e w' ⟨pu, cu, q1, q2, _, q4⟩
        exact ⟨pu, cu, q1, q2, q4⟩
      have AP : Hid (∀ w5 pu cu, OwnC w5 wr.heap.size (.slice pu (whyI T k).length cu) (whyI T k) → Below wr.heap.size wr w5 → OwnG KV w5 w3.heap.size vs Ls ∧ ∀ g8 c8 w8, OwnG KV w8 w3.heap.size (.slice (some ⟨g8, 0, none⟩) (Ls.length + 1) c8) (Ls ++ [⟨pu, (whyI T k).length, cu⟩]) → Below w3.heap.size w5 w8 → (∀ j, j < w5.heap.size → some j ≠ vs.ownBlock → w8.heap[j]? = w5.heap[j]?) → WY w8 w3.heap.size (.slice (some ⟨g8, 0, none⟩) (Ls.length + 1) c8) T (k + 1) (Ls ++ [⟨pu, (whyI T k).length, cu⟩]) ∧ Below w3.heap.size w3 w8) := fun w5 pu cu ho hb => by
        have ow5 := HS.out.1.ow.below hb
        refine ⟨ow5, fun g8 c8 w8 o8 b8 k8 => ⟨⟨o8, by simp [HS.out.1.ln], fun i hi => ?_⟩, (HS.out.2.trans (hb.mono HS.out.2.size)).trans b8⟩⟩
        have far : ∀ (v : Value) (l : List Cr), OwnC w5 0 v l → OwnC w8 0 v l := fun v l q => ownC_g (q.g.far (fun gx hgx => k8 gx (q.g.lt hgx).2 (fun e => (q.g.apart ow5 (by decide) e.symm) hgx)))
        by_cases hil : i < Ls.length
        · rw [List.getElem_append_left hil]
          exact far _ _ ((HS.out.1.ea i hil).below hb)
        · have hi2 : i = Ls.length := by simp at hi; omega
          subst hi2
          rw [List.getElem_append_right (Nat.le_refl _)]
          simp only [Nat.sub_self, List.getElem_cons_zero]
          rw [show whyI T Ls.length = whyI T k by rw [HS.out.1.ln]]
          exact far _ _ (ho.low (Nat.zero_le _))
      have hLk : Ls.length = k := HS.out.1.ln
      have HLk := hid hLk
      have HZ : Hid (w3.heap.size ≤ wr.heap.size) := HS.out.2.size
      clear HS hnp hmem hpl hLk
      generalize (T.n (T.od.getD k 0)).name = nm at *
      go_wp2_with (first | (go_at_call 10; refine FA.out.mono ?_; rintro e w5 ⟨pu, cu, rfl, q1, q2⟩; have AQ := hid (AP.out w5 pu cu q1 q2); have Z5 := hid q2.size; clear q1 q2) | (at_builtin; refine append_g KV KV_ok rfl _ _ 28 rfl w3.heap.size Tryd.underlying28 w5 _ _ vs Ls ⟨pu, (whyI T k).length, cu⟩ _ rfl AQ.out.1 w5.heap.size rfl rfl rfl (by have := HLk.out; show (_ + 1) * 24 ≤ _; omega) (Nat.le_trans HZ.out Z5.out) ?_; intro g8 c8 w8 o8 b8 k8 q8; have N8 := hid (AQ.out.2 g8 c8 w8 o8 b8 k8); clear o8 b8 k8 q8))
      go_roundw
      case rel => exact ⟨k + 1, _, _, _, by go_num, rfl, rfl, by omega, N8⟩
      case measure => simp [intOf]; omega
    · have hkn : k = n := by omega
      subst hkn
      have SLs : Hid (SL w0 wr base b k g vs T T Ls) := ⟨P3.out.below HS.out.2, Ext.refl _, (O3.out.below HS.out.2).low (Nat.zero_le _), ⟨HS.out.1.ow.low (Nat.zero_le _), HS.out.1.ln, HS.out.1.ea⟩⟩
      clear HS O3 P3
      go_wp2_with fail
      go_loopw [50] (fun v50 wr => ∃ (j : Nat) (U : Tr) (wk : World), v50 = .int .i64 j ∧ wk = wr ∧ j ≤ lb.length ∧ Hid (SL w0 wk base b k g vs T U Ls)) (fun v50 _ => lb.length - (intOf v50).toNat)
      case atStart => exact ⟨0, T, _, rfl, rfl, Nat.zero_le _, SLs⟩
      case round =>
        obtain ⟨j, U, wr, rfl, rfl, hj, HS⟩ := hrel
        clear SLs
        by_cases hlt : j < lb.length
        · have bl : Below w0.heap.size w0 wr := by rw [← HBS.out]; exact HS.out.ps.bl
          obtain ⟨X, o, rfl, x0, x1, x2, x3, x4⟩ := (HB.out.below bl).cells hlt
          have hx := ((HB.out.below bl).ok _ (List.getElem_mem hlt))
          obtain ⟨x, hxe⟩ : ∃ x, x = lb[j] := ⟨_, rfl⟩
          rw [← hxe] at x0 x1 x2 x3 x4 hx
          obtain ⟨W, hW⟩ : ∃ W, W = wr.alloc (.cells (cxA x) 35) := ⟨_, rfl⟩
          have bW : Below wr.heap.size wr W := by rw [hW]; exact (Below.refl _ _).alloc (Nat.le_refl _) _
          have hBx : W.heap[wr.heap.size]? = some (.cells (cxA x) 35) := by rw [hW]; exact heap_alloc_new _ _
          have SLW := hid (HS.out.below bW)
          have PW := hid SLW.out.ps
          have OX := hid (hx.below bW)
          have y0 : W.cell? ⟨wr.heap.size, 0, none⟩ = some (.int .i64 x.kind) := by rw [cell_of_row _ _ _ _ _ _ hBx]; rfl
          have y1 : W.cell? ⟨wr.heap.size, 1, none⟩ = some (.int .i64 x.n) := by rw [cell_of_row _ _ _ _ _ _ hBx]; rfl
          have y2 : W.cell? ⟨wr.heap.size, 2, none⟩ = some (.string x.name) := by rw [cell_of_row _ _ _ _ _ _ hBx]; rfl
          have y3 : W.cell? ⟨wr.heap.size, 3, none⟩ = some (.slice x.np x.nn x.nc) := by rw [cell_of_row _ _ _ _ _ _ hBx]; rfl
          have y4 : W.cell? ⟨wr.heap.size, 4, none⟩ = some (.slice x.cp x.cn x.cc) := by rw [cell_of_row _ _ _ _ _ _ hBx]; rfl
          have AM := hid (among_any x.kind 4 W (by decide) (by decide))
          have HW := hid hW
          have HBx := hid hBx
          have BC : Hid (∀ w' : World, w'.heap[wr.heap.size]? = some (.cells (cxA x) 35) → w'.cell? ⟨wr.heap.size, 2, none⟩ = some (.string x.name) ∧ w'.cell? ⟨wr.heap.size, 3, none⟩ = some (.slice x.np x.nn x.nc) ∧ w'.cell? ⟨wr.heap.size, 4, none⟩ = some (.slice x.cp x.cn x.cc)) := fun w' q => by
            refine ⟨?_, ?_, ?_⟩ <;> (rw [cell_of_row _ _ _ _ _ _ q]; rfl)
          clear hx bl HS hxe bW hBx hW
          go_upto_region 19 with fail
          rw [show (#[Value.int .i64 x.kind, .int .i64 x.n, .string x.name, .slice x.np x.nn x.nc, .slice x.cp x.cn x.cc] : Array Value) = cxA x from rfl, ← HW.out]
          clear x0 x1 x2 x3 x4 HW
          go_upto_region 20 with (go_at_call 11; refine AM.out.mono ?_; rintro e w5 ⟨⟨r, rfl, r0, r5⟩, hw5⟩; subst w5)
          have hr : r = 0 ∨ r = 1 ∨ r = 2 ∨ r = 3 := by omega
          clear r0 r5 AM
          obtain ⟨B, hBe⟩ : ∃ B, B = wr.heap.size := ⟨_, rfl⟩
          rw [← hBe] at y0 y1 y2 y3 y4 HBx BC ⊢
          clear hBe
          rcases hr with rfl | rfl | rfl | rfl
          · go_upto_region 21 with fail
            go_region_held3 (fun w' => w'.cell? ⟨B, 2, none⟩ = some (.string x.name) ∧ w'.cell? ⟨B, 3, none⟩ = some (.slice x.np x.nn x.nc)) (go_keep) (first
              | (refine step_append_any KS KS_ok (by rfl) (.tmp 62) (.tmp 64) 26 (by rfl) W.heap.size Tryd.underlying26 _ _ _ [] x.names (by rfl) (OwnG.empty KS W.drew) (by rfl) (OX.out.ns.below (((Below.refl _ _).drew).alloc (Nat.le_refl _) _)) (by have := OX.out.nl; show (0 + _) * 16 ≤ _; omega) (by simp) ?_; intro v5 w5 ho5 hb5 hk5; obtain ⟨pv, cv, rfl, _⟩ := ho5.form; have CC := hid (mk_call PW.out OX.out w5 pv cv ho5 ((((Below.refl _ _).drew).alloc (Nat.le_refl _) _).trans hb5)); obtain ⟨e2, e3, _⟩ := BC.out w5 (((((Below.refl _ _).drew).alloc (Nat.le_refl _) _).trans hb5).block B (lt_of_heap HBx.out) |>.trans HBx.out); clear ho5 hb5 hk5)
              | (go_at_call 12; refine CC.out.mono ?_; rintro e w6 ⟨u6, rfl, k6, hq⟩; obtain ⟨g2, g3, _⟩ := BC.out w6 (k6 B _ HBx.out (kx_no _)); have HQ := hid hq; have K6 := hid k6; clear hq k6))
            all_goals
              go_wp2_with fail
              go_roundw
              case rel => obtain ⟨V, hx, hq⟩ := HQ.out; exact ⟨j + 1, V, _, by go_num, rfl, by omega, SLW.out.lc K6.out hx hq⟩
              case measure => simp [intOf]; omega
          · go_upto_region 23 with fail
            go_region_held3 (fun w' => w'.cell? ⟨B, 2, none⟩ = some (.string x.name) ∧ w'.cell? ⟨B, 4, none⟩ = some (.slice x.cp x.cn x.cc)) (go_keep) (first
              | (refine step_append_any KC KC_ok (by rfl) (.tmp 72) (.tmp 74) 30 (by rfl) W.heap.size Tryd.underlying30 _ _ _ [] x.cause (by rfl) (OwnG.empty KC W.drew) (by rfl) (cs_gs (OX.out.cs.below (((Below.refl _ _).drew).alloc (Nat.le_refl _) _))) (by have := OX.out.cl; show (0 + _) * 32 ≤ _; omega) (by simp) ?_; intro v5 w5 ho5 hb5 hk5; obtain ⟨pv, cv, rfl, _⟩ := ho5.form; have CC := hid (can_call PW.out OX.out w5 pv cv ho5 ((((Below.refl _ _).drew).alloc (Nat.le_refl _) _).trans hb5)); obtain ⟨e2, _, e4⟩ := BC.out w5 (((((Below.refl _ _).drew).alloc (Nat.le_refl _) _).trans hb5).block B (lt_of_heap HBx.out) |>.trans HBx.out); clear ho5 hb5 hk5)
              | (go_at_call 13; refine CC.out.mono ?_; rintro e w6 ⟨u6, rfl, k6, hq⟩; obtain ⟨g2, _, g4⟩ := BC.out w6 (k6 B _ HBx.out (kx_no _)); have HQ := hid hq; have K6 := hid k6; clear hq k6))
            all_goals
              go_wp2_with fail
              go_roundw
              case rel => obtain ⟨V, hx, hq⟩ := HQ.out; exact ⟨j + 1, V, _, by go_num, rfl, by omega, SLW.out.lc K6.out hx hq⟩
              case measure => simp [intOf]; omega
          · have UC := hid (unt_call PW.out OX.out)
            go_wp2_with (go_at_call 14; refine UC.out.mono ?_; rintro e w6 ⟨u6, rfl, k6, hq⟩; have HQ := hid hq; have K6 := hid k6; clear hq k6)
            go_roundw
            case rel => obtain ⟨V, hx, hq⟩ := HQ.out; exact ⟨j + 1, V, _, by go_num, rfl, by omega, SLW.out.lc K6.out hx hq⟩
            case measure => simp [intOf]; omega
          · have UC := hid (adv_call PW.out x.n)
            go_wp2_with (go_at_call 15; refine UC.out.mono ?_; rintro e w6 ⟨u6, rfl, k6, hq⟩; have HQ := hid hq; have K6 := hid k6; clear hq k6)
            go_roundw
            case rel => obtain ⟨V, hx, hq⟩ := HQ.out; exact ⟨j + 1, V, _, by go_num, rfl, by omega, SLW.out.lc K6.out hx hq⟩
            case measure => simp [intOf]; omega
        · have hpre := HS.out.ex.od.length_le
          have HX := hid HS.out.ex
          have hoU : U.od.length ≤ 256 := Nat.le_trans (nodup_len _ _ HS.out.ps.inv.nd HS.out.ps.inv.lt) HS.out.ps.inv.len
          have IU := hid HS.out.ps.inv
          have OR := hid (order_ps HS.out.ps)
          rw [← HN.out] at hpre
          obtain ⟨pv, cv, hvs, _⟩ := HS.out.wy.ow.form
          rw [HS.out.wy.ln] at hvs
          subst hvs
          clear HB
          obtain ⟨m, hm⟩ : ∃ m, m = U.od.length := ⟨_, rfl⟩
          rw [← hm] at hpre hoU OR
          have HM := hid hm
          clear hm
          go_upto_region 30 with (go_at_call 9; refine OR.out.mono ?_; rintro e w5 ⟨g5, rfl, q1, q2, q3⟩; have O5 := hid q1; have S5 := hid (HS.out.below q3); clear q1 q2 q3)
          have TT : Hid (Calls Tryd.prog 16 #[.slice (some ⟨g5, 0, none⟩) k m, .slice (some ⟨g, 0, none⟩) k k] w5 fun e w' => e = .returned (.bool true) ∧ ∃ n, w' = w5.drewN n) := by
            have hl : k ≤ (nmO U).length := by unfold nmO; rw [List.length_map, ← HM.out]; exact hpre
            have g1 := gs_take (O5.out.gs KS_ok.len) hl
            rw [HN.out, ext_nm HI.out HX.out, ← HN.out] at g1
            exact texts_same w5 _ _ (nmO T) g1 (S5.out.wa.gs KS_ok.len) (by unfold nmO; rw [List.length_map, ← HN.out]; omega)
          have hmk : ¬ m < k := by omega
          have hmk2 : ¬ ((m : Int) < (k : Int)) := by omega
          have hmk3 : decide ((m : Int) < (k : Int)) = false := by simpa using hpre
          clear OR HS
          go_upto_region 32 with (go_at_call 16; refine TT.out.mono ?_; rintro e w6 ⟨rfl, n6, hw6⟩; have S6 : Hid (SL w0 w6 base b k g (.slice pv k cv) T U Ls) := (by rw [hw6]; exact S5.out.below ⟨rfl, rfl, rfl, Nat.le_refl _, fun _ _ => rfl⟩); clear hw6)
          have FIN : Hid (∀ wk, SL w0 wk base b k g (.slice pv k cv) T U Ls → Below base w0 wk) := fun wk q => q.ps.bl
          clear TT S5 O5
          go_wp2_with fail
          go_loopw [110] (fun v110 wr => ∃ (i : Nat) (wk : World), v110 = .int .i64 i ∧ wk = wr ∧ i ≤ k ∧ Hid (SL w0 wk base b k g (.slice pv k cv) T U Ls)) (fun v110 _ => k - (intOf v110).toNat)
          case atStart => exact ⟨0, _, rfl, rfl, Nat.zero_le _, S6⟩
          case round =>
            obtain ⟨i, wr, rfl, rfl, hi, HS⟩ := hrel
            clear S6
            by_cases hlt : i < k
            · have hiT : i < T.od.length := by rw [← HN.out]; exact hlt
              have hmem := od_mem hiT
              have hpl := HI.out.lt _ hmem
              have hmU : T.od.getD i 0 ∈ U.od := HX.out.od.subset hmem
              have hplU := IU.out.lt _ hmU
              obtain ⟨hnp, hns⟩ := HS.out.ps.nm hplU
              rw [HX.out.nm _ hpl] at hnp hns
              have e0 : wr.cell? ⟨g, i, none⟩ = some (.string (T.n (T.od.getD i 0)).name) := by
                have hkl : i < (nmO T).length := by unfold nmO; simp; exact hiT
                obtain ⟨X', o', e', _, hc'⟩ := (HS.out.wa.gs KS_ok.len).at hkl
                injection e' with e'
                injection e' with e1 e2 _
                subst e1 e2
                have := hc' 0 _ rfl
                rw [show KS.W = 1 from rfl, Nat.mul_one, Nat.zero_add, Nat.add_zero] at this
                rw [this]
                have := nmO_at hiT
                rw [List.getElem?_eq_getElem hkl] at this
                injection this with this
                rw [this]
              have hiL : i < Ls.length := by rw [HS.out.wy.ln]; exact hlt
              obtain ⟨gv, cv', hpv, _⟩ := HS.out.wy.ow.place (by
                intro hn
                rcases HS.out.wy.ow.2 with ⟨_, e0⟩ | ⟨g, c, cur, e0, _⟩
                · omega
                · rw [e0] at hn; cases hn)
              have hpv2 : pv = some ⟨gv, 0, none⟩ := by injection hpv
              subst hpv2
              have VC : Hid (∀ w', Below wr.heap.size wr w' → w'.cell? ⟨gv, i, none⟩ = some (.slice Ls[i].p Ls[i].n Ls[i].c) ∧ CS w' (.slice Ls[i].p Ls[i].n Ls[i].c) (whyI T i) ∧ SL w0 w' base b k g (.slice (some ⟨gv, 0, none⟩) k cv) T U Ls) := fun w' hb => by
                have h1 := HS.out.below hb
                obtain ⟨X', o', e', _, hc'⟩ := (h1.wy.ow.gs KV_ok.len).at hiL
                injection e' with e'
                injection e' with e1 e2 _
                subst e1 e2
                have := hc' 0 _ rfl
                rw [show KV.W = 1 from rfl, Nat.mul_one, Nat.zero_add, Nat.add_zero] at this
                exact ⟨this, (h1.wy.ea i hiL).cs, h1⟩
              have DN : Hid (Calls Tryd.prog 17 #[.pointer (some ⟨b, 0, none⟩), .string (T.n (T.od.getD i 0)).name] wr fun e w' => e = .returned (.tuple #[.bool true, .int .i64 0]) ∧ w' = wr) := by
                have := done_ps HS.out.ps _ hns hnp
                rw [decide_eq_true hmU] at this
                exact this
              have FA : Hid (Calls Tryd.prog 10 #[.pointer (some ⟨b, 0, none⟩), .string (T.n (T.od.getD i 0)).name] wr fun e w' => ∃ pu cu, e = .returned (.tuple #[.slice pu (whyI T i).length cu, .int .i64 0]) ∧ w'.cell? ⟨gv, i, none⟩ = some (.slice Ls[i].p Ls[i].n Ls[i].c) ∧ Calls Tryd.prog 18 #[.slice pu (whyI T i).length cu, .slice Ls[i].p Ls[i].n Ls[i].c] w' fun e w'' => e = .returned (.bool true) ∧ SL w0 w'' base b k g (.slice (some ⟨gv, 0, none⟩) k cv) T U Ls) := by
                refine (fail_ps HS.out.ps _ hns hnp hmU).mono ?_
                rintro e w' ⟨pu, cu, q1, q2, _, q4⟩
                have ew : (U.n (U.n (T.od.getD i 0)).bw).why = whyI T i := by
                  have := ext_why HI.out HX.out hiT
                  unfold whyI at this
                  rw [ext_od HX.out hiT] at this
                  exact this
                rw [ew] at q1 q2
                obtain ⟨v1, v2, v3⟩ := VC.out w' q4
                refine ⟨pu, cu, q1, v1, ?_⟩
                refine (fails_same w' _ _ (whyI T i) q2.cs v2 (by
                  have := HI.out.wl _ (HI.out.lt _ (HI.out.bw _ hmem))
                  have e9 : (whyI T i).length ≤ 1024 := this
                  omega)).mono ?_
                rintro e w'' ⟨rfl, n9, rfl⟩
                exact ⟨rfl, v3.below ⟨rfl, rfl, rfl, Nat.le_refl _, fun _ _ => rfl⟩⟩
              clear HS VC hnp hmem hpl hmU hplU hpv
              generalize (T.n (T.od.getD i 0)).name = nm at *
              generalize Ls[i].p = lp at *
              generalize Ls[i].n = lnn at *
              generalize Ls[i].c = lc at *
              generalize (whyI T i).length = wl at *
              go_wp2_with (first | (go_at_call 17; refine DN.out.mono ?_; rintro e w7 ⟨rfl, hw7⟩; subst w7) | (go_at_call 10; refine FA.out.mono ?_; rintro e w7 ⟨pu, cu, rfl, d7, q⟩; have Q7 := hid q; clear q) | (go_at_call 18; refine Q7.out.mono ?_; rintro e w8 ⟨rfl, q⟩; have Q8 := hid q; clear q))
              go_roundw
              case rel => exact ⟨i + 1, _, by go_num, rfl, by omega, Q8⟩
              case measure => simp [intOf]; omega
            · have FF := hid (FIN.out _ HS.out)
              clear HS
              go_wp2_with fail
              go_ret
              exact ⟨rfl, FF.out⟩
end Go.Proofs.YtkebflllbphkkaaDoor
