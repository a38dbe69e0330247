/- Tokens: the law TokenHangs. -/
import Derived.Test.YtkebflllbphkkaaDoorTl5
namespace Go.Proofs.YtkebflllbphkkaaDoor
open Go.RowKit

def fr1 : ByteArray := ⟨#[102, 114, 101, 115, 104, 95, 49]⟩
def fr2 : ByteArray := ⟨#[102, 114, 101, 115, 104, 95, 50]⟩
theorem least_one {T : Tr} (h : Inv T) (p : Nat) : decide (leastA T.od 256 [p] ≠ 256) = decide (p ∈ T.od) := by
  have hol : T.od.length ≤ 256 := Nat.le_trans (nodup_len T.ns.length T.od h.nd h.lt) h.len
  rcases leastA_spec hol [p] with ⟨e, q⟩ | ⟨e, x, hx, hxo, _⟩
  · have : p ∉ T.od := q p (by simp)
    simp [e, this]
  · have : x = p := by simpa using hx
    subst this
    have ne : leastA T.od 256 [x] ≠ 256 := by omega
    simp [ne, hxo]
theorem ck_one {T : Tr} (h : Inv T) {p : Nat} (hp : p < T.ns.length) (hlen : T.ns.length < 256) {s : ByteArray} (hl : localB s.data.toList = true) (hn : plO T.nms s = none) : ckO T s [(T.n p).name] = some [p] := by
  unfold ckO
  rw [if_pos ⟨hl, hn, by simp, hlen⟩]
  unfold fAll
  rw [plO_at h.nm hp]
  rfl
theorem pl_snoc_none {l : List ByteArray} {s t : ByteArray} (h : plO l s = none) (hne : t ≠ s) : plO (l ++ [t]) s = none := by
  unfold plO at *
  rw [List.findIdx?_append, h]
  simp [hne]
/-- The tree with the two fresh ones. -/
structure Two (T U V : Tr) (p : Nat) : Prop where
  ck : ckO U fr2 [fr1] = some [T.ns.length]
  ul : U.ns.length = T.ns.length + 1
  dn : decide (T.ns.length ∈ U.od) = decide (p ∈ T.od)
  iu : Inv U
  iv : Inv V
  vl : V.ns.length = T.ns.length + 2
  np : (V.n p).name = (T.n p).name
  n1 : (V.n T.ns.length).name = fr1
  n2 : (V.n (T.ns.length + 1)).name = fr2
  od : p ∉ T.od → V.od = T.od
  u1 : V.up T.ns.length p = true
  u2 : V.up (T.ns.length + 1) p = true
  ye : p ∈ T.od → p ∈ V.od ∧ T.ns.length ∈ V.od ∧ T.ns.length + 1 ∈ V.od ∧ (V.n T.ns.length).bw = (V.n p).bw ∧ (V.n (T.ns.length + 1)).bw = (V.n p).bw
theorem name_new {T U : Tr} {s : ByteArray} (hn : U.nms = T.nms ++ [s]) (hl : U.ns.length = T.ns.length + 1) : (U.n T.ns.length).name = s := by
  have h1 := nms_at (T := U) (p := T.ns.length) (by omega)
  rw [hn, ← nms_len T, List.getElem?_append_right (Nat.le_refl _)] at h1
  simp at h1
  rw [← nms_len T]
  exact h1.symm
theorem two_all {T : Tr} (h : Inv T) {p : Nat} (hp : p < T.ns.length) (hlen : T.ns.length < 255) (h1 : plO T.nms fr1 = none) (h2 : plO T.nms fr2 = none) : Two T (makT T fr1 [p]) (makT (makT T fr1 [p]) fr2 [T.ns.length]) p := by
  obtain ⟨i1, l1, o1, n1, _, d1, u1, b1, _⟩ := makT_all h (s := fr1) (ps := [p]) (by decide) (fun q hq => by simp at hq; subst hq; exact hp) (by omega) h1
  generalize makT T fr1 [p] = U at *
  have p2 : plO U.nms fr2 = none := by rw [n1]; exact pl_snoc_none h2 (by decide)
  obtain ⟨i2, l2, o2, n2, _, d2, u2, b2, _⟩ := makT_all i1 (s := fr2) (ps := [T.ns.length]) (by decide) (fun q hq => by simp at hq; subst hq; omega) (by omega) p2
  generalize makT U fr2 [T.ns.length] = V at *
  have m1 := name_new n1 l1
  have m2 := name_new n2 l2
  rw [l1] at l2 o2 d2 u2 b2 m2
  have hln : T.ns.length ∉ T.od := fun q => by have := h.lt _ q; omega
  have inU : T.ns.length ∈ U.od ↔ p ∈ T.od := by
    rcases d1 with ⟨q, e⟩ | ⟨⟨x, hx, hq⟩, e⟩
    · have := q p (by simp)
      rw [e]; exact ⟨fun z => absurd z hln, fun z => absurd z this⟩
    · have : x = p := by simpa using hx
      subst this
      rw [e]; simp [hq]
  have up1 : U.up T.ns.length p = true := (u1 p).2 ⟨p, by simp, Or.inl rfl⟩
  have vn : V.n T.ns.length = U.n T.ns.length := o2 _ (by omega)
  have vp : V.n p = T.n p := (o2 p (by omega)).trans (o1 p hp)
  refine ⟨?_, l1, by simp [inU], i1, i2, by omega, by rw [vp], by rw [vn]; exact m1, m2, fun hq => ?_, ?_, ?_, fun hq => ?_⟩
  · have := ck_one i1 (p := T.ns.length) (by omega) (by omega) (s := fr2) (by decide) p2
    rw [m1] at this
    exact this
  · rcases d2 with ⟨q, e⟩ | ⟨⟨x, hx, hq'⟩, e⟩
    · rcases d1 with ⟨_, e'⟩ | ⟨⟨x, hx, hq'⟩, _⟩
      · rw [e, e']
      · have : x = p := by simpa using hx
        subst this
        exact absurd hq' hq
    · have : x = T.ns.length := by simpa using hx
      subst this
      exact absurd (inU.1 hq') hq
  · unfold Tr.up; rw [vn]; exact up1
  · exact (u2 p).2 ⟨T.ns.length, by simp, Or.inr up1⟩
  · have hU := inU.2 hq
    have e1 : U.od = T.od ++ [T.ns.length] := by
      rcases d1 with ⟨q, e⟩ | ⟨_, e⟩
      · exact absurd hq (q p (by simp))
      · exact e
    have e2 : V.od = U.od ++ [T.ns.length + 1] := by
      rcases d2 with ⟨q, e⟩ | ⟨_, e⟩
      · exact absurd hU (q _ (by simp))
      · exact e
    have w1 := b1 p rfl hq
    have w2 := b2 T.ns.length rfl hU
    refine ⟨by rw [e2, e1]; simp [hq], by rw [e2, e1]; simp, by rw [e2]; simp, ?_, ?_⟩
    · rw [vn, vp]; exact w1
    · rw [w2, vp]; exact w1
/-- The tree at the end: the three are cancelled, for the same reason. -/
structure Same3 (Z : Tr) (s : ByteArray) (p n : Nat) (y : List Cr) : Prop where
  iz : Inv Z
  p0 : plO Z.nms s = some p
  p1 : plO Z.nms fr1 = some n
  p2 : plO Z.nms fr2 = some (n + 1)
  d0 : p ∈ Z.od
  d1 : n ∈ Z.od
  d2 : n + 1 ∈ Z.od
  y0 : (Z.n (Z.n p).bw).why = y
  y1 : (Z.n (Z.n n).bw).why = y
  y2 : (Z.n (Z.n (n + 1)).bw).why = y
theorem same_done {T U V : Tr} {p : Nat} (h : Two T U V p) (hp : p < T.ns.length) (hd : p ∈ T.od) : Same3 V (T.n p).name p T.ns.length (V.n (V.n p).bw).why := by
  obtain ⟨d0, d1, d2, b1, b2⟩ := h.ye hd
  have l := h.vl
  refine ⟨h.iv, ?_, ?_, ?_, d0, d1, d2, rfl, by rw [b1], by rw [b2]⟩
  · have := plO_at h.iv.nm (p := p) (by omega)
    rw [h.np] at this; exact this
  · have := plO_at h.iv.nm (p := T.ns.length) (by omega)
    rw [h.n1] at this; exact this
  · have := plO_at h.iv.nm (p := T.ns.length + 1) (by omega)
    rw [h.n2] at this; exact this
theorem tok_nil {s : ByteArray} (hs : s.size ≤ 64) : tokE s [] = 0 ∧ tokL s [] = [⟨8, 0, s⟩] := by
  have e : tokE s [] = 0 := by unfold tokE; rw [if_neg (by omega)]; rfl
  refine ⟨e, ?_⟩
  unfold tokL
  rw [if_pos e]
  rfl
theorem same_cut {T U V : Tr} {p : Nat} (h : Two T U V p) (hT : Inv T) (hp : p < T.ns.length) (hd : p ∉ T.od) {y : List Cr} (hy : y ≠ []) (hyl : y.length ≤ 1024) :
    Same3 (cancelT V p y) (T.n p).name p T.ns.length y ∧ ∃ m, nmL (cancelT V p y) V.od.length = (T.n p).name :: (m ++ [fr1, fr2]) := by
  have l := h.vl
  have hv : p ∉ V.od := by rw [h.od hd]; exact hd
  obtain ⟨cn, mo, iv, q⟩ := cancelT_all h.iv (p := p) (by omega) y
  obtain ⟨F, e1, e2, eb, ew⟩ := q hv
  generalize cancelT V p y = X at *
  have ix := iv hy hyl
  have hln : ∀ a, T.ns.length ≤ a → a ∉ V.od := fun a ha q => by
    rw [h.od hd] at q
    have := hT.lt a q
    omega
  have hr : List.range' (p + 1) (V.ns.length - (p + 1)) = List.range' (p + 1) (T.ns.length - (p + 1)) ++ [T.ns.length, T.ns.length + 1] := by
    rw [l, show T.ns.length + 2 - (p + 1) = T.ns.length - (p + 1) + 1 + 1 by omega, List.range'_concat, List.range'_concat, List.append_assoc]
    congr 1
    simp only [List.cons_append, List.nil_append, List.cons.injEq, and_true]
    omega
  have hF : F = (List.range' (p + 1) (T.ns.length - (p + 1))).filter (fun a => V.up a p && !decide (a ∈ V.od)) ++ [T.ns.length, T.ns.length + 1] := by
    rw [e2, hr, List.filter_append]
    congr 1
    rw [List.filter_cons_of_pos (by simp [h.u1, hln _ (Nat.le_refl _)]), List.filter_cons_of_pos (by simp [h.u2, hln _ (Nat.le_succ _)])]
    rfl
  have f1 : T.ns.length ∈ F := by rw [hF]; simp
  have f2 : T.ns.length + 1 ∈ F := by rw [hF]; simp
  refine ⟨⟨ix, ?_, ?_, ?_, by rw [e1]; simp, by rw [e1]; simp [f1], by rw [e1]; simp [f2], ?_, ?_, ?_⟩, ?_⟩
  · have := plO_at ix.nm (p := p) (by rw [cn.len]; omega)
    rw [cn.name, h.np] at this; exact this
  · have := plO_at ix.nm (p := T.ns.length) (by rw [cn.len]; omega)
    rw [cn.name, h.n1] at this; exact this
  · have := plO_at ix.nm (p := T.ns.length + 1) (by rw [cn.len]; omega)
    rw [cn.name, h.n2] at this; exact this
  · rw [eb, if_pos (Or.inl rfl), ew, if_pos rfl]
  · rw [eb, if_pos (Or.inr f1), ew, if_pos rfl]
  · rw [eb, if_pos (Or.inr f2), ew, if_pos rfl]
  · refine ⟨((List.range' (p + 1) (T.ns.length - (p + 1))).filter (fun a => V.up a p && !decide (a ∈ V.od))).map (fun q => (X.n q).name), ?_⟩
    unfold nmL
    rw [e1, List.drop_left' rfl, List.map_cons, hF, List.map_append]
    simp only [List.map_cons, List.map_nil]
    rw [cn.name, cn.name, cn.name, h.np, h.n1, h.n2]
theorem same_again {Z : Tr} {s : ByteArray} {p n : Nat} {y : List Cr} (h : Same3 Z s p n y) (z : List Cr) : cancelT Z p z = Z ∧ nmL (cancelT Z p z) Z.od.length = [] := by
  have e : cancelT Z p z = Z := by unfold cancelT; rw [if_pos h.d0]
  refine ⟨e, ?_⟩
  rw [e]
  unfold nmL
  simp
theorem same_pos {Z : Tr} {s : ByteArray} {p n : Nat} {y : List Cr} (h : Same3 Z s p n y) : 0 < y.length ∧ y.length ≤ 1024 := by
  have h1 := h.iz.why p h.d0
  have h2 := h.iz.wl _ (h.iz.lt _ (h.iz.bw p h.d0))
  rw [h.y0] at h1 h2
  exact ⟨List.length_pos_iff.2 h1, h2⟩
theorem names_ps {w0 W : World} {base b : Nat} {T : Tr} (h : PS w0 W base b T) :
    Calls Tryd.prog 19 #[.pointer (some ⟨b, 0, none⟩)] W fun e w' => ∃ g, e = .returned (.slice (some ⟨g, 0, none⟩) T.ns.length T.ns.length) ∧ OwnG KS w' W.heap.size (.slice (some ⟨g, 0, none⟩) T.ns.length T.ns.length) T.nms ∧ PS w0 w' base b T ∧ Below W.heap.size W w' := by
  have hP := h
  obtain ⟨F, h1, h2⟩ := h
  obtain ⟨cb, mb, nv, ov, L, t, e⟩ := h1.ex
  refine (names_any W b cb mb nv ov L T t).mono ?_
  rintro e w' ⟨rfl, q1, q2⟩
  exact ⟨_, rfl, q1, hP.below q2, q2⟩
end Go.Proofs.YtkebflllbphkkaaDoor
namespace Go.Proofs.YtkebflllbphkkaaDoor
open Go.RowKit

theorem cancel_kp {w0 W : World} {base b : Nat} {T : Tr} (h : PS w0 W base b T) (s : ByteArray) (hs : s.size ≤ maxLen) {p : Nat} (hp : plO T.nms s = some p) (ht : tokE s [] = 0) :
    Calls Tryd.prog 13 #[.pointer (some ⟨b, 0, none⟩), .string s, .slice none 0 0] W fun e w' => ∃ pu cu, e = .returned (.tuple #[.slice pu (nmL (cancelT T p (tokL s [])) T.od.length).length cu, .int .i64 0]) ∧ OwnG KS w' W.heap.size (.slice pu (nmL (cancelT T p (tokL s [])) T.od.length).length cu) (nmL (cancelT T p (tokL s [])) T.od.length) ∧ PS w0 w' base b (cancelT T p (tokL s [])) ∧ Kp W w' := by
  obtain ⟨F, h1, h2⟩ := h
  refine (tcancel_any W base b F T h1 s hs _ [] (Or.inl ⟨Or.inl rfl, rfl⟩) (fun _ h => by cases h) (by simp)).mono ?_
  intro e w' q
  obtain ⟨⟨u, q1, q2⟩, q3⟩ := can_ok q hp ht
  obtain ⟨pu, cu, eu, _⟩ := q2.form
  rw [eu] at q1 q2
  have kp : Kp W w' := by
    obtain ⟨F', _, k, _⟩ := q3
    exact Kp.of_but k h1.ok
  exact ⟨pu, cu, q1, q2, PS.to h1 h2 q3, kp⟩
theorem ne_list {x : ByteArray} {l : List UInt8} (h : x ≠ ⟨l.toArray⟩) : (x.toList == l) = false ∧ ¬ x.toList = l := by
  have : ¬ x.toList = l := fun e => h (by rw [ByteArray.toList_eq] at e; cases x; simp at e; subst e; rfl)
  exact ⟨by simpa using this, this⟩
theorem pl_none_of {T : Tr} {s : ByteArray} (h : ∀ i, i < T.ns.length → (T.n i).name ≠ s) : plO T.nms s = none := by
  cases e : plO T.nms s with
  | none => rfl
  | some p => obtain ⟨h1, h2⟩ := plO_some e; exact absurd h2 (h p h1)
theorem nms_cell {w : World} {base g n : Nat} {T : Tr} (h : OwnG KS w base (.slice (some ⟨g, 0, none⟩) n n) T.nms) {p : Nat} (hp : p < T.ns.length) : w.cell? ⟨g, p, none⟩ = some (.string (T.n p).name) := by
  have hkl : p < T.nms.length := by rw [nms_len]; exact hp
  obtain ⟨X', o', e', _, hc'⟩ := (h.gs KS_ok.len).at hkl
  injection e' with e'
  injection e' with e1 e2 _
  subst e1 e2
  have := hc' 0 _ rfl
  rw [show KS.W = 1 from rfl, Nat.mul_one, Nat.zero_add, Nat.add_zero] at this
  rw [this]
  have := nms_at hp
  rw [List.getElem?_eq_getElem hkl] at this
  injection this with this
  rw [this]
theorem ks_cell {w : World} {base g n c : Nat} {l : List ByteArray} (h : OwnG KS w base (.slice (some ⟨g, 0, none⟩) n c) l) {k : Nat} {s : ByteArray} (hk : l[k]? = some s) : w.cell? ⟨g, k, none⟩ = some (.string s) := by
  obtain ⟨hkl, hs⟩ := List.getElem?_eq_some_iff.1 hk
  obtain ⟨X', o', e', _, hc'⟩ := (h.gs KS_ok.len).at hkl
  injection e' with e'
  injection e' with e1 e2 _
  subst e1 e2
  have := hc' 0 _ rfl
  rw [show KS.W = 1 from rfl, Nat.mul_one, Nat.zero_add, Nat.add_zero] at this
  rw [this, hs]
set_option maxHeartbeats 32000000 in
set_option maxRecDepth 100000 in
theorem hangs_any (w0 : World) (va : Value) (la : List Cx) (nm : ByteArray) (hA : ARG w0 va la) (hfb : FB w0 w0.heap.size) :
    Calls Tryd.prog 4 #[va, .string nm] w0 fun e w' => e = .returned (.bool true) ∧ Below w0.heap.size w0 w' := by
  obtain ⟨pa, ca, rfl⟩ := hA.gs.form
  obtain ⟨base, hbase⟩ : ∃ base, base = w0.heap.size := ⟨_, rfl⟩
  have WK : Hid (Calls Tryd.prog 7 #[] w0 fun e w' => e = .returned (.bool true) ∧ Below base w0 w') := works_any w0 base (by omega) (by rw [hbase]; exact hfb)
  have PL : Hid (∀ w, Below base w0 w → Calls Tryd.prog 8 #[.slice pa la.length ca] w fun e w' => PlR w0 base w' e) := fun w hb => played_any w0 w base _ la hA hbase hb ((by rw [hbase] at hb ⊢; exact hfb.below hb))
  rw [← hbase]
  clear hA hfb hbase
  go_enter Tryd.func4, Tryd.ntmps4
  go_upto_region 6 with (first | (go_at_call 7; refine WK.out.mono ?_; rintro e w1 ⟨rfl, q⟩; have B1 := hid q; clear q) | (go_at_call 8; refine (PL.out w1 B1.out).mono ?_; rintro e w2 ⟨b, T, rfl, q⟩; have P2 := hid q; clear q))
  have OR := hid (names_ps P2.out)
  clear WK PL B1
  go_upto_region 7 with (go_at_call 19; refine OR.out.mono ?_; rintro e w3 ⟨g, rfl, q1, q2, q3⟩; have O3 := hid q1; have P3 := hid q2; clear q1 q2 q3)
  clear OR P2
  have HI := hid P3.out.inv
  have hlen := HI.out.len
  obtain ⟨n, hn⟩ : ∃ n, n = T.ns.length := ⟨_, rfl⟩
  rw [← hn] at O3 hlen ⊢
  have HN := hid hn
  have BL := hid P3.out.bl
  clear hn
  by_cases hz : n = 0
  · subst hz
    clear P3 O3 HI
    go_wp2_with fail
    go_ret
    exact ⟨rfl, BL.out⟩
  by_cases hg : 256 ≤ n
  · have hg2 : (256 : Int) ≤ (n : Int) := by omega
    have hz2 : ¬ ((n : Int) = 0) := by omega
    clear P3 O3 HI
    go_wp2_with fail
    go_ret
    exact ⟨rfl, BL.out⟩
  have hg2 : ¬ (256 : Int) ≤ (n : Int) := by omega
  have hz2 : ¬ ((n : Int) = 0) := by omega
  have hz3 : n ≠ 0 := hz
  obtain ⟨p, hp⟩ : ∃ p, p = nm.size % n := ⟨_, rfl⟩
  have hpn : p < n := by rw [hp]; exact Nat.mod_lt _ (by omega)
  have hpI : (nm.size : Int).tmod (n : Int) = (p : Int) := by rw [hp, Int.tmod_eq_emod_of_nonneg (by omega)]; omega
  have hpT : p < T.ns.length := by rw [← HN.out]; exact hpn
  have e0 := nms_cell O3.out hpT
  have hz1 : ((n : Int) == 0) = false := by simpa using hz2
  have hpE : (nm.size : Int) % (n : Int) = (p : Int) := by rw [hp]; omega
  clear hp
  obtain ⟨hnp, hns⟩ := P3.out.nm hpT
  have DN := hid (done_ps P3.out _ hns hnp)
  obtain ⟨one, hone⟩ : ∃ one, one = (T.n p).name := ⟨_, rfl⟩
  rw [← hone] at e0 hnp hns DN
  have HO := hid hone
  clear hone
  go_upto_region 11 with (go_at_call 17; refine DN.out.mono ?_; rintro e w4 ⟨rfl, hw4⟩; subst w4)
  obtain ⟨d, hd⟩ : ∃ d, d = decide (p ∈ T.od) := ⟨_, rfl⟩
  rw [← hd]
  have HD := hid hd
  clear hd DN e0
  have NS : Hid (∀ i, i < 0 → (T.n i).name ≠ fr1 ∧ (T.n i).name ≠ fr2) := fun i hi => by omega
  go_wp2_with fail
  go_loopw [55] (fun v55 wr => ∃ k : Nat, v55 = .int .i64 k ∧ wr = w3 ∧ k ≤ n ∧ Hid (∀ i, i < k → (T.n i).name ≠ fr1 ∧ (T.n i).name ≠ fr2)) (fun v55 _ => n - (intOf v55).toNat)
  case atStart => exact ⟨0, rfl, rfl, Nat.zero_le _, NS⟩
  case round =>
    obtain ⟨k, rfl, hwr, hk, HF⟩ := hrel
    subst hwr
    clear NS
    by_cases hlt : k < n
    · have e1 := nms_cell O3.out (p := k) (by rw [← HN.out]; exact hlt)
      have NX : Hid ((T.n k).name ≠ fr1 → (T.n k).name ≠ fr2 → ∀ i, i < k + 1 → (T.n i).name ≠ fr1 ∧ (T.n i).name ≠ fr2) := fun h1 h2 i hi => by
        by_cases e : i = k
        · subst e; exact ⟨h1, h2⟩
        · exact HF.out i (by omega)
      generalize (T.n k).name = x at *
      clear P3 O3 HF
      by_cases h1 : x = fr1
      · have h1' : x = ⟨#[102, 114, 101, 115, 104, 95, 49]⟩ := h1
        clear h1
        subst h1'
        go_wp2_with fail
        go_ret
        exact ⟨rfl, BL.out⟩
      · have h1' : ¬ x = ⟨#[102, 114, 101, 115, 104, 95, 49]⟩ := h1
        by_cases h2 : x = fr2
        · have h2' : x = ⟨#[102, 114, 101, 115, 104, 95, 50]⟩ := h2
          clear h1 h2 h1' NX
          subst h2'
          go_wp2_with fail
          go_ret
          exact ⟨rfl, BL.out⟩
        · have h2' : ¬ x = ⟨#[102, 114, 101, 115, 104, 95, 50]⟩ := h2
          have N2 := hid (NX.out h1 h2)
          obtain ⟨t1, t1'⟩ := ne_list (l := [102, 114, 101, 115, 104, 95, 49]) h1'
          obtain ⟨t2, t2'⟩ := ne_list (l := [102, 114, 101, 115, 104, 95, 50]) h2'
          clear NX h1 h2
          go_wp2_with fail
          go_roundw
          case rel => exact ⟨k + 1, by go_num, by first | rfl | trivial, by omega, N2⟩
          case measure => simp [intOf]; omega
    · have hkn : k = n := by omega
      have n1 := pl_none_of (T := T) (s := fr1) (fun i hi => (HF.out i (by rw [hkn, HN.out]; exact hi)).1)
      have n2 := pl_none_of (T := T) (s := fr2) (fun i hi => (HF.out i (by rw [hkn, HN.out]; exact hi)).2)
      have hle1 : one.size ≤ 64 := by rw [HO.out]; exact HI.out.nk p hpT
      have M1 : Hid (Calls Tryd.prog 12 #[.pointer (some ⟨b, 0, none⟩), .string ⟨#[102, 114, 101, 115, 104, 95, 49]⟩, .slice (some ⟨wr.heap.size, 0, none⟩) 1 1] (wr.alloc (.cells #[.string one] 9)) fun e w' => e = .returned (.tuple #[.bool d, .int .i64 0]) ∧ PS w0 w' base b (makT T fr1 [p])) := by
        have := make_ps (P3.out.below ((Below.refl _ _).alloc (Nat.le_refl _) _)) fr1 (size1 _ (by decide)) _ [one] (ks_lit1 wr one) (fun y hy => by simp at hy; subst hy; exact hns) (by simp) (ps := [p]) (by rw [HO.out]; exact ck_one HI.out hpT (by rw [← HN.out]; omega) (by decide) n1)
        rw [least_one HI.out p, ← HD.out] at this
        exact this
      clear HF
      go_upto_region 18 with (go_at_call 12; refine M1.out.mono ?_; rintro e w5 ⟨rfl, q⟩; have P5 := hid q; clear q)
      clear M1 P3 O3
      have B5 := hid P5.out.bl
      by_cases hg5 : 255 ≤ n
      · have hg6 : (255 : Int) ≤ (n : Int) := by omega
        clear P5
        go_wp2_with fail
        go_ret
        exact ⟨rfl, B5.out⟩
      have hg6 : ¬ (255 : Int) ≤ (n : Int) := by omega
      have TW := hid (two_all HI.out hpT (by rw [← HN.out]; omega) n1 n2)
      obtain ⟨U, hU⟩ : ∃ U, U = makT T fr1 [p] := ⟨_, rfl⟩
      rw [← hU] at P5 TW
      clear hU n1 n2
      have M2 : Hid (Calls Tryd.prog 12 #[.pointer (some ⟨b, 0, none⟩), .string ⟨#[102, 114, 101, 115, 104, 95, 50]⟩, .slice (some ⟨w5.heap.size, 0, none⟩) 1 1] (w5.alloc (.cells #[.string ⟨#[102, 114, 101, 115, 104, 95, 49]⟩] 9)) fun e w' => e = .returned (.tuple #[.bool d, .int .i64 0]) ∧ PS w0 w' base b (makT U fr2 [T.ns.length])) := by
        have := make_ps (P5.out.below ((Below.refl _ _).alloc (Nat.le_refl _) _)) fr2 (size1 _ (by decide)) _ [fr1] (ks_lit1 w5 fr1) (fun y hy => by simp at hy; subst hy; exact size1 _ (by decide)) (by decide) (ps := [T.ns.length]) TW.out.ck
        rw [least_one TW.out.iu T.ns.length, TW.out.dn, ← HD.out] at this
        exact this
      obtain ⟨V, hV⟩ : ∃ V, V = makT U fr2 [T.ns.length] := ⟨_, rfl⟩
      rw [← hV] at M2 TW
      clear hV
      go_upto_region 23 with (go_at_call 12; refine M2.out.mono ?_; rintro e w6 ⟨rfl, q⟩; have P6 := hid q; clear q)
      clear M2 P5
      have hpv : plO V.nms one = some p := by
        have := plO_at TW.out.iv.nm (p := p) (by have := TW.out.vl; omega)
        rw [TW.out.np, ← HO.out] at this
        exact this
      have te := tok_nil hle1
      have BOTH : ∃ Z y, Z = (if p ∈ T.od then V else cancelT V p (tokL one [])) ∧ Hid (Same3 Z one p n y) := by
        by_cases hd : p ∈ T.od
        · rw [if_pos hd]
          have := same_done TW.out hpT hd
          rw [← HO.out, ← HN.out] at this
          exact ⟨V, _, rfl, this⟩
        · rw [if_neg hd]
          have := (same_cut TW.out HI.out hpT hd (y := tokL one []) (by rw [te.2]; simp) (by rw [te.2]; simp)).1
          rw [← HO.out, ← HN.out] at this
          exact ⟨_, _, rfl, this⟩
      obtain ⟨Z, y, hZ, S3⟩ := BOTH
      have CUT : Hid (d = false → Calls Tryd.prog 13 #[.pointer (some ⟨b, 0, none⟩), .string one, .slice none 0 0] w6 fun e w' => ∃ gu cu L K1 K2 : Nat, e = .returned (.tuple #[.slice (some ⟨gu, 0, none⟩) L cu, .int .i64 0]) ∧ (3 ≤ L ∧ L ≤ 300 ∧ (L : Int) - 2 = (K1 : Int) ∧ (L : Int) - 1 = (K2 : Int)) ∧ w'.cell? ⟨gu, 0, none⟩ = some (.string one) ∧ w'.cell? ⟨gu, K1, none⟩ = some (.string ⟨#[102, 114, 101, 115, 104, 95, 49]⟩) ∧ w'.cell? ⟨gu, K2, none⟩ = some (.string ⟨#[102, 114, 101, 115, 104, 95, 50]⟩) ∧ PS w0 w' base b Z) := fun hdf => by
        have hd : p ∉ T.od := by have := HD.out; rw [hdf] at this; simpa using this.symm
        rw [if_neg hd] at hZ
        obtain ⟨_, m, hm⟩ := same_cut TW.out HI.out hpT hd (y := tokL one []) (by rw [te.2]; simp) (by rw [te.2]; simp)
        rw [← HO.out] at hm
        refine (cancel_kp P6.out one hns hpv te.1).mono ?_
        rintro e w' ⟨pu, cu, q1, q2, q3, _⟩
        rw [hm] at q1 q2
        rw [← hZ] at q3
        have hl : ((one :: (m ++ [fr1, fr2])) : List ByteArray).length = m.length + 3 := by simp
        rw [hl] at q1 q2
        obtain ⟨gu, _, hpl, _⟩ := q2.place (by
          intro hn
          rcases q2.2 with ⟨_, e0⟩ | ⟨g, c, cur, e0, _⟩
          · simp at e0
          · rw [e0] at hn; cases hn)
        have hpu : pu = some ⟨gu, 0, none⟩ := by injection hpl
        subst hpu
        refine ⟨gu, cu, m.length + 3, m.length + 1, m.length + 2, q1, ⟨by omega, ?_, by omega, by omega⟩, ks_cell q2 (by rfl), ks_cell q2 (s := fr1) (by simp), ks_cell q2 (s := fr2) (by simp), q3⟩
        have hlen2 : (nmL (cancelT V p (tokL one [])) V.od.length).length ≤ 256 := by
          unfold nmL
          rw [List.length_map, List.length_drop]
          have i9 := q3.inv
          rw [hZ] at i9
          have := nodup_len _ _ i9.nd i9.lt
          have := i9.len
          omega
        rw [hm, hl] at hlen2
        omega
      have PV : Hid (d = true → PS w0 w6 base b Z) := fun hdt => by
        have hd : p ∈ T.od := by have := HD.out; rw [hdt] at this; simpa using this.symm
        rw [if_pos hd] at hZ
        rw [hZ]; exact P6.out
      have hyp := same_pos S3.out
      have F0 : Hid (∀ W, PS w0 W base b Z → Calls Tryd.prog 10 #[.pointer (some ⟨b, 0, none⟩), .string one] W fun e w' => ∃ pu cu, e = .returned (.tuple #[.slice pu y.length cu, .int .i64 0]) ∧ OwnC w' 0 (.slice pu y.length cu) y ∧ PS w0 w' base b Z ∧ Below W.heap.size W w') := fun W h => by
        have := fail_ps h one hns S3.out.p0 S3.out.d0
        rw [S3.out.y0] at this
        exact this.mono (fun e w' ⟨pu, cu, q1, q2, q3, q4⟩ => ⟨pu, cu, q1, q2.low (Nat.zero_le _), q3, q4⟩)
      have F1 : Hid (∀ W, PS w0 W base b Z → Calls Tryd.prog 10 #[.pointer (some ⟨b, 0, none⟩), .string ⟨#[102, 114, 101, 115, 104, 95, 49]⟩] W fun e w' => ∃ pu cu, e = .returned (.tuple #[.slice pu y.length cu, .int .i64 0]) ∧ OwnC w' 0 (.slice pu y.length cu) y ∧ PS w0 w' base b Z ∧ Below W.heap.size W w') := fun W h => by
        have := fail_ps h fr1 (size1 _ (by decide)) S3.out.p1 S3.out.d1
        rw [S3.out.y1] at this
        exact this.mono (fun e w' ⟨pu, cu, q1, q2, q3, q4⟩ => ⟨pu, cu, q1, q2.low (Nat.zero_le _), q3, q4⟩)
      have F2 : Hid (∀ W, PS w0 W base b Z → Calls Tryd.prog 10 #[.pointer (some ⟨b, 0, none⟩), .string ⟨#[102, 114, 101, 115, 104, 95, 50]⟩] W fun e w' => ∃ pu cu, e = .returned (.tuple #[.slice pu y.length cu, .int .i64 0]) ∧ OwnC w' 0 (.slice pu y.length cu) y ∧ PS w0 w' base b Z ∧ Below W.heap.size W w') := fun W h => by
        have := fail_ps h fr2 (size1 _ (by decide)) S3.out.p2 S3.out.d2
        rw [S3.out.y2] at this
        exact this.mono (fun e w' ⟨pu, cu, q1, q2, q3, q4⟩ => ⟨pu, cu, q1, q2.low (Nat.zero_le _), q3, q4⟩)
      have AG : Hid (∀ W, PS w0 W base b Z → Calls Tryd.prog 13 #[.pointer (some ⟨b, 0, none⟩), .string one, .slice none 0 0] W fun e w' => ∃ pu cu, e = .returned (.tuple #[.slice pu 0 cu, .int .i64 0]) ∧ PS w0 w' base b Z ∧ Kp W w') := fun W h => by
        obtain ⟨e1, e2⟩ := same_again S3.out (tokL one [])
        refine (cancel_kp h one hns S3.out.p0 te.1).mono ?_
        rintro e w' ⟨pu, cu, q1, _, q3, q4⟩
        rw [e2] at q1
        rw [e1] at q3
        exact ⟨pu, cu, q1, q3, q4⟩
      have FS : Hid (∀ W p1 c1 p2 c2, OwnC W 0 (.slice p1 y.length c1) y → OwnC W 0 (.slice p2 y.length c2) y → Calls Tryd.prog 18 #[.slice p1 y.length c1, .slice p2 y.length c2] W fun e w' => e = .returned (.bool true) ∧ Below W.heap.size W w') := fun W p1 c1 p2 c2 h1 h2 => by
        refine (fails_same W _ _ y h1.cs h2.cs (by have := hyp.2; omega)).mono ?_
        rintro e w' ⟨rfl, n9, rfl⟩
        exact ⟨rfl, ⟨rfl, rfl, rfl, Nat.le_refl _, fun _ _ => rfl⟩⟩
      obtain ⟨hy0, hy1⟩ := hyp
      clear TW S3 P6 te hpv hZ HI HD HO BL B5
      generalize y.length = yl at *
      cases d
      all_goals first
        | (have PZ := hid (PV.out rfl)
           clear CUT PV
           obtain ⟨w7, rfl⟩ : ∃ w7, w7 = w6 := ⟨_, rfl⟩
           go_upto_region 29 with fail)
        | (have CU := hid (CUT.out rfl)
           clear CUT PV
           go_upto_region 29 with (go_at_call 13; refine CU.out.mono ?_; rintro e w7 ⟨gu, cu, L, K1, K2, rfl, ⟨hL1, hL2, hL3, hL4⟩, c0, c1, c2, q⟩; have PZ := hid q; clear q)
           clear CU)
      all_goals
        have C0 := hid (F0.out w7 PZ.out)
        go_upto_region 30 with (go_at_call 10; refine C0.out.mono ?_; rintro e w8 ⟨p8, c8, rfl, q1, q2, q3⟩; have X8 := hid q1; have P8 := hid q2; clear q1 q2 q3)
        have C1 := hid (F1.out w8 P8.out)
        go_upto_region 31 with (go_at_call 10; refine C1.out.mono ?_; rintro e w9 ⟨p9, c9, rfl, q1, q2, q3⟩; have X9 := hid (X8.out.below q3); have Y9 := hid q1; have P9 := hid q2; clear q1 q2 q3)
        have C2 := hid (F2.out w9 P9.out)
        go_upto_region 32 with (go_at_call 10; refine C2.out.mono ?_; rintro e w10 ⟨p10, c10, rfl, q1, q2, q3⟩; have X10 := hid (X9.out.below q3); have Y10 := hid (Y9.out.below q3); have Z10 := hid q1; have P10 := hid q2; clear q1 q2 q3)
        have C3 := hid (AG.out w10 P10.out)
        go_upto_region 33 with (go_at_call 13; refine C3.out.mono ?_; rintro e w11 ⟨p11, c11, rfl, q1, q2⟩; have X11 := hid (ownC_g (X10.out.g.kp q2 kc_no)); have Y11 := hid (ownC_g (Y10.out.g.kp q2 kc_no)); have Z11 := hid (ownC_g (Z10.out.g.kp q2 kc_no)); have P11 := hid q1; clear q1 q2)
        have C4 := hid (FS.out w11 _ _ _ _ X11.out Y11.out)
        have C5 : Hid (∀ W, Below w11.heap.size w11 W → Calls Tryd.prog 18 #[.slice p9 yl c9, .slice p10 yl c10] W fun e w' => e = .returned (.bool true) ∧ Below base w0 w') := fun W hb => (FS.out W _ _ _ _ (Y11.out.below hb) (Z11.out.below hb)).mono (fun e w' ⟨q1, q2⟩ => ⟨q1, (P11.out.below (hb.trans (q2.mono hb.size))).bl⟩)
        have hyi : (0 : Int) < (yl : Int) := by omega
        clear C0 C1 C2 C3 F0 F1 F2 AG FS X8 X9 Y9 X10 Y10 Z10 P8 P9 P10 PZ
        go_wp2_with (first | (go_at_call 18; refine C4.out.mono ?_; rintro e w12 ⟨rfl, q⟩; have D5 := hid (C5.out w12 q); clear q C4) | (go_at_call 18; refine D5.out.mono ?_; rintro e w13 ⟨rfl, q⟩; have FIN := hid q; clear q))
        go_ret
        exact ⟨rfl, FIN.out⟩
end Go.Proofs.YtkebflllbphkkaaDoor
