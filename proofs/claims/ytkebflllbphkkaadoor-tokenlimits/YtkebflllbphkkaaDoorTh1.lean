/- Tokens, plain: what hangs on one is cancelled with it (for the law TokenHangs). -/
import Derived.Test.YtkebflllbphkkaaDoorTl5
namespace Go.Proofs.YtkebflllbphkkaaDoor
open Go.RowKit

def fr1 : ByteArray := ⟨#[102, 114, 101, 115, 104, 95, 49]⟩
def fr2 : ByteArray := ⟨#[102, 114, 101, 115, 104, 95, 50]⟩
theorem least_one {T : Tr} (h : Inv T) (p : Nat) : decide (leastA T.od 256 [p] ≠ 256) = decide (p ∈ T.od) := by
  have hol : T.od.length ≤ 256 := Nat.le_trans (nodup_len T.ns.length T.od h.nd h.lt) h.len
  rcases leastA_spec hol [p] with ⟨e, q⟩ | ⟨e, x, hx, hxo, _⟩
  · have : p ∉ T.od := q p (by simp)
    simp [e, this]
  · have : x = p := by simpa using hx
    subst this
    have ne : leastA T.od 256 [x] ≠ 256 := by omega
    simp [ne, hxo]
theorem ck_one {T : Tr} (h : Inv T) {p : Nat} (hp : p < T.ns.length) (hlen : T.ns.length < 256) {s : ByteArray} (hl : localB s.data.toList = true) (hn : plO T.nms s = none) : ckO T s [(T.n p).name] = some [p] := by
  unfold ckO
  rw [if_pos ⟨hl, hn, by simp, hlen⟩]
  unfold fAll
  rw [plO_at h.nm hp]
  rfl
theorem pl_snoc_none {l : List ByteArray} {s t : ByteArray} (h : plO l s = none) (hne : t ≠ s) : plO (l ++ [t]) s = none := by
  unfold plO at *
  rw [List.findIdx?_append, h]
  simp [hne]
/-- The tree with the two fresh ones. -/
structure Two (T U V : Tr) (p : Nat) : Prop where
  ck : ckO U fr2 [fr1] = some [T.ns.length]
  ul : U.ns.length = T.ns.length + 1
  dn : decide (T.ns.length ∈ U.od) = decide (p ∈ T.od)
  iu : Inv U
  iv : Inv V
  vl : V.ns.length = T.ns.length + 2
  np : (V.n p).name = (T.n p).name
  n1 : (V.n T.ns.length).name = fr1
  n2 : (V.n (T.ns.length + 1)).name = fr2
  od : p ∉ T.od → V.od = T.od
  u1 : V.up T.ns.length p = true
  u2 : V.up (T.ns.length + 1) p = true
  ye : p ∈ T.od → p ∈ V.od ∧ T.ns.length ∈ V.od ∧ T.ns.length + 1 ∈ V.od ∧ (V.n T.ns.length).bw = (V.n p).bw ∧ (V.n (T.ns.length + 1)).bw = (V.n p).bw
theorem name_new {T U : Tr} {s : ByteArray} (hn : U.nms = T.nms ++ [s]) (hl : U.ns.length = T.ns.length + 1) : (U.n T.ns.length).name = s := by
  have h1 := nms_at (T := U) (p := T.ns.length) (by omega)
  rw [hn, ← nms_len T, List.getElem?_append_right (Nat.le_refl _)] at h1
  simp at h1
  rw [← nms_len T]
  exact h1.symm
theorem two_all {T : Tr} (h : Inv T) {p : Nat} (hp : p < T.ns.length) (hlen : T.ns.length < 255) (h1 : plO T.nms fr1 = none) (h2 : plO T.nms fr2 = none) : Two T (makT T fr1 [p]) (makT (makT T fr1 [p]) fr2 [T.ns.length]) p := by
  obtain ⟨i1, l1, o1, n1, _, d1, u1, b1, _⟩ := makT_all h (s := fr1) (ps := [p]) (by decide) (fun q hq => by simp at hq; subst hq; exact hp) (by omega) h1
  generalize makT T fr1 [p] = U at *
  have p2 : plO U.nms fr2 = none := by rw [n1]; exact pl_snoc_none h2 (by decide)
  obtain ⟨i2, l2, o2, n2, _, d2, u2, b2, _⟩ := makT_all i1 (s := fr2) (ps := [T.ns.length]) (by decide) (fun q hq => by simp at hq; subst hq; omega) (by omega) p2
  generalize makT U fr2 [T.ns.length] = V at *
  have m1 := name_new n1 l1
  have m2 := name_new n2 l2
  rw [l1] at l2 o2 d2 u2 b2 m2
  have hln : T.ns.length ∉ T.od := fun q => by have := h.lt _ q; omega
  have inU : T.ns.length ∈ U.od ↔ p ∈ T.od := by
    rcases d1 with ⟨q, e⟩ | ⟨⟨x, hx, hq⟩, e⟩
    · have := q p (by simp)
      rw [e]; exact ⟨fun z => absurd z hln, fun z => absurd z this⟩
    · have : x = p := by simpa using hx
      subst this
      rw [e]; simp [hq]
  have up1 : U.up T.ns.length p = true := (u1 p).2 ⟨p, by simp, Or.inl rfl⟩
  have vn : V.n T.ns.length = U.n T.ns.length := o2 _ (by omega)
  have vp : V.n p = T.n p := (o2 p (by omega)).trans (o1 p hp)
  refine ⟨?_, l1, by simp [inU], i1, i2, by omega, by rw [vp], by rw [vn]; exact m1, m2, fun hq => ?_, ?_, ?_, fun hq => ?_⟩
  · have := ck_one i1 (p := T.ns.length) (by omega) (by omega) (s := fr2) (by decide) p2
    rw [m1] at this
    exact this
  · rcases d2 with ⟨q, e⟩ | ⟨⟨x, hx, hq'⟩, e⟩
    · rcases d1 with ⟨_, e'⟩ | ⟨⟨x, hx, hq'⟩, _⟩
      · rw [e, e']
      · have : x = p := by simpa using hx
        subst this
        exact absurd hq' hq
    · have : x = T.ns.length := by simpa using hx
      subst this
      exact absurd (inU.1 hq') hq
  · unfold Tr.up; rw [vn]; exact up1
  · exact (u2 p).2 ⟨T.ns.length, by simp, Or.inr up1⟩
  · have hU := inU.2 hq
    have e1 : U.od = T.od ++ [T.ns.length] := by
      rcases d1 with ⟨q, e⟩ | ⟨_, e⟩
      · exact absurd hq (q p (by simp))
      · exact e
    have e2 : V.od = U.od ++ [T.ns.length + 1] := by
      rcases d2 with ⟨q, e⟩ | ⟨_, e⟩
      · exact absurd hU (q _ (by simp))
      · exact e
    have w1 := b1 p rfl hq
    have w2 := b2 T.ns.length rfl hU
    refine ⟨by rw [e2, e1]; simp [hq], by rw [e2, e1]; simp, by rw [e2]; simp, ?_, ?_⟩
    · rw [vn, vp]; exact w1
    · rw [w2, vp]; exact w1
/-- The tree at the end: the three are cancelled, for the same reason. -/
structure Same3 (Z : Tr) (s : ByteArray) (p n : Nat) (y : List Cr) : Prop where
  iz : Inv Z
  p0 : plO Z.nms s = some p
  p1 : plO Z.nms fr1 = some n
  p2 : plO Z.nms fr2 = some (n + 1)
  d0 : p ∈ Z.od
  d1 : n ∈ Z.od
  d2 : n + 1 ∈ Z.od
  y0 : (Z.n (Z.n p).bw).why = y
  y1 : (Z.n (Z.n n).bw).why = y
  y2 : (Z.n (Z.n (n + 1)).bw).why = y
theorem same_done {T U V : Tr} {p : Nat} (h : Two T U V p) (hp : p < T.ns.length) (hd : p ∈ T.od) : Same3 V (T.n p).name p T.ns.length (V.n (V.n p).bw).why := by
  obtain ⟨d0, d1, d2, b1, b2⟩ := h.ye hd
  have l := h.vl
  refine ⟨h.iv, ?_, ?_, ?_, d0, d1, d2, rfl, by rw [b1], by rw [b2]⟩
  · have := plO_at h.iv.nm (p := p) (by omega)
    rw [h.np] at this; exact this
  · have := plO_at h.iv.nm (p := T.ns.length) (by omega)
    rw [h.n1] at this; exact this
  · have := plO_at h.iv.nm (p := T.ns.length + 1) (by omega)
    rw [h.n2] at this; exact this
theorem tok_nil {s : ByteArray} (hs : s.size ≤ 64) : tokE s [] = 0 ∧ tokL s [] = [⟨8, 0, s⟩] := by
  have e : tokE s [] = 0 := by unfold tokE; rw [if_neg (by omega)]; rfl
  refine ⟨e, ?_⟩
  unfold tokL
  rw [if_pos e]
  rfl
theorem same_cut {T U V : Tr} {p : Nat} (h : Two T U V p) (hT : Inv T) (hp : p < T.ns.length) (hd : p ∉ T.od) {y : List Cr} (hy : y ≠ []) (hyl : y.length ≤ 1024) :
    Same3 (cancelT V p y) (T.n p).name p T.ns.length y ∧ ∃ m, nmL (cancelT V p y) V.od.length = (T.n p).name :: (m ++ [fr1, fr2]) := by
  have l := h.vl
  have hv : p ∉ V.od := by rw [h.od hd]; exact hd
  obtain ⟨cn, mo, iv, q⟩ := cancelT_all h.iv (p := p) (by omega) y
  obtain ⟨F, e1, e2, eb, ew⟩ := q hv
  generalize cancelT V p y = X at *
  have ix := iv hy hyl
  have hln : ∀ a, T.ns.length ≤ a → a ∉ V.od := fun a ha q => by
    rw [h.od hd] at q
    have := hT.lt a q
    omega
  have hr : List.range' (p + 1) (V.ns.length - (p + 1)) = List.range' (p + 1) (T.ns.length - (p + 1)) ++ [T.ns.length, T.ns.length + 1] := by
    rw [l, show T.ns.length + 2 - (p + 1) = T.ns.length - (p + 1) + 1 + 1 by omega, List.range'_concat, List.range'_concat, List.append_assoc]
    congr 1
    simp only [List.cons_append, List.nil_append, List.cons.injEq, and_true]
    omega
  have hF : F = (List.range' (p + 1) (T.ns.length - (p + 1))).filter (fun a => V.up a p && !decide (a ∈ V.od)) ++ [T.ns.length, T.ns.length + 1] := by
    rw [e2, hr, List.filter_append]
    congr 1
    rw [List.filter_cons_of_pos (by simp [h.u1, hln _ (Nat.le_refl _)]), List.filter_cons_of_pos (by simp [h.u2, hln _ (Nat.le_succ _)])]
    rfl
  have f1 : T.ns.length ∈ F := by rw [hF]; simp
  have f2 : T.ns.length + 1 ∈ F := by rw [hF]; simp
  refine ⟨⟨ix, ?_, ?_, ?_, by rw [e1]; simp, by rw [e1]; simp [f1], by rw [e1]; simp [f2], ?_, ?_, ?_⟩, ?_⟩
  · have := plO_at ix.nm (p := p) (by rw [cn.len]; omega)
    rw [cn.name, h.np] at this; exact this
  · have := plO_at ix.nm (p := T.ns.length) (by rw [cn.len]; omega)
    rw [cn.name, h.n1] at this; exact this
  · have := plO_at ix.nm (p := T.ns.length + 1) (by rw [cn.len]; omega)
    rw [cn.name, h.n2] at this; exact this
  · rw [eb, if_pos (Or.inl rfl), ew, if_pos rfl]
  · rw [eb, if_pos (Or.inr f1), ew, if_pos rfl]
  · rw [eb, if_pos (Or.inr f2), ew, if_pos rfl]
  · refine ⟨((List.range' (p + 1) (T.ns.length - (p + 1))).filter (fun a => V.up a p && !decide (a ∈ V.od))).map (fun q => (X.n q).name), ?_⟩
    unfold nmL
    rw [e1, List.drop_left' rfl, List.map_cons, hF, List.map_append]
    simp only [List.map_cons, List.map_nil]
    rw [cn.name, cn.name, cn.name, h.np, h.n1, h.n2]
theorem same_again {Z : Tr} {s : ByteArray} {p n : Nat} {y : List Cr} (h : Same3 Z s p n y) (z : List Cr) : cancelT Z p z = Z ∧ nmL (cancelT Z p z) Z.od.length = [] := by
  have e : cancelT Z p z = Z := by unfold cancelT; rw [if_pos h.d0]
  refine ⟨e, ?_⟩
  rw [e]
  unfold nmL
  simp
theorem same_pos {Z : Tr} {s : ByteArray} {p n : Nat} {y : List Cr} (h : Same3 Z s p n y) : 0 < y.length ∧ y.length ≤ 1024 := by
  have h1 := h.iz.why p h.d0
  have h2 := h.iz.wl _ (h.iz.lt _ (h.iz.bw p h.d0))
  rw [h.y0] at h1 h2
  exact ⟨List.length_pos_iff.2 h1, h2⟩
theorem names_ps {w0 W : World} {base b : Nat} {T : Tr} (h : PS w0 W base b T) :
    Calls Tryd.prog 19 #[.pointer (some ⟨b, 0, none⟩)] W fun e w' => ∃ g, e = .returned (.slice (some ⟨g, 0, none⟩) T.ns.length T.ns.length) ∧ OwnG KS w' W.heap.size (.slice (some ⟨g, 0, none⟩) T.ns.length T.ns.length) T.nms ∧ PS w0 w' base b T ∧ Below W.heap.size W w' := by
  have hP := h
  obtain ⟨F, h1, h2⟩ := h
  obtain ⟨cb, mb, nv, ov, L, t, e⟩ := h1.ex
  refine (names_any W b cb mb nv ov L T t).mono ?_
  rintro e w' ⟨rfl, q1, q2⟩
  exact ⟨_, rfl, q1, hP.below q2, q2⟩
end Go.Proofs.YtkebflllbphkkaaDoor
