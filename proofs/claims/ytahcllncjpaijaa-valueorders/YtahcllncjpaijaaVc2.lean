/- Values: the law's own: copied, values, spoil. -/
import Derived.Test.YtahcllncjpaijaaVc1
import Derived.Deep.RegionHeld3
namespace Go.Proofs.Ytahcllncjpaijaa
open Go.RowKit

/-- Rows of two types lie in two blocks. -/
theorem own_apart {α β : Type} {K : RK α} {K' : RK β} (hne : K.ty ≠ K'.ty) {w : World} {b b' : Nat} {v v' : Value} {l : List α} {l' : List β} (h : OwnG K w b v l) (h' : OwnG K' w b' v' l') {g : Nat} (hg : v.ownBlock = some g) : some g ≠ v'.ownBlock := by
  rcases h.2 with ⟨e, _⟩ | ⟨g1, cap, cur, e1, _, e3, _⟩
  · rw [e] at hg; cases hg
  · rcases h'.2 with ⟨e, _⟩ | ⟨g2, cap2, cur2, f1, _, f3, _⟩
    · rw [e]; intro q; cases q
    · rw [e1] at hg
      injection hg with hg
      rw [f1]
      intro q
      injection q with q
      have e4 : g1 = g2 := hg.trans q
      subst e4
      rw [e3] at f3
      injection f3 with f3
      injection f3 with _ f3
      exact hne f3
/-- Where copied stands: the first k are copied. -/
structure CPV (w wk : World) (vs : Value) (L M : List Vx) (k : Nat) : Prop where
  eq : aL M = aL (L.take k)
  own : OwnG KV wk w.heap.size vs M
  each : ∀ x ∈ M, OwnG KA wk w.heap.size x.v x.a
  bl : Below w.heap.size w wk
theorem CPV.len {w wk : World} {vs : Value} {L M : List Vx} {k : Nat} (h : CPV w wk vs L M k) (hk : k ≤ L.length) : M.length = k := by
  have := congrArg List.length h.eq
  rw [aL_len, aL_len, List.length_take] at this
  omega
theorem CPV.next {w wr w1 w2 : World} {vs vs2 : Value} {L M : List Vx} {k : Nat} {x : Vx} (h : CPV w wr vs L M k) (hk : k < L.length) (b1 : Below wr.heap.size wr w1) (o1 : OwnG KA w1 wr.heap.size x.v x.a) (hx : x.a = L[k].a)
    (ho2 : OwnG KV w2 w.heap.size vs2 (M ++ [x])) (hb2 : Below w.heap.size w1 w2) (hk2 : ∀ j, j < w1.heap.size → some j ≠ vs.ownBlock → w2.heap[j]? = w1.heap[j]?) : CPV w w2 vs2 L (M ++ [x]) (k + 1) := by
  have hsz := h.bl.size
  have ne : KA.ty ≠ KV.ty := by decide
  refine ⟨?_, ho2, fun y hy => ?_, (h.bl.trans (b1.mono h.bl.size)).trans hb2⟩
  · have e : L.take (k + 1) = L.take k ++ [L[k]] := by rw [List.take_add_one, List.getElem?_eq_getElem hk]; rfl
    have := h.eq
    unfold aL at this ⊢
    rw [e, List.map_append, List.map_append, this]
    simp [hx]
  · rw [List.mem_append, List.mem_singleton] at hy
    rcases hy with hy | rfl
    · have o := (h.each y hy).below b1
      exact o.far fun g hg => hk2 g (o.lt hg).2 (own_apart ne o (h.own.below b1) hg)
    · have o := o1.low h.bl.size
      exact o.far fun g hg => hk2 g (o.lt hg).2 (own_apart ne o (h.own.below b1) hg)
theorem CPV.vr {w wk : World} {vs : Value} {L M : List Vx} {k : Nat} (h : CPV w wk vs L M k) : VR wk vs M := ⟨h.own.gs KV_ok.len, fun x hx => (h.each x hx).gs KA_ok.len⟩
set_option maxHeartbeats 4000000 in
theorem copied_any (v : Value) (L : List Vx) (w : World) (h : VR w v L) (ht : VT L) :
    Calls Try.prog 10 #[v] w fun e w' => ∃ p c M, e = .returned (.slice p L.length c) ∧ CPV w w' (.slice p L.length c) L M L.length := by
  obtain ⟨p, cap, rfl⟩ := h.gs.form
  have HS : Hid (VR w (.slice p L.length cap) L) := h
  have D0 : Hid (CPV w (w.alloc (.cells #[] 24)) (.slice (some ⟨w.heap.size, 0, none⟩) 0 0) L [] 0) := ⟨by simp [aL], OwnG.empty KV w, by simp, (Below.refl _ _).alloc (Nat.le_refl _) _⟩
  have CE : Hid (∀ w1 k (hk : k < L.length), Below w.heap.size w w1 → Calls Try.prog 20 #[.slice L[k].q L[k].a.length L[k].c] w1 fun e w' => ∃ q c, e = .returned (.slice q L[k].a.length c) ∧ OwnG KA w' w1.heap.size (.slice q L[k].a.length c) L[k].a ∧ Below w1.heap.size w1 w') := fun w1 k hk b => copyV_any L[k].v L[k].a w1 ((h.av _ (List.getElem_mem hk)).below b) (ht.l _ (List.getElem_mem hk))
  have NX : Hid (∀ k (hk : k < L.length) (wr w1 w2 : World) (vs vs2 : Value) (M : List Vx) (x : Vx), CPV w wr vs L M k → Below wr.heap.size wr w1 → OwnG KA w1 wr.heap.size x.v x.a → x.a = L[k].a → OwnG KV w2 w.heap.size vs2 (M ++ [x]) → Below w.heap.size w1 w2 → (∀ j, j < w1.heap.size → some j ≠ vs.ownBlock → w2.heap[j]? = w1.heap[j]?) → CPV w w2 vs2 L (M ++ [x]) (k + 1)) := fun k hk wr w1 w2 vs vs2 M x a b c d e f g => a.next hk b c d e f g
  have HL : Hid (∀ k, k < L.length → (k + 1) * KV.B ≤ 140737488355328) := fun k hk => by have := ht.n; show (k + 1) * 24 ≤ _; omega
  have hlm : L.length ≤ 140737488355328 := by have := ht.n; omega
  clear h ht
  go_enter Try.func10, Try.ntmps10
  go_wp2
  go_loopw [3, 4] (fun v3 v4 wr => ∃ (k g c : Nat) (M : List Vx) (wk : World), v4 = .int .i64 k ∧ v3 = .slice (some ⟨g, 0, none⟩) M.length c ∧ wk = wr ∧ k ≤ L.length ∧ Hid (M.length = k) ∧ Hid (CPV w wk (.slice (some ⟨g, 0, none⟩) M.length c) L M k)) (fun _ v4 _ => L.length - (intOf v4).toNat)
  case atStart => exact ⟨0, _, 0, [], _, rfl, rfl, rfl, Nat.zero_le _, rfl, D0⟩
  case round =>
    obtain ⟨k, g, cp, M, wr, rfl, rfl, rfl, hk, HM, HI⟩ := hrel
    clear D0
    by_cases hlt : k < L.length
    · obtain ⟨X, o, e1, x0⟩ := (HS.out.gs.below HI.out.bl).atV hlt
      obtain rfl : p = some ⟨X, o, none⟩ := e1
      have C1 : Hid _ := CE.out wr k hlt HI.out.bl
      have NX1 : Hid _ := NX.out k hlt
      have LS : Hid ((M.length + 1) * KV.B ≤ 140737488355328) := by have := HL.out k hlt; rw [← HM.out] at this; exact this
      have HML : Hid (∀ x, (M ++ [x]).length = k + 1) := fun x => by have := HM.out; simp; omega
      obtain ⟨c, hc⟩ : ∃ c, c = L[k] := ⟨_, rfl⟩
      rw [← hc] at x0 C1 NX1
      clear hc CE NX HS HL
      go_wp2_with fail
      refine Calls.mono C1.out ?_
      rintro e w1 ⟨q, cq, rfl, ho1, hb1⟩
      have O1 : Hid (OwnG KA w1 wr.heap.size (.slice q c.a.length cq) c.a) := ho1
      have B1 : Hid (Below wr.heap.size wr w1) := hb1
      have I1 : Hid (OwnG KV w1 w.heap.size (.slice (some ⟨g, 0, none⟩) M.length cp) M) := HI.out.own.below hb1
      have Z1 : Hid (w.heap.size ≤ w1.heap.size) := Nat.le_trans HI.out.bl.size hb1.size
      clear ho1 hb1 C1 x0
      go_wp2_with (at_builtin; refine append_g KV KV_ok rfl (.tmp 12) (.tmp 18) 22 rfl w.heap.size Try.underlying22 w1 _ _ (.slice (some ⟨g, 0, none⟩) M.length cp) M ⟨c.a, q, cq⟩ _ rfl I1.out _ rfl rfl rfl LS.out Z1.out ?_; intro g2 c2 w2 ho2 hb2 hk2 hg2)
      have H2 : Hid (CPV w w2 (.slice (some ⟨g2, 0, none⟩) (M ++ [(⟨c.a, q, cq⟩ : Vx)]).length c2) L (M ++ [(⟨c.a, q, cq⟩ : Vx)]) (k + 1)) := NX1.out wr w1 w2 _ _ M ⟨c.a, q, cq⟩ HI.out B1.out O1.out rfl (by rw [List.length_append]; exact ho2) hb2 hk2
      have hne : (M ++ [(⟨c.a, q, cq⟩ : Vx)]).length = M.length + 1 := by simp
      clear ho2 hb2 hk2 NX1
      go_roundw
      case rel => exact ⟨k + 1, g2, c2, M ++ [⟨c.a, q, cq⟩], _, by go_num, by rw [hne], rfl, by omega, HML.out _, H2⟩
      case measure => simp [intOf]; omega
    · have hke : k = L.length := by omega
      subst hke
      have HM2 := HM.out
      go_wp2
      go_ret
      exact ⟨some ⟨g, 0, none⟩, cp, M, (show _ = Ending.returned (.slice (some ⟨g, 0, none⟩) M.length cp) from rfl).trans (by rw [HM2]), by have := HI.out; rw [HM2] at this; exact this⟩
set_option maxHeartbeats 4000000 in
/-- The law's comparison: the same values, wherever they lie. -/
theorem values_same (v1 v2 : Value) (M L : List Vx) (w : World) (h1 : VR w v1 M) (h2 : VR w v2 L) (he : aL M = aL L) (ht : VT L) :
    Calls Try.prog 18 #[v1, v2] w fun e w' => e = .returned (.bool true) ∧ Below w.heap.size w w' := by
  have hlen : M.length = L.length := by rw [← aL_len M, he, aL_len]
  have hlm : L.length ≤ 140737488355328 := by have := ht.n; omega
  obtain ⟨p1, c1, rfl⟩ := h1.gs.form
  obtain ⟨p2, c2, rfl⟩ := h2.gs.form
  have H1 : Hid (VR w (.slice p1 M.length c1) M) := h1
  have H2 : Hid (VR w (.slice p2 L.length c2) L) := h2
  have SP : Hid (∀ w1 k (hk : k < L.length) (hk' : k < M.length), Below w.heap.size w w1 → Calls Try.prog 7 #[.slice M[k].q L[k].a.length M[k].c, .slice L[k].q L[k].a.length L[k].c] w1 fun e w' => e = .returned (.bool true) ∧ Below w1.heap.size w1 w') := fun w1 k hk hk' b => by
    have e := aL_get he hk hk'
    have q1 := (h1.av _ (List.getElem_mem hk')).below b
    have q2 := (h2.av _ (List.getElem_mem hk)).below b
    have q3 := ht.l _ (List.getElem_mem hk)
    unfold Vx.v at q1 q2
    rw [e] at q1
    exact sameV_same w1 _ _ L[k].a q1 q2 (by omega)
  have PE : Hid (∀ k (hk : k < L.length) (hk' : k < M.length), M[k].a = L[k].a) := fun k hk hk' => aL_get he hk hk'
  have HLE : Hid (M.length = L.length) := hlen
  rw [hlen]
  clear h1 h2 he hlen ht
  go_enter Try.func18, Try.ntmps18
  go_wp2
  go_loopw [5] (fun v5 wr => ∃ (k : Nat) (wk : World), v5 = .int .i64 k ∧ wk = wr ∧ k ≤ L.length ∧ Hid (Below w.heap.size w wk)) (fun v5 _ => L.length - (intOf v5).toNat)
  case atStart => exact ⟨0, _, rfl, rfl, Nat.zero_le _, Below.refl _ _⟩
  case round =>
    obtain ⟨k, wr, rfl, rfl, hk, HB⟩ := hrel
    by_cases hlt : k < L.length
    · have hlt' : k < M.length := by rw [HLE.out]; exact hlt
      obtain ⟨X, o, e1, x0⟩ := (H1.out.gs.below HB.out).atV hlt'
      obtain rfl : p1 = some ⟨X, o, none⟩ := e1
      obtain ⟨Y, u, e2, y0⟩ := (H2.out.gs.below HB.out).atV hlt
      obtain rfl : p2 = some ⟨Y, u, none⟩ := e2
      have S1 : Hid (∀ w1, Below wr.heap.size wr w1 → _) := fun w1 b => SP.out w1 k hlt hlt' (HB.out.trans (b.mono HB.out.size))
      rw [PE.out k hlt hlt'] at x0
      have XS : Hid (∀ w1, Below wr.heap.size wr w1 → ∀ b o v, wr.cell? ⟨b, o, none⟩ = some v → w1.cell? ⟨b, o, none⟩ = some v) := fun w1 c b o v hc => (c.cell (p := ⟨b, o, none⟩) (block_lt_of_cell hc)).trans hc
      obtain ⟨c, hc⟩ : ∃ c, c = L[k] := ⟨_, rfl⟩
      obtain ⟨d, hd⟩ : ∃ d, d = M[k] := ⟨_, rfl⟩
      rw [← hc] at x0 y0 S1
      rw [← hd] at x0 S1
      clear hc hd SP PE
      have BR : Hid (Below wr.heap.size wr wr) := Below.refl _ _
      have BD : Hid (Below wr.heap.size wr wr.drew) := (Below.refl _ _).drew
      have BW : Hid (∀ w3, Below wr.heap.size wr w3 → Below w.heap.size w w3) := fun w3 b => HB.out.trans (b.mono HB.out.size)
      go_wp2_with fail
      go_region_held3 (fun w' => w'.cell? ⟨X, o + k, none⟩ = some (.slice d.q c.a.length d.c) ∧ w'.cell? ⟨Y, u + k, none⟩ = some (.slice c.q c.a.length c.c)) (go_keep) (first | (go_at_call 7; refine Calls.mono (S1.out _ ?_) ?_; (first | exact BR.out | exact BD.out); rintro e w3 ⟨rfl, b3⟩; have B3 : Hid (Below wr.heap.size wr w3) := (by first | exact b3 | exact BD.out.trans (b3.mono BD.out.size)); have x0' := XS.out _ B3.out _ _ _ x0; have y0' := XS.out _ B3.out _ _ _ y0; clear b3))
      all_goals
        go_wp2_with fail
        go_roundw
        case rel => exact ⟨k + 1, _, by go_num, rfl, by omega, BW.out _ B3.out⟩
        case measure => simp [intOf]; omega
    · go_wp2
      go_ret
      exact ⟨rfl, HB.out⟩
end Go.Proofs.Ytahcllncjpaijaa
