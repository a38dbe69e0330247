/- Values: an answer written over; numbers and texts as values; checkAll, first. -/
import Derived.Test.YtahcllncjpaijaaDoorVc1
import Derived.Deep.RegionHeld3
namespace Go.Proofs.YtahcllncjpaijaaDoor
open Go.RowKit

/-- Rows of two types lie in two blocks. -/
theorem own_apart {α β : Type} {K : RK α} {K' : RK β} (hne : K.ty ≠ K'.ty) {w : World} {b b' : Nat} {v v' : Value} {l : List α} {l' : List β} (h : OwnG K w b v l) (h' : OwnG K' w b' v' l') {g : Nat} (hg : v.ownBlock = some g) : some g ≠ v'.ownBlock := by
  rcases h.2 with ⟨e, _⟩ | ⟨g1, cap, cur, e1, _, e3, _⟩
  · rw [e] at hg; cases hg
  · rcases h'.2 with ⟨e, _⟩ | ⟨g2, cap2, cur2, f1, _, f3, _⟩
    · rw [e]; intro q; cases q
    · rw [e1] at hg
      injection hg with hg
      rw [f1]
      intro q
      injection q with q
      have e4 : g1 = g2 := hg.trans q
      subst e4
      rw [e3] at f3
      injection f3 with f3
      injection f3 with _ f3
      exact hne f3
/-- Where copied stands: the first k are copied. -/
structure CPV (w wk : World) (vs : Value) (L M : List Vx) (k : Nat) : Prop where
  eq : aL M = aL (L.take k)
  own : OwnG KV wk w.heap.size vs M
  each : ∀ x ∈ M, OwnG KA wk w.heap.size x.v x.a
  bl : Below w.heap.size w wk
theorem CPV.len {w wk : World} {vs : Value} {L M : List Vx} {k : Nat} (h : CPV w wk vs L M k) (hk : k ≤ L.length) : M.length = k := by
  have := congrArg List.length h.eq
  rw [aL_len, aL_len, List.length_take] at this
  omega
theorem CPV.next {w wr w1 w2 : World} {vs vs2 : Value} {L M : List Vx} {k : Nat} {x : Vx} (h : CPV w wr vs L M k) (hk : k < L.length) (b1 : Below wr.heap.size wr w1) (o1 : OwnG KA w1 wr.heap.size x.v x.a) (hx : x.a = L[k].a)
    (ho2 : OwnG KV w2 w.heap.size vs2 (M ++ [x])) (hb2 : Below w.heap.size w1 w2) (hk2 : ∀ j, j < w1.heap.size → some j ≠ vs.ownBlock → w2.heap[j]? = w1.heap[j]?) : CPV w w2 vs2 L (M ++ [x]) (k + 1) := by
  have hsz := h.bl.size
  have ne : KA.ty ≠ KV.ty := by decide
  refine ⟨?_, ho2, fun y hy => ?_, (h.bl.trans (b1.mono h.bl.size)).trans hb2⟩
  · have e : L.take (k + 1) = L.take k ++ [L[k]] := by rw [List.take_add_one, List.getElem?_eq_getElem hk]; rfl
    have := h.eq
    unfold aL at this ⊢
    rw [e, List.map_append, List.map_append, this]
    simp [hx]
  · rw [List.mem_append, List.mem_singleton] at hy
    rcases hy with hy | rfl
    · have o := (h.each y hy).below b1
      exact o.far fun g hg => hk2 g (o.lt hg).2 (own_apart ne o (h.own.below b1) hg)
    · have o := o1.low h.bl.size
      exact o.far fun g hg => hk2 g (o.lt hg).2 (own_apart ne o (h.own.below b1) hg)
theorem CPV.vr {w wk : World} {vs : Value} {L M : List Vx} {k : Nat} (h : CPV w wk vs L M k) : VR wk vs M := ⟨h.own.gs KV_ok.len, fun x hx => (h.each x hx).gs KA_ok.len⟩
set_option maxHeartbeats 4000000 in
theorem copied_any (v : Value) (L : List Vx) (w : World) (h : VR w v L) (ht : VT L) :
    Calls Tryd.prog 7 #[v] w fun e w' => ∃ p c M, e = .returned (.slice p L.length c) ∧ CPV w w' (.slice p L.length c) L M L.length := by
  obtain ⟨p, cap, rfl⟩ := h.gs.form
  have HS : Hid (VR w (.slice p L.length cap) L) := h
  have D0 : Hid (CPV w (w.alloc (.cells #[] 25)) (.slice (some ⟨w.heap.size, 0, none⟩) 0 0) L [] 0) := ⟨by simp [aL], OwnG.empty KV w, by simp, (Below.refl _ _).alloc (Nat.le_refl _) _⟩
  have CE : Hid (∀ w1 k (hk : k < L.length), Below w.heap.size w w1 → Calls Tryd.prog 15 #[.slice L[k].q L[k].a.length L[k].c] w1 fun e w' => ∃ q c, e = .returned (.slice q L[k].a.length c) ∧ OwnG KA w' w1.heap.size (.slice q L[k].a.length c) L[k].a ∧ Below w1.heap.size w1 w') := fun w1 k hk b => copyV_any L[k].v L[k].a w1 ((h.av _ (List.getElem_mem hk)).below b) (ht.l _ (List.getElem_mem hk))
  have NX : Hid (∀ k (hk : k < L.length) (wr w1 w2 : World) (vs vs2 : Value) (M : List Vx) (x : Vx), CPV w wr vs L M k → Below wr.heap.size wr w1 → OwnG KA w1 wr.heap.size x.v x.a → x.a = L[k].a → OwnG KV w2 w.heap.size vs2 (M ++ [x]) → Below w.heap.size w1 w2 → (∀ j, j < w1.heap.size → some j ≠ vs.ownBlock → w2.heap[j]? = w1.heap[j]?) → CPV w w2 vs2 L (M ++ [x]) (k + 1)) := fun k hk wr w1 w2 vs vs2 M x a b c d e f g => a.next hk b c d e f g
  have HL : Hid (∀ k, k < L.length → (k + 1) * KV.B ≤ 140737488355328) := fun k hk => by have := ht.n; show (k + 1) * 24 ≤ _; omega
  have hlm : L.length ≤ 140737488355328 := by have := ht.n; omega
  clear h ht
  go_enter Tryd.func7, Tryd.ntmps7
  go_wp2
  go_loopw [3, 4] (fun v3 v4 wr => ∃ (k g c : Nat) (M : List Vx) (wk : World), v4 = .int .i64 k ∧ v3 = .slice (some ⟨g, 0, none⟩) M.length c ∧ wk = wr ∧ k ≤ L.length ∧ Hid (M.length = k) ∧ Hid (CPV w wk (.slice (some ⟨g, 0, none⟩) M.length c) L M k)) (fun _ v4 _ => L.length - (intOf v4).toNat)
  case atStart => exact ⟨0, _, 0, [], _, rfl, rfl, rfl, Nat.zero_le _, rfl, D0⟩
  case round =>
    obtain ⟨k, g, cp, M, wr, rfl, rfl, rfl, hk, HM, HI⟩ := hrel
    clear D0
    by_cases hlt : k < L.length
    · obtain ⟨X, o, e1, x0⟩ := (HS.out.gs.below HI.out.bl).atV hlt
      obtain rfl : p = some ⟨X, o, none⟩ := e1
      have C1 : Hid _ := CE.out wr k hlt HI.out.bl
      have NX1 : Hid _ := NX.out k hlt
      have LS : Hid ((M.length + 1) * KV.B ≤ 140737488355328) := by have := HL.out k hlt; rw [← HM.out] at this; exact this
      have HML : Hid (∀ x, (M ++ [x]).length = k + 1) := fun x => by have := HM.out; simp; omega
      obtain ⟨c, hc⟩ : ∃ c, c = L[k] := ⟨_, rfl⟩
      rw [← hc] at x0 C1 NX1
      clear hc CE NX HS HL
      go_wp2_with fail
      refine Calls.mono C1.out ?_
      rintro e w1 ⟨q, cq, rfl, ho1, hb1⟩
      have O1 : Hid (OwnG KA w1 wr.heap.size (.slice q c.a.length cq) c.a) := ho1
      have B1 : Hid (Below wr.heap.size wr w1) := hb1
      have I1 : Hid (OwnG KV w1 w.heap.size (.slice (some ⟨g, 0, none⟩) M.length cp) M) := HI.out.own.below hb1
      have Z1 : Hid (w.heap.size ≤ w1.heap.size) := Nat.le_trans HI.out.bl.size hb1.size
      clear ho1 hb1 C1 x0
      go_wp2_with (at_builtin; refine append_g KV KV_ok rfl (.tmp 12) (.tmp 18) 22 rfl w.heap.size Tryd.underlying22 w1 _ _ (.slice (some ⟨g, 0, none⟩) M.length cp) M ⟨c.a, q, cq⟩ _ rfl I1.out _ rfl rfl rfl LS.out Z1.out ?_; intro g2 c2 w2 ho2 hb2 hk2 hg2)
      have H2 : Hid (CPV w w2 (.slice (some ⟨g2, 0, none⟩) (M ++ [(⟨c.a, q, cq⟩ : Vx)]).length c2) L (M ++ [(⟨c.a, q, cq⟩ : Vx)]) (k + 1)) := NX1.out wr w1 w2 _ _ M ⟨c.a, q, cq⟩ HI.out B1.out O1.out rfl (by rw [List.length_append]; exact ho2) hb2 hk2
      have hne : (M ++ [(⟨c.a, q, cq⟩ : Vx)]).length = M.length + 1 := by simp
      clear ho2 hb2 hk2 NX1
      go_roundw
      case rel => exact ⟨k + 1, g2, c2, M ++ [⟨c.a, q, cq⟩], _, by go_num, by rw [hne], rfl, by omega, HML.out _, H2⟩
      case measure => simp [intOf]; omega
    · have hke : k = L.length := by omega
      subst hke
      have HM2 := HM.out
      go_wp2
      go_ret
      exact ⟨some ⟨g, 0, none⟩, cp, M, (show _ = Ending.returned (.slice (some ⟨g, 0, none⟩) M.length cp) from rfl).trans (by rw [HM2]), by have := HI.out; rw [HM2] at this; exact this⟩
set_option maxHeartbeats 4000000 in
/-- The law's comparison: the same values, wherever they lie. -/
theorem values_same (v1 v2 : Value) (M L : List Vx) (w : World) (h1 : VR w v1 M) (h2 : VR w v2 L) (he : aL M = aL L) (ht : VT L) :
    Calls Tryd.prog 14 #[v1, v2] w fun e w' => e = .returned (.bool true) ∧ Below w.heap.size w w' := by
  have hlen : M.length = L.length := by rw [← aL_len M, he, aL_len]
  have hlm : L.length ≤ 140737488355328 := by have := ht.n; omega
  obtain ⟨p1, c1, rfl⟩ := h1.gs.form
  obtain ⟨p2, c2, rfl⟩ := h2.gs.form
  have H1 : Hid (VR w (.slice p1 M.length c1) M) := h1
  have H2 : Hid (VR w (.slice p2 L.length c2) L) := h2
  have SP : Hid (∀ w1 k (hk : k < L.length) (hk' : k < M.length), Below w.heap.size w w1 → Calls Tryd.prog 10 #[.slice M[k].q L[k].a.length M[k].c, .slice L[k].q L[k].a.length L[k].c] w1 fun e w' => e = .returned (.bool true) ∧ Below w1.heap.size w1 w') := fun w1 k hk hk' b => by
    have e := aL_get he hk hk'
    have q1 := (h1.av _ (List.getElem_mem hk')).below b
    have q2 := (h2.av _ (List.getElem_mem hk)).below b
    have q3 := ht.l _ (List.getElem_mem hk)
    unfold Vx.v at q1 q2
    rw [e] at q1
    exact sameV_same w1 _ _ L[k].a q1 q2 (by omega)
  have PE : Hid (∀ k (hk : k < L.length) (hk' : k < M.length), M[k].a = L[k].a) := fun k hk hk' => aL_get he hk hk'
  have HLE : Hid (M.length = L.length) := hlen
  rw [hlen]
  clear h1 h2 he hlen ht
  go_enter Tryd.func14, Tryd.ntmps14
  go_wp2
  go_loopw [5] (fun v5 wr => ∃ (k : Nat) (wk : World), v5 = .int .i64 k ∧ wk = wr ∧ k ≤ L.length ∧ Hid (Below w.heap.size w wk)) (fun v5 _ => L.length - (intOf v5).toNat)
  case atStart => exact ⟨0, _, rfl, rfl, Nat.zero_le _, Below.refl _ _⟩
  case round =>
    obtain ⟨k, wr, rfl, rfl, hk, HB⟩ := hrel
    by_cases hlt : k < L.length
    · have hlt' : k < M.length := by rw [HLE.out]; exact hlt
      obtain ⟨X, o, e1, x0⟩ := (H1.out.gs.below HB.out).atV hlt'
      obtain rfl : p1 = some ⟨X, o, none⟩ := e1
      obtain ⟨Y, u, e2, y0⟩ := (H2.out.gs.below HB.out).atV hlt
      obtain rfl : p2 = some ⟨Y, u, none⟩ := e2
      have S1 : Hid (∀ w1, Below wr.heap.size wr w1 → _) := fun w1 b => SP.out w1 k hlt hlt' (HB.out.trans (b.mono HB.out.size))
      rw [PE.out k hlt hlt'] at x0
      have XS : Hid (∀ w1, Below wr.heap.size wr w1 → ∀ b o v, wr.cell? ⟨b, o, none⟩ = some v → w1.cell? ⟨b, o, none⟩ = some v) := fun w1 c b o v hc => (c.cell (p := ⟨b, o, none⟩) (block_lt_of_cell hc)).trans hc
      obtain ⟨c, hc⟩ : ∃ c, c = L[k] := ⟨_, rfl⟩
      obtain ⟨d, hd⟩ : ∃ d, d = M[k] := ⟨_, rfl⟩
      rw [← hc] at x0 y0 S1
      rw [← hd] at x0 S1
      clear hc hd SP PE
      have BR : Hid (Below wr.heap.size wr wr) := Below.refl _ _
      have BD : Hid (Below wr.heap.size wr wr.drew) := (Below.refl _ _).drew
      have BW : Hid (∀ w3, Below wr.heap.size wr w3 → Below w.heap.size w w3) := fun w3 b => HB.out.trans (b.mono HB.out.size)
      go_wp2_with fail
      go_region_held3 (fun w' => w'.cell? ⟨X, o + k, none⟩ = some (.slice d.q c.a.length d.c) ∧ w'.cell? ⟨Y, u + k, none⟩ = some (.slice c.q c.a.length c.c)) (go_keep) (first | (go_at_call 10; refine Calls.mono (S1.out _ ?_) ?_; (first | exact BR.out | exact BD.out); rintro e w3 ⟨rfl, b3⟩; have B3 : Hid (Below wr.heap.size wr w3) := (by first | exact b3 | exact BD.out.trans (b3.mono BD.out.size)); have x0' := XS.out _ B3.out _ _ _ x0; have y0' := XS.out _ B3.out _ _ _ y0; clear b3))
      all_goals
        go_wp2_with fail
        go_roundw
        case rel => exact ⟨k + 1, _, by go_num, rfl, by omega, BW.out _ B3.out⟩
        case measure => simp [intOf]; omega
    · go_wp2
      go_ret
      exact ⟨rfl, HB.out⟩
end Go.Proofs.YtahcllncjpaijaaDoor
namespace Go.Proofs.YtahcllncjpaijaaDoor
open Go.RowKit

/-- A block of N cells of atoms. -/
def AB (w : World) (g N : Nat) : Prop := ∃ cur, w.heap[g]? = some (.cells cur 56) ∧ cur.size = N
theorem AB.cell {w : World} {g N : Nat} (h : AB w g N) {o : Nat} (ho : o < N) : ∃ v, w.cell? ⟨g, o, none⟩ = some v := by
  obtain ⟨cur, h1, h2⟩ := h
  exact ⟨cur[o]'(by omega), cell_of_row _ _ _ _ _ _ h1 |>.trans (by simp [h2, ho])⟩
theorem AB.frozen {w : World} {g N : Nat} (h : AB w g N) (o : Nat) : w.frozen? ⟨g, o, none⟩ = false := by
  obtain ⟨cur, h1, h2⟩ := h
  simp [World.frozen?, h1]
theorem AB.set {w : World} {g N : Nat} (h : AB w g N) (o : Nat) (v : Value) : AB (w.setCell ⟨g, o, none⟩ v) g N := by
  obtain ⟨cur, h1, h2⟩ := h
  exact ⟨cur.setIfInBounds o v, heap_setCell_same w g o cur _ v h1, by simpa using h2⟩
/-- All but one block as it was. -/
structure KB (g : Option Nat) (a b : World) : Prop where
  os : b.os = a.os
  tape : b.tape = a.tape
  output : b.output = a.output
  size : b.heap.size = a.heap.size
  block : ∀ j, some j ≠ g → b.heap[j]? = a.heap[j]?
theorem KB.refl (g : Option Nat) (a : World) : KB g a a := ⟨rfl, rfl, rfl, rfl, fun _ _ => rfl⟩
theorem KB.set {g : Nat} {a b : World} (h : KB (some g) a b) (o : Nat) (v : Value) : KB (some g) a (b.setCell ⟨g, o, none⟩ v) :=
  ⟨h.os, h.tape, h.output, by simpa [World.setCell] using h.size, fun j hj => (Below.heap_setCell _ _ _ _ (fun e => hj (by rw [e]))).trans (h.block j hj)⟩
theorem KB.below {g : Option Nat} {a b : World} (h : KB g a b) {N : Nat} (hN : ∀ x, g = some x → N ≤ x) : Below N a b :=
  ⟨h.os, h.tape, h.output, by rw [h.size]; exact Nat.le_refl _, fun j hj => h.block j (fun e => by have := hN j e.symm; omega)⟩
/-- What may be written over: a slice of a block of atoms that lies behind a place. -/
def SPV (w : World) (base : Nat) (v : Value) : Prop := v = .slice none 0 0 ∨ ∃ g o n cap N, v = .slice (some ⟨g, o, none⟩) n cap ∧ base ≤ g ∧ AB w g N ∧ o + cap * 4 ≤ N ∧ cap ≤ 9223372036854775807 ∧ n ≤ cap
theorem SPV.own {w : World} {base : Nat} {v : Value} {l : List Atm} (h : OwnG KA w base v l) : SPV w base v := by
  rcases h.2 with ⟨e, e2⟩ | ⟨g, cap, cur, e, hb, hg, hcp, hmx, hcs, _⟩
  · exact Or.inl e
  · have e3 : cap * KA.W = cap * 4 := rfl
    unfold maxLen at hmx
    exact Or.inr ⟨g, 0, _, cap, cur.size, e, hb, ⟨cur, hg, rfl⟩, by omega, by omega, hcp⟩
theorem SPV.far {w w' : World} {base : Nat} {v : Value} (h : SPV w base v) (k : ∀ g, v.ownBlock = some g → w'.heap[g]? = w.heap[g]?) : SPV w' base v := by
  rcases h with h | ⟨g, o, n, cap, N, rfl, hb, ⟨cur, h1, h2⟩, h3⟩
  · exact Or.inl h
  · exact Or.inr ⟨g, o, n, cap, N, rfl, hb, ⟨cur, (k g rfl).trans h1, h2⟩, h3⟩
theorem SPV.apart {α : Type} {K : RK α} (hne : K.ty ≠ 56) {w : World} {base b : Nat} {u v : Value} {l : List α} (h : SPV w base u) (ho : OwnG K w b v l) {g : Nat} (hg : v.ownBlock = some g) : some g ≠ u.ownBlock := by
  rcases h with rfl | ⟨g', o, n, cap, N, rfl, _, ⟨cur, h1, _⟩, _⟩
  · intro e; cases e
  · intro e
    have e : g = g' := by simpa [Value.ownBlock] using e
    subst e
    rcases ho.2 with ⟨e, _⟩ | ⟨g1, cap1, cur1, e1, _, e3, _⟩
    · rw [e] at hg; cases hg
    · rw [e1] at hg
      have e4 : g1 = g := by simpa [Value.ownBlock] using hg
      subst e4
      rw [h1] at e3
      injection e3 with e3
      injection e3 with _ e3
      exact hne e3.symm
theorem SPV.low {w : World} {base base' : Nat} {v : Value} (h : SPV w base v) (hb' : base' ≤ base) : SPV w base' v := by
  rcases h with h | ⟨g, o, n, cap, N, rfl, hb, h3⟩
  · exact Or.inl h
  · exact Or.inr ⟨g, o, n, cap, N, rfl, by omega, h3⟩
set_option maxHeartbeats 4000000 in
set_option maxRecDepth 100000 in
theorem spoil_any (w : World) (base : Nat) (v : Value) (h : SPV w base v) :
    Calls Tryd.prog 13 #[v] w fun e w' => e = .returned (.tuple #[]) ∧ Below base w w' ∧ (∀ j, some j ≠ v.ownBlock → w'.heap[j]? = w.heap[j]?) ∧ ∀ b u, SPV w b u → SPV w' b u := by
  rcases h with rfl | ⟨g, o, n, cap, N, rfl, hb, hab, ho, hcm, hnc⟩
  · go_enter Tryd.func13, Tryd.ntmps13
    go_wp2
    go_loop [2] (fun a => a = .int .i64 0) (fun _ => 0)
    case atStart => exact rfl
    case round =>
      obtain rfl := hrel
      go_wp2
      go_end0
      exact ⟨rfl, Below.refl _ _, fun _ _ => rfl, fun b u h => h⟩
  · have R0 : Hid (AB w g N) := hab
    have FIN : Hid (∀ wk, AB wk g N → KB (some g) w wk → Below base w wk ∧ (∀ j, some j ≠ some g → wk.heap[j]? = w.heap[j]?) ∧ ∀ b u, SPV w b u → SPV wk b u) := fun wk h1 h2 => by
      refine ⟨h2.below (fun x hx => by injection hx with hx; omega), h2.block, fun b u hu => ?_⟩
      rcases hu with hu | ⟨g', o', n', cap', N', rfl, hb', hab', h3⟩
      · exact Or.inl hu
      · by_cases e : g' = g
        · subst e
          obtain ⟨c1, a1, a2⟩ := hab'
          obtain ⟨c2, b1, b2⟩ := hab
          rw [a1] at b1
          injection b1 with b1
          injection b1 with b1 _
          subst b1
          exact Or.inr ⟨g', o', n', cap', N, rfl, hb', h1, by omega, h3.2⟩
        · exact Or.inr ⟨g', o', n', cap', N', rfl, hb', (by obtain ⟨c, a1, a2⟩ := hab'; exact ⟨c, (h2.block g' (fun q => e (by injection q))).trans a1, a2⟩), h3⟩
    clear hab hb
    go_enter Tryd.func13, Tryd.ntmps13
    go_wp2
    go_loopw [2] (fun v2 wr => ∃ (k : Nat) (wk : World), v2 = .int .i64 k ∧ wk = wr ∧ k ≤ cap ∧ Hid (AB wk g N) ∧ Hid (KB (some g) w wk)) (fun v2 _ => cap - (intOf v2).toNat)
    case atStart => exact ⟨0, _, rfl, rfl, Nat.zero_le _, R0, KB.refl _ _⟩
    case round =>
      obtain ⟨k, wr, rfl, rfl, hk, HR, HK⟩ := hrel
      clear R0
      by_cases hlt : k < cap
      · obtain ⟨z0, hz0⟩ := HR.out.cell (o := o + k * 4) (by omega)
        obtain ⟨z1, hz1⟩ := HR.out.cell (o := o + k * 4 + 1) (by omega)
        obtain ⟨z2, hz2⟩ := HR.out.cell (o := o + k * 4 + 2) (by omega)
        obtain ⟨z3, hz3⟩ := HR.out.cell (o := o + k * 4 + 3) (by omega)
        have f0 := HR.out.frozen (o + k * 4)
        have f1 := HR.out.frozen (o + k * 4 + 1)
        have f2 := HR.out.frozen (o + k * 4 + 2)
        have f3 := HR.out.frozen (o + k * 4 + 3)
        have hz1' : ∀ v, (wr.setCell ⟨g, o + k * 4, none⟩ v).cell? ⟨g, o + k * 4 + 1, none⟩ = some z1 := fun v => (World.cell?_setCell_other _ _ _ _ (by intro e; injection e with _ e2 _; omega)).trans hz1
        have hz2' : ∀ v u, ((wr.setCell ⟨g, o + k * 4, none⟩ v).setCell ⟨g, o + k * 4 + 1, none⟩ u).cell? ⟨g, o + k * 4 + 2, none⟩ = some z2 := fun v u => (World.cell?_setCell_other _ _ _ _ (by intro e; injection e with _ e2 _; omega)).trans ((World.cell?_setCell_other _ _ _ _ (by intro e; injection e with _ e2 _; omega)).trans hz2)
        have hz3' : ∀ v u x, (((wr.setCell ⟨g, o + k * 4, none⟩ v).setCell ⟨g, o + k * 4 + 1, none⟩ u).setCell ⟨g, o + k * 4 + 2, none⟩ x).cell? ⟨g, o + k * 4 + 3, none⟩ = some z3 := fun v u x => (World.cell?_setCell_other _ _ _ _ (by intro e; injection e with _ e2 _; omega)).trans ((World.cell?_setCell_other _ _ _ _ (by intro e; injection e with _ e2 _; omega)).trans ((World.cell?_setCell_other _ _ _ _ (by intro e; injection e with _ e2 _; omega)).trans hz3))
        have f1' : ∀ v, (wr.setCell ⟨g, o + k * 4, none⟩ v).frozen? ⟨g, o + k * 4 + 1, none⟩ = false := fun v => (HR.out.set _ v).frozen _
        have f2' : ∀ v u, ((wr.setCell ⟨g, o + k * 4, none⟩ v).setCell ⟨g, o + k * 4 + 1, none⟩ u).frozen? ⟨g, o + k * 4 + 2, none⟩ = false := fun v u => ((HR.out.set _ v).set _ u).frozen _
        have f3' : ∀ v u x, (((wr.setCell ⟨g, o + k * 4, none⟩ v).setCell ⟨g, o + k * 4 + 1, none⟩ u).setCell ⟨g, o + k * 4 + 2, none⟩ x).frozen? ⟨g, o + k * 4 + 3, none⟩ = false := fun v u x => (((HR.out.set _ v).set _ u).set _ x).frozen _
        have NX : Hid (∀ x y z t, AB ((((wr.setCell ⟨g, o + k * 4, none⟩ x).setCell ⟨g, o + k * 4 + 1, none⟩ y).setCell ⟨g, o + k * 4 + 2, none⟩ z).setCell ⟨g, o + k * 4 + 3, none⟩ t) g N ∧ KB (some g) w ((((wr.setCell ⟨g, o + k * 4, none⟩ x).setCell ⟨g, o + k * 4 + 1, none⟩ y).setCell ⟨g, o + k * 4 + 2, none⟩ z).setCell ⟨g, o + k * 4 + 3, none⟩ t)) := fun x y z t => ⟨(((HR.out.set _ x).set _ y).set _ z).set _ t, (((HK.out.set _ x).set _ y).set _ z).set _ t⟩
        go_wp2
        go_roundw
        case rel => exact ⟨k + 1, _, by go_num, rfl, by omega, (NX.out _ _ _ _).1, (NX.out _ _ _ _).2⟩
        case measure => simp [intOf]; omega
      · go_wp2
        go_end0
        exact ⟨rfl, FIN.out _ HR.out HK.out⟩
end Go.Proofs.YtahcllncjpaijaaDoor
