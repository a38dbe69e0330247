/- Names: CopyProviders. -/
import Derived.Test.YthmppnmmlblbhaaDoorPr1
import Derived.Test.YthmppnmmlblbhaaDoorPs1
namespace Go.Proofs.YthmppnmmlblbhaaDoor
open Go.RowKit

/-- A provider, and where its expression lies. -/
structure Pvx where
  p : Prv
  q : Option Addr
  c : Nat
def Pvx.v (x : Pvx) : Value := .slice x.q x.p.ops.length x.c
def pvxC (x : Pvx) : List Value := [.string x.p.name, .slice x.q x.p.ops.length x.c, .bool x.p.again, .int .i64 x.p.pol.t, .int .i64 x.p.pol.b, .int .i64 x.p.pol.f, .int .i64 x.p.pol.c, .int .i64 x.p.ck, .string x.p.ct]
def KP : RK Pvx := ⟨60, 9, 104, .agg zPrv, pvxC⟩
theorem KP_ok : KP.Ok Tryd.prog :=
  ⟨fun _ => rfl, fun x u hu => by simp [KP, pvxC] at hu; rcases hu with rfl | rfl | rfl | rfl | rfl | rfl | rfl | rfl | rfl <;> rfl, rfl, by decide, by decide, info_parts' (by kernel_rfl)⟩
/-- The slice reads as these providers, and each one's expression as its own. -/
structure PR (w : World) (v : Value) (L : List Pvx) : Prop where
  gs : GS KP w v L
  ps : ∀ x ∈ L, PS w x.p x.v
theorem PR.below {w w' : World} {v : Value} {L : List Pvx} (h : PR w v L) (b : Below w.heap.size w w') : PR w' v L := ⟨h.gs.below b, fun x hx => (h.ps x hx).below b⟩
theorem GS.atP {w : World} {p : Option Addr} {n cap k : Nat} {l : List Pvx} (h : GS KP w (.slice p n cap) l) (hk : k < l.length) : ∃ X o, p = some ⟨X, o, none⟩ ∧ w.cell? ⟨X, o + k * 9, none⟩ = some (.string l[k].p.name) ∧ w.cell? ⟨X, o + k * 9 + 1, none⟩ = some (.slice l[k].q l[k].p.ops.length l[k].c) ∧ w.cell? ⟨X, o + k * 9 + 2, none⟩ = some (.bool l[k].p.again) ∧ w.cell? ⟨X, o + k * 9 + 3, none⟩ = some (.int .i64 l[k].p.pol.t) ∧ w.cell? ⟨X, o + k * 9 + 4, none⟩ = some (.int .i64 l[k].p.pol.b) ∧ w.cell? ⟨X, o + k * 9 + 5, none⟩ = some (.int .i64 l[k].p.pol.f) ∧ w.cell? ⟨X, o + k * 9 + 6, none⟩ = some (.int .i64 l[k].p.pol.c) ∧ w.cell? ⟨X, o + k * 9 + 7, none⟩ = some (.int .i64 l[k].p.ck) ∧ w.cell? ⟨X, o + k * 9 + 8, none⟩ = some (.string l[k].p.ct) := by
  obtain ⟨X, o, h1, _, h2⟩ := GS.at h hk
  exact ⟨X, o, h1, h2 0 _ rfl, h2 1 _ rfl, h2 2 _ rfl, h2 3 _ rfl, h2 4 _ rfl, h2 5 _ rfl, h2 6 _ rfl, h2 7 _ rfl, h2 8 _ rfl⟩
/-- Rows of two types lie in two blocks. -/
theorem own_apart {α β : Type} {K : RK α} {K' : RK β} (hne : K.ty ≠ K'.ty) {w : World} {b b' : Nat} {v v' : Value} {l : List α} {l' : List β} (h : OwnG K w b v l) (h' : OwnG K' w b' v' l') {g : Nat} (hg : v.ownBlock = some g) : some g ≠ v'.ownBlock := by
  rcases h.2 with ⟨e, _⟩ | ⟨g1, cap, cur, e1, _, e3, _⟩
  · rw [e] at hg; cases hg
  · rcases h'.2 with ⟨e, _⟩ | ⟨g2, cap2, cur2, f1, _, f3, _⟩
    · rw [e]; intro q; cases q
    · rw [e1] at hg
      injection hg with hg
      rw [f1]
      intro q
      injection q with q
      have e4 : g1 = g2 := hg.trans q
      subst e4
      rw [e3] at f3
      injection f3 with f3
      injection f3 with _ f3
      exact hne f3
def nameL (L : List Prv) : List ByteArray := L.map (·.name)
/-- Does the one at a place have the name of one ahead of it? -/
def dupB (L : List Prv) (k : Nat) : Bool := seenK (nameL L) k ((nameL L).getD k ByteArray.empty)
def badAt (L : List Prv) : Nat := L.findIdx fun p => prvE p != 0
def dupAt (L : List Prv) : Nat := (List.range L.length).findIdx fun k => dupB L k
/-- What is wrong with a set: where, and how. -/
def setF (L : List Prv) : Int × Int := if 256 < L.length then (0, 3) else if h : badAt L < L.length then (badAt L, prvE L[badAt L]) else if dupAt L < L.length then (dupAt L, 6) else (0, 0)
theorem setF_long {L : List Prv} (h : 256 < L.length) : setF L = (0, 3) := by unfold setF; rw [if_pos h]
theorem setF_bad {L : List Prv} (h : ¬ 256 < L.length) {k : Nat} (hk : k < L.length) (ha : ∀ j (hj : j < k), prvE (L[j]'(by omega)) = 0) (hb : prvE L[k] ≠ 0) : setF L = ((k : Int), prvE L[k]) := by
  have e : badAt L = k := (List.findIdx_eq hk).2 ⟨by simpa using hb, fun j hj => by simpa using ha j hj⟩
  unfold setF
  rw [if_neg h]
  simp only [e]
  rw [dif_pos hk]
theorem badAt_none {L : List Prv} (ha : ∀ j (hj : j < L.length), prvE L[j] = 0) : badAt L = L.length := by
  refine List.findIdx_eq_length.2 fun x hx => ?_
  obtain ⟨j, hj, rfl⟩ := List.mem_iff_getElem.1 hx
  simpa using ha j hj
theorem setF_dup {L : List Prv} (h : ¬ 256 < L.length) (ha : ∀ j (hj : j < L.length), prvE L[j] = 0) {k : Nat} (hk : k < L.length) (hd : ∀ j, j < k → dupB L j = false) (hb : dupB L k = true) : setF L = ((k : Int), 6) := by
  have e : dupAt L = k := (List.findIdx_eq (by simpa using hk)).2 ⟨by simpa using hb, fun j hj => by simpa using hd j hj⟩
  unfold setF
  rw [if_neg h, dif_neg (by rw [badAt_none ha]; omega), e, if_pos hk]
theorem setF_ok {L : List Prv} (h : ¬ 256 < L.length) (ha : ∀ j (hj : j < L.length), prvE L[j] = 0) (hd : ∀ j, j < L.length → dupB L j = false) : setF L = (0, 0) := by
  have e : dupAt L = L.length := by
    have := List.findIdx_eq_length (p := fun k => dupB L k) (xs := List.range L.length)
    rw [List.length_range] at this
    exact this.2 fun x hx => hd x (List.mem_range.1 hx)
  unfold setF
  rw [if_neg h, dif_neg (by rw [badAt_none ha]; omega), e, if_neg (by omega)]
theorem setF_fine {L : List Prv} (h : (setF L).2 = 0) : L.length ≤ 256 ∧ (∀ j (hj : j < L.length), prvE L[j] = 0) ∧ (∀ j, j < L.length → dupB L j = false) ∧ setF L = (0, 0) := by
  by_cases h1 : 256 < L.length
  · rw [setF_long h1] at h; simp at h
  · by_cases h2 : ∀ j (hj : j < L.length), prvE L[j] = 0
    · by_cases h3 : ∀ j, j < L.length → dupB L j = false
      · exact ⟨by omega, h2, h3, setF_ok h1 h2 h3⟩
      · exfalso
        have hlt : dupAt L < L.length := by
          have := List.findIdx_le_length (p := fun k => dupB L k) (xs := List.range L.length)
          rw [List.length_range] at this
          by_cases e : dupAt L = L.length
          · exfalso
            refine h3 fun j hj => ?_
            have e2 := (List.findIdx_eq_length (p := fun k => dupB L k) (xs := List.range L.length)).1 (by rw [List.length_range]; exact e)
            exact e2 j (List.mem_range.2 hj)
          · unfold dupAt at e ⊢; omega
        unfold setF at h
        rw [if_neg h1, dif_neg (by rw [badAt_none h2]; omega), if_pos hlt] at h
        simp at h
    · exfalso
      have hlt : badAt L < L.length := by
        have := List.findIdx_le_length (p := fun p => prvE p != 0) (xs := L)
        by_cases e : badAt L = L.length
        · exfalso
          refine h2 fun j hj => ?_
          have e2 := (List.findIdx_eq_length (p := fun p => prvE p != 0) (xs := L)).1 e
          simpa using e2 _ (List.getElem_mem hj)
        · unfold badAt at e ⊢; omega
      unfold setF at h
      rw [if_neg h1, dif_pos hlt] at h
      have e2 := List.findIdx_getElem (p := fun p => prvE p != 0) (xs := L) (w := hlt)
      simp only [bne_iff_ne, ne_eq] at e2
      exact e2 h
end Go.Proofs.YthmppnmmlblbhaaDoor
namespace Go.Proofs.YthmppnmmlblbhaaDoor
open Go.RowKit

def pL (L : List Pvx) : List Prv := L.map (·.p)
theorem pL_len (L : List Pvx) : (pL L).length = L.length := by unfold pL; simp
theorem pL_at {L : List Pvx} {k : Nat} (h : k < L.length) : (pL L)[k]'(by rw [pL_len]; exact h) = L[k].p := by unfold pL; simp
/-- Where CopyProviders stands: the first k are copied. -/
structure CPS (w wk : World) (vs : Value) (L M : List Pvx) (k : Nat) : Prop where
  eq : pL M = pL (L.take k)
  own : OwnG KP wk w.heap.size vs M
  each : ∀ x ∈ M, OwnG KO wk w.heap.size x.v x.p.ops
  bl : Below w.heap.size w wk
theorem CPS.len {w wk : World} {vs : Value} {L M : List Pvx} {k : Nat} (h : CPS w wk vs L M k) (hk : k ≤ L.length) : M.length = k := by
  have := congrArg List.length h.eq
  rw [pL_len, pL_len, List.length_take] at this
  omega
theorem CPS.next {w wr w1 w2 : World} {vs vs2 : Value} {L M : List Pvx} {k : Nat} {x : Pvx} (h : CPS w wr vs L M k) (hk : k < L.length) (b1 : Below wr.heap.size wr w1) (o1 : OwnG KO w1 wr.heap.size x.v x.p.ops) (hx : x.p = L[k].p)
    (ho2 : OwnG KP w2 w.heap.size vs2 (M ++ [x])) (hb2 : Below w.heap.size w1 w2) (hk2 : ∀ j, j < w1.heap.size → some j ≠ vs.ownBlock → w2.heap[j]? = w1.heap[j]?) : CPS w w2 vs2 L (M ++ [x]) (k + 1) := by
  have hsz := h.bl.size
  have ne : KO.ty ≠ KP.ty := by decide
  refine ⟨?_, ho2, fun y hy => ?_, (h.bl.trans (b1.mono h.bl.size)).trans hb2⟩
  · have e : L.take (k + 1) = L.take k ++ [L[k]] := by rw [List.take_add_one, List.getElem?_eq_getElem hk]; rfl
    have := h.eq
    unfold pL at this ⊢
    rw [e, List.map_append, List.map_append, this]
    simp [hx]
  · rw [List.mem_append, List.mem_singleton] at hy
    rcases hy with hy | rfl
    · have o := (h.each y hy).below b1
      exact o.far fun g hg => hk2 g (o.lt hg).2 (own_apart ne o (h.own.below b1) hg)
    · have o := o1.low h.bl.size
      exact o.far fun g hg => hk2 g (o.lt hg).2 (own_apart ne o (h.own.below b1) hg)
set_option maxHeartbeats 4000000 in
theorem copyProvs_any (v : Value) (L : List Pvx) (w : World) (h : PR w v L) (hl : L.length * 104 ≤ 140737488355328) :
    Calls Tryd.prog 9 #[v] w fun e w' => ∃ p c M, e = .returned (.slice p L.length c) ∧ CPS w w' (.slice p L.length c) L M L.length := by
  obtain ⟨p, cap, rfl⟩ := h.gs.form
  have HS : Hid (PR w (.slice p L.length cap) L) := h
  have D0 : Hid (CPS w (w.alloc (.cells #[] 60)) (.slice (some ⟨w.heap.size, 0, none⟩) 0 0) L [] 0) := ⟨by simp [pL], OwnG.empty KP w, by simp, (Below.refl _ _).alloc (Nat.le_refl _) _⟩
  have CE : Hid (∀ w1 k (hk : k < L.length), Below w.heap.size w w1 → Calls Tryd.prog 38 #[.agg #[.string L[k].p.name, .slice L[k].q L[k].p.ops.length L[k].c, .bool L[k].p.again, .int .i64 L[k].p.pol.t, .int .i64 L[k].p.pol.b, .int .i64 L[k].p.pol.f, .int .i64 L[k].p.pol.c, .int .i64 L[k].p.ck, .string L[k].p.ct]] w1 fun e w' => ∃ q c, e = .returned (.agg #[.string L[k].p.name, .slice q L[k].p.ops.length c, .bool L[k].p.again, .int .i64 L[k].p.pol.t, .int .i64 L[k].p.pol.b, .int .i64 L[k].p.pol.f, .int .i64 L[k].p.pol.c, .int .i64 L[k].p.ck, .string L[k].p.ct]) ∧ OwnG KO w' w1.heap.size (.slice q L[k].p.ops.length c) L[k].p.ops ∧ Below w1.heap.size w1 w') := fun w1 k hk b => copyProv_any L[k].p L[k].v w1 ((h.ps _ (List.getElem_mem hk)).below b)
  have NX : Hid (∀ k (hk : k < L.length) (wr w1 w2 : World) (vs vs2 : Value) (M : List Pvx) (x : Pvx), CPS w wr vs L M k → Below wr.heap.size wr w1 → OwnG KO w1 wr.heap.size x.v x.p.ops → x.p = L[k].p → OwnG KP w2 w.heap.size vs2 (M ++ [x]) → Below w.heap.size w1 w2 → (∀ j, j < w1.heap.size → some j ≠ vs.ownBlock → w2.heap[j]? = w1.heap[j]?) → CPS w w2 vs2 L (M ++ [x]) (k + 1)) := fun k hk wr w1 w2 vs vs2 M x a b c d e f g => a.next hk b c d e f g
  have HL : Hid (∀ k, k < L.length → (k + 1) * KP.B ≤ 140737488355328) := fun k hk => by show (k + 1) * 104 ≤ _; omega
  clear h
  go_enter Tryd.func9, Tryd.ntmps9
  go_wp2
  go_loopw [3, 4] (fun v3 v4 wr => ∃ (k g c : Nat) (M : List Pvx) (wk : World), v4 = .int .i64 k ∧ v3 = .slice (some ⟨g, 0, none⟩) M.length c ∧ wk = wr ∧ k ≤ L.length ∧ Hid (M.length = k) ∧ Hid (CPS w wk (.slice (some ⟨g, 0, none⟩) M.length c) L M k)) (fun _ v4 _ => L.length - (intOf v4).toNat)
  case atStart => exact ⟨0, _, 0, [], _, rfl, rfl, rfl, Nat.zero_le _, rfl, D0⟩
  case round =>
    obtain ⟨k, g, cp, M, wr, rfl, rfl, rfl, hk, HM, HI⟩ := hrel
    clear D0
    by_cases hlt : k < L.length
    · obtain ⟨X, o, e1, x0, x1, x2, x3, x4, x5, x6, x7, x8⟩ := (HS.out.gs.below HI.out.bl).atP hlt
      obtain rfl : p = some ⟨X, o, none⟩ := e1
      have C1 : Hid _ := CE.out wr k hlt HI.out.bl
      have NX1 : Hid _ := NX.out k hlt
      have LS : Hid ((M.length + 1) * KP.B ≤ 140737488355328) := by have := HL.out k hlt; rw [← HM.out] at this; exact this
      have HML : Hid (∀ x, (M ++ [x]).length = k + 1) := fun x => by have := HM.out; simp; omega
      obtain ⟨c, hc⟩ : ∃ c, c = L[k] := ⟨_, rfl⟩
      rw [← hc] at x0 x1 x2 x3 x4 x5 x6 x7 x8 C1 NX1
      clear hc CE NX HS HL
      go_wp2_with fail
      refine Calls.mono C1.out ?_
      rintro e w1 ⟨q, cq, rfl, ho1, hb1⟩
      have O1 : Hid (OwnG KO w1 wr.heap.size (.slice q c.p.ops.length cq) c.p.ops) := ho1
      have B1 : Hid (Below wr.heap.size wr w1) := hb1
      have I1 : Hid (OwnG KP w1 w.heap.size (.slice (some ⟨g, 0, none⟩) M.length cp) M) := HI.out.own.below hb1
      have Z1 : Hid (w.heap.size ≤ w1.heap.size) := Nat.le_trans HI.out.bl.size hb1.size
      clear ho1 hb1 C1 x0 x1 x2 x3 x4 x5 x6 x7 x8
      go_wp2_with (at_builtin; refine append_g KP KP_ok rfl (.tmp 12) (.tmp 18) 22 rfl w.heap.size Tryd.underlying22 w1 _ _ (.slice (some ⟨g, 0, none⟩) M.length cp) M ⟨c.p, q, cq⟩ _ rfl I1.out _ rfl rfl rfl LS.out Z1.out ?_; intro g2 c2 w2 ho2 hb2 hk2 hg2)
      have H2 : Hid (CPS w w2 (.slice (some ⟨g2, 0, none⟩) (M ++ [(⟨c.p, q, cq⟩ : Pvx)]).length c2) L (M ++ [(⟨c.p, q, cq⟩ : Pvx)]) (k + 1)) := NX1.out wr w1 w2 _ _ M ⟨c.p, q, cq⟩ HI.out B1.out O1.out rfl (by rw [List.length_append]; exact ho2) hb2 hk2
      have hne : (M ++ [(⟨c.p, q, cq⟩ : Pvx)]).length = M.length + 1 := by simp
      clear ho2 hb2 hk2 NX1
      go_roundw
      case rel => exact ⟨k + 1, g2, c2, M ++ [⟨c.p, q, cq⟩], _, by go_num, by rw [hne], rfl, by omega, HML.out _, H2⟩
      case measure => simp [intOf]; omega
    · have hke : k = L.length := by omega
      subst hke
      have HM2 := HM.out
      go_wp2
      go_ret
      exact ⟨some ⟨g, 0, none⟩, cp, M, (show _ = Ending.returned (.slice (some ⟨g, 0, none⟩) M.length cp) from rfl).trans (by rw [HM2]), by have := HI.out; rw [HM2] at this; exact this⟩
end Go.Proofs.YthmppnmmlblbhaaDoor
