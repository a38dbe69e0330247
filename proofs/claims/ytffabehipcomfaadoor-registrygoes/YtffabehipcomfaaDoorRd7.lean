/- Registry, the statements: what play keeps. -/
import Derived.Test.YtffabehipcomfaaDoorRd6
namespace Go.Proofs.YtffabehipcomfaaDoor
open Go.RowKit Go.Maps

theorem GX.low {w : World} {base base' r m : Nat} {vs : Value} {L : List Pvx} {fz : Bool} (h : GX w base r m vs L fz) (hb : base' ≤ base) : GX w base' r m vs L fz :=
  { h with own := h.own.low hb, each := fun x hx => (h.each x hx).low hb, gr := Nat.le_trans hb h.gr, gm := Nat.le_trans hb h.gm }
theorem yb_but {w w' : World} {base r m : Nat} {vs : Value} {L : List Pvx} {fz : Bool} (h : GX w base r m vs L fz) (k : But (FX r m vs) w w') {b : Nat} {v : Value} {f : Bool} (y : YB w b v f) : YB w' b v f := by
  refine (k.block b (lt_heap y) (fun q => ?_)).trans y
  unfold YB at y
  rcases q with q | q | q
  · subst q
    rw [h.hp] at y
    injection y with y
    injection y with _ y _
    exact absurd y (by decide)
  · subst q
    obtain ⟨D, ⟨es, cl, h1, _⟩, _⟩ := h.mv
    rw [y] at h1; cases h1
  · obtain ⟨cur, hc⟩ := h.own.ty q
    rw [hc] at y
    injection y with y
    injection y with _ y _
    exact absurd y (by decide)
theorem yb_own {w w' : World} {base : Nat} {v1 : Value} {l : List Opn} (o : OwnG KO w base v1 l) (k : But (fun x => v1.ownBlock = some x) w w') {b : Nat} {v : Value} {f : Bool} (y : YB w b v f) : YB w' b v f := by
  refine (k.block b (lt_heap y) (fun q => ?_)).trans y
  obtain ⟨cur, hc⟩ := o.ty q
  unfold YB at y
  rw [hc] at y
  injection y with y
  injection y with _ y _
  exact absurd y (by decide)
theorem HX.pr {base r m : Nat} {fz : Bool} {vh : Value} {M : List Pvx} {w : World} (h : HX base r m fz (pL M) vh M w) : PR w vh M := by
  obtain ⟨vs, L, h1, h2, h3⟩ := h.ex
  refine ⟨h.ho.gs KP_ok.len, fun x hx => ?_⟩
  have : x.p ∈ pL L := by rw [h2]; exact List.mem_map.2 ⟨x, hx, rfl⟩
  obtain ⟨y, hy, e⟩ := List.mem_map.1 this
  exact ⟨(h.he x hx).gs KO_ok.len, by rw [← e]; exact h1.tx y hy, by rw [← e]; exact h1.nm y hy, by rw [← e]; have := chk_len (h1.ok y hy); omega⟩
theorem HX.tw {base r m : Nat} {fz : Bool} {vh : Value} {M : List Pvx} {w : World} (h : HX base r m fz (pL M) vh M w) : ∃ vs L, TW w base r m vs L fz vh M := by
  obtain ⟨vs, L, h1, h2, h3⟩ := h.ex
  exact ⟨vs, L, h1, h.pr, h2.symm⟩
theorem HX.len256 {base r m : Nat} {fz : Bool} {vh : Value} {M : List Pvx} {w : World} (h : HX base r m fz (pL M) vh M w) : M.length ≤ 256 := by
  obtain ⟨vs, L, h1, h2, h3⟩ := h.ex
  have : L.length = M.length := by rw [← pL_len L, h2, pL_len]
  rw [← this]; exact h1.ln
/-- Beside them an expression that nobody else has. -/
structure PA (base r m : Nat) (fz : Bool) (P : List Prv) (vh : Value) (M : List Pvx) (v1 : Value) (ops : List Opn) (w : World) : Prop where
  ex : ∃ vs L, GX w base r m vs L fz ∧ pL L = P ∧ (∀ g, vh.ownBlock = some g → vs.ownBlock ≠ some g) ∧ ∀ y ∈ L, ∀ g, y.v.ownBlock = some g → v1.ownBlock ≠ some g
  ho : OwnG KP w base vh M
  he : ∀ x ∈ M, OwnG KO w base x.v x.p.ops
  na : ∀ x ∈ M, ∀ g, x.v.ownBlock = some g → v1.ownBlock ≠ some g
  ow : OwnG KO w base v1 ops
theorem PA.below {base r m : Nat} {fz : Bool} {P : List Prv} {vh : Value} {M : List Pvx} {v1 : Value} {ops : List Opn} {w w' : World} (h : PA base r m fz P vh M v1 ops w) (b : Below w.heap.size w w') : PA base r m fz P vh M v1 ops w' := by
  obtain ⟨⟨vs, L, h1, h2, h3, h4⟩, ho, he, na, ow⟩ := h
  exact ⟨⟨vs, L, h1.below b, h2, h3, h4⟩, ho.below b, fun x hx => (he x hx).below b, na, ow.below b⟩
theorem PA.start {base r m : Nat} {fz : Bool} {P : List Prv} {vh : Value} {M : List Pvx} {v1 : Value} {ops : List Opn} {w w' : World} (h : HX base r m fz P vh M w) (b : Below w.heap.size w w') (o : OwnG KO w' w.heap.size v1 ops) : PA base r m fz P vh M v1 ops w' := by
  obtain ⟨⟨vs, L, h1, h2, h3⟩, ho, he⟩ := h
  have hb : base ≤ w.heap.size := Nat.le_trans h1.gr (Nat.le_of_lt (lt_heap h1.hp))
  have far : ∀ (v : Value) (l : List Opn), OwnG KO w base v l → ∀ g, v.ownBlock = some g → v1.ownBlock ≠ some g := fun v l ov g hg q => by
    have := (ov.lt hg).2
    have := (o.lt q).1
    omega
  exact ⟨⟨vs, L, h1.below b, h2, h3, fun y hy => far _ _ (h1.each y hy)⟩, ho.below b, fun x hx => (he x hx).below b, fun x hx => far _ _ (he x hx), o.low hb⟩
theorem PA.add {base r m : Nat} {fz : Bool} {P : List Prv} {vh : Value} {M : List Pvx} {v1 : Value} {ops : List Opn} {w0 w : World} (h0 : PA base r m fz P vh M v1 ops w0) (b0 : Below w0.heap.size w0 w) (p : Prv) (ve : Value) (hp : PS w p ve) (hv : NV w) :
    Calls Tryd.prog 9 #[.pointer (some ⟨r, 0, none⟩), prvV p ve] w fun e w' => e = .returned (.tuple #[.int .i64 (addN P fz p : Nat), .int .i64 (addE P fz p)]) ∧ PA base r m fz (addL P fz p) vh M v1 ops w' ∧ Below base w w' ∧ (∀ b v f, YB w b v f → YB w' b v f) ∧ ∀ b, w0.heap.size ≤ b → b < w.heap.size → w'.heap[b]? = w.heap[b]? := by
  obtain ⟨⟨vs, L, g0, rfl, h3, h4⟩, ho, he, na, ow⟩ := h0
  have h1 := g0.below b0
  have ho1 := ho.below b0
  have he1 := fun x hx => (he x hx).below b0
  have ow1 := ow.below b0
  refine (add_any_r p ve w h1 hp hv).mono ?_
  rintro e w' ⟨rfl, ⟨vs', L', a1, a2, a3, a4⟩, k⟩
  have far : ∀ (v : Value) (l : List Opn), OwnG KO w base v l → OwnG KO w' base v l := fun v l o => o.far fun g hg => by
    have hn := h1.ne o (by decide) hg
    refine k.block g (o.lt hg).2 (fun q => ?_)
    rcases q with q | q | q
    · exact hn.1 q
    · exact hn.2 q
    · exact own_apart (by decide) o h1.own hg q.symm
  refine ⟨rfl, ⟨⟨vs', L', a1, a2, fun g hg q => ?_, fun y hy g hg q => ?_⟩, ho1.far fun g hg => ?_, fun x hx => far _ _ (he1 x hx), na, far _ _ ow1⟩, k.low h1, fun b v f y => yb_but h1 k y, fun b hb1 hb2 => k.block b hb2 (fun q => ?_)⟩
  · rcases a3 g q with e | e
    · exact h3 g hg e
    · have := (ho1.lt hg).2; omega
  · rcases a4 y hy with e | e
    · exact h4 y e g hg q
    · have := e g hg
      have := (ow1.lt q).2; omega
  · have hn := h1.ne ho1 (by decide) hg
    refine k.block g (ho1.lt hg).2 (fun q => ?_)
    rcases q with q | q | q
    · exact hn.1 q
    · exact hn.2 q
    · exact h3 g hg q
  · rcases q with q | q | q
    · have := lt_heap g0.hp; omega
    · have := g0.mv.lt; omega
    · have := (g0.own.lt q).2; omega
theorem PA.radd {base r m : Nat} {fz : Bool} {vh vh' : Value} {M : List Pvx} {v1 : Value} {ops : List Opn} {w w' : World} {p : Prv} (h : PA base r m fz (addL (pL M) fz p) vh M v1 ops w) (k : RAd w w' vh vh' M fz p) : ∃ M', pL M' = addL (pL M) fz p ∧ PA base r m fz (pL M') vh' M' v1 ops w' := by
  have h' := h.below k.bl
  by_cases he : addE (pL M) fz p = 0
  · obtain ⟨q, c, o1, o2⟩ := k.yes he
    obtain ⟨⟨vs, L, h1, h2, h3, h4⟩, ho, he', na, ow⟩ := h
    have hb : base ≤ w.heap.size := Nat.le_trans h1.gr (Nat.le_of_lt (lt_heap h1.hp))
    have e : pL (M ++ [⟨p, q, c⟩]) = addL (pL M) fz p := by unfold addL; rw [if_pos he]; unfold pL; rw [List.map_append]; rfl
    refine ⟨M ++ [⟨p, q, c⟩], e, ⟨⟨vs, L, h1.below k.bl, by rw [e]; exact h2, fun g hg q' => ?_, h4⟩, o1.low hb, fun x hx => ?_, fun x hx g hg q' => ?_, ow.below k.bl⟩⟩
    · have := (o1.lt hg).1
      have := (h1.own.lt q').2; omega
    · rcases List.mem_append.1 hx with hx | hx
      · exact (he' x hx).below k.bl
      · obtain rfl := List.mem_singleton.1 hx; exact o2.low hb
    · rcases List.mem_append.1 hx with hx | hx
      · exact na x hx g hg q'
      · obtain rfl := List.mem_singleton.1 hx
        have := (o2.lt hg).1
        have := (ow.lt q').2; omega
  · have e := k.no he
    subst e
    have e2 : addL (pL M) fz p = pL M := by unfold addL; rw [if_neg he]
    exact ⟨M, e2.symm, by rw [e2] at h'; exact h'⟩
theorem PA.spoil {base r m : Nat} {fz : Bool} {P : List Prv} {vh : Value} {M : List Pvx} {v1 : Value} {ops : List Opn} {w w' : World} (h : PA base r m fz P vh M v1 ops w) (k : But (fun x => v1.ownBlock = some x) w w') : HX base r m fz P vh M w' ∧ Below base w w' := by
  obtain ⟨⟨vs, L, h1, h2, h3, h4⟩, ho, he, na, ow⟩ := h
  have hb : base ≤ w.heap.size := Nat.le_trans h1.gr (Nat.le_of_lt (lt_heap h1.hp))
  refine ⟨⟨⟨vs, L, h1.keep (fun x hx => ?_) (fun x hx g hg => k.block g ((h1.each x hx).lt hg).2 (h4 x hx g hg)), h2, h3⟩, ho.far fun g hg => k.block g (ho.lt hg).2 (fun q => own_apart (by decide) ow ho q hg.symm), fun x hx => (he x hx).far fun g hg => k.block g ((he x hx).lt hg).2 (na x hx g hg)⟩, ⟨k.os, k.tape, k.output, k.size, fun x hx => k.block x (by omega) (fun q => by have := (ow.lt q).1; omega)⟩⟩
  rcases hx with rfl | rfl | hx
  · exact k.block _ (lt_heap h1.hp) (fun q => (h1.ne ow (by decide) q).1 rfl)
  · exact k.block _ h1.mv.lt (fun q => (h1.ne ow (by decide) q).2 rfl)
  · exact k.block _ (h1.own.lt hx).2 (fun q => own_apart (by decide) ow h1.own q hx.symm)
theorem HX.freeze {base r m : Nat} {fz : Bool} {P : List Prv} {vh : Value} {M : List Pvx} {w : World} (h : HX base r m fz P vh M w) : Calls Tryd.prog 21 #[.pointer (some ⟨r, 0, none⟩)] w fun e w' => e = .returned (.tuple #[]) ∧ HX base r m true P vh M w' ∧ Below base w w' ∧ ∀ b v f, YB w b v f → YB w' b v f := by
  obtain ⟨⟨vs, L, h1, h2, h3⟩, ho, he⟩ := h
  refine (freeze_any w h1).mono ?_
  rintro e w' ⟨rfl, g, k⟩
  exact ⟨rfl, .turn h1 h3 ho he g h2 (fun _ q => Or.inl q) k, k.low h1, fun b v f y => yb_but h1 k y⟩
/-- A clone in its place, and the old one frozen. -/
theorem HX.clone {base r m : Nat} {fz : Bool} {P : List Prv} {vh : Value} {M : List Pvx} {w : World} (h : HX base r m fz P vh M w) : Calls Tryd.prog 22 #[.pointer (some ⟨r, 0, none⟩)] w fun e w' => ∃ R m', e = .returned (.pointer (some ⟨R, 0, none⟩)) ∧ Below w.heap.size w w' ∧
    Calls Tryd.prog 21 #[.pointer (some ⟨r, 0, none⟩)] w' fun e w2 => e = .returned (.tuple #[]) ∧ HX base R m' fz P vh M w2 ∧ Below base w' w2 ∧ ∀ b v f, YB w' b v f → YB w2 b v f := by
  obtain ⟨⟨vs, L, h1, h2, h3⟩, ho, he⟩ := h
  have hb : base ≤ w.heap.size := Nat.le_trans h1.gr (Nat.le_of_lt (lt_heap h1.hp))
  refine (clone_any w h1).mono ?_
  rintro e w' ⟨R, m', vs', L', rfl, g, ep, b⟩
  refine ⟨R, m', rfl, b, (freeze_any w' (h1.below b)).mono ?_⟩
  rintro e w2 ⟨rfl, g2, k⟩
  have old : ∀ x, FX r m vs x → x < w.heap.size := fun x q => by
    rcases q with q | q | q
    · rw [q]; exact lt_heap h1.hp
    · rw [q]; exact h1.mv.lt
    · exact (h1.own.lt q).2
  have hx := HX.turn (h1.below b) h3 (ho.below b) (fun x hx => (he x hx).below b) g2 h2 (fun _ q => Or.inl q) k
  refine ⟨rfl, ⟨⟨vs', L', (g.keep (fun x q => k.block x ?_ (fun f => ?_)) (fun x hx q hq => k.block q ((g.each x hx).lt hq).2 (fun f => ?_))).low hb, ep.trans h2, fun q hq e => ?_⟩, hx.ho, hx.he⟩, k.low (h1.below b), fun b' v f y => yb_but (h1.below b) k y⟩
  · rcases q with q | q | q
    · rw [q]; exact lt_heap g.hp
    · rw [q]; exact g.mv.lt
    · exact (g.own.lt q).2
  · have := old x f
    rcases q with q | q | q
    · have := g.gr; omega
    · have := g.gm; omega
    · have := (g.own.lt q).1; omega
  · have := old q f
    have := ((g.each x hx).lt hq).1; omega
  · have := (ho.lt hq).2
    have := (g.own.lt e).1; omega
theorem HX.told {base r m : Nat} {fz : Bool} {vh : Value} {M : List Pvx} {w : World} (h : HX base r m fz (pL M) vh M w) (hv : NV w) (s : ByteArray) (hs : s.size ≤ maxLen) (n : Int) : Calls Tryd.prog 23 #[.pointer (some ⟨r, 0, none⟩), .agg #[vh, .bool fz], .string s, .int .i64 n] w fun e w' => e = .returned (.bool true) ∧ Below w.heap.size w w' := by
  obtain ⟨vs, L, t⟩ := h.tw
  exact told_any s n w t hv hs
end Go.Proofs.YtffabehipcomfaaDoor
